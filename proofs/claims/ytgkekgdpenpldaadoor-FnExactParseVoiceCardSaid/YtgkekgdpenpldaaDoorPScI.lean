/- Contracts: ParseScore of the program. -/
import Derived.Test.YtgkekgdpenpldaaDoorPScR
import Derived.Test.YtgkekgdpenpldaaDoorIsScore
import Derived.Test.YtgkekgdpenpldaaDoorAppN
namespace Go.Proofs.YtgkekgdpenpldaaDoor
open Go.RowKit Go.Sort
set_option linter.unusedVariables false
set_option linter.unusedSimpArgs false

theorem Own.mono {w : World} {base base' t : Nat} {v : Value} {l : List Nt} (h : Own w base t v l) (hb : base' ≤ base) : Own w base' t v l :=
  ⟨h.1, h.2.imp id fun ⟨g, cap, cur, a, b, c⟩ => ⟨g, cap, cur, a, Nat.le_trans hb b, c⟩⟩

def OnlySc (base : Nat) (l : List Nt) (v : Value) (w' : World) (e : Ending) : Prop := (goodB l = true ∧ e = .returned (.tuple #[v, .bool true]) ∧ Own w' base 36 v l) ∨ (goodB l = false ∧ e = .returned (.tuple #[.slice none 0 0, .bool false]))

set_option maxHeartbeats 1000000 in
theorem scoreOnly_any (v : Value) (l : List Nt) (base B : Nat) (w0 w : World) (hn : l.length ≤ 1048576) (hv : Own w base 36 v l) (hB : RowKit.Below B w0 w) (hB0 : B ≤ w0.heap.size) :
    Calls Tryd.prog 18 #[v] w fun e w' => OnlySc base l v w' e ∧ RowKit.Below B w0 w' := by
  have hv0 := hv
  obtain ⟨A, c, rfl, hA⟩ := hv.form
  clear hv
  cases hgb : goodB l with
  | false =>
    have HGB := Lib.hid hgb
    go_enter Tryd.func18, Tryd.ntmps18
    go_wp2_with fail
    refine (isScore_any _ _ _ _ hn hA).mono ?_
    rintro e w1 ⟨rfl, hb1⟩
    go_wp2
    go_ret2
    exact ⟨.inr ⟨HGB.out, rfl⟩, hB.trans (hb1.mono (Nat.le_trans hB0 hB.size))⟩
  | true =>
    have HGB := Lib.hid hgb
    go_enter Tryd.func18, Tryd.ntmps18
    go_wp2_with fail
    refine (isScore_any _ _ _ _ hn hA).mono ?_
    rintro e w1 ⟨rfl, hb1⟩
    have ho := hv0.below hb1 (Nat.le_refl _)
    go_wp2
    go_ret2
    exact ⟨.inl ⟨HGB.out, rfl, ho⟩, hB.trans (hb1.mono (Nat.le_trans hB0 hB.size))⟩

def szStr : Value → Nat
  | .string b => b.size
  | _ => 0
theorem new_2a (wr : World) (o1 : Obj) (cs : Array Value) (t : TypeId) : ((wr.alloc o1).alloc (.cells cs t)).heap[wr.heap.size + 1]? = some (.cells cs t (0, 0)) := by
  have h := heap_alloc_new (wr.alloc o1) (.cells cs t)
  have e : (wr.alloc o1).heap.size = wr.heap.size + 1 := by simp
  rw [e] at h
  exact h
theorem below_2a {B : Nat} {w wr : World} (hb : RowKit.Below B w wr) (hB : B ≤ wr.heap.size) (o1 o2 : Obj) : RowKit.Below B w ((wr.alloc o1).alloc o2) :=
  (hb.alloc hB o1).alloc (by simp; omega) o2
theorem own_2a {wr : World} {base t : Nat} {v : Value} {xs : List Nt} (h : Own wr base t v xs) (o1 o2 : Obj) : Own ((wr.alloc o1).alloc o2) base t v xs :=
  h.below (below_2a (RowKit.Below.refl _ _) (Nat.le_refl _) o1 o2) (Nat.le_refl _)

set_option maxRecDepth 100000 in
set_option maxHeartbeats 4000000 in
theorem implParse_any (s : List UInt8) (w : World) (hs : s.length ≤ 2000000) (hP : PW w) :
    Calls Tryd.prog 6 #[.string (bs s)] w fun e w' => ScOf s w.heap.size w' e ∧ RowKit.Below w.heap.size w w' := by
  go_enter Tryd.func6, Tryd.ntmps6
  go_wp2
  go_loopw [0, 4] (fun sv lv wr => ∃ (l : List Nt) (r : List UInt8) (v : Value), sv = .string (bs r) ∧ lv = v ∧ Hid (Own wr w.heap.size 36 v l) ∧ Hid ((∀ x ∈ l, okX x) ∧ s = textOf l ++ r) ∧ l.length ≤ 30 ∧ RowKit.Below w.heap.size w wr)
    (fun sv _ _ => szStr sv)
  case atStart => exact ⟨[], s, _, rfl, rfl, Lib.hid (Own.nil _ _ _), Lib.hid ⟨by simp, by simp [textOf]⟩, by simp, RowKit.Below.refl _ _⟩
  case round =>
    obtain ⟨l, r, v, rfl, hvv, HO, HL, h30, hb⟩ := hrel
    replace hvv := hvv.symm
    subst hvv
    have hPr := hP.below hb
    have hrl : r.length ≤ 2000000 := by have := congrArg List.length HL.out.2; rw [List.length_append] at this; omega
    have hlI : (l.length : Int) ≤ 30 := by omega
    by_cases hr : r = []
    · subst hr
      have HSO := Lib.hid fun (W : World) (hO : Own W w.heap.size 36 v l) (hB : RowKit.Below w.heap.size w W) => scoreOnly_any v l w.heap.size w.heap.size w W (by omega) hO hB (Nat.le_refl _)
      have he : (bs ([] : List UInt8)) = ⟨#[]⟩ := rfl
      rw [he]
      go_wp2_with fail
      refine (HSO.out _ HO.out hb).mono ?_
      rintro e w1 ⟨hcase, hb1⟩
      rcases hcase with ⟨hg, rfl, hO1⟩ | ⟨hg, rfl⟩
      · have HG := Lib.hid hg
        have HO1 := Lib.hid hO1
        clear hg hO1
        go_wp2
        go_ret2
        exact ⟨.inl ⟨l, v, HG.out, by rw [HL.out.2, List.append_nil], rfl, HO1.out⟩, hb1⟩
      · have HG := Lib.hid hg
        clear hg
        go_wp2
        go_ret2
        exact ⟨.inr ⟨fun m hm => by rw [HL.out.2, List.append_nil]; exact end_no HL.out.1 HG.out m hm, rfl⟩, hb1⟩
    · have hC := cut_any 10 r wr hrl hPr
      have HNO := Lib.hid fun (h : (cutB 10 r).2.2 = false ∨ ntL (cutB 10 r).1 = none ∨ l.length = 30) => stop_no HL.out.1 HL.out.2 hr h
      have hc := cutB_spec 10 r
      have hu : (cutB 10 r).1.length ≤ 2000000 := by
        cases h : (cutB 10 r).2.2 with
        | true => have := congrArg List.length (hc.2.1 h); rw [List.length_append] at this; omega
        | false => rw [(hc.2.2 h).1]; omega
      have hRN := fun (W : World) (hP : PW W) => readNote_any (cutB 10 r).1 W hu hP
      have HSP := Lib.hid hc.2.1
      have hne : ((bs r).toList == ([] : List UInt8)) = false := by rw [bs_toList]; simpa using hr
      have hne2 : (bs r).toList.isEmpty = false := by rw [bs_toList]; simpa using hr
      have HSZ := Lib.hid (bs_size r)
      clear hc hu
      generalize (cutB 10 r).1 = u at *
      generalize (cutB 10 r).2.1 = t at *
      generalize (cutB 10 r).2.2 = en at *
      have HXL := Lib.hid fun x (h : ntL u = some x) => ntL_of h
      cases hx : ntL u with
      | none =>
        rw [hx] at hRN
        have HRN := Lib.hid hRN
        have HC := Lib.hid hC
        have HX := Lib.hid hx
        clear hRN hC hx
        cases en
        all_goals
          go_wp2_with (first
            | (go_at_call 16; refine HC.out.mono ?_; rintro e w1 ⟨rfl, hb1⟩)
            | (go_at_call 17; refine (HRN.out _ (hPr.below hb1)).mono ?_; rintro e w2 ⟨rfl, hb2⟩; simp only [noteV, Option.getD_none, Option.isSome_none]))
          go_ret2
          exact ⟨.inr ⟨HNO.out (.inr (.inl HX.out)), rfl⟩, ((hb.trans (hb1.mono hb.size)).trans (hb2.mono (Nat.le_trans hb.size hb1.size))).alloc (Nat.le_trans hb.size (Nat.le_trans hb1.size hb2.size)) _⟩
      | some x =>
        rw [hx] at hRN
        have HX := Lib.hid (HXL.out x hx)
        obtain ⟨p, a, n⟩ := x
        have HRN := Lib.hid hRN
        have HC := Lib.hid hC
        clear hRN hC hx
        cases en with
        | false =>
          go_wp2_with (first
            | (go_at_call 16; refine HC.out.mono ?_; rintro e w1 ⟨rfl, hb1⟩)
            | (go_at_call 17; refine (HRN.out _ (hPr.below hb1)).mono ?_; rintro e w2 ⟨rfl, hb2⟩; simp only [noteV, Option.getD_some, Option.isSome_some]))
          go_ret2
          exact ⟨.inr ⟨HNO.out (.inl trivial), rfl⟩, ((hb.trans (hb1.mono hb.size)).trans (hb2.mono (Nat.le_trans hb.size hb1.size))).alloc (Nat.le_trans hb.size (Nat.le_trans hb1.size hb2.size)) _⟩
        | true =>
          by_cases h30e : l.length = 30
          · have HE := Lib.hid h30e
            obtain ⟨A, c, hvf, hAv⟩ := HO.out.form
            subst hvf
            have hlen30 : ((l.length : Int) == 30) = true := by simp [h30e]
            clear h30e
            go_wp2_with (first
              | (go_at_call 16; refine HC.out.mono ?_; rintro e w1 ⟨rfl, hb1⟩)
              | (go_at_call 17; refine (HRN.out _ (hPr.below hb1)).mono ?_; rintro e w2 ⟨rfl, hb2⟩; simp only [noteV, Option.getD_some, Option.isSome_some]))
            go_ret2
            exact ⟨.inr ⟨HNO.out (.inr (.inr HE.out)), rfl⟩, ((hb.trans (hb1.mono hb.size)).trans (hb2.mono (Nat.le_trans hb.size hb1.size))).alloc (Nat.le_trans hb.size (Nat.le_trans hb1.size hb2.size)) _⟩
          · have h29 : l.length ≤ 29 := by omega
            have HR2 : Hid (r = u ++ 10 :: t) := Lib.hid (HSP.out rfl)
            obtain ⟨A, c, hvf, hAv⟩ := HO.out.form
            subst hvf
            have hlen30 : ((l.length : Int) == 30) = false := by simp; omega
            clear h30e hAv
            go_wp2_with (first
              | (go_at_call 16; refine HC.out.mono ?_; rintro e w1 ⟨rfl, hb1⟩)
              | (go_at_call 17; refine (HRN.out _ (hPr.below hb1)).mono ?_; rintro e w2 ⟨rfl, hb2⟩; simp only [noteV, Option.getD_some, Option.isSome_some]; have HB2 := Lib.hid ((hb.trans (hb1.mono hb.size)).trans (hb2.mono (Nat.le_trans hb.size hb1.size))); have HO2 := Lib.hid ((HO.out.below hb1 (Nat.le_refl _)).below hb2 (Nat.le_refl _)); clear hb1 hb2)
              | (at_builtin; refine wpList_appN _ rfl (.tmp 34) (.tmp 36) rfl w.heap.size _ _ rfl (own_2a HO2.out _ _) (some ⟨w2.heap.size + 1, 0, none⟩) 1 1 [(p, a, n)] rfl rfl (fun h => by cases h) (RA.one (new_2a _ _ _ _)) (by omega) (below_2a HB2.out HB2.out.size _ _).size ?_; intro v3 w3 ho3 hg3; have HO3 := Lib.hid ho3; have HB3 := Lib.hid ((below_2a HB2.out HB2.out.size _ _).grown hg3 (below_2a HB2.out HB2.out.size _ _).size (fun j hj => (HO2.out.lt j hj).1)); clear ho3 hg3))
            go_roundw
            case rel =>
              refine ⟨l ++ [(p, a, n)], t, _, rfl, rfl, HO3, Lib.hid ⟨?_, ?_⟩, by simp; omega, HB3.out⟩
              · intro x hx
                rcases List.mem_append.1 hx with hx | hx
                · exact HL.out.1 x hx
                · obtain rfl := List.mem_singleton.1 hx
                  exact HX.out.1
              · rw [HL.out.2, HR2.out, textOf_app, textOf_cons, HX.out.2]
                simp [textOf]
            case measure =>
              have h1 := congrArg List.length HR2.out
              rw [List.length_append, List.length_cons] at h1
              show szStr (.string (bs t)) < szStr (.string (bs r))
              simp only [szStr, bs_size]
              omega

end Go.Proofs.YtgkekgdpenpldaaDoor
