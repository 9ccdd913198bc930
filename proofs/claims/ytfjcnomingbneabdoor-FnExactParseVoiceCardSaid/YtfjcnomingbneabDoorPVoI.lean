/- Contracts: ParseVoice of the program. -/
import Derived.Test.YtfjcnomingbneabDoorPVoR
import Derived.Test.YtfjcnomingbneabDoorPScM
import Derived.Test.YtfjcnomingbneabDoorEApp
namespace Go.Proofs.YtfjcnomingbneabDoor
open Go.RowKit Go.Sort
set_option linter.unusedVariables false
set_option linter.unusedSimpArgs false

theorem RSs.made (w : World) (ws : List (List UInt8)) : RSs (w.alloc (.cells (ws.map fun x => Value.string (bs x)).toArray 9)) (some ⟨w.heap.size, 0, none⟩) ws := by
  intro k x hx
  refine ⟨w.heap.size, 0, rfl, by simp, ?_⟩
  rw [Nat.zero_add]
  refine (World.cell?_alloc_new w _ _ k).trans ?_
  simp [hx]

theorem egEvent (args : Array Value) (w : World) : (callFunc 25 args).run Tryd.prog w = .ok (.enter 25 args) w := enters_of Tryd.func25 (by kernel_rfl) rfl args w
/-- What readEach says of words: all their events, or that one is none. -/
def EvR (us : List (List UInt8)) (base : Nat) (w : World) (e : Ending) : Prop :=
  (∃ l v, l.map some = us.map evL ∧ e = .returned (.tuple #[v, .bool true]) ∧ Own w base 42 v l) ∨
  ((∃ (k : Nat) (u : List UInt8), us[k]? = some u ∧ evL u = none) ∧ e = .returned (.tuple #[.slice none 0 0, .bool false]))
set_option maxRecDepth 100000 in
set_option maxHeartbeats 2000000 in
theorem eachEvent_any (A : Option Addr) (us : List (List UInt8)) (n c : Nat) (w : World) (hn : us.length = n) (hn2 : n ≤ 2000001) (hul : ∀ u ∈ us, u.length ≤ 2000000) (hA : RSs w A us) (hP : PW w) :
    Calls Tryd.prog 23 #[.slice A n c, .func (.func 25) #[] #[]] w fun e w' => EvR us w.heap.size w' e ∧ Below w.heap.size w w' := by
  have hfn := egEvent
  go_enter Tryd.func23, Tryd.ntmps23
  go_wp2
  go_loopw [6, 13] (fun out i wr => ∃ (k : Nat) (v : Value) (l : List Nt), k ≤ n ∧ i = .int .i64 k ∧ out = v ∧ Hid (l.map some = (us.take k).map evL) ∧ l.length = k ∧ Hid (Own wr w.heap.size 42 v l) ∧ Hid (RowKit.Below w.heap.size w wr))
    (fun _ i _ => n - (intOf i).toNat)
  case atStart => exact ⟨0, _, [], Nat.zero_le _, rfl, rfl, Lib.hid rfl, rfl, Lib.hid (Own.nil _ _ _), Lib.hid (RowKit.Below.refl _ _)⟩
  case round =>
    obtain ⟨k, v, l, hk, rfl, hvv, HNS, hnl, HO, HB⟩ := hrel
    replace hvv := hvv.symm
    subst hvv
    by_cases hlt : k < n
    · obtain ⟨u, hu⟩ : ∃ u, us[k]? = some u := ⟨us[k]'(by omega), List.getElem?_eq_getElem _⟩
      have hul' := hul u (List.mem_of_getElem? hu)
      obtain ⟨ga, oa, rfl, hgl, hcu⟩ := (hA.below HB.out) k u hu
      have j1 : (0 : Int) ≤ (k : Int) := by omega
      have j2 : (k : Int) < (n : Int) := by omega
      have HU := Lib.hid hu
      have HC := Lib.hid (readEvent_any u wr hul' (hP.below HB.out))
      clear hu
      cases hok : evL u with
      | none =>
        rw [hok] at HC
        have HX := Lib.hid hok
        unfold noteV at HC
        simp only [Option.getD_none, Option.isSome_none] at HC
        clear hok
        go_wp2_with (go_at_call 25; refine HC.out.mono ?_; rintro e w2 ⟨rfl, hb2⟩; have HB2 := Lib.hid (HB.out.trans (hb2.mono HB.out.size)); clear hb2)
        go_ret2
        exact ⟨.inr ⟨⟨k, u, HU.out, HX.out⟩, rfl⟩, HB2.out.alloc HB2.out.size _⟩
      | some x =>
        rw [hok] at HC
        have HN2 := Lib.hid (show (l ++ [x]).map some = (us.take (k + 1)).map evL by rw [List.take_add_one, HU.out, List.map_append, List.map_append, HNS.out]; simp [hok])
        unfold noteV at HC
        simp only [Option.getD_some, Option.isSome_some] at HC
        have hnlb : l.length + 1 ≤ 4000000 := by omega
        clear hok
        obtain ⟨a1, a2, a3⟩ := x
        simp only at HC
        go_wp2_with (first
          | (go_at_call 25; refine HC.out.mono ?_; rintro e w2 ⟨rfl, hb2⟩; have HO2 := Lib.hid (HO.out.below hb2 (Nat.le_refl _)); have HB2 := Lib.hid (HB.out.trans (hb2.mono HB.out.size)); clear hb2)
          | (at_builtin; refine wpList_appE _ rfl (.tmp 25) (.tmp 27) rfl w.heap.size _ _ rfl (((HO2.out.below ((Below.refl _ _).alloc (Nat.le_refl _) _) (Nat.le_refl _)).below ((Below.refl _ _).alloc (Nat.le_refl _) _) (Nat.le_refl _))) (some ⟨w2.heap.size + 1, 0, none⟩) 1 1 [(a1, a2, a3)] rfl rfl (fun h => by cases h) (RA.one (heap_two5 _ _ _)) (by omega) (Nat.le_trans HB2.out.size (by simp; omega)) ?_; intro v4 w4 ho4 hg4; have HO4 := Lib.hid ho4; have HB4 := Lib.hid (((HB2.out.alloc HB2.out.size _).alloc (Nat.le_trans HB2.out.size (by simp)) _).grown hg4 (Nat.le_trans HB2.out.size (by simp; omega)) (fun j hj => (HO2.out.lt j hj).1)); clear ho4 hg4))
        go_roundw
        case rel => exact ⟨k + 1, _, l ++ [(a1, a2, a3)], by omega, by go_num, rfl, HN2, by simp [hnl], HO4, HB4⟩
        case measure => simp [intOf]; omega
    · obtain rfl : k = n := by omega
      have E1 := Lib.hid (show l.map some = us.map evL from by have h := HNS.out; rwa [List.take_of_length_le (by omega)] at h)
      go_wp2
      go_ret2
      exact ⟨.inl ⟨l, _, E1.out, rfl, HO.out⟩, HB.out⟩


set_option maxRecDepth 100000 in
set_option maxHeartbeats 4000000 in
theorem implParseV_any (s : List UInt8) (w : World) (hs : s.length ≤ 1048576) (hP : PW w) :
    Calls Tryd.prog 11 #[.string (bs s)] w fun e w' => VcOf s w.heap.size w' e ∧ RowKit.Below w.heap.size w w' := by
  by_cases h0 : s = []
  · subst h0
    have he : (bs ([] : List UInt8)) = ⟨#[]⟩ := rfl
    rw [he]
    go_enter Tryd.func11, Tryd.ntmps11
    go_wp2
    go_ret2
    exact ⟨.inl ⟨[], _, rfl, rfl, rfl, Own.nil _ _ _⟩, RowKit.Below.refl _ _⟩
  · have hne : ((bs s).toList == ([] : List UInt8)) = false := by rw [bs_toList]; simpa using h0
    have hne2 : (bs s).toList.isEmpty = false := by rw [bs_toList]; simpa using h0
    have HSP := Lib.hid (split_any 32 s w (by omega) hP)
    have HEND := Lib.hid fun (l : List Nt) (h : l.map some = (splitB 32 s).map evL) => vo_end h0 h
    have HSTOP := Lib.hid fun (k : Nat) (u : List UInt8) (hu : (splitB 32 s)[k]? = some u) (h : evL u = none) => vo_stop h0 hu h
    have hmade := RSs.made w (splitB 32 s)
    have hml : ∀ u ∈ splitB 32 s, u.length ≤ 2000000 := fun u hu => by have := splitB_mem_len 32 s u hu; omega
    have hln2 : (splitB 32 s).length ≤ 2000001 := by have := splitB_length 32 s; omega
    have hbm : RowKit.Below w.heap.size w (w.alloc (.cells ((splitB 32 s).map fun x => Value.string (bs x)).toArray 9)) := (RowKit.Below.refl _ _).alloc (Nat.le_refl _) _
    generalize splitB 32 s = ws at *
    obtain ⟨W1, hW1⟩ : ∃ W1, W1 = w.alloc (.cells (ws.map fun x => Value.string (bs x)).toArray 9) := ⟨_, rfl⟩
    rw [← hW1] at hmade hbm
    have HW1 := Lib.hid hW1
    clear hW1
    have HC := Lib.hid (eachEvent_any (some ⟨w.heap.size, 0, none⟩) ws ws.length ws.length W1 rfl hln2 hml hmade (hP.below hbm))
    have HBM := Lib.hid hbm
    have HSI := Lib.hid hs
    clear hmade hbm hml hln2 h0
    go_enter Tryd.func11, Tryd.ntmps11
    go_wp2_with fail
    refine HSP.out.mono ?_
    rintro e w1 ⟨rfl, hw1⟩
    obtain rfl : w1 = W1 := hw1.trans HW1.out.symm
    clear hw1
    go_wp2_with fail
    refine HC.out.mono ?_
    rintro e w2 ⟨hcase, hb2⟩
    have HB2 := Lib.hid (HBM.out.trans (hb2.mono HBM.out.size))
    rcases hcase with ⟨l, v, hl, rfl, ho2⟩ | ⟨⟨k, u, hu, hx⟩, rfl⟩
    · have HE := Lib.hid (HEND.out l hl)
      have hln : l.length ≤ 1048576 := by have := vT_long l; have := HSI.out; rw [HE.out.1] at *; omega
      have HSO := Lib.hid (voiceOnly_any v l w1.heap.size w1.heap.size w1 w2 hln ho2 hb2 (Nat.le_refl _))
      clear hl hln ho2 hb2
      go_wp2_with fail
      refine HSO.out.mono ?_
      rintro e w3 ⟨hcase, hb3⟩
      have HB3 := Lib.hid (HBM.out.trans (hb3.mono HBM.out.size))
      rcases hcase with ⟨hg, rfl, hO1⟩ | ⟨hg, rfl⟩
      · have HG := Lib.hid hg
        have HO1 := Lib.hid hO1
        clear hg hO1
        go_wp2
        go_ret2
        exact ⟨.inl ⟨l, v, HG.out, HE.out.1, rfl, HO1.out.mono HBM.out.size⟩, HB3.out⟩
      · have HG := Lib.hid hg
        clear hg
        go_wp2
        go_ret2
        exact ⟨.inr ⟨(fun m hm ht => by have := HE.out.2 m hm ht; subst this; have := HG.out; rw [hm] at this; cases this), rfl⟩, HB3.out⟩
    · have HNO := Lib.hid (HSTOP.out k u hu hx)
      clear hu hx
      go_wp2
      go_ret2
      exact ⟨.inr ⟨HNO.out, rfl⟩, HB2.out⟩
end Go.Proofs.YtfjcnomingbneabDoor
