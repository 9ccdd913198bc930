/- Contracts: ParseScore of the program. -/
import Derived.Test.YtfjcnomingbneabDoorPScR
import Derived.Test.YtfjcnomingbneabDoorIsScore
import Derived.Test.YtfjcnomingbneabDoorAppN
namespace Go.Proofs.YtfjcnomingbneabDoor
open Go.RowKit Go.Sort
set_option linter.unusedVariables false
set_option linter.unusedSimpArgs false

theorem Own.mono {w : World} {base base' t : Nat} {v : Value} {l : List Nt} (h : Own w base t v l) (hb : base' ≤ base) : Own w base' t v l :=
  ⟨h.1, h.2.imp id fun ⟨g, cap, cur, a, b, c⟩ => ⟨g, cap, cur, a, Nat.le_trans hb b, c⟩⟩

def OnlySc (base : Nat) (l : List Nt) (v : Value) (w' : World) (e : Ending) : Prop := (goodB l = true ∧ e = .returned (.tuple #[v, .bool true]) ∧ Own w' base 35 v l) ∨ (goodB l = false ∧ e = .returned (.tuple #[.slice none 0 0, .bool false]))

set_option maxHeartbeats 1000000 in
theorem scoreOnly_any (v : Value) (l : List Nt) (base B : Nat) (w0 w : World) (hn : l.length ≤ 1048576) (hv : Own w base 35 v l) (hB : RowKit.Below B w0 w) (hB0 : B ≤ w0.heap.size) :
    Calls Tryd.prog 18 #[v] w fun e w' => OnlySc base l v w' e ∧ RowKit.Below B w0 w' := by
  have hv0 := hv
  obtain ⟨A, c, rfl, hA⟩ := hv.form
  clear hv
  cases hgb : goodB l with
  | false =>
    have HGB := Lib.hid hgb
    go_enter Tryd.func18, Tryd.ntmps18
    go_wp2_with fail
    refine (isScore_any _ _ _ _ hn hA).mono ?_
    rintro e w1 ⟨rfl, hb1⟩
    go_wp2
    go_ret2
    exact ⟨.inr ⟨HGB.out, rfl⟩, hB.trans (hb1.mono (Nat.le_trans hB0 hB.size))⟩
  | true =>
    have HGB := Lib.hid hgb
    go_enter Tryd.func18, Tryd.ntmps18
    go_wp2_with fail
    refine (isScore_any _ _ _ _ hn hA).mono ?_
    rintro e w1 ⟨rfl, hb1⟩
    have ho := hv0.below hb1 (Nat.le_refl _)
    go_wp2
    go_ret2
    exact ⟨.inl ⟨HGB.out, rfl, ho⟩, hB.trans (hb1.mono (Nat.le_trans hB0 hB.size))⟩

def szStr : Value → Nat
  | .string b => b.size
  | _ => 0
theorem new_2a (wr : World) (o1 : Obj) (cs : Array Value) (t : TypeId) : ((wr.alloc o1).alloc (.cells cs t)).heap[wr.heap.size + 1]? = some (.cells cs t (0, 0)) := by
  have h := heap_alloc_new (wr.alloc o1) (.cells cs t)
  have e : (wr.alloc o1).heap.size = wr.heap.size + 1 := by simp
  rw [e] at h
  exact h
theorem below_2a {B : Nat} {w wr : World} (hb : RowKit.Below B w wr) (hB : B ≤ wr.heap.size) (o1 o2 : Obj) : RowKit.Below B w ((wr.alloc o1).alloc o2) :=
  (hb.alloc hB o1).alloc (by simp; omega) o2
theorem own_2a {wr : World} {base t : Nat} {v : Value} {xs : List Nt} (h : Own wr base t v xs) (o1 o2 : Obj) : Own ((wr.alloc o1).alloc o2) base t v xs :=
  h.below (below_2a (RowKit.Below.refl _ _) (Nat.le_refl _) o1 o2) (Nat.le_refl _)

theorem heap_two5 (W : World) (x y : Obj) : ((W.alloc x).alloc y).heap[W.heap.size + 1]? = some y := by
  have := heap_alloc_new (W.alloc x) y
  simpa using this
def notesV (o : Option (List Nt)) : List Nt := o.getD []
set_option maxRecDepth 100000 in
set_option maxHeartbeats 2000000 in
theorem eachNote_any (A : Option Addr) (us : List (List UInt8)) (n c : Nat) (w : World) (hn : us.length = n) (hn2 : n ≤ 2000001) (hul : ∀ u ∈ us, u.length ≤ 2000000) (hA : RSs w A us) (hP : PW w) :
    Calls Tryd.prog 32 #[.slice A n c, .func (.func 17) #[] #[]] w fun e w' => ∃ v, e = .returned (.tuple #[v, .bool (readAll us).isSome]) ∧ Own w' w.heap.size 35 v (notesV (readAll us)) ∧ Below w.heap.size w w' := by
  have hfn := egNote
  go_enter Tryd.func32, Tryd.ntmps32
  go_wp2
  go_loopw [6, 13] (fun out i wr => ∃ (k : Nat) (v : Value) (l : List Nt), k ≤ n ∧ i = .int .i64 k ∧ out = v ∧ Hid (readAll (us.take k) = some l) ∧ l.length = k ∧ Hid (Own wr w.heap.size 35 v l) ∧ Hid (RowKit.Below w.heap.size w wr))
    (fun _ i _ => n - (intOf i).toNat)
  case atStart => exact ⟨0, _, [], Nat.zero_le _, rfl, rfl, Lib.hid rfl, rfl, Lib.hid (Own.nil _ _ _), Lib.hid (RowKit.Below.refl _ _)⟩
  case round =>
    obtain ⟨k, v, l, hk, rfl, hvv, HNS, hnl, HO, HB⟩ := hrel
    replace hvv := hvv.symm
    subst hvv
    by_cases hlt : k < n
    · obtain ⟨u, hu⟩ : ∃ u, us[k]? = some u := ⟨us[k]'(by omega), List.getElem?_eq_getElem _⟩
      have hul' := hul u (List.mem_of_getElem? hu)
      obtain ⟨ga, oa, rfl, hgl, hcu⟩ := (hA.below HB.out) k u hu
      have j1 : (0 : Int) ≤ (k : Int) := by omega
      have j2 : (k : Int) < (n : Int) := by omega
      have HU := Lib.hid hu
      have HC := Lib.hid (readNote_any u wr hul' (hP.below HB.out))
      clear hu
      cases hok : ntL u with
      | none =>
        rw [hok] at HC
        have HN := Lib.hid (readAll_none HU.out hok)
        unfold noteV at HC
        simp only [Option.getD_none, Option.isSome_none] at HC
        clear hok
        go_wp2_with (go_at_call 17; refine HC.out.mono ?_; rintro e w2 ⟨rfl, hb2⟩; have HB2 := Lib.hid (HB.out.trans (hb2.mono HB.out.size)); clear hb2)
        go_ret2
        rw [HN.out]
        exact ⟨_, rfl, Own.nil _ _ _, HB2.out.alloc HB2.out.size _⟩
      | some x =>
        rw [hok] at HC
        have HN2 := Lib.hid (show readAll (us.take (k + 1)) = some (l ++ [x]) by rw [readAll_snoc HU.out HNS.out, hok]; rfl)
        unfold noteV at HC
        simp only [Option.getD_some, Option.isSome_some] at HC
        have hnlb : l.length + 1 ≤ 4000000 := by omega
        clear hok
        obtain ⟨a1, a2, a3⟩ := x
        simp only at HC
        go_wp2_with (first
          | (go_at_call 17; refine HC.out.mono ?_; rintro e w2 ⟨rfl, hb2⟩; have HO2 := Lib.hid (HO.out.below hb2 (Nat.le_refl _)); have HB2 := Lib.hid (HB.out.trans (hb2.mono HB.out.size)); clear hb2)
          | (at_builtin; refine wpList_appN _ rfl (.tmp 25) (.tmp 27) rfl w.heap.size _ _ rfl (((HO2.out.below ((Below.refl _ _).alloc (Nat.le_refl _) _) (Nat.le_refl _)).below ((Below.refl _ _).alloc (Nat.le_refl _) _) (Nat.le_refl _))) (some ⟨w2.heap.size + 1, 0, none⟩) 1 1 [(a1, a2, a3)] rfl rfl (fun h => by cases h) (RA.one (heap_two5 _ _ _)) (by omega) (Nat.le_trans HB2.out.size (by simp; omega)) ?_; intro v4 w4 ho4 hg4; have HO4 := Lib.hid ho4; have HB4 := Lib.hid (((HB2.out.alloc HB2.out.size _).alloc (Nat.le_trans HB2.out.size (by simp)) _).grown hg4 (Nat.le_trans HB2.out.size (by simp; omega)) (fun j hj => (HO2.out.lt j hj).1)); clear ho4 hg4))
        go_roundw
        case rel => exact ⟨k + 1, _, l ++ [(a1, a2, a3)], by omega, by go_num, rfl, HN2, by simp [hnl], HO4, HB4⟩
        case measure => simp [intOf]; omega
    · obtain rfl : k = n := by omega
      have E1 := Lib.hid (show readAll us = some l from by have h := HNS.out; rwa [List.take_of_length_le (by omega)] at h)
      go_wp2
      go_ret2
      rw [E1.out]
      exact ⟨_, rfl, HO.out, HB.out⟩

set_option maxRecDepth 100000 in
set_option maxHeartbeats 2000000 in
theorem readLines_any (s : List UInt8) (w : World) (hs : s.length ≤ 1048576) (hP : PW w) :
    Calls Tryd.prog 16 #[.string (bs s), .func (.func 17) #[] #[]] w fun e w' => ∃ v, e = .returned (.tuple #[v, .bool (readT s).isSome]) ∧ Own w' w.heap.size 35 v (notesV (readT s)) ∧ Below w.heap.size w w' := by
  have HSP := Lib.hid (split_any 10 s w (by omega) hP)
  have HML := Lib.hid (splitB_mem_len 10 s)
  have HLN := Lib.hid (splitB_length 10 s)
  have HRT := Lib.hid (show readT s = if (splitB 10 s).getLast? = some [] then readAll (splitB 10 s).dropLast else none from rfl)
  have hne := splitB_ne 10 s
  generalize splitB 10 s = ws at *
  obtain ⟨m, hm⟩ : ∃ m, ws.length = m + 1 := ⟨ws.length - 1, by have := List.length_pos_iff.2 hne; omega⟩
  have hml : m + 1 ≤ 1048577 := by have := HLN.out; omega
  obtain ⟨y, hy⟩ : ∃ y, ws[m]? = some y := ⟨ws[m]'(by omega), List.getElem?_eq_getElem _⟩
  have hlast : ws.getLast? = some y := by rw [List.getLast?_eq_getElem?, hm]; exact hy
  have hdl : ws.dropLast = ws.take m := by rw [List.dropLast_eq_take, hm]; rfl
  rw [hlast, hdl] at HRT
  have hdlen : (ws.take m).length = m := by rw [List.length_take]; omega
  have HRS := Lib.hid (words_rs w ws 9)
  have hyl := HML.out y (List.mem_of_getElem? hy)
  obtain ⟨W1, hW1⟩ : ∃ W1, W1 = w.alloc (.cells (ws.map fun x => Value.string (bs x)).toArray 9) := ⟨_, rfl⟩
  have hB1 : Below w.heap.size w W1 := by rw [hW1]; exact (Below.refl _ _).alloc (Nat.le_refl _) _
  rw [← hW1] at HRS
  have HW1 := Lib.hid hW1
  clear hW1
  have hP1 := hP.below hB1
  obtain ⟨gy, oy, hgo, hgy, hcy⟩ := HRS.out m y hy
  simp only [Option.some.injEq, Addr.mk.injEq, and_true] at hgo
  obtain ⟨rfl, rfl⟩ := hgo
  rw [Nat.zero_add] at hcy
  have HC := Lib.hid (eachNote_any (some ⟨w.heap.size, 0, none⟩) (ws.take m) m (m + 1) W1 hdlen (by omega) (fun x hx => Nat.le_trans (HML.out x (List.mem_of_mem_take hx)) (by omega)) (HRS.out.take m) hP1)
  rw [hm] at HSP
  have i1 : (0 : Int) ≤ (m : Int) := by omega
  have i2 : (m : Int) < (m : Int) + 1 := by omega
  have i3 : (m : Int) ≤ (m : Int) + 1 := by omega
  have HMM := Lib.hid hm
  clear hne hm hlast hdl hdlen hy hP
  by_cases h0 : y = []
  · have hbe : ((bs y).toList == ([] : List UInt8)) = true := by rw [h0, show (bs []).toList = [] from ByteArray.toList_mk []]; rfl
    have hbe2 : (bs y).toList.isEmpty = true := by rw [h0, show (bs []).toList = [] from ByteArray.toList_mk []]; rfl
    have HR2 := Lib.hid (HRT.out.trans (if_pos (by rw [h0])))
    clear h0 HRT
    generalize bs y = Y at *
    go_enter Tryd.func16, Tryd.ntmps16
    go_wp2_with fail
    refine HSP.out.mono ?_
    rintro e w1 ⟨rfl, hw1⟩
    obtain rfl : w1 = W1 := hw1.trans HW1.out.symm
    clear hw1
    go_wp2_with (go_at_call 32; refine HC.out.mono ?_; rintro e w2 ⟨v, rfl, ho2, hb2⟩)
    go_ret2
    rw [HR2.out]
    exact ⟨_, rfl, ho2.mono hB1.size, hB1.trans (hb2.mono hB1.size)⟩
  · have hbe : ((bs y).toList == ([] : List UInt8)) = false := by rw [show (bs y).toList = y from ByteArray.toList_mk y]; simpa using h0
    have hbe2 : (bs y).toList.isEmpty = false := by rw [show (bs y).toList = y from ByteArray.toList_mk y]; simpa using h0
    have HR2 := Lib.hid (HRT.out.trans (if_neg (fun h => h0 (Option.some.inj h))))
    clear h0 HRT HC
    generalize bs y = Y at *
    go_enter Tryd.func16, Tryd.ntmps16
    go_wp2_with fail
    refine HSP.out.mono ?_
    rintro e w1 ⟨rfl, hw1⟩
    obtain rfl : w1 = W1 := hw1.trans HW1.out.symm
    clear hw1
    go_wp2
    go_ret2
    rw [HR2.out]
    exact ⟨_, rfl, Own.nil _ _ _, hB1⟩


set_option maxRecDepth 100000 in
set_option maxHeartbeats 2000000 in
theorem implParse_any (s : List UInt8) (w : World) (hs : s.length ≤ 1048576) (hP : PW w) :
    Calls Tryd.prog 6 #[.string (bs s)] w fun e w' => ScOf s w.heap.size w' e ∧ RowKit.Below w.heap.size w w' := by
  have HC := Lib.hid (readLines_any s w hs hP)
  cases hr : readT s with
  | none =>
    rw [hr] at HC
    have HNO := Lib.hid (none_no hr)
    clear hr
    go_enter Tryd.func6, Tryd.ntmps6
    go_wp2_with (go_at_call 16; refine HC.out.mono ?_; rintro e w2 ⟨v, rfl, ho2, hb2⟩)
    go_ret2
    exact ⟨.inr ⟨HNO.out, rfl⟩, hb2⟩
  | some l =>
    rw [hr] at HC
    have HT := Lib.hid (readT_of hr)
    have HBN := Lib.hid (@bad_no s l hr)
    have hll : l.length ≤ 1048576 := by
      have h := congrArg List.length (readT_of hr)
      have key : ∀ m : List Nt, m.length ≤ (textOf m).length := by
        intro m
        induction m with
        | nil => simp
        | cons x m ih => rw [textOf_cons]; simp only [List.length_append, List.length_cons]; omega
      have := key l
      omega
    clear hr
    have HSO := Lib.hid fun (v : Value) (W : World) (hO : Own W w.heap.size 35 v l) (hB : RowKit.Below w.heap.size w W) => scoreOnly_any v l w.heap.size w.heap.size w W hll hO hB (Nat.le_refl _)
    clear hll
    go_enter Tryd.func6, Tryd.ntmps6
    go_wp2_with fail
    refine HC.out.mono ?_
    rintro e w2 ⟨v, rfl, ho2, hb2⟩
    replace ho2 : Own w2 w.heap.size 35 v l := ho2
    go_wp2_with fail
    refine (HSO.out v w2 ho2 hb2).mono ?_
    rintro e w1 ⟨hcase, hb1⟩
    clear ho2
    rcases hcase with ⟨hg, rfl, hO1⟩ | ⟨hg, rfl⟩
    · have HG := Lib.hid hg
      have HO1 := Lib.hid hO1
      clear hg hO1
      go_wp2
      go_ret2
      exact ⟨.inl ⟨l, _, HG.out, HT.out, rfl, HO1.out⟩, hb1⟩
    · have HNO := Lib.hid (HBN.out hg)
      clear hg
      go_wp2
      go_ret2
      exact ⟨.inr ⟨HNO.out, rfl⟩, hb1⟩
end Go.Proofs.YtfjcnomingbneabDoor
