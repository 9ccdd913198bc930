/- Contracts: AddTempo of the model, and what both sides answer. -/
import Derived.Test.YtakmlgkcinjecaaAddT
namespace Go.Proofs.Ytakmlgkcinjecaa
open Go.RowKit
set_option linter.unusedVariables false
set_option linter.unusedSimpArgs false

set_option maxHeartbeats 1000000 in
theorem teIf_any (v : Value) (l : List Nt2) (base B : Nat) (w0 w : World) (hn : l.length ≤ 1048576) (hv : Own2 w base 32 v l) (hB : Below B w0 w) (hB0 : B ≤ w0.heap.size) :
    Calls Try.prog 41 #[v] w fun e w' => ∃ u, e = .returned (.tuple #[u, .bool (goodT l)]) ∧ Own2 w' base 32 u (onlyT l) ∧ Below B w0 w' := by
  have HV := Lib.hid hv
  obtain ⟨A, c, rfl, hA⟩ := hv.form
  clear hv
  cases hgb : goodT l with
  | false =>
    rw [onlyT_false hgb]
    have hG := fun (w : World) (hA : RA2 w A l) => teGood_any A l c w hn hA
    rw [hgb] at hG
    have HG := Lib.hid hG
    clear hG hgb
    go_enter Try.func41, Try.ntmps41
    go_wp2_with fail
    refine (HG.out _ hA).mono ?_
    rintro e w1 ⟨rfl, hb1⟩
    go_wp2
    go_ret2
    exact ⟨_, rfl, Own2.nil _ _ _, hB.trans (hb1.mono (Nat.le_trans hB0 hB.size))⟩
  | true =>
    rw [onlyT_true hgb]
    have hG := fun (w : World) (hA : RA2 w A l) => teGood_any A l c w hn hA
    rw [hgb] at hG
    have HG := Lib.hid hG
    clear hG hgb
    go_enter Try.func41, Try.ntmps41
    go_wp2_with fail
    refine (HG.out _ hA).mono ?_
    rintro e w1 ⟨rfl, hb1⟩
    have HO := Lib.hid (HV.out.below hb1 (Nat.le_refl _))
    go_wp2
    go_ret2
    exact ⟨_, rfl, HO.out, hB.trans (hb1.mono (Nat.le_trans hB0 hB.size))⟩

set_option maxRecDepth 100000 in
set_option maxHeartbeats 1000000 in
theorem specAddTempo_no (A : Option Addr) (l : List Nt2) (c : Nat) (s p : Int) (w : World) (hn : l.length ≤ 1048576) (hA : RA2 w A l) (hbad : (goodT l && chB (s, p)) = false) :
    Calls Try.prog 15 #[.slice A l.length c, .agg #[.int .i64 s, .int .i64 p]] w fun e w' => ∃ v, e = .returned (.tuple #[v, .bool false]) ∧ Own2 w' w.heap.size 32 v [] ∧ Below w.heap.size w w' := by
  obtain ⟨hB0, HBX⟩ := box_facts w s p 32
  cases hg : goodT l with
  | false =>
    have HG := teGood_quick A l c false hn hg
    clear hg hbad
    go_enter Try.func15, Try.ntmps15
    go_wp2_with (go_at_call 23; refine (HG.out _ (hA.below hB0)).mono ?_; rintro e w1 ⟨rfl, hb1⟩)
    go_ret2
    exact ⟨_, rfl, Own2.nil _ _ _, hB0.trans (hb1.mono hB0.size)⟩
  | true =>
    have hx : chB (s, p) = false := by rw [hg] at hbad; simpa using hbad
    have HG := teGood_quick A l c true hn hg
    have hC := fun w => teChange_any s p w
    rw [hx] at hC
    have HC := Lib.hid hC
    clear hg hbad hC hx
    go_enter Try.func15, Try.ntmps15
    go_wp2_with (first
      | (go_at_call 23; refine (HG.out _ (hA.below hB0)).mono ?_; rintro e w1 ⟨rfl, hb1⟩; obtain ⟨x0, x1⟩ := HBX.out w1 (by simpa using hb1))
      | (go_at_call 40; refine (HC.out _).mono ?_; rintro e w2 ⟨rfl, hb2⟩))
    go_ret2
    exact ⟨_, rfl, Own2.nil _ _ _, (hB0.trans (hb1.mono hB0.size)).trans (hb2.mono (Nat.le_trans hB0.size hb1.size))⟩

theorem below_1a {B : Nat} {w wr : World} (hb : Below B w wr) (hB : B ≤ wr.heap.size) (o1 : Obj) : Below B w (wr.alloc o1) := hb.alloc hB o1
theorem below_2a {B : Nat} {w wr : World} (hb : Below B w wr) (hB : B ≤ wr.heap.size) (o1 o2 : Obj) : Below B w ((wr.alloc o1).alloc o2) :=
  (hb.alloc hB o1).alloc (by simp; omega) o2
theorem own_2a {wr : World} {base t : Nat} {v : Value} {xs : List Nt2} (h : Own2 wr base t v xs) (o1 o2 : Obj) : Own2 ((wr.alloc o1).alloc o2) base t v xs :=
  h.below (below_2a (Below.refl _ _) (Nat.le_refl _) o1 o2) (Nat.le_refl _)
theorem new_1a (wr : World) (cs : Array Value) (t : TypeId) : (wr.alloc (.cells cs t)).heap[wr.heap.size]? = some (.cells cs t (0, 0)) := heap_alloc_new wr _
theorem new_2a (wr : World) (o1 : Obj) (cs : Array Value) (t : TypeId) : ((wr.alloc o1).alloc (.cells cs t)).heap[wr.heap.size + 1]? = some (.cells cs t (0, 0)) := by
  have h := heap_alloc_new (wr.alloc o1) (.cells cs t)
  have e : (wr.alloc o1).heap.size = wr.heap.size + 1 := by simp
  rw [e] at h
  exact h
theorem filt_keep {l : List Nt2} {P : Nt2 → Bool} {k : Nat} {x : Nt2} (hx : l[k]? = some x) (h : P x = true) : (l.take (k + 1)).filter P = (l.take k).filter P ++ [x] := by
  rw [List.take_add_one, hx, List.filter_append]; simp [h]
theorem filt_drop {l : List Nt2} {P : Nt2 → Bool} {k : Nat} {x : Nt2} (hx : l[k]? = some x) (h : P x = false) : (l.take (k + 1)).filter P = (l.take k).filter P := by
  rw [List.take_add_one, hx, List.filter_append]; simp [h]
theorem filt_len (l : List Nt2) (P : Nt2 → Bool) (k : Nat) : ((l.take k).filter P).length ≤ l.length :=
  Nat.le_trans (List.length_filter_le _ _) (by rw [List.length_take]; omega)

set_option maxRecDepth 100000 in
set_option maxHeartbeats 4000000 in
theorem specAddTempo_yes (A : Nat) (l : List Nt2) (c : Nat) (s p : Int) (w : World) (hn : l.length ≤ 1000000) (hA : RA2 w (some ⟨A, 0, none⟩) l) (hg : goodT l = true) (hx : chB (s, p) = true) :
    Calls Try.prog 15 #[.slice (some ⟨A, 0, none⟩) l.length c, .agg #[.int .i64 s, .int .i64 p]] w fun e w' => ∃ v, e = .returned (.tuple #[v, .bool (goodT (outT l (s, p)))]) ∧ Own2 w' w.heap.size 32 v (onlyT (outT l (s, p))) ∧ Below w.heap.size w w' := by
  obtain ⟨hB0, HBX⟩ := box_facts w s p 32
  have HG := teGood_quick (some ⟨A, 0, none⟩) l c true (by omega) hg
  have HFEW := Lib.hid (goodT.tmp hg).few
  have hC := fun w => teChange_any s p w
  rw [hx] at hC
  have HC := Lib.hid hC
  clear hg hx hC
  have hz0 : (w.alloc (.cells #[.int .i64 s, .int .i64 p] 32)).heap.size = w.heap.size + 1 := by simp
  have HZ0 := Lib.hid hz0
  clear hz0
  go_enter Try.func15, Try.ntmps15
  go_wp2_with (first
    | (go_at_call 23; refine (HG.out _ (hA.below hB0)).mono ?_; rintro e w1 ⟨rfl, hb1⟩; obtain ⟨x0, x1⟩ := HBX.out w1 (by simpa using hb1); have HB1 := Lib.hid (show Below (w.heap.size + 1) (w.alloc (.cells #[.int .i64 s, .int .i64 p] 32)) w1 from by simpa using hb1))
    | (go_at_call 40; refine (HC.out _).mono ?_; rintro e w2 ⟨rfl, hb2⟩; have HB2 := Lib.hid (HB1.out.trans (hb2.mono (by simpa using HB1.out.size)))))
  clear x0 x1 hb1 hb2
  go_loopw [6, 21] (fun out i wr => ∃ (k : Nat) (v : Value), k ≤ l.length ∧ i = .int .i64 k ∧ out = v ∧ Hid (Own2 wr (w.heap.size + 1) 32 v ((l.take k).filter (befT s))) ∧ Hid (Below (w.heap.size + 1) (w.alloc (.cells #[.int .i64 s, .int .i64 p] 32)) wr))
    (fun _ i _ => l.length - (intOf i).toNat)
  case atStart => exact ⟨0, _, Nat.zero_le _, rfl, rfl, Lib.hid (Own2.nil _ _ _), HB2⟩
  case round =>
    obtain ⟨k, v, hk, rfl, hvv, HO, HB⟩ := hrel
    replace hvv := hvv.symm
    subst hvv
    have hzr : w.heap.size + 1 ≤ wr.heap.size := by have := HB.out.size; rw [HZ0.out] at this; exact this
    by_cases hlt : k < l.length
    · have hxx : l[k]? = some l[k] := List.getElem?_eq_getElem hlt
      generalize l[k] = y at hxx
      obtain ⟨a, q⟩ := y
      obtain ⟨_, c0, c1⟩ := (hA.below (hB0.trans (HB.out.mono (by simp)))).at _ _ hxx
      simp only [Nat.zero_add] at c0 c1
      obtain ⟨x0, x1⟩ := HBX.out (wr.alloc (.cells #[.int .i64 a, .int .i64 q] 32)) (below_1a HB.out hzr _)
      have HX := Lib.hid hxx
      have i1 : (0 : Int) ≤ (k : Int) := by omega
      have i2 : (k : Int) < (l.length : Int) := by omega
      clear hxx
      by_cases hc : a < s
      · have HN := Lib.hid (filt_keep HX.out (P := befT s) (by simp [befT, hc]))
        go_wp2_with (at_builtin; refine wpList_appChange _ rfl (.tmp 30) (.tmp 32) rfl (w.heap.size + 1) v _ rfl (own_2a HO.out _ _) (some ⟨wr.heap.size + 1, 0, none⟩) 1 1 [(a, q)] rfl rfl (fun h => by cases h) (RA2.one (new_2a _ _ _ _)) (by have := filt_len l (befT s) k; omega) (by simp; omega) ?_; intro v2 w2 ho2 hg2; have HO2 := Lib.hid ho2; have HB3 := Lib.hid ((below_2a HB.out hzr _ _).grown hg2 (by simp; omega) (fun j hj => (HO.out.lt j hj).1)); clear ho2 hg2)
        go_roundw
        case rel => exact ⟨k + 1, _, by omega, by go_num, rfl, Lib.hid (by rw [HN.out]; exact HO2.out), HB3⟩
        case measure => simp [intOf]; omega
      · have HN := Lib.hid (filt_drop HX.out (P := befT s) (by simp [befT]; omega))
        go_wp2
        go_roundw
        case rel => exact ⟨k + 1, _, by omega, by go_num, rfl, Lib.hid (by rw [HN.out]; exact HO.out.alloc _), Lib.hid (HB.out.alloc hzr _)⟩
        case measure => simp [intOf]; omega
    · obtain rfl : k = l.length := by omega
      obtain ⟨x0, x1⟩ := HBX.out wr HB.out
      have hll : ((l.take l.length).filter (befT s)).length ≤ l.length := filt_len l (befT s) l.length
      rw [List.take_length] at HO hll
      go_wp2_with (at_builtin; refine wpList_appChange _ rfl (.tmp 35) (.tmp 37) rfl (w.heap.size + 1) v _ rfl (HO.out.alloc _) (some ⟨wr.heap.size, 0, none⟩) 1 1 [(s, p)] rfl rfl (fun h => by cases h) (RA2.one (new_1a _ _ _)) (by omega) (by simp; omega) ?_; intro v2 w2 ho2 hg2; have HO2 := Lib.hid ho2; have HB3 := Lib.hid ((below_1a HB.out hzr _).grown hg2 (by simp; omega) (fun j hj => (HO.out.lt j hj).1)); clear ho2 hg2)
      have hz2 : w.heap.size + 1 ≤ w2.heap.size := by have := HB3.out.size; rw [HZ0.out] at this; exact this
      clear x0 x1
      go_loopw [6, 41] (fun out i wr => ∃ (k : Nat) (v : Value), k ≤ l.length ∧ i = .int .i64 k ∧ out = v ∧ Hid (Own2 wr (w.heap.size + 1) 32 v (l.filter (befT s) ++ [(s, p)] ++ (l.take k).filter (aftT s))) ∧ Hid (Below (w.heap.size + 1) (w.alloc (.cells #[.int .i64 s, .int .i64 p] 32)) wr))
        (fun _ i _ => l.length - (intOf i).toNat)
      case atStart => exact ⟨0, _, Nat.zero_le _, rfl, rfl, Lib.hid (by simpa using HO2.out), HB3⟩
      case round =>
        obtain ⟨k, v, hk, rfl, hvv, HO, HB⟩ := hrel
        replace hvv := hvv.symm
        subst hvv
        have hzr : w.heap.size + 1 ≤ wr.heap.size := by have := HB.out.size; rw [HZ0.out] at this; exact this
        have hl2 := filt_len l (aftT s) k
        by_cases hlt : k < l.length
        · have hxx : l[k]? = some l[k] := List.getElem?_eq_getElem hlt
          generalize l[k] = y at hxx
          obtain ⟨a, q⟩ := y
          obtain ⟨_, c0, c1⟩ := (hA.below (hB0.trans (HB.out.mono (by simp)))).at _ _ hxx
          simp only [Nat.zero_add] at c0 c1
          obtain ⟨x0, x1⟩ := HBX.out (wr.alloc (.cells #[.int .i64 a, .int .i64 q] 32)) (below_1a HB.out hzr _)
          have HX := Lib.hid hxx
          have i1 : (0 : Int) ≤ (k : Int) := by omega
          have i2 : (k : Int) < (l.length : Int) := by omega
          clear hxx
          by_cases hc : s < a
          · have HN := Lib.hid (filt_keep HX.out (P := aftT s) (by simp [aftT, hc]))
            go_wp2_with (at_builtin; refine wpList_appChange _ rfl (.tmp 50) (.tmp 52) rfl (w.heap.size + 1) v _ rfl (own_2a HO.out _ _) (some ⟨wr.heap.size + 1, 0, none⟩) 1 1 [(a, q)] rfl rfl (fun h => by cases h) (RA2.one (new_2a _ _ _ _)) (by simp only [List.length_append, List.length_singleton]; omega) (by simp; omega) ?_; intro v3 w3 ho3 hg3; have HO3 := Lib.hid ho3; have HB4 := Lib.hid ((below_2a HB.out hzr _ _).grown hg3 (by simp; omega) (fun j hj => (HO.out.lt j hj).1)); clear ho3 hg3)
            go_roundw
            case rel => exact ⟨k + 1, _, by omega, by go_num, rfl, Lib.hid (by rw [HN.out, ← List.append_assoc]; exact HO3.out), HB4⟩
            case measure => simp [intOf]; omega
          · have HN := Lib.hid (filt_drop HX.out (P := aftT s) (by simp [aftT]; omega))
            go_wp2
            go_roundw
            case rel => exact ⟨k + 1, _, by omega, by go_num, rfl, Lib.hid (by rw [HN.out]; exact HO.out.alloc _), Lib.hid (HB.out.alloc hzr _)⟩
            case measure => simp [intOf]; omega
        · obtain rfl : k = l.length := by omega
          have HOF : Hid (Own2 wr w.heap.size 32 v (outT l (s, p))) := Lib.hid (by have h := HO.out; rw [List.take_length] at h; exact h.mono (by omega))
          have HLN := Lib.hid (outT_len l (s, p))
          go_wp2_with (go_at_call 41; refine (teIf_any v _ w.heap.size w.heap.size w _ (by have := HLN.out; have := HFEW.out; omega) HOF.out (hB0.trans (HB.out.mono (by simp))) (Nat.le_refl _)).mono ?_; rintro e w6 ⟨v6, rfl, ho6, hB6⟩)
          go_ret2
          exact ⟨_, rfl, ho6, hB6⟩

theorem addTempo_both (l : List Nt2) (s p : Int) (hbig : l.length ≤ 1048576) : ∃ (G : List Nt2) (ok : Bool), G.length ≤ 1048576 ∧
    (∀ (A : Nat) (c : Nat) (W : World), l.length ≤ c → c ≤ 9223372036854775807 → RA2 W (some ⟨A, 0, none⟩) l → Calls Try.prog 15 #[.slice (some ⟨A, 0, none⟩) l.length c, .agg #[.int .i64 s, .int .i64 p]] W fun e W' => ∃ v, e = .returned (.tuple #[v, .bool ok]) ∧ Own2 W' W.heap.size 32 v G ∧ Below W.heap.size W W') ∧
    (∀ (A : Nat) (c : Nat) (W : World), l.length ≤ c → c ≤ 9223372036854775807 → RA2 W (some ⟨A, 0, none⟩) l → Calls Try.prog 14 #[.slice (some ⟨A, 0, none⟩) l.length c, .agg #[.int .i64 s, .int .i64 p]] W fun e W' => ∃ v, e = .returned (.tuple #[v, .bool ok]) ∧ Own2 W' W.heap.size 32 v G ∧ Below W.heap.size W W') := by
  cases hc : (goodT l && chB (s, p)) with
  | false => exact ⟨[], false, by simp, fun A c W _ _ hA => specAddTempo_no (some ⟨A, 0, none⟩) l c s p W hbig hA hc, fun A c W _ _ hA => implAddTempo_no (some ⟨A, 0, none⟩) l c s p W hbig hA hc⟩
  | true =>
    obtain ⟨hg, hx⟩ := Bool.and_eq_true_iff.1 hc
    have hf := (goodT.tmp hg).few
    exact ⟨onlyT (outT l (s, p)), goodT (outT l (s, p)), by have a := onlyT_len (outT l (s, p)); have b := outT_len l (s, p); omega, fun A c W h1 h2 hA => specAddTempo_yes A l c s p W (by omega) hA hg hx, fun A c W h1 h2 hA => implAddTempo_yes A l c s p W hbig h2 hA hg hx⟩

end Go.Proofs.Ytakmlgkcinjecaa
