/- Contracts: SimpleTempos of the model and of the program. -/
import Derived.Test.YtghimpfkpdfmnaaCompact
import Derived.Deep.AppendLies
namespace Go.Proofs.Ytghimpfkpdfmnaa
open Go.RowKit
set_option linter.unusedVariables false
set_option linter.unusedSimpArgs false

set_option maxRecDepth 100000 in
set_option maxHeartbeats 1000000 in
theorem implSimpleTempos_no (A : Nat) (l : List Nt2) (c : Nat) (w : World) (hn : l.length ≤ 1048576) (hA : RA2 w (some ⟨A, 0, none⟩) l) (hbad : goodT l = false) :
    Calls Try.prog 33 #[.slice (some ⟨A, 0, none⟩) l.length c] w fun e w' => ∃ v, e = .returned (.tuple #[v, .bool false]) ∧ Own2 w' w.heap.size 38 v [] ∧ Below w.heap.size w w' := by
  have HG := areTempos_quick A l c false hn hbad
  clear hbad
  go_enter Try.func33, Try.ntmps33
  go_wp2_with (go_at_call 15; refine (HG.out _ hA).mono ?_; rintro e w1 ⟨rfl, hb1⟩)
  go_ret2
  exact ⟨_, rfl, Own2.nil _ _ _, hb1⟩

set_option maxRecDepth 100000 in
set_option maxHeartbeats 1000000 in
theorem specSimpleTempos_no (A : Nat) (l : List Nt2) (c : Nat) (w : World) (hn : l.length ≤ 1048576) (hA : RA2 w (some ⟨A, 0, none⟩) l) (hbad : goodT l = false) :
    Calls Try.prog 32 #[.slice (some ⟨A, 0, none⟩) l.length c] w fun e w' => ∃ v, e = .returned (.tuple #[v, .bool false]) ∧ Own2 w' w.heap.size 38 v [] ∧ Below w.heap.size w w' := by
  have HG := teGood_quick A l c false hn hbad
  clear hbad
  go_enter Try.func32, Try.ntmps32
  go_wp2_with (go_at_call 36; refine (HG.out _ hA).mono ?_; rintro e w1 ⟨rfl, hb1⟩)
  go_ret2
  exact ⟨_, rfl, Own2.nil _ _ _, hb1⟩

set_option maxRecDepth 100000 in
set_option maxHeartbeats 1000000 in
theorem implSimpleTempos_yes (A : Nat) (l : List Nt2) (c : Nat) (w : World) (hn : l.length ≤ 1048576) (hc' : c ≤ 9223372036854775807) (hA : RA2 w (some ⟨A, 0, none⟩) l) (hg : goodT l = true) :
    Calls Try.prog 33 #[.slice (some ⟨A, 0, none⟩) l.length c] w fun e w' => ∃ v, e = .returned (.tuple #[v, .bool true]) ∧ Own2 w' w.heap.size 38 v (simT l l.length) ∧ Below w.heap.size w w' := by
  have HG := areTempos_quick A l c true hn hg
  have HP := Lib.hid (goodT.tmp hg).pos
  clear hg
  go_enter Try.func33, Try.ntmps33
  go_wp2_with (go_at_call 15; refine (HG.out _ hA).mono ?_; rintro e w1 ⟨rfl, hb1⟩)
  refine (cloneChange_any A _ l c _ rfl hn hc' (hA.below hb1)).mono ?_
  rintro e w2 ⟨v, rfl, ho2, hb2⟩
  have hB2 := hb1.trans (hb2.mono hb1.size)
  obtain ⟨g, c2, rfl⟩ := ho2.some (by have := HP.out; omega)
  have ho2 := ho2.mono hb1.size
  have hgR := ho2.room.2.2.2.1
  have HO := Lib.hid ho2
  clear ho2
  go_wp2_with fail
  refine (compact_any g l.length c2 l w.heap.size w.heap.size w _ rfl hn HO.out hB2 hgR (Nat.le_refl _)).mono ?_
  rintro e w3 ⟨v3, rfl, ho3, hB3⟩
  go_wp2
  go_ret2
  exact ⟨_, rfl, ho3, hB3⟩

theorem below_two {B : Nat} {w wr : World} (hb : Below B w wr) (hB : B ≤ wr.heap.size) (o1 o2 : Obj) (nq : Nat) : Below B w (((wr.alloc o1).drewN nq).alloc o2) :=
  (below_drewN (hb.alloc hB o1) nq).alloc (by show B ≤ (wr.alloc o1).heap.size; simp; omega) o2
theorem own_two {wr : World} {base t : Nat} {v : Value} {xs : List Nt2} (h : Own2 wr base t v xs) (o1 o2 : Obj) (nq : Nat) : Own2 (((wr.alloc o1).drewN nq).alloc o2) base t v xs :=
  h.below (below_two (Below.refl _ _) (Nat.le_refl _) o1 o2 nq) (Nat.le_refl _)
theorem new_two (wr : World) (o1 : Obj) (nq : Nat) (cs : Array Value) (t : TypeId) : (((wr.alloc o1).drewN nq).alloc (.cells cs t)).heap[wr.heap.size + 1]? = some (.cells cs t (0, 0)) := by
  have h := heap_alloc_new ((wr.alloc o1).drewN nq) (.cells cs t)
  have e : ((wr.alloc o1).drewN nq).heap.size = wr.heap.size + 1 := by show (wr.alloc o1).heap.size = _; simp
  rw [e] at h
  exact h

set_option maxRecDepth 100000 in
set_option maxHeartbeats 2000000 in
theorem specSimpleTempos_yes (A : Nat) (l : List Nt2) (c : Nat) (w : World) (hn : l.length ≤ 1048576) (hA : RA2 w (some ⟨A, 0, none⟩) l) (hg : goodT l = true) :
    Calls Try.prog 32 #[.slice (some ⟨A, 0, none⟩) l.length c] w fun e w' => ∃ v, e = .returned (.tuple #[v, .bool true]) ∧ Own2 w' w.heap.size 38 v (simT l l.length) ∧ Below w.heap.size w w' := by
  have HG := teGood_quick A l c true hn hg
  clear hg
  go_enter Try.func32, Try.ntmps32
  go_wp2_with (go_at_call 36; refine (HG.out _ hA).mono ?_; rintro e w1 ⟨rfl, hb1⟩)
  go_loopw [4, 12] (fun out i wr => ∃ (k : Nat) (v : Value), k ≤ l.length ∧ i = .int .i64 k ∧ out = v ∧ Hid (Own2 wr w.heap.size 38 v (simT l k)) ∧ Below w.heap.size w wr)
    (fun _ i _ => l.length - (intOf i).toNat)
  case atStart => exact ⟨0, _, Nat.zero_le _, rfl, rfl, Lib.hid (Own2.nil _ _ _), hb1⟩
  case round =>
    obtain ⟨k, v, hk, rfl, hvv, HO, hb⟩ := hrel
    replace hvv := hvv.symm
    subst hvv
    by_cases hlt : k < l.length
    · have hx : l[k]? = some l[k] := List.getElem?_eq_getElem hlt
      generalize l[k] = x at hx
      obtain ⟨a, p⟩ := x
      have hAr := hA.below hb
      obtain ⟨hgA, c0, c1⟩ := hAr.at _ _ hx
      simp only [Nat.zero_add] at c0 c1
      have HX := Lib.hid hx
      have hsl := simT_len l k
      have i1 : (0 : Int) ≤ (k : Int) := by omega
      have i2 : (k : Int) < (l.length : Int) := by omega
      clear hx
      rcases Nat.eq_zero_or_pos k with h0 | h0
      · subst h0
        have HN := Lib.hid (simT_new HX.out (.inl rfl))
        go_wp2_with fail
        go_quiet (fail)
        go_wp2_with (at_builtin; go_loud (refine wpList_appChange _ rfl (.tmp 30) (.tmp 32) rfl w.heap.size v _ rfl (own_two HO.out _ _ _) (some ⟨wr.heap.size + 1, 0, none⟩) 1 1 [(a, p)] rfl rfl (fun h => by cases h) (RA2.one (new_two _ _ _ _ _)) (by omega) (below_two hb hb.size _ _ _).size ?_); intro v2 w2 ho2 hg2; have HO2 := Lib.hid ho2; have HB2 := Lib.hid ((below_two hb hb.size _ _ _).grown hg2 (below_two hb hb.size _ _ _).size (fun j hj => (HO.out.lt j hj).1)); clear ho2 hg2)
        go_roundw
        case rel => exact ⟨1, _, by omega, by go_num, rfl, Lib.hid (by rw [HN.out]; exact HO2.out), HB2.out⟩
        case measure => simp [intOf]; omega
      · have hy : l[k - 1]? = some l[k - 1] := List.getElem?_eq_getElem (by omega)
        generalize l[k - 1] = y at hy
        obtain ⟨b, q⟩ := y
        obtain ⟨_, d0, d1⟩ := hAr.at _ _ hy
        simp only [Nat.zero_add] at d0 d1
        have HY := Lib.hid hy
        have i3 : (0 : Int) ≤ (k : Int) - 1 := by omega
        have i4 : (k : Int) - 1 < (l.length : Int) := by omega
        have hk1 : ((k : Int) == 0) = false := by simp; omega
        have hw : IntKind.i64.wrap ((k : Int) - 1) = (k : Int) - 1 := IntWalk.i64_in _ (by omega)
        have hw2 : ((k : Int) - 1).toNat = k - 1 := by omega
        clear hy
        by_cases hpq : p = q
        · have HN := Lib.hid (simT_same (l := l) (k := k) (by omega) (by rw [lst_of HX.out, lst_of HY.out]; exact hpq))
          subst hpq
          go_wp2_with fail
          go_quiet (fail)
          go_wp2
          go_roundw
          case rel => exact ⟨k + 1, _, by omega, by go_num, rfl, Lib.hid (by rw [HN.out]; exact HO.out.below (below_drewN ((Below.refl _ _).alloc (Nat.le_refl _) _) _) (Nat.le_refl _)), below_drewN (hb.alloc hb.size _) _⟩
          case measure => simp [intOf]; omega
        · have HN := Lib.hid (simT_new HX.out (.inr (by rw [lst_of HX.out, lst_of HY.out]; exact hpq)))
          have hne : (p != q) = true := by simp [hpq]
          go_wp2_with fail
          go_quiet (fail)
          go_wp2_with (at_builtin; go_loud (refine wpList_appChange _ rfl (.tmp 30) (.tmp 32) rfl w.heap.size v _ rfl (own_two HO.out _ _ _) (some ⟨wr.heap.size + 1, 0, none⟩) 1 1 [(a, p)] rfl rfl (fun h => by cases h) (RA2.one (new_two _ _ _ _ _)) (by omega) (below_two hb hb.size _ _ _).size ?_); intro v2 w2 ho2 hg2; have HO2 := Lib.hid ho2; have HB2 := Lib.hid ((below_two hb hb.size _ _ _).grown hg2 (below_two hb hb.size _ _ _).size (fun j hj => (HO.out.lt j hj).1)); clear ho2 hg2)
          go_roundw
          case rel => exact ⟨k + 1, _, by omega, by go_num, rfl, Lib.hid (by rw [HN.out]; exact HO2.out), HB2.out⟩
          case measure => simp [intOf]; omega
    · obtain rfl : k = l.length := by omega
      go_wp2
      go_ret2
      exact ⟨_, rfl, HO.out, hb⟩

theorem simpleTempos_both (l : List Nt2) (hbig : l.length ≤ 1048576) : ∃ (G : List Nt2) (ok : Bool), G.length ≤ 1048576 ∧
    (∀ (A : Nat) (c : Nat) (W : World), l.length ≤ c → c ≤ 9223372036854775807 → RA2 W (some ⟨A, 0, none⟩) l → Calls Try.prog 32 #[.slice (some ⟨A, 0, none⟩) l.length c] W fun e W' => ∃ v, e = .returned (.tuple #[v, .bool ok]) ∧ Own2 W' W.heap.size 38 v G ∧ Below W.heap.size W W') ∧
    (∀ (A : Nat) (c : Nat) (W : World), l.length ≤ c → c ≤ 9223372036854775807 → RA2 W (some ⟨A, 0, none⟩) l → Calls Try.prog 33 #[.slice (some ⟨A, 0, none⟩) l.length c] W fun e W' => ∃ v, e = .returned (.tuple #[v, .bool ok]) ∧ Own2 W' W.heap.size 38 v G ∧ Below W.heap.size W W') := by
  cases hc : goodT l with
  | false => exact ⟨[], false, by simp, fun A c W _ _ hA => specSimpleTempos_no A l c W hbig hA hc, fun A c W _ _ hA => implSimpleTempos_no A l c W hbig hA hc⟩
  | true => exact ⟨simT l l.length, true, Nat.le_trans (simT_len _ _) hbig, fun A c W h1 h2 hA => specSimpleTempos_yes A l c W hbig hA hc, fun A c W h1 h2 hA => implSimpleTempos_yes A l c W hbig h2 hA hc⟩

end Go.Proofs.Ytghimpfkpdfmnaa
