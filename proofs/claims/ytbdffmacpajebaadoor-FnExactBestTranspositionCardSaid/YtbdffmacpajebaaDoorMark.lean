/- Contracts of the laws' marks on instruments. -/
import Derived.Test.YtbdffmacpajebaaDoorInsL
import Derived.Test.YtbdffmacpajebaaDoorInsF
namespace Go.Proofs.YtbdffmacpajebaaDoor
open Go.RowKit
set_option linter.unusedVariables false

theorem OwnI.form2 {w : World} {base t : Nat} {v : Value} {l : List Int} (h : OwnI w base t v l) : ∃ A c, v = .slice A l.length c ∧ RI w A l := by
  obtain ⟨A, c, h1, h2, _⟩ := h.form
  exact ⟨A, c, h1, h2⟩

set_option maxRecDepth 100000 in
set_option maxHeartbeats 1000000 in
theorem markIns_any (A : Option Addr) (l : List Int) (c : Nat) (r K : Int) (base : Nat) (w : World) (hn : l.length ≤ 1048576) (hK : 0 ≤ K) (hK' : K ≤ 1048576) (hv : OwnI w base 3 (.slice A l.length c) l) :
    Calls Tryd.prog 25 #[.agg #[.slice A l.length c, .int .i64 r], .int .i64 K] w fun e w' => e = .returned (.int .i64 (K + l.length)) ∧ OwnI w' base 3 (.slice A l.length c) (mki l.length K) ∧ w.grownBy w' (Value.slice A l.length c).ownBlock := by
  have hg0 := World.grownBy_alloc w (.cells #[.slice A l.length c, .int .i64 r] 28) (Value.slice A l.length c).ownBlock
  have hv0 : OwnI (w.alloc (.cells #[.slice A l.length c, .int .i64 r] 28)) base 3 (.slice A l.length c) l := hv.below ((Below.refl _ _).alloc (Nat.le_refl _) _) (Nat.le_refl _)
  go_enter Tryd.func25, Tryd.ntmps25
  go_wp2_with fail
  generalize w.alloc (.cells #[.slice A l.length c, .int .i64 r] 28) = W at *
  refine (markIntS_any _ _ _ _ _ hn hK hK' hv0).mono ?_
  rintro e w1 ⟨rfl, hv1, hg1⟩
  go_wp2
  go_ret
  exact ⟨rfl, hv1, hg0.trans hg1⟩

set_option maxRecDepth 100000 in
set_option maxHeartbeats 1000000 in
theorem markNoteS_wide (v : Value) (l : List Nt) (K : Int) (base : Nat) (w : World) (hn : l.length ≤ 1048576) (hK : 0 ≤ K) (hK' : K ≤ 2097152) (hv : Own w base 58 v l) :
    Calls Tryd.prog 26 #[v, .int .i64 K] w fun e w' => e = .returned (.int .i64 (K + 3 * l.length)) ∧ Own w' base 58 v (mk l.length K) ∧ w.grownBy w' v.ownBlock := by
  have hv0 := hv
  rcases hv.2 with ⟨rfl, h0⟩ | ⟨g, cap, cur, rfl, hg, hh, hnc, hm, hs, ht⟩
  · obtain rfl : l = [] := List.eq_nil_of_length_eq_zero h0
    go_enter Tryd.func26, Tryd.ntmps26
    go_wp2
    go_rounds 1
    go_ret
    exact ⟨ret_int (by simp), hv0, World.grownBy.refl w _⟩
  · have hlt : g < w.heap.size := (hv0.lt _ rfl).2
    clear hh hs ht cur
    go_enter Tryd.func26, Tryd.ntmps26
    go_wp2
    go_loopw [1, 5] (fun q i wr => ∃ k : Nat, k ≤ l.length ∧ i = .int .i64 k ∧ q = .int .i64 (K + 3 * k) ∧ Own wr base 58 (.slice (some ⟨g, 0, none⟩) l.length cap) (mk k K ++ l.drop k) ∧ w.grownBy wr (some g))
      (fun _ i _ => l.length - (intOf i).toNat)
    case atStart => exact ⟨0, Nat.zero_le _, rfl, by simp, by simpa [mk] using hv0, World.grownBy.refl w _⟩
    case round =>
      obtain ⟨k, hk, rfl, rfl, hown, hgr⟩ := hrel
      have hL : (mk k K ++ l.drop k).length = l.length := by simp [mk_length]; omega
      by_cases hk2 : k < l.length
      · unfold Own at hown
        rw [hL] at hown
        have f := fun j => hown.frozenAt j
        have c0 : ∃ u, wr.cell? ⟨g, k * 3, none⟩ = some u := by rw [hown.cellAt _ (by omega)]; exact ⟨_, List.getElem?_eq_getElem (by rw [cl_length, hL]; omega)⟩
        have c1 : ∃ u, wr.cell? ⟨g, k * 3 + 1, none⟩ = some u := by rw [hown.cellAt _ (by omega)]; exact ⟨_, List.getElem?_eq_getElem (by rw [cl_length, hL]; omega)⟩
        have c2 : ∃ u, wr.cell? ⟨g, k * 3 + 2, none⟩ = some u := by rw [hown.cellAt _ (by omega)]; exact ⟨_, List.getElem?_eq_getElem (by rw [cl_length, hL]; omega)⟩
        obtain ⟨u0, c0⟩ := c0
        obtain ⟨u1, c1⟩ := c1
        obtain ⟨u2, c2⟩ := c2
        have f0 := f (k * 3)
        have f1 := f (k * 3 + 1)
        have f2 := f (k * 3 + 2)
        have H := Lib.hid hown
        have HL := Lib.hid hL
        clear f hown hL hv hv0
        go_wp2
        go_roundw
        case rel =>
          have s1 := H.out.stored (k * 3) (.int .i64 (K + 3 * k))
          have s2 := s1.1.stored (k * 3 + 1) (.int .i64 (K + 3 * k + 1))
          have s3 := s2.1.stored (k * 3 + 2) (.int .i64 (K + 3 * k + 2))
          have k2 := s3.1
          rw [cl_set _ _ (K + 3 * k, K + 3 * k + 1, K + 3 * k + 2) (by rw [HL.out]; exact hk2), mk_set l K k hk2] at k2
          have hL' : (mk (k + 1) K ++ l.drop (k + 1)).length = l.length := by simp [mk_length]; omega
          have e2 : K + 3 * (k : Int) + 1 + 1 = K + 3 * k + 2 := by omega
          refine ⟨k + 1, by omega, by go_num, by first | go_num | (congr 1; omega), ?_, ?_⟩
          · unfold Own
            rw [hL']
            first | exact k2 | (rw [e2]; exact k2)
          · first | exact ((hgr.trans s1.2).trans s2.2).trans s3.2 | (rw [e2]; exact ((hgr.trans s1.2).trans s2.2).trans s3.2)
        case measure => simp [intOf]; omega
      · obtain rfl : k = l.length := by omega
        go_wp2
        go_ret
        exact ⟨rfl, by simpa using hown, hgr⟩

end Go.Proofs.YtbdffmacpajebaaDoor
