/- Contracts of the laws' marks, from further on. -/
import Derived.Test.YtfgfiahampjfiaaDoorMark
namespace Go.Proofs.YtfgfiahampjfiaaDoor
open Go.RowKit
set_option linter.unusedVariables false

set_option maxRecDepth 100000 in
set_option maxHeartbeats 1000000 in
theorem markIntS_wide (v : Value) (l : List Int) (K : Int) (base : Nat) (w : World) (hn : l.length ≤ 1048576) (hK : 0 ≤ K) (hK' : K ≤ 2097152) (hv : OwnI w base 3 v l) :
    Calls Tryd.prog 33 #[v, .int .i64 K] w fun e w' => e = .returned (.int .i64 (K + l.length)) ∧ OwnI w' base 3 v (mki l.length K) ∧ w.grownBy w' v.ownBlock := by
  have hv0 := hv
  rcases hv.2 with ⟨rfl, h0⟩ | ⟨g, cap, cur, rfl, hg, hh, hnc, hm, hs, ht⟩
  · obtain rfl : l = [] := List.eq_nil_of_length_eq_zero h0
    go_enter Tryd.func33, Tryd.ntmps33
    go_wp2
    go_rounds 1
    go_ret
    exact ⟨ret_int (by simp), hv0, World.grownBy.refl w _⟩
  · have hlt : g < w.heap.size := (hv0.lt _ rfl).2
    clear hh hs ht cur
    go_enter Tryd.func33, Tryd.ntmps33
    go_wp2
    go_loopw [1, 5] (fun q i wr => ∃ k : Nat, k ≤ l.length ∧ i = .int .i64 k ∧ q = .int .i64 (K + k) ∧ OwnI wr base 3 (.slice (some ⟨g, 0, none⟩) l.length cap) (mki k K ++ l.drop k) ∧ w.grownBy wr (some g))
      (fun _ i _ => l.length - (intOf i).toNat)
    case atStart => exact ⟨0, Nat.zero_le _, rfl, by simp, by simpa [mki] using hv0, World.grownBy.refl w _⟩
    case round =>
      obtain ⟨k, hk, rfl, rfl, hown, hgr⟩ := hrel
      have hL : (mki k K ++ l.drop k).length = l.length := by simp [mki_length]; omega
      by_cases hk2 : k < l.length
      · unfold OwnI at hown
        rw [hL] at hown
        have f0 := hown.frozenAt k
        have c0 : ∃ u, wr.cell? ⟨g, k, none⟩ = some u := by rw [hown.cellAt _ (by omega)]; exact ⟨_, List.getElem?_eq_getElem (by rw [ci_length, hL]; omega)⟩
        obtain ⟨u0, c0⟩ := c0
        have H := Lib.hid hown
        have HL := Lib.hid hL
        clear hown hL hv hv0
        go_wp2
        go_roundw
        case rel =>
          have s1 := H.out.stored k (.int .i64 (K + k))
          have k2 := s1.1
          have e1 : (ci (mki k K ++ l.drop k)).set k (.int .i64 (K + k)) = ci (mki (k + 1) K ++ l.drop (k + 1)) := by
            rw [← mki_set l K k hk2]; simp [ci, List.map_set]
          rw [e1] at k2
          have hL' : (mki (k + 1) K ++ l.drop (k + 1)).length = l.length := by simp [mki_length]; omega
          refine ⟨k + 1, by omega, by go_num, by first | go_num | (congr 1; omega), ?_, hgr.trans s1.2⟩
          unfold OwnI
          rw [hL']
          exact k2
        case measure => simp [intOf]; omega
      · obtain rfl : k = l.length := by omega
        go_wp2
        go_ret
        exact ⟨rfl, by simpa using hown, hgr⟩


set_option maxRecDepth 100000 in
set_option maxHeartbeats 1000000 in
theorem markIns_wide (A : Option Addr) (l : List Int) (c : Nat) (r K : Int) (base : Nat) (w : World) (hn : l.length ≤ 1048576) (hK : 0 ≤ K) (hK' : K ≤ 2097152) (hv : OwnI w base 3 (.slice A l.length c) l) :
    Calls Tryd.prog 31 #[.agg #[.slice A l.length c, .int .i64 r], .int .i64 K] w fun e w' => e = .returned (.int .i64 (K + l.length)) ∧ OwnI w' base 3 (.slice A l.length c) (mki l.length K) ∧ w.grownBy w' (Value.slice A l.length c).ownBlock := by
  have hg0 := World.grownBy_alloc w (.cells #[.slice A l.length c, .int .i64 r] 27) (Value.slice A l.length c).ownBlock
  have hv0 : OwnI (w.alloc (.cells #[.slice A l.length c, .int .i64 r] 27)) base 3 (.slice A l.length c) l := hv.below ((Below.refl _ _).alloc (Nat.le_refl _) _) (Nat.le_refl _)
  go_enter Tryd.func31, Tryd.ntmps31
  go_wp2_with fail
  generalize w.alloc (.cells #[.slice A l.length c, .int .i64 r] 27) = W at *
  refine (markIntS_wide _ _ _ _ _ hn hK hK' hv0).mono ?_
  rintro e w1 ⟨rfl, hv1, hg1⟩
  go_wp2
  go_ret
  exact ⟨rfl, hv1, hg0.trans hg1⟩

end Go.Proofs.YtfgfiahampjfiaaDoor
