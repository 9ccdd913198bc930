/- The contract of the library's slices.Delete of one hole, in a slice of the call's own. -/
import Derived.Test.YtjjohenpapfabaaHoleApp
import Derived.Test.YtjjohenpapfabaaQuick
namespace Go.Proofs.Ytjjohenpapfabaa
open Go.RowKit
set_option linter.unusedVariables false
set_option linter.unusedSimpArgs false

set_option maxRecDepth 100000 in
set_option maxHeartbeats 1000000 in
theorem delete_any (g k m c : Nat) (l : List Nt) (base B : Nat) (w0 w : World) (hl : l.length = k + 1 + m) (hn : l.length ≤ 1048576) (hown : Own w base 34 (.slice (some ⟨g, 0, none⟩) (k + 1 + m) c) l) (hB : Below B w0 w) (hBg : B ≤ g) :
    Calls Try.prog 71 #[.slice (some ⟨g, 0, none⟩) (k + 1 + m : Nat) c, .int .i64 (k : Int), .int .i64 ((k : Int) + 1)] w fun e w' => ∃ v, e = .returned v ∧ Own w' base 34 v (l.take k ++ l.drop (k + 1)) ∧ Below B w0 w' := by
  obtain ⟨hrx, hnc, hcm, _, hgs⟩ := hown.room
  clear hrx
  unfold maxLen at hcm
  have HR := Lib.hid hown.ra
  have HCUT := Lib.hid (hown.cut k (by omega))
  have HL : Hid (l.length = k + 1 + m) := Lib.hid hl
  have hd : (l.drop (k + 1)).length = m := by simp; omega
  have HD := Lib.hid hd
  have hcm' : (k : Int) + 1 + (m : Int) ≤ (c : Int) := by omega
  have b1 : (k : Int) ≤ (c : Int) := by omega
  have b2 : (k : Int) + 1 ≤ (c : Int) := by omega
  have b4 : (0 : Int) ≤ (k : Int) + 1 := by omega
  have b3 : (k : Int) + 1 ≤ (k : Int) + 1 + (m : Int) := by omega
  have hBB := Lib.hid hB.drew
  clear hd hl hown hn
  by_cases hck : c = k + 1
  · subst hck
    obtain rfl : m = 0 := by omega
    simp only [Nat.add_zero, Int.natCast_zero, Int.add_zero] at *
    clear b1 b2 hcm'
    have e1 : (k : Int) ≤ (k : Int) + 1 := by omega
    go_enter Try.func71, Try.ntmps71
    go_wp2_with fail
    refine wp_region_still_tail 6 (by kernel_rfl) (by kernel_rfl) ?_
    change wpStill _ _ (World.drew _) (fun a' => wpList _ _ _ _ a' (World.drew _)) _ _
    simp only [List.take_succ_cons, List.take_zero, List.drop_succ_cons, List.drop_zero]
    repeat still_step
    try refine wpStill_nil ?_
    go_wp2_with (at_builtin; go_loud (refine wpList_roomHole _ rfl (.tmp 22) (.tmp 25) rfl base g k (k + 1) (l.take k) rfl HCUT.out _ 0 _ (l.drop (k + 1)) rfl HD.out (by intro h; first | (cases h; done) | (split at h <;> cases h) | rfl) (HR.out.dropO (c := (k + 1)) (by rw [HL.out]; omega) (by intro h; first | rfl | (exact absurd rfl h) | simp [h])) (by omega) ?_; intro w1 ho1 hg1; have HO1 := Lib.hid ho1; have HB1 := Lib.hid (hBB.out.grown hg1 (by simp; omega) (fun j hj => by simp at hj; omega)); clear ho1 hg1))
    refine clear_thenHole base g _ (k + 1) _ HO1.out (fun _ => by first | rfl | simp) (by omega) ?_
    intro w2 ho2 hg2
    have HO2 := Lib.hid ho2
    have HB2 := Lib.hid (HB1.out.grown hg2 (by have := HB1.out.size; have := HO1.out.room; omega) (fun j hj => by simp at hj; omega))
    clear ho2 hg2
    go_wp2
    go_ret
    exact ⟨_, rfl, HO2.out, HB2.out⟩
  · go_enter Try.func71, Try.ntmps71
    go_wp2_with fail
    refine wp_region_still_tail 6 (by kernel_rfl) (by kernel_rfl) ?_
    change wpStill _ _ (World.drew _) (fun a' => wpList _ _ _ _ a' (World.drew _)) _ _
    simp only [List.take_succ_cons, List.take_zero, List.drop_succ_cons, List.drop_zero]
    repeat still_step
    try refine wpStill_nil ?_
    go_wp2_with (at_builtin; go_loud (refine wpList_roomHole _ rfl (.tmp 22) (.tmp 25) rfl base g k c (l.take k) rfl HCUT.out _ m _ (l.drop (k + 1)) rfl HD.out (by intro h; first | (cases h; done) | (split at h <;> cases h) | rfl) (HR.out.dropO (c := c) (by rw [HL.out]; omega) (by intro h; first | rfl | (exact absurd rfl h) | simp [h])) (by omega) ?_; intro w1 ho1 hg1; have HO1 := Lib.hid ho1; have HB1 := Lib.hid (hBB.out.grown hg1 (by simp; omega) (fun j hj => by simp at hj; omega)); clear ho1 hg1))
    refine clear_thenHole base g _ c _ HO1.out (fun _ => by first | rfl | simp) (by omega) ?_
    intro w2 ho2 hg2
    have HO2 := Lib.hid ho2
    have HB2 := Lib.hid (HB1.out.grown hg2 (by have := HB1.out.size; have := HO1.out.room; omega) (fun j hj => by simp at hj; omega))
    clear ho2 hg2
    go_wp2
    go_ret
    exact ⟨_, rfl, HO2.out, HB2.out⟩
end Go.Proofs.Ytjjohenpapfabaa
