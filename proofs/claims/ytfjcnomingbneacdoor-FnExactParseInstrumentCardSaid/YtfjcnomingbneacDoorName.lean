/- Names of pitches. -/
import Derived.Test.YtfjcnomingbneacDoorNum
import Derived.IntWalk
namespace Go.Proofs.YtfjcnomingbneacDoor
open Go.RowKit Go.Sort
set_option linter.unusedVariables false

theorem names_get (r : Nat) (h : r < 12) : (names.map fun l => Value.string ⟨l.toArray⟩).toArray[r]? = some (.string ⟨(nameOf r).toArray⟩) := by
  have : names.length = 12 := rfl
  simp only [List.getElem?_toArray, List.getElem?_map, nameOf, List.getD]
  rw [List.getElem?_eq_getElem (by omega)]
  rfl

theorem nameOf_len (r : Nat) : (nameOf r).length ≤ 2 := by
  rcases Nat.lt_or_ge r 12 with h | h
  · have : ∀ k, k < 12 → (nameOf k).length ≤ 2 := by decide
    exact this r h
  · have : nameOf r = [] := by unfold nameOf; rw [List.getD_eq_getElem?_getD, List.getElem?_eq_none (by exact h)]; rfl
    rw [this]; simp
theorem ntNames_cells (w : World) :
    Calls Tryd.prog 45 #[] w fun e w' => e = .returned (.slice (some ⟨w.heap.size, 0, none⟩) 12 12) ∧ (∀ r, r < 12 → w'.cell? ⟨w.heap.size, r, none⟩ = some (.string ⟨(nameOf r).toArray⟩)) ∧ Below w.heap.size w w' ∧ w.heap.size < w'.heap.size :=
  (ntNames_any w).mono fun e w' ⟨he, hw⟩ => by
    subst hw
    exact ⟨he, fun r hr => by rw [World.cell?_alloc_new]; exact names_get r hr, (Below.refl _ _).alloc (Nat.le_refl _) _, by simp⟩

set_option maxRecDepth 100000 in
set_option maxHeartbeats 400000 in
theorem ntName_qr (p : Int) (q r : Nat) (w : World) (hp : p = 12 * q + r) (hr : r < 12) (hq : q < 10) :
    Calls Tryd.prog 34 #[.int .i64 p] w fun e w' => e = .returned (.string ⟨(nameOf r ++ Lib.decDigits q).toArray⟩) ∧ Below w.heap.size w w' := by
  have HL := Lib.hid (l1Num_small q hq)
  have b0 : (0 : Int) ≤ p := by omega
  have b9 : p ≤ 200 := by omega
  have e1 : p % 12 = (r : Int) := by omega
  have e2 : p / 12 = (q : Int) := by omega
  have m1 : p.tmod 12 = (r : Int) := by rw [Int.tmod_eq_emod_of_nonneg b0]; exact e1
  have m2 : p.tdiv 12 = (q : Int) := by rw [Int.tdiv_eq_ediv_of_nonneg b0]; exact e2
  have m3 : IntKind.i64.wrap (q : Int) = (q : Int) := IntWalk.i64_in _ (by omega)
  have b1 : (0 : Int) ≤ (r : Int) := by omega
  have b2 : (r : Int) < 12 := by omega
  have HP := Lib.hid hp
  clear hp
  have hs : ¬ 9223372036854775807 < (nameOf r).length + (Lib.decDigits q).length := by
    have := nameOf_len r
    rw [decDigits_small hq]
    simp
    omega
  have HAP := Lib.hid (bytes_append (nameOf r) (Lib.decDigits q))
  go_enter Tryd.func34, Tryd.ntmps34
  go_wp2_with fail
  go_region_with (first
    | (go_at_call 45; refine (ntNames_cells _).mono ?_; rintro e w1 ⟨rfl, hn1, hb1, hlt1⟩; have hc1 : w1.cell? ⟨w.heap.size, r, none⟩ = some (.string ⟨(nameOf r).toArray⟩) := hn1 r hr; have hlt1 : w.heap.size < w1.heap.size := hlt1; clear hn1)
    | (go_at_call 35; refine (HL.out _).mono ?_; rintro e w2 ⟨rfl, hb2⟩; have hc2 : w2.cell? ⟨w.heap.size, r, none⟩ = some (.string ⟨(nameOf r).toArray⟩) := ((bcell hb2).1 _ r hlt1).trans hc1))
  all_goals
    go_wp2
    go_ret
    exact ⟨congrArg (fun s => Ending.returned (.string s)) HAP.out, ((Below.refl w.heap.size w).drew.trans hb1).trans (hb2.mono (Nat.le_of_lt hlt1))⟩
end Go.Proofs.YtfjcnomingbneacDoor
