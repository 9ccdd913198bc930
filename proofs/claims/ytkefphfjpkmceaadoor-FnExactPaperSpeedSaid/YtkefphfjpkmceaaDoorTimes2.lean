/- Contracts: TempoAt, TimeOf, TimeBetween, EvenTempo, of the model and of the program. -/
import Derived.Test.YtkefphfjpkmceaaDoorTimes
namespace Go.Proofs.YtkefphfjpkmceaaDoor
open Go.RowKit
set_option linter.unusedVariables false
set_option linter.unusedSimpArgs false

theorem inR_iff {n lo hi : Int} : inR n lo hi = true ↔ lo ≤ n ∧ n ≤ hi := by simp [inR]

set_option maxRecDepth 100000 in
set_option maxHeartbeats 1000000 in
theorem implTempoAt_no (A : Nat) (l : List Nt2) (c : Nat) (s : Int) (w : World) (hn : l.length ≤ 1048576) (hA : RA2 w (some ⟨A, 0, none⟩) l) (hbad : (goodT l && inR s 0 2000) = false) :
    Calls Tryd.prog 15 #[.slice (some ⟨A, 0, none⟩) l.length c, .int .i64 s] w fun e w' => e = .returned (.tuple #[.int .i64 0, .bool false]) ∧ Below w.heap.size w w' := by
  cases hg : goodT l with
  | false =>
    have hG := fun (w : World) (hA : RA2 w (some ⟨A, 0, none⟩) l) => areTempos_any (some ⟨A, 0, none⟩) l c w hn hA
    rw [hg] at hG
    have HG := Lib.hid hG
    clear hG hg hbad
    go_enter Tryd.func15, Tryd.ntmps15
    go_wp2_with (go_at_call 20; refine (HG.out _ hA).mono ?_; rintro e w1 ⟨rfl, hb1⟩)
    exact bodyPost_ret (v := .tuple #[.int .i64 0, .bool false]) (by simp [results, Tryd.results15, go_sem]) rfl ⟨rfl, hb1⟩
  | true =>
    have hi : inR s 0 2000 = false := by rw [hg] at hbad; simpa using hbad
    have hG := fun (w : World) (hA : RA2 w (some ⟨A, 0, none⟩) l) => areTempos_any (some ⟨A, 0, none⟩) l c w hn hA
    rw [hg] at hG
    have HG := Lib.hid hG
    clear hG hg hbad
    go_enter Tryd.func15, Tryd.ntmps15
    go_wp2_with (first
      | (go_at_call 20; refine (HG.out _ hA).mono ?_; rintro e w1 ⟨rfl, hb1⟩)
      | (go_at_call 21; refine (isTimedStep_any _ _).mono ?_; rintro e w2 ⟨rfl, rfl⟩))
    exact bodyPost_ret (v := .tuple #[.int .i64 0, .bool false]) (by simp [results, Tryd.results15, go_sem]) rfl ⟨rfl, hb1⟩

set_option maxRecDepth 100000 in
set_option maxHeartbeats 1000000 in
theorem implTempoAt_yes (A : Nat) (l : List Nt2) (c : Nat) (s : Int) (w : World) (hn : l.length ≤ 1048576) (hA : RA2 w (some ⟨A, 0, none⟩) l) (hg : goodT l = true) (hi : inR s 0 2000 = true) :
    Calls Tryd.prog 15 #[.slice (some ⟨A, 0, none⟩) l.length c, .int .i64 s] w fun e w' => e = .returned (.tuple #[.int .i64 (lst l (atT l s)), .bool true]) ∧ Below w.heap.size w w' := by
  have ht := goodT.tmp hg
  obtain ⟨h0, h1⟩ := inR_iff.1 hi
  have hj := atT_lt ht.pos s
  have hG := fun (w : World) (hA : RA2 w (some ⟨A, 0, none⟩) l) => areTempos_any (some ⟨A, 0, none⟩) l c w hn hA
  rw [hg] at hG
  have HG := Lib.hid hG
  have HC := Lib.hid fun (w : World) (hA : RA2 w (some ⟨A, 0, none⟩) l) => changeFor_any (some ⟨A, 0, none⟩) l c s w hn hA
  generalize atT l s = j at *
  have hx : l[j]? = some l[j] := List.getElem?_eq_getElem hj
  generalize l[j] = x at hx
  obtain ⟨a, n⟩ := x
  have hl := lst_of hx
  rw [hl]
  have HX := Lib.hid hx
  clear hG hg hl hx ht h0 h1
  have hjI : (j : Int) < (l.length : Int) := by omega
  go_enter Tryd.func15, Tryd.ntmps15
  go_wp2_with (first
    | (go_at_call 20; refine (HG.out _ hA).mono ?_; rintro e w1 ⟨rfl, hb1⟩)
    | (go_at_call 21; refine (isTimedStep_any _ _).mono ?_; rintro e w2 ⟨rfl, rfl⟩)
    | (go_at_call 22; refine (HC.out _ (hA.below hb1)).mono ?_; rintro e w2 ⟨rfl, hb2⟩; have hB2 := hb1.trans (hb2.mono hb1.size); obtain ⟨_, c0, c1⟩ := (hA.below hB2).at j _ HX.out; simp only [Nat.zero_add] at c0 c1))
  exact bodyPost_ret (v := .tuple #[.int .i64 n, .bool true]) (by simp [results, Tryd.results15, go_sem]) rfl ⟨rfl, hB2⟩

theorem timeT_le {l : List Nt2} (h : Tmp l) {a b : Int} (h0 : 0 ≤ a) (hab : a ≤ b) : timeT l a ≤ timeT l b := by
  obtain ⟨x, rfl⟩ : ∃ x : Nat, a = x := ⟨a.toNat, by omega⟩
  obtain ⟨y, rfl⟩ : ∃ y : Nat, b = y := ⟨b.toNat, by omega⟩
  rcases Nat.lt_or_ge x y with hl | hl
  · exact Int.le_of_lt (timeT_up h x y hl)
  · obtain rfl : x = y := by omega
    exact Int.le_refl _

def twoB (l : List Nt2) (f t : Int) : Bool := goodT l && (inR f 0 2000 && (inR t 0 2000 && decide (f ≤ t)))

end Go.Proofs.YtkefphfjpkmceaaDoor
