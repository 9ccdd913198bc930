/- The model's and the program's functions on one instrument: validity, track of a pitch, pitch of a track. -/
import Derived.Test.YtbdffmacpajebaaDoorInsG
import Derived.Test.YtbdffmacpajebaaDoorShl
import Derived.Handy
namespace Go.Proofs.YtbdffmacpajebaaDoor
open Go.RowKit Go.Sort
set_option linter.unusedVariables false
set_option linter.unusedSimpArgs false

/-- The cells of numbers as the shelf's contracts ask for them. -/
theorem RI.getD {w : World} {g o : Nat} {l : List Int} (h : RI w (some ⟨g, o, none⟩) l) : ∀ j, j < l.length → w.cell? ⟨g, o + j, none⟩ = some (.int .i64 (l.getD j 0)) := by
  intro j hj
  obtain ⟨g', o', hgo, _, h0⟩ := h j l[j] (List.getElem?_eq_getElem hj)
  simp only [Option.some.injEq, Addr.mk.injEq, and_true] at hgo
  obtain ⟨rfl, rfl⟩ := hgo
  rw [h0, List.getD_eq_getElem?_getD, List.getElem?_eq_getElem hj]
  rfl
theorem idxFrom_trk (p : Int) : ∀ (l : List Int) (k : Nat), Lib.idxFrom l p k = trkF p l k
  | [], _ => rfl
  | x :: l, k => by
    have ih := idxFrom_trk p l (k + 1)
    unfold Lib.idxFrom trkF
    rw [ih]
    simp
theorem hasPitch_some (l : List Int) (p : Int) : l.contains p = hasB l p := by
  rw [Bool.eq_iff_iff, hasB_iff]; simp

set_option maxRecDepth 100000 in
set_option maxHeartbeats 1000000 in
theorem contains_any (A : Option Addr) (l : List Int) (c : Nat) (p : Int) (w : World) (hn : l.length ≤ 1048576) (hA : RI w A l) :
    Calls Tryd.prog 77 #[.slice A l.length c, .int .i64 p] w fun e w' => e = .returned (.bool (hasB l p)) ∧ w' = w := by
  cases l with
  | nil => exact (Tryd.slices_Contains_int_empty A c p w).mono fun e w' ⟨he, hw⟩ => ⟨by rw [he]; rfl, hw⟩
  | cons x l =>
    obtain ⟨g, o, rfl, _, _⟩ := hA 0 x rfl
    refine (Tryd.slices_Contains_int g o (x :: l).length c (x :: l) p w (Nat.le_refl _) (by omega) hA.getD).mono fun e w' ⟨he, hw⟩ => ⟨?_, hw⟩
    rw [he, List.take_length, hasPitch_some]
theorem index_any (A : Option Addr) (l : List Int) (c : Nat) (p : Int) (w : World) (hn : l.length ≤ 1048576) (hA : RI w A l) :
    Calls Tryd.prog 90 #[.slice A l.length c, .int .i64 p] w fun e w' => e = .returned (.int .i64 (trk p l)) ∧ w' = w := by
  cases l with
  | nil => exact (Tryd.slices_Index_int_empty A c p w).mono fun e w' ⟨he, hw⟩ => ⟨by rw [he]; rfl, hw⟩
  | cons x l =>
    obtain ⟨g, o, rfl, _, _⟩ := hA 0 x rfl
    refine (Tryd.slices_Index_int g o (x :: l).length c (x :: l) p w (Nat.le_refl _) (by omega) hA.getD).mono fun e w' ⟨he, hw⟩ => ⟨?_, hw⟩
    rw [he, List.take_length, Lib.idxOf, idxFrom_trk]
    rfl

set_option maxRecDepth 100000 in
set_option maxHeartbeats 1000000 in
theorem hasPitch_any (A : Option Addr) (l : List Int) (c : Nat) (r p : Int) (w : World) (hn : l.length ≤ 1048576) (hA : RI w A l) :
    Calls Tryd.prog 68 #[.agg #[.slice A l.length c, .int .i64 r], .int .i64 p] w fun e w' => e = .returned (.bool (hasB l p)) ∧ Below w.heap.size w w' := by
  have hb0 : Below w.heap.size w (w.alloc (.cells #[.slice A l.length c, .int .i64 r] 28)) := (Below.refl w.heap.size w).alloc (Nat.le_refl _) _
  go_enter Tryd.func68, Tryd.ntmps68
  go_wp2_with fail
  refine (contains_any _ _ _ _ _ hn (hA.below hb0)).mono ?_
  rintro e w1 ⟨rfl, rfl⟩
  go_wp2
  go_ret
  exact ⟨rfl, hb0⟩

/-- What the box of an instrument holds, seen from a later world. -/
def Box (w : World) (b : Nat) (A : Option Addr) (n c : Nat) (r : Int) : Prop := w.cell? ⟨b, 0, none⟩ = some (.slice A n c) ∧ w.cell? ⟨b, 1, none⟩ = some (.int .i64 r) ∧ b < w.heap.size
theorem Box.below {w w' : World} {b : Nat} {A : Option Addr} {n c : Nat} {r : Int} (h : Box w b A n c r) (hb : Below w.heap.size w w') : Box w' b A n c r :=
  ⟨(hb.cell (p := ⟨b, 0, none⟩) h.2.2).trans h.1, (hb.cell (p := ⟨b, 1, none⟩) h.2.2).trans h.2.1, Nat.lt_of_lt_of_le h.2.2 hb.size⟩
theorem Box.new (w : World) (A : Option Addr) (n c : Nat) (r : Int) (t : TypeId) : Box (w.alloc (.cells #[.slice A n c, .int .i64 r] t)) w.heap.size A n c r :=
  ⟨by rw [World.cell?_alloc_new]; rfl, by rw [World.cell?_alloc_new]; rfl, by simp⟩

def trR (l : List Int) (r p : Int) : Array Value := if (gdI l r && hasB l p) = true then #[.int .i64 (trk p l), .bool true] else #[.int .i64 0, .bool false]

def poR (l : List Int) (r t : Int) : Array Value := if (gdI l r && inR t 0 (l.length - 1)) = true then #[.int .i64 (l.getD t.toNat 0), .bool true] else #[.int .i64 0, .bool false]

end Go.Proofs.YtbdffmacpajebaaDoor
