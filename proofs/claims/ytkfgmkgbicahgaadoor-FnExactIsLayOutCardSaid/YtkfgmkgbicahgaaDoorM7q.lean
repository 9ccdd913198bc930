/- Texts of the proof, run together: InsL, IsScore, LayF, RetS. -/
import Derived.Test.YtkfgmkgbicahgaaDoorM2q
import Derived.Test.YtkfgmkgbicahgaaDoorM6q
import Derived.Lib.BufferWrite
import Derived.Lib.QuietBelow
import Derived.Deep.OwnRows
import Derived.Deep.RegionHeld3
import Derived.Test.YtkfgmkgbicahgaaDoorM4q
import Derived.Deep.RegionLaw
import Derived.Test.YtkfgmkgbicahgaaDoorM1q
namespace Go.Proofs.YtkfgmkgbicahgaaDoor
open Go.RowKit
set_option linter.unusedVariables false
set_option linter.unusedSimpArgs false

theorem Tryd.info_intL : (Tryd.prog.info? 3).map (fun i => (i.zero, i.size, i.bytes)) = some (some (.int .i64 0), 1, 8) := by kernel_rfl

theorem make_ints (n : Nat) (hn : n ≤ 1048576) (W : World) :
    (Instr.makeSlice 22 (.int .i64 (n : Int)) (.int .i64 (n : Int))).run Tryd.prog W = .ok (.slice (some ⟨W.heap.size, 0, none⟩) n n) (W.alloc (.cells (madeCells #[.int .i64 0] (n * 1)) 3)) := by
  obtain ⟨i, hi, hz, hs, hb⟩ := info_parts Tryd.info_intL
  have h := run_make (P := Tryd.prog) W 22 3 i _ Tryd.underlying22 hi hz .i64 .i64 (n : Int) (n : Int) (by omega) (by omega) (by rw [hb]; omega) (by omega)
  rw [hs] at h
  simp only [Int.toNat_natCast] at h
  exact h
theorem made_ci (n : Nat) : (madeCells #[.int .i64 0] (n * 1)).toList = ci (List.replicate n 0) := by
  apply List.ext_getElem?
  intro i
  by_cases hi : i < n
  · simp [madeCells, ci, hi, Nat.mod_one]
  · rw [List.getElem?_eq_none (by simp [size_madeCells]; omega), List.getElem?_eq_none (by rw [ci_length]; simp; omega)]

set_option maxHeartbeats 400000 in
theorem szIntS_any (A : Option Addr) (n c : Nat) (left : Int) (w : World) (hn : n ≤ 9223372036854775807) (h0 : 0 ≤ left) (h1 : left ≤ 1048576) :
    Calls Tryd.prog 42 #[.slice A n c, .int .i64 left] w fun e w' => e = .returned (.int .i64 (if left - n < 0 then -1 else left - n)) ∧ w = w' := by
  by_cases h : left - n < 0
  all_goals
    go_enter Tryd.func42, Tryd.ntmps42
    go_wp2
    go_ret
    exact ⟨ret_int (by simp), rfl⟩

theorem takeI_set (l m : List Int) (k : Nat) (x : Int) (h : l[k]? = some x) (hm : k < m.length) : (l.take k ++ m.drop k).set k x = l.take (k + 1) ++ m.drop (k + 1) := by
  have hk : k < l.length := (List.getElem?_eq_some_iff.1 h).1
  rw [List.set_append_right _ _ (by simp; omega), List.length_take, Nat.min_eq_left (by omega), Nat.sub_self, List.drop_eq_getElem_cons hm, List.set_cons_zero, List.take_add_one, h]
  simp

set_option maxRecDepth 100000 in
set_option maxHeartbeats 1000000 in
theorem toIntS_any (A : Option Addr) (l : List Int) (c : Nat) (w : World) (hn : l.length ≤ 1048576) (hA : RI w A l) :
    Calls Tryd.prog 46 #[.slice A l.length c] w fun e w' => e = .returned (.slice (some ⟨w.heap.size, 0, none⟩) l.length l.length) ∧
      OwnI w' w.heap.size 3 (.slice (some ⟨w.heap.size, 0, none⟩) l.length l.length) l ∧ Below w.heap.size w w' := by
  have hmk := make_ints l.length hn
  go_enter Tryd.func46, Tryd.ntmps46
  go_wp2
  go_loopw [4] (fun i wr => ∃ k : Nat, k ≤ l.length ∧ i = .int .i64 k ∧ OwnI wr w.heap.size 3 (.slice (some ⟨w.heap.size, 0, none⟩) l.length l.length) (l.take k ++ (List.replicate l.length 0).drop k) ∧ Below w.heap.size w wr)
    (fun i _ => l.length - (intOf i).toNat)
  case atStart =>
    refine ⟨0, Nat.zero_le _, rfl, ?_, (Below.refl _ _).alloc (Nat.le_refl _) _⟩
    have h := World.ownsRow_lit (base := w.heap.size) (e := 3) (size := 1) w (madeCells #[.int .i64 0] (l.length * 1)) l.length (Nat.le_refl _) (by unfold maxLen; omega) (size_madeCells _ _)
    rw [made_ci] at h
    simpa [OwnI] using h
  case round =>
    obtain ⟨k, hk, rfl, hown, hb⟩ := hrel
    by_cases hlt : k < l.length
    · have hx : l[k]? = some l[k] := List.getElem?_eq_getElem hlt
      generalize l[k] = x at hx
      obtain ⟨g, o, rfl, hg, h0⟩ := (hA.below hb) k _ hx
      have hz1 : w.heap.size < wr.heap.size := (hown.lt _ rfl).2
      have hL : (l.take k ++ (List.replicate l.length (0 : Int)).drop k).length = l.length := by simp; omega
      unfold OwnI at hown
      rw [hL] at hown
      have f0 := hown.frozenAt k
      have c0 : ∃ u, wr.cell? ⟨w.heap.size, k, none⟩ = some u := by rw [hown.cellAt _ (by omega)]; exact ⟨_, List.getElem?_eq_getElem (by rw [ci_length, hL]; omega)⟩
      obtain ⟨u0, c0⟩ := c0
      have i1 : (0 : Int) ≤ (k : Int) := by omega
      have i2 : (k : Int) < (l.length : Int) := by omega
      have H := Lib.hid hown
      have HX := Lib.hid hx
      clear hown hL hx hA
      go_wp2
      go_roundw
      case rel =>
        have s1 := H.out.stored k (.int .i64 x)
        have k2 := s1.1
        have e1 : (ci (l.take k ++ (List.replicate l.length (0 : Int)).drop k)).set k (.int .i64 x) = ci (l.take (k + 1) ++ (List.replicate l.length (0 : Int)).drop (k + 1)) := by
          rw [← takeI_set l _ k x HX.out (by simpa using hlt)]; simp [ci, List.map_set]
        rw [e1] at k2
        have hL' : (l.take (k + 1) ++ (List.replicate l.length (0 : Int)).drop (k + 1)).length = l.length := by simp; omega
        refine ⟨k + 1, by omega, by go_num, ?_, hb.setCell (by simp) _⟩
        unfold OwnI
        rw [hL']
        exact k2
      case measure => simp [intOf]; omega
    · obtain rfl : k = l.length := by omega
      go_wp2
      go_ret
      exact ⟨rfl, by simpa using hown, hb⟩

set_option maxHeartbeats 400000 in
theorem szIns_any (A : Option Addr) (n c : Nat) (r left : Int) (w : World) (hn : n ≤ 9223372036854775807) (h0 : 0 ≤ left) (h1 : left ≤ 1048576) :
    Calls Tryd.prog 9 #[.agg #[.slice A n c, .int .i64 r], .int .i64 left] w fun e w' => e = .returned (.int .i64 (if left - n < 0 then -1 else left - n)) ∧ Below w.heap.size w w' := by
  by_cases h : left - n < 0
  all_goals
    go_enter Tryd.func9, Tryd.ntmps9
    go_wp2_with (go_at_call 42; refine (szIntS_any _ _ _ _ _ hn h0 h1).mono ?_; rintro e w1 ⟨rfl, rfl⟩)
    go_ret
    exact ⟨ret_int (by simp [*]), (Below.refl _ _).alloc (Nat.le_refl _) _⟩

set_option maxRecDepth 100000 in
set_option maxHeartbeats 1000000 in
theorem toIns_any (A : Option Addr) (l : List Int) (c : Nat) (r : Int) (w : World) (hn : l.length ≤ 1048576) (hA : RI w A l) :
    Calls Tryd.prog 11 #[.agg #[.slice A l.length c, .int .i64 r]] w fun e w' => ∃ g, w.heap.size ≤ g ∧ e = .returned (.agg #[.slice (some ⟨g, 0, none⟩) l.length l.length, .int .i64 r]) ∧
      OwnI w' w.heap.size 3 (.slice (some ⟨g, 0, none⟩) l.length l.length) l ∧ Below w.heap.size w w' := by
  have hb3 : Below w.heap.size w (((w.alloc (.cells #[.slice A l.length c, .int .i64 r] 24)).alloc (.cells #[.slice none 0 0, .int .i64 0] 32)).alloc (.cells #[.slice none 0 0, .int .i64 0] 32)) := (((Below.refl _ _).alloc (Nat.le_refl _) _).alloc (by simp) _).alloc (by simp; omega) _
  have a1 : (((w.alloc (.cells #[.slice A l.length c, .int .i64 r] 24)).alloc (.cells #[.slice none 0 0, .int .i64 0] 32)).alloc (.cells #[.slice none 0 0, .int .i64 0] 32)).cell? ⟨w.heap.size, 1, none⟩ = some (.int .i64 r) := by go_simp
  have d0 : (((w.alloc (.cells #[.slice A l.length c, .int .i64 r] 24)).alloc (.cells #[.slice none 0 0, .int .i64 0] 32)).alloc (.cells #[.slice none 0 0, .int .i64 0] 32)).cell? ⟨w.heap.size + 1, 0, none⟩ = some (.slice none 0 0) := by go_simp
  have d1 : (((w.alloc (.cells #[.slice A l.length c, .int .i64 r] 24)).alloc (.cells #[.slice none 0 0, .int .i64 0] 32)).alloc (.cells #[.slice none 0 0, .int .i64 0] 32)).cell? ⟨w.heap.size + 1, 1, none⟩ = some (.int .i64 0) := by go_simp
  have e0 : (((w.alloc (.cells #[.slice A l.length c, .int .i64 r] 24)).alloc (.cells #[.slice none 0 0, .int .i64 0] 32)).alloc (.cells #[.slice none 0 0, .int .i64 0] 32)).cell? ⟨w.heap.size + 1 + 1, 0, none⟩ = some (.slice none 0 0) := by go_simp
  have e1 : (((w.alloc (.cells #[.slice A l.length c, .int .i64 r] 24)).alloc (.cells #[.slice none 0 0, .int .i64 0] 32)).alloc (.cells #[.slice none 0 0, .int .i64 0] 32)).cell? ⟨w.heap.size + 1 + 1, 1, none⟩ = some (.int .i64 0) := by go_simp
  have fd0 : (((w.alloc (.cells #[.slice A l.length c, .int .i64 r] 24)).alloc (.cells #[.slice none 0 0, .int .i64 0] 32)).alloc (.cells #[.slice none 0 0, .int .i64 0] 32)).frozen? ⟨w.heap.size + 1, 0, none⟩ = false := by go_simp
  have fd1 : (((w.alloc (.cells #[.slice A l.length c, .int .i64 r] 24)).alloc (.cells #[.slice none 0 0, .int .i64 0] 32)).alloc (.cells #[.slice none 0 0, .int .i64 0] 32)).frozen? ⟨w.heap.size + 1, 1, none⟩ = false := by go_simp
  have fe0 : (((w.alloc (.cells #[.slice A l.length c, .int .i64 r] 24)).alloc (.cells #[.slice none 0 0, .int .i64 0] 32)).alloc (.cells #[.slice none 0 0, .int .i64 0] 32)).frozen? ⟨w.heap.size + 1 + 1, 0, none⟩ = false := by go_simp
  have fe1 : (((w.alloc (.cells #[.slice A l.length c, .int .i64 r] 24)).alloc (.cells #[.slice none 0 0, .int .i64 0] 32)).alloc (.cells #[.slice none 0 0, .int .i64 0] 32)).frozen? ⟨w.heap.size + 1 + 1, 1, none⟩ = false := by go_simp
  have hz : (((w.alloc (.cells #[.slice A l.length c, .int .i64 r] 24)).alloc (.cells #[.slice none 0 0, .int .i64 0] 32)).alloc (.cells #[.slice none 0 0, .int .i64 0] 32)).heap.size = w.heap.size + 1 + 1 + 1 := by simp
  go_enter Tryd.func11, Tryd.ntmps11
  go_wp2_with fail
  have hA3 := hA.below hb3
  generalize (((w.alloc (.cells #[.slice A l.length c, .int .i64 r] 24)).alloc (.cells #[.slice none 0 0, .int .i64 0] 32)).alloc (.cells #[.slice none 0 0, .int .i64 0] 32)) = W at *
  refine (toIntS_any _ _ _ _ hn hA3).mono ?_
  rintro e w1 ⟨rfl, ho1, hb1⟩
  rw [hz] at ho1
  have h0 : w.heap.size < W.heap.size := by omega
  have h1 : w.heap.size + 1 < W.heap.size := by omega
  have h2 : w.heap.size + 1 + 1 < W.heap.size := by omega
  have a1 := (hb1.cell (p := ⟨w.heap.size, 1, none⟩) h0).trans a1
  have d0 := (hb1.cell (p := ⟨w.heap.size + 1, 0, none⟩) h1).trans d0
  have d1 := (hb1.cell (p := ⟨w.heap.size + 1, 1, none⟩) h1).trans d1
  have e0 := (hb1.cell (p := ⟨w.heap.size + 1 + 1, 0, none⟩) h2).trans e0
  have e1 := (hb1.cell (p := ⟨w.heap.size + 1 + 1, 1, none⟩) h2).trans e1
  have fd0 := (hb1.frozen (p := ⟨w.heap.size + 1, 0, none⟩) h1).trans fd0
  have fd1 := (hb1.frozen (p := ⟨w.heap.size + 1, 1, none⟩) h1).trans fd1
  have fe0 := (hb1.frozen (p := ⟨w.heap.size + 1 + 1, 0, none⟩) h2).trans fe0
  have fe1 := (hb1.frozen (p := ⟨w.heap.size + 1 + 1, 1, none⟩) h2).trans fe1
  have hB := hb3.trans (hb1.mono hb3.size)
  rw [hz]
  have HO := Lib.hid ho1
  have HB := Lib.hid hB
  have HZ := Lib.hid hz
  clear ho1 hb1 hA3 hA hb3 hz h0 h1 h2 hB
  go_wp2
  have n1 : w.heap.size + 1 + 1 + 1 ≠ w.heap.size + 1 + 1 := by omega
  have n2 : w.heap.size + 1 + 1 + 1 ≠ w.heap.size + 1 := by omega
  have n3 : w.heap.size + 1 + 1 ≠ w.heap.size := by omega
  have n4 : w.heap.size + 1 ≠ w.heap.size := by omega
  refine bodyPost_ret (v := .agg #[.slice (some ⟨w.heap.size + 1 + 1 + 1, 0, none⟩) l.length l.length, .int .i64 r]) (by simp [results, Tryd.results11, go_sem, *]) rfl ⟨w.heap.size + 1 + 1 + 1, by omega, rfl, ?_, ?_⟩
  · refine OwnI.mono ?_ (show w.heap.size ≤ w.heap.size + 1 + 1 + 1 by omega)
    exact (((HO.out.grown (Lib.grownBy_setCell _ _ _ _) (.inr (by simp [Value.ownBlock] <;> omega))).grown (Lib.grownBy_setCell _ _ _ _) (.inr (by simp [Value.ownBlock] <;> omega))).grown (Lib.grownBy_setCell _ _ _ _) (.inr (by simp [Value.ownBlock] <;> omega))).grown (Lib.grownBy_setCell _ _ _ _) (.inr (by simp [Value.ownBlock] <;> omega))
  · have m1 : w.heap.size ≤ w.heap.size + 1 + 1 := by omega
    have m2 : w.heap.size ≤ w.heap.size + 1 := by omega
    exact (((HB.out.setCell m1 _).setCell m1 _).setCell m2 _).setCell m2 _

set_option maxRecDepth 100000 in
set_option maxHeartbeats 1000000 in
theorem eqIns_any (A B : Option Addr) (l m : List Int) (c d : Nat) (r s : Int) (w : World) (hl : l.length ≤ 9223372036854775807) (hm : m.length ≤ 9223372036854775807) (hA : RI w A l) (hB : RI w B m) :
    Calls Tryd.prog 15 #[.agg #[.slice A l.length c, .int .i64 r], .agg #[.slice B m.length d, .int .i64 s]] w fun e w' => e = .returned (.bool (decide (l = m) && decide (r = s))) ∧ Below w.heap.size w w' := by
  have hb2 : Below w.heap.size w ((w.alloc (.cells #[.slice A l.length c, .int .i64 r] 32)).alloc (.cells #[.slice B m.length d, .int .i64 s] 32)) := ((Below.refl _ _).alloc (Nat.le_refl _) _).alloc (by simp) _
  have a1 : ((w.alloc (.cells #[.slice A l.length c, .int .i64 r] 32)).alloc (.cells #[.slice B m.length d, .int .i64 s] 32)).cell? ⟨w.heap.size, 1, none⟩ = some (.int .i64 r) := by
    rw [World.cell?_alloc_old _ _ _ (by simp), World.cell?_alloc_new]; rfl
  have b1 : ((w.alloc (.cells #[.slice A l.length c, .int .i64 r] 32)).alloc (.cells #[.slice B m.length d, .int .i64 s] 32)).cell? ⟨w.heap.size + 1, 1, none⟩ = some (.int .i64 s) := by
    go_simp
  have hA2 := hA.below hb2
  have hB2 := hB.below hb2
  have hz : w.heap.size + 1 < ((w.alloc (.cells #[.slice A l.length c, .int .i64 r] 32)).alloc (.cells #[.slice B m.length d, .int .i64 s] 32)).heap.size := by simp
  go_enter Tryd.func15, Tryd.ntmps15
  go_wp2_with fail
  generalize ((w.alloc (.cells #[.slice A l.length c, .int .i64 r] 32)).alloc (.cells #[.slice B m.length d, .int .i64 s] 32)) = W at *
  refine (eqIntS_any _ _ _ _ _ _ _ hl hm hA2 hB2).mono ?_
  rintro e w1 ⟨rfl, hb1⟩
  have a2 := (hb1.cell (p := ⟨w.heap.size, 1, none⟩) (by show w.heap.size < _; omega)).trans a1
  have b2 := (hb1.cell (p := ⟨w.heap.size + 1, 1, none⟩) hz).trans b1
  have hB := hb2.trans (hb1.mono hb2.size)
  clear a1 b1 hA2 hA hb1 hb2
  cases hd : decide (l = m) with
  | false =>
    go_wp2
    go_ret
    exact ⟨ret_bool (by simp [of_decide_eq_false hd]), hB⟩
  | true =>
    by_cases hrs : r = s
    · subst hrs
      go_wp2
      go_ret
      exact ⟨ret_bool (by simp), hB⟩
    · have hne : (r != s) = true := by simp [hrs]
      go_wp2
      go_ret
      exact ⟨ret_bool (by simp [hrs]), hB⟩
end Go.Proofs.YtkfgmkgbicahgaaDoor

namespace Go.Proofs.YtkfgmkgbicahgaaDoor
open Go.RowKit Go.Sort
set_option linter.unusedVariables false

def zero97 : Array Value := Array.mk (List.replicate 97 (.int .i64 0))
theorem zero97_size : zero97.size = 97 := by kernel_rfl
theorem zero97_ne : zero97 ≠ #[] := fun h => by have := congrArg Array.size h; rw [zero97_size] at this; simp at this
theorem zeroV97 (w : World) : (zeroValue 110).run Tryd.prog w = .ok (.agg zero97) w := by kernel_rfl
theorem zeros97 : zero97.toList = List.replicate 97 (.int .i64 0) := rfl
/-- The array of ends: for each pitch the end of its last note among the first k ones. -/
def Ends (w : World) (g : Nat) (l : List Nt) (k : Nat) : Prop := w.rowIs g 110 97 (fun j => .int .i64 (endsF (j : Int) (l.take k) 0))
theorem Ends.zero (w : World) (l : List Nt) : Ends (w.alloc (.cells zero97 110)) w.heap.size l 0 := by
  have hs : zero97.size = 97 := by rw [← Array.length_toList, zeros97]; rfl
  have h := World.rowIs_alloc w zero97 110 (fun j => .int .i64 (endsF (j : Int) (l.take 0) 0)) (fun i hi => by
    rw [← Array.getElem?_toList, zeros97, List.getElem?_replicate, if_pos (by omega)]; rfl)
  rw [hs] at h
  exact h
theorem Ends.below {w w' : World} {g : Nat} {l : List Nt} {k : Nat} (h : Ends w g l k) (hb : Below w.heap.size w w') : Ends w' g l k := World.rowIs.of_block h (hb.block g h.lt)
theorem Ends.step {w : World} {g : Nat} {l : List Nt} {k : Nat} {p s n : Int} (h : Ends w g l k) (hx : l[k]? = some (p, s, n)) (hp : 0 ≤ p) : Ends (w.setCell ⟨g, p.toNat, none⟩ (.int .i64 (s + n))) g l (k + 1) := by
  refine (World.rowIs.set h p.toNat (.int .i64 (s + n))).congr fun i hi => ?_
  rw [endsF_take _ _ _ _ hx]
  by_cases hip : i = p.toNat
  · subst hip
    rw [if_pos rfl, if_pos (by simp only; omega)]
  · rw [if_neg hip, if_neg (by simp only; omega)]

set_option maxRecDepth 100000 in
set_option maxHeartbeats 2000000 in
theorem isScore_any (A : Option Addr) (l : List Nt) (c : Nat) (w : World) (hn : l.length ≤ 1048576) (hA : RA w A l) :
    Calls Tryd.prog 84 #[.slice A l.length c] w fun e w' => e = .returned (.bool (goodB l)) ∧ Below w.heap.size w w' := by
  by_cases h30 : l.length ≤ 30
  · go_enter Tryd.func84, Tryd.ntmps84
    have hq : ¬ (30 < (l.length : Int)) := by omega
    have hzv := zeroV97
    have hzn := zero97_ne
    go_wp2_with fail
    clear hzv hzn
    have hE0 := Ends.zero w l
    have hb0 : Below w.heap.size w (w.alloc (.cells zero97 110)) := (Below.refl _ _).alloc (Nat.le_refl _) _
    generalize w.alloc (.cells zero97 110) = W0 at *
    go_loopw [11] (fun i wr => ∃ k : Nat, k ≤ l.length ∧ i = .int .i64 k ∧ GoodTo l k ∧ Ends wr w.heap.size l k ∧ Below w.heap.size w wr)
      (fun i _ => l.length - (intOf i).toNat)
    case atStart => exact ⟨0, Nat.zero_le _, rfl, GoodTo.zero l, hE0, hb0⟩
    case round =>
      obtain ⟨k, hk, rfl, hgood, hE, hb⟩ := hrel
      have HG := Lib.hid hgood
      clear hgood
      by_cases hlt : k < l.length
      · have hx : l[k]? = some l[k] := List.getElem?_eq_getElem hlt
        generalize l[k] = x at hx
        obtain ⟨p, s, n⟩ := x
        obtain ⟨g, o, rfl, hg, h0, h1, h2⟩ := (hA.below hb) k _ hx
        simp only at h0 h1 h2
        have HX := Lib.hid hx
        have i1 : (0 : Int) ≤ (k : Int) := by omega
        have i2 : (k : Int) < (l.length : Int) := by omega
        clear hx
        go_wp2_with fail
        have hRA : RA (wr.alloc (.cells #[.int .i64 p, .int .i64 s, .int .i64 n] 34)) (some ⟨g, o, none⟩) l := (hA.below hb).alloc _
        have hxc : ∀ j, (wr.alloc (.cells #[.int .i64 p, .int .i64 s, .int .i64 n] 34)).cell? ⟨wr.heap.size, j, none⟩ = #[Value.int .i64 p, .int .i64 s, .int .i64 n][j]? := fun j => World.cell?_alloc_new wr _ _ j
        have hbW : Below w.heap.size w (wr.alloc (.cells #[.int .i64 p, .int .i64 s, .int .i64 n] 34)) := hb.alloc hb.size _
        have hzW : wr.heap.size < (wr.alloc (.cells #[.int .i64 p, .int .i64 s, .int .i64 n] 34)).heap.size := by simp
        have hEW : Ends (wr.alloc (.cells #[.int .i64 p, .int .i64 s, .int .i64 n] 34)) w.heap.size l k := World.rowIs.alloc hE _
        generalize wr.alloc (.cells #[.int .i64 p, .int .i64 s, .int .i64 n] 34) = W at *
        have hEx : w.heap.size < wr.heap.size := World.rowIs.lt hE
        generalize wr.heap.size = xb at *
        have x0 := cell_regrown ((hxc 0).trans rfl)
        have x1 := cell_regrown ((hxc 1).trans rfl)
        have x2 := cell_regrown ((hxc 2).trans rfl)
        have cN : ∀ d os, Calls Tryd.prog 48 #[.agg #[.int .i64 p, .int .i64 s, .int .i64 n]] (grow (redrawn W d) os) fun e w'' => e = .returned (.bool (noteB p s n)) ∧ ∃ q : Regrown, w'' = grow (redrawn W q.d) q.os :=
          fun d os => Calls.regrown_of (implIsNote_any p s n _)
        clear h0 h1 h2
        cases hv : noteB p s n with
        | false =>
          refine wp_region_quiet_below (by kernel_rfl) (by kernel_rfl) ?_
          repeat (go_big_quiet_step (exact (cN _ _)))
          refine wpQuiet_nil ?_
          intro _ hw'
          obtain ⟨q, hw''⟩ := hw'
          subst hw''
          go_wp2
          go_ret
          refine ⟨ret_bool (goodB_false (Good.not_of HX.out fun h => ?_)).symm, hbW.trans ((below_regrown W q.d q.os).mono hbW.size)⟩
          have := h.1
          simp [noteN, hv] at this
        | true =>
          have hv' := (noteN_iff (p, s, n)).1 hv
          simp only at hv'
          have hp1 : (0 : Int) ≤ p := by omega
          have hp2 : p < 97 := by omega
          have e0 := hEW.cell (i := p.toNat) (by omega)
          have hpp : ((p.toNat : Nat) : Int) = p := by omega
          rw [hpp] at e0
          have e0 := cell_regrown e0
          by_cases hse : s < endsF p (l.take k) 0
          · generalize hEE : endsF p (l.take k) 0 = E at *
            have HEE := Lib.hid hEE
            have HPP := Lib.hid hpp
            clear hEE hpp
            refine wp_region_quiet_below (by kernel_rfl) (by kernel_rfl) ?_
            repeat (go_big_quiet_step (exact (cN _ _)))
            refine wpQuiet_nil ?_
            intro _ hw'
            obtain ⟨q, hw''⟩ := hw'
            subst hw''
            go_wp2
            go_ret
            refine ⟨ret_bool (goodB_false (Good.not_of HX.out fun h => ?_)).symm, hbW.trans ((below_regrown W q.d q.os).mono hbW.size)⟩
            have := (okAt_iff HG.out (by omega) h.1 h.2.1).1 h
            rw [HEE.out] at this
            exact this hse
          · have HSE := Lib.hid hse
            generalize hEE : endsF p (l.take k) 0 = E at *
            have HEE := Lib.hid hEE
            have HPP := Lib.hid hpp
            clear hEE hpp
            refine wp_region_quiet_below (by kernel_rfl) (by kernel_rfl) ?_
            repeat (go_big_quiet_step (exact (cN _ _)))
            refine wpQuiet_nil ?_
            intro _ hw'
            obtain ⟨q, hw''⟩ := hw'
            subst hw''
            go_wp2_with fail
            have hbU := hbW.trans ((below_regrown W q.d q.os).mono hbW.size)
            have hxU := fun j => ((below_regrown W q.d q.os).cell (p := ⟨xb, j, none⟩) hzW).trans (hxc j)
            have hRU := hRA.below (below_regrown W q.d q.os)
            have heU := hEW.below (below_regrown W q.d q.os)
            have hzU : xb < (grow (redrawn W q.d) q.os).heap.size := Nat.lt_of_lt_of_le hzW (below_regrown W q.d q.os).size
            generalize grow (redrawn W q.d) q.os = U at *
            have hxU0 := cell_regrown ((hxU 0).trans rfl)
            have hxU1 := cell_regrown ((hxU 1).trans rfl)
            have hxU2 := cell_regrown ((hxU 2).trans rfl)
            clear x0 x1 x2 cN e0
            rcases Nat.eq_zero_or_pos k with hk0 | hk0
            · have hd : decide (0 < k) = false := by simp [hk0]
              have HBEF := Lib.hid (show ∀ y, 0 < k → l[k - 1]? = some y → befN y (p, s, n) = true from fun y h => absurd h (by omega))
              clear hk0
              refine wp_region_quiet_below (by kernel_rfl) (by kernel_rfl) ?_
              repeat (go_big_quiet_step (fail))
              refine wpQuiet_nil ?_
              intro _ hw'
              obtain ⟨q2, hw''⟩ := hw'
              subst hw''
              go_wp2_with fail
              have hbV := hbU.trans ((below_regrown U q2.d q2.os).mono hbU.size)
              have hxV := fun j => ((below_regrown U q2.d q2.os).cell (p := ⟨xb, j, none⟩) hzU).trans (hxU j)
              have heV := heU.below (below_regrown U q2.d q2.os)
              have hzV : xb < (grow (redrawn U q2.d) q2.os).heap.size := Nat.lt_of_lt_of_le hzU (below_regrown U q2.d q2.os).size
              generalize grow (redrawn U q2.d) q2.os = V at *
              have ux0 := (hxV 0).trans rfl
              have ux1 := (hxV 1).trans rfl
              have ux2 := (hxV 2).trans rfl
              simp only [List.getElem?_toArray] at ux0 ux1 ux2
              have ue := heV.cell (i := p.toNat) (by omega)
              have uf := heV.frozen p.toNat
              have hzE : w.heap.size < V.heap.size := heV.lt
              clear hxU hxV hxc hRA hRU hxU0 hxU1 hxU2
              have hne1 : ¬ (xb = w.heap.size) := by omega
              have hne2 : ¬ (w.heap.size = xb) := by omega
              go_region_held3 (fun w' => w'.cell? ⟨xb, 0, none⟩ = some (.int .i64 p) ∧ w'.cell? ⟨xb, 1, none⟩ = some (.int .i64 s) ∧ w'.cell? ⟨xb, 2, none⟩ = some (.int .i64 n))
                (first | go_keep | (go_split_ands; refine ⟨?_, ?_, ?_⟩ <;> (refine ((bcell hb1).1 _ _ ?_).trans ?_) <;> first | assumption | simpa using hzV))
                (first | (go_at_call 49; refine (endOfNote_any _ _ _ _ (by omega) (by omega) (by omega) (by omega)).mono ?_; rintro e w1 ⟨rfl, hb1⟩; have ue1 := ((bcell hb1).1 _ p.toNat (by simpa using hzE)).trans ue; have uf1 := ((bcell hb1).2 _ p.toNat (by simpa using hzE)).trans uf))
              go_wp2
              go_roundw
              case rel =>
                have hok : okAt l k (p, s, n) := (okAt_iff (x := (p, s, n)) HG.out (by omega) (show noteN (p, s, n) = true from hv) HBEF.out).2 (by rw [HEE.out]; have := HSE.out; simp only; omega)
                have he1 : Ends w1 w.heap.size l k := Ends.below (w := V.drew) heV hb1
                exact ⟨k + 1, by omega, by go_num, HG.out.succ HX.out hok, he1.step HX.out hp1, ((hbV.drew).trans (hb1.mono hbV.size)).setCell (Nat.le_refl _) _⟩
              case measure => simp [intOf]; omega
            · have hd : (0 : Int) < (k : Int) := by omega
              have hy : l[k - 1]? = some l[k - 1] := List.getElem?_eq_getElem (by omega)
              generalize l[k - 1] = y at hy
              obtain ⟨p', s', n'⟩ := y
              obtain ⟨g2, o2, hgo, hg2, y0, y1, y2⟩ := hRU (k - 1) _ hy
              simp only [Option.some.injEq, Addr.mk.injEq, and_true] at hgo
              obtain ⟨rfl, rfl⟩ := hgo
              simp only at y0 y1 y2
              have y0 := cell_regrown y0
              have y1 := cell_regrown y1
              have y2 := cell_regrown y2
              have HY := Lib.hid hy
              have i3 : (0 : Int) ≤ (k : Int) - 1 := by omega
              have i4 : (k : Int) - 1 < (l.length : Int) := by omega
              have cB : ∀ d os, Calls Tryd.prog 97 #[.agg #[.int .i64 p', .int .i64 s', .int .i64 n'], .agg #[.int .i64 p, .int .i64 s, .int .i64 n]] (grow (redrawn U d) os) fun e w'' => e = .returned (.int .i64 (cmpN p' s' p s)) ∧ ∃ q : Regrown, w'' = grow (redrawn U q.d) q.os :=
                fun d os => Calls.regrown_of (compareNotes_any p' s' n' p s n _)
              have hcb := cmpN_bef (p', s', n') (p, s, n)
              simp only at hcb
              clear hy
              generalize cmpN p' s' p s = cz at *
              have HCB := Lib.hid hcb
              clear hcb
              by_cases hcz : cz < 0
              · have HBEF := Lib.hid (show ∀ y, 0 < k → l[k - 1]? = some y → befN y (p, s, n) = true from fun y _ hy => by have e := HY.out.symm.trans hy; injection e with e; subst e; exact HCB.out.1 hcz)
                refine wp_region_quiet_below (by kernel_rfl) (by kernel_rfl) ?_
                repeat (go_big_quiet_step (exact (cB _ _)))
                refine wpQuiet_nil ?_
                intro _ hw'
                obtain ⟨q2, hw''⟩ := hw'
                subst hw''
                go_wp2_with fail
                have hbV := hbU.trans ((below_regrown U q2.d q2.os).mono hbU.size)
                have hxV := fun j => ((below_regrown U q2.d q2.os).cell (p := ⟨xb, j, none⟩) hzU).trans (hxU j)
                have heV := heU.below (below_regrown U q2.d q2.os)
                have hzV : xb < (grow (redrawn U q2.d) q2.os).heap.size := Nat.lt_of_lt_of_le hzU (below_regrown U q2.d q2.os).size
                generalize grow (redrawn U q2.d) q2.os = V at *
                have ux0 := (hxV 0).trans rfl
                have ux1 := (hxV 1).trans rfl
                have ux2 := (hxV 2).trans rfl
                simp only [List.getElem?_toArray] at ux0 ux1 ux2
                have ue := heV.cell (i := p.toNat) (by omega)
                have uf := heV.frozen p.toNat
                have hzE : w.heap.size < V.heap.size := heV.lt
                clear hxU hxV hxc hRA hRU hxU0 hxU1 hxU2
                have hne1 : ¬ (xb = w.heap.size) := by omega
                have hne2 : ¬ (w.heap.size = xb) := by omega
                go_region_held3 (fun w' => w'.cell? ⟨xb, 0, none⟩ = some (.int .i64 p) ∧ w'.cell? ⟨xb, 1, none⟩ = some (.int .i64 s) ∧ w'.cell? ⟨xb, 2, none⟩ = some (.int .i64 n))
                  (first | go_keep | (go_split_ands; refine ⟨?_, ?_, ?_⟩ <;> (refine ((bcell hb1).1 _ _ ?_).trans ?_) <;> first | assumption | simpa using hzV))
                  (first | (go_at_call 49; refine (endOfNote_any _ _ _ _ (by omega) (by omega) (by omega) (by omega)).mono ?_; rintro e w1 ⟨rfl, hb1⟩; have ue1 := ((bcell hb1).1 _ p.toNat (by simpa using hzE)).trans ue; have uf1 := ((bcell hb1).2 _ p.toNat (by simpa using hzE)).trans uf))
                go_wp2
                go_roundw
                case rel =>
                  have hok : okAt l k (p, s, n) := (okAt_iff (x := (p, s, n)) HG.out (by omega) (show noteN (p, s, n) = true from hv) HBEF.out).2 (by rw [HEE.out]; have := HSE.out; simp only; omega)
                  have he1 : Ends w1 w.heap.size l k := Ends.below (w := V.drew) heV hb1
                  exact ⟨k + 1, by omega, by go_num, HG.out.succ HX.out hok, he1.step HX.out hp1, ((hbV.drew).trans (hb1.mono hbV.size)).setCell (Nat.le_refl _) _⟩
                case measure => simp [intOf]; omega
              · have hcz : 0 ≤ cz := by omega
                refine wp_region_quiet_below (by kernel_rfl) (by kernel_rfl) ?_
                repeat (go_big_quiet_step (exact (cB _ _)))
                refine wpQuiet_nil ?_
                intro _ hw'
                obtain ⟨q2, hw''⟩ := hw'
                subst hw''
                go_wp2
                go_ret
                refine ⟨ret_bool (goodB_false (Good.not_of HX.out fun h => ?_)).symm, hbU.trans ((below_regrown U q2.d q2.os).mono hbU.size)⟩
                have := HCB.out.2 (h.2.1 _ hk0 HY.out)
                omega
      · obtain rfl : k = l.length := by omega
        go_wp2
        go_ret
        exact ⟨ret_bool ((goodB_iff l).2 ⟨HG.out, h30⟩).symm, hb⟩
  · go_enter Tryd.func84, Tryd.ntmps84
    have hq : 30 < (l.length : Int) := by omega
    go_wp2
    go_ret
    exact ⟨ret_bool (goodB_false fun h => h30 h.2).symm, Below.refl _ _⟩
end Go.Proofs.YtkfgmkgbicahgaaDoor

namespace Go.Proofs.YtkfgmkgbicahgaaDoor
open Go.RowKit Go.Sort
set_option linter.unusedVariables false
set_option linter.unusedSimpArgs false

/-- A block of three numbers that can be written. -/
structure Res3 (w : World) (b : Nat) (x y z : Int) : Prop where
  c0 : w.cell? ⟨b, 0, none⟩ = some (.int .i64 x)
  c1 : w.cell? ⟨b, 1, none⟩ = some (.int .i64 y)
  c2 : w.cell? ⟨b, 2, none⟩ = some (.int .i64 z)
  f0 : w.frozen? ⟨b, 0, none⟩ = false
  f1 : w.frozen? ⟨b, 1, none⟩ = false
  f2 : w.frozen? ⟨b, 2, none⟩ = false
  lt : b < w.heap.size
theorem Res3.new (w : World) (x y z : Int) (t : TypeId) : Res3 (w.alloc (.cells #[.int .i64 x, .int .i64 y, .int .i64 z] t)) w.heap.size x y z := by
  have hr := fun j => World.cell?_alloc_new w #[.int .i64 x, .int .i64 y, .int .i64 z] t j
  have hf := fun j => World.frozen?_alloc_at (w := w) #[.int .i64 x, .int .i64 y, .int .i64 z] t w.heap.size j rfl
  exact ⟨(hr 0).trans rfl, (hr 1).trans rfl, (hr 2).trans rfl, hf 0, hf 1, hf 2, by simp⟩
theorem Res3.below {w w' : World} {b : Nat} {x y z : Int} (h : Res3 w b x y z) (hb : Below w.heap.size w w') : Res3 w' b x y z := by
  have hc := fun j => (bcell hb).1 b j h.lt
  have hf := fun j => (bcell hb).2 b j h.lt
  exact ⟨(hc 0).trans h.c0, (hc 1).trans h.c1, (hc 2).trans h.c2, (hf 0).trans h.f0, (hf 1).trans h.f1, (hf 2).trans h.f2, Nat.lt_of_lt_of_le h.lt hb.size⟩
theorem Res3.drew {w : World} {b : Nat} {x y z : Int} (h : Res3 w b x y z) : Res3 w.drew b x y z := h.below (Below.refl _ _).drew
theorem Res3.set {w : World} {b : Nat} {x y z x' y' z' : Int} (h : Res3 w b x y z) : Res3 (((w.setCell ⟨b, 0, none⟩ (.int .i64 x')).setCell ⟨b, 1, none⟩ (.int .i64 y')).setCell ⟨b, 2, none⟩ (.int .i64 z')) b x' y' z' := by
  have n01 : (⟨b, 0, none⟩ : Addr) ≠ ⟨b, 1, none⟩ := by simp
  have hs : ∀ (u : World) (o o' : Nat) (v : Value), o ≠ o' → (u.setCell ⟨b, o, none⟩ v).cell? ⟨b, o', none⟩ = u.cell? ⟨b, o', none⟩ := fun u o o' v hne => World.cell?_setCell_other u _ _ v (by simp [hne])
  have hf : ∀ (u : World) (a a' : Addr) (v : Value), (u.setCell a v).frozen? a' = u.frozen? a' := fun u a a' v => World.frozen?_setCell u a a' v
  refine ⟨?_, ?_, ?_, ?_, ?_, ?_, ?_⟩
  · rw [hs _ _ _ _ (by omega), hs _ _ _ _ (by omega)]; exact World.cell?_setCell_same _ _ _ h.c0
  · rw [hs _ _ _ _ (by omega)]; exact World.cell?_setCell_same _ _ _ ((hs _ _ _ _ (by omega)).trans h.c1)
  · exact World.cell?_setCell_same _ _ _ (((hs _ _ _ _ (by omega)).trans (hs _ _ _ _ (by omega))).trans h.c2)
  · rw [hf, hf, hf]; exact h.f0
  · rw [hf, hf, hf]; exact h.f1
  · rw [hf, hf, hf]; exact h.f2
  · simpa [World.setCell] using h.lt
theorem Below.set3 {B : Nat} {a w : World} (h : Below B a w) {b : Nat} (hb : B ≤ b) (x y z : Value) : Below B a (((w.setCell ⟨b, 0, none⟩ x).setCell ⟨b, 1, none⟩ y).setCell ⟨b, 2, none⟩ z) :=
  ((h.setCell hb _).setCell hb _).setCell hb _
/-- What a function of an instrument and three numbers begins with: their boxes, and the room of its answer. -/
theorem entry3 (w : World) (A : Option Addr) (n c : Nat) (r p s k : Int) (t0 t1 t2 : TypeId) (W : World) (hW : W = ((w.alloc (.cells #[.slice A n c, .int .i64 r] t0)).alloc (.cells #[.int .i64 p, .int .i64 s, .int .i64 k] t1)).alloc (.cells #[.int .i64 0, .int .i64 0, .int .i64 0] t2)) :
    Box W w.heap.size A n c r ∧ Res3 W (w.heap.size + 1) p s k ∧ Res3 W (w.heap.size + 1 + 1) 0 0 0 ∧ Below w.heap.size w W ∧ W.heap.size = w.heap.size + 3 := by
  subst hW
  have a1 := Box.new w A n c r t0
  have z1 : (w.alloc (.cells #[.slice A n c, .int .i64 r] t0)).heap.size = w.heap.size + 1 := by simp
  have b1 : Below w.heap.size w (w.alloc (.cells #[.slice A n c, .int .i64 r] t0)) := (Below.refl _ _).alloc (Nat.le_refl _) _
  generalize w.alloc (.cells #[.slice A n c, .int .i64 r] t0) = W1 at *
  have a2 := Res3.new W1 p s k t1
  rw [z1] at a2
  have z2 : (W1.alloc (.cells #[.int .i64 p, .int .i64 s, .int .i64 k] t1)).heap.size = w.heap.size + 2 := by simp; omega
  have b2 : Below W1.heap.size W1 (W1.alloc (.cells #[.int .i64 p, .int .i64 s, .int .i64 k] t1)) := (Below.refl _ _).alloc (Nat.le_refl _) _
  generalize W1.alloc (.cells #[.int .i64 p, .int .i64 s, .int .i64 k] t1) = W2 at *
  have a3 := Res3.new W2 0 0 0 t2
  rw [z2] at a3
  have z3 : (W2.alloc (.cells #[.int .i64 0, .int .i64 0, .int .i64 0] t2)).heap.size = w.heap.size + 3 := by simp; omega
  have b3 : Below W2.heap.size W2 (W2.alloc (.cells #[.int .i64 0, .int .i64 0, .int .i64 0] t2)) := (Below.refl _ _).alloc (Nat.le_refl _) _
  generalize W2.alloc (.cells #[.int .i64 0, .int .i64 0, .int .i64 0] t2) = W3 at *
  have b23 := b2.trans (b3.mono b2.size)
  exact ⟨a1.below b23, a2.below b3, a3, b1.trans (b23.mono b1.size), z3⟩

def nt3 (x : Nt) : Value := .agg #[.int .i64 x.1, .int .i64 x.2.1, .int .i64 x.2.2]
def no3 : Value := .agg #[.int .i64 0, .int .i64 0, .int .i64 0]
/-- The hole of a valid note. -/
def hoR (P : List Int) (x : Nt) : Array Value := if H.noteN (holeN P x) = true then #[nt3 (holeN P x), .bool true] else #[no3, .bool false]

set_option maxRecDepth 100000 in
set_option maxHeartbeats 4000000 in
theorem laHole_any (A : Option Addr) (l : List Int) (c : Nat) (r p s k : Int) (w : World) (hn : l.length ≤ 1048576) (hA : RI w A l) (hv : noteN (p, s, k) = true) :
    Calls Tryd.prog 45 #[.agg #[.slice A l.length c, .int .i64 r], .agg #[.int .i64 p, .int .i64 s, .int .i64 k]] w fun e w' => e = .returned (.tuple (hoR l (p, s, k))) ∧ Below w.heap.size w w' := by
  have hv := (noteN_iff _).1 hv
  simp only at hv
  obtain ⟨W, hW⟩ : ∃ W, W = ((w.alloc (.cells #[.slice A l.length c, .int .i64 r] 32)).alloc (.cells #[.int .i64 p, .int .i64 s, .int .i64 k] 34)).alloc (.cells #[.int .i64 0, .int .i64 0, .int .i64 0] 29) := ⟨_, rfl⟩
  obtain ⟨hx, hy, hz, hb0, hsz⟩ := entry3 w A l.length c r p s k _ _ _ W hW
  have htl := trk_lt p l
  have HF := Lib.hid (show ∀ v, H.noteB (trk p l) (2 * s) (2 * (s + k) - 1) = v → hoR l (p, s, k) = if v = true then #[nt3 (holeN l (p, s, k)), .bool true] else #[no3, .bool false] from fun v h => by rw [← h]; rfl)
  have m1 : IntKind.i64.wrap (2 * s) = 2 * s := IntWalk.i64_in _ (by omega)
  have m2 : IntKind.i64.wrap (s + k) = s + k := IntWalk.i64_in _ (by omega)
  have m3 : IntKind.i64.wrap (2 * (s + k)) = 2 * (s + k) := IntWalk.i64_in _ (by omega)
  have m4 : IntKind.i64.wrap (2 * (s + k) - 1) = 2 * (s + k) - 1 := IntWalk.i64_in _ (by omega)
  go_enter Tryd.func45, Tryd.ntmps45
  go_wp2_with fail
  rw [← hW]
  have x0 := hx.1
  have x1 := hx.2.1
  have y0 := hy.c0
  have y1 := hy.c1
  have y2 := hy.c2
  have hA1 := hA.below hb0
  clear hW hx hy
  generalize hbw : w.heap.size = b at *
  have nx0 := World.new_ne W _ x0
  have nx1 := World.new_ne W _ y0
  have hbd : Below W.heap.size W W.drew := (Below.refl _ _).drew
  have hbe : Below W.heap.size W (W.alloc (.cells #[.int .i64 0, .int .i64 0, .int .i64 0] 29)).drew := ((Below.refl _ _).alloc (Nat.le_refl _) _).drew
  have hr : Res3 (W.alloc (.cells #[.int .i64 0, .int .i64 0, .int .i64 0] 29)).drew (b + 3) 0 0 0 := by
    have h := (Res3.new W 0 0 0 29).drew
    rw [hsz] at h
    exact h
  go_region_held3 (fun w' => w'.cell? ⟨b, 0, none⟩ = some (.slice A l.length c) ∧ w'.cell? ⟨b, 1, none⟩ = some (.int .i64 r) ∧ w'.cell? ⟨b + 1, 0, none⟩ = some (.int .i64 p) ∧ w'.cell? ⟨b + 1, 1, none⟩ = some (.int .i64 s) ∧ w'.cell? ⟨b + 1, 2, none⟩ = some (.int .i64 k))
    (first | go_keep | exact ⟨X0, X1, Y0, Y1, Y2⟩)
    (first
      | (go_at_call 70; with_reducible refine (inTrack_any _ _ _ _ _ _ hn (hA1.below hbd)).mono ?_; rintro e w5 ⟨rfl, hb5⟩; have hb6 : Below W.heap.size W w5 := hbd.trans (hb5.mono hbd.size); have hq := Res3.new w5 0 0 0 29; have q0 := hq.c0; have q1 := hq.c1; have q2 := hq.c2; have p0 := hq.f0; have p1 := hq.f1; have p2 := hq.f2; clear hq; have X0 := ((bcell hb6).1 b 0 (by omega)).trans x0; have X1 := ((bcell hb6).1 b 1 (by omega)).trans x1; have Y0 := ((bcell hb6).1 (b + 1) 0 (by omega)).trans y0; have Y1 := ((bcell hb6).1 (b + 1) 1 (by omega)).trans y1; have Y2 := ((bcell hb6).1 (b + 1) 2 (by omega)).trans y2; have NX0 := World.new_ne w5 _ X0; have NX1 := World.new_ne w5 _ Y0)
      | (go_at_call 70; with_reducible refine (inTrack_any _ _ _ _ _ _ hn (hA1.below hbe)).mono ?_; rintro e w5 ⟨rfl, hb5⟩; have hb6 : Below W.heap.size W w5 := hbe.trans (hb5.mono hbe.size); have hq := hr.below hb5; have q0 := hq.c0; have q1 := hq.c1; have q2 := hq.c2; have p0 := hq.f0; have p1 := hq.f1; have p2 := hq.f2; clear hq; have X0 := ((bcell hb6).1 b 0 (by omega)).trans x0; have X1 := ((bcell hb6).1 b 1 (by omega)).trans x1; have Y0 := ((bcell hb6).1 (b + 1) 0 (by omega)).trans y0; have Y1 := ((bcell hb6).1 (b + 1) 1 (by omega)).trans y1; have Y2 := ((bcell hb6).1 (b + 1) 2 (by omega)).trans y2; have NX0 := World.new_ne w5 _ X0; have NX1 := World.new_ne w5 _ Y0))
  · have hg := Res3.new w5 (trk p l) (2 * s) (2 * (s + k) - 1) 29
    have hB6 := hb6.alloc hb6.size (.cells #[.int .i64 (trk p l), .int .i64 (2 * s), .int .i64 (2 * (s + k) - 1)] 29)
    have hgn : w5.heap.size ≠ b + 1 + 1 := by have := hb6.size; omega
    generalize w5.alloc (.cells #[.int .i64 (trk p l), .int .i64 (2 * s), .int .i64 (2 * (s + k) - 1)] 29) = W6 at *
    generalize w5.heap.size = g at *
    have hres := hz.below hB6
    have hbs : b ≤ W6.heap.size := Nat.le_trans (by omega) hB6.size
    have hB6 := hb0.trans (hB6.mono (by omega))
    obtain ⟨u0, u1, u2, _, _, _, ul⟩ := hg
    clear x0 x1 y0 y1 y2 nx0 nx1 hbd hbe hr hA1 hb5 hb6 hz q0 q1 q2 p0 p1 p2 X0 X1 Y0 Y1 Y2 NX0 NX1 hb0
    go_wp2_with fail
    refine (H.ntNote_any _ _ _ _).mono ?_
    rintro e w7 ⟨rfl, hb7⟩
    have hres := hres.below hb7
    have u0 := ((bcell hb7).1 g 0 ul).trans u0
    have u1 := ((bcell hb7).1 g 1 ul).trans u1
    have u2 := ((bcell hb7).1 g 2 ul).trans u2
    have hB7 := hB6.trans (hb7.mono hbs)
    obtain ⟨r0, r1, r2, e0, e1, e2, rl⟩ := hres
    clear hb7 hB6
    have HB7 := Lib.hid hB7
    clear hB7
    cases hh : H.noteB (trk p l) (2 * s) (2 * (s + k) - 1) with
    | false =>
      go_wp2
      exact bodyPost_ret (v := .tuple #[.agg #[.int .i64 0, .int .i64 0, .int .i64 0], .bool false]) (by simp [results, Tryd.results45, go_sem, *]) rfl ⟨by rw [HF.out _ hh]; rfl, by rw [hbw]; exact Below.set3 HB7.out (by omega) _ _ _⟩
    | true =>
      go_wp2
      exact bodyPost_ret (v := .tuple #[.agg #[.int .i64 (trk p l), .int .i64 (2 * s), .int .i64 (2 * (s + k) - 1)], .bool true]) (by simp [results, Tryd.results45, go_sem, *]) rfl ⟨by rw [HF.out _ hh]; rfl, by rw [hbw]; exact Below.set3 HB7.out (by omega) _ _ _⟩
  · have hg := (show Res3 w5 (b + 3) 0 0 0 from ⟨q0, q1, q2, p0, p1, p2, World.block_lt_of_cell? _ _ q0⟩).set (x' := trk p l) (y' := 2 * s) (z' := 2 * (s + k) - 1)
    have hB6 := Below.set3 hb6 (b := b + 3) (by omega) (.int .i64 (trk p l)) (.int .i64 (2 * s)) (.int .i64 (2 * (s + k) - 1))
    have hgn : b + 3 ≠ b + 1 + 1 := by omega
    have hgb : b < b + 3 := by omega
    generalize ((w5.setCell ⟨b + 3, 0, none⟩ (.int .i64 (trk p l))).setCell ⟨b + 3, 1, none⟩ (.int .i64 (2 * s))).setCell ⟨b + 3, 2, none⟩ (.int .i64 (2 * (s + k) - 1)) = W6 at *
    generalize b + 3 = g at *
    have hres := hz.below hB6
    have hbs : b ≤ W6.heap.size := Nat.le_trans (by omega) hB6.size
    have hB6 := hb0.trans (hB6.mono (by omega))
    obtain ⟨u0, u1, u2, _, _, _, ul⟩ := hg
    clear x0 x1 y0 y1 y2 nx0 nx1 hbd hbe hr hA1 hb5 hb6 hz q0 q1 q2 p0 p1 p2 X0 X1 Y0 Y1 Y2 NX0 NX1 hb0
    go_wp2_with fail
    refine (H.ntNote_any _ _ _ _).mono ?_
    rintro e w7 ⟨rfl, hb7⟩
    have hres := hres.below hb7
    have u0 := ((bcell hb7).1 g 0 ul).trans u0
    have u1 := ((bcell hb7).1 g 1 ul).trans u1
    have u2 := ((bcell hb7).1 g 2 ul).trans u2
    have hB7 := hB6.trans (hb7.mono hbs)
    obtain ⟨r0, r1, r2, e0, e1, e2, rl⟩ := hres
    clear hb7 hB6
    have HB7 := Lib.hid hB7
    clear hB7
    cases hh : H.noteB (trk p l) (2 * s) (2 * (s + k) - 1) with
    | false =>
      go_wp2
      exact bodyPost_ret (v := .tuple #[.agg #[.int .i64 0, .int .i64 0, .int .i64 0], .bool false]) (by simp [results, Tryd.results45, go_sem, *]) rfl ⟨by rw [HF.out _ hh]; rfl, by rw [hbw]; exact Below.set3 HB7.out (by omega) _ _ _⟩
    | true =>
      go_wp2
      exact bodyPost_ret (v := .tuple #[.agg #[.int .i64 (trk p l), .int .i64 (2 * s), .int .i64 (2 * (s + k) - 1)], .bool true]) (by simp [results, Tryd.results45, go_sem, *]) rfl ⟨by rw [HF.out _ hh]; rfl, by rw [hbw]; exact Below.set3 HB7.out (by omega) _ _ _⟩
end Go.Proofs.YtkfgmkgbicahgaaDoor

namespace Go.Proofs.YtkfgmkgbicahgaaDoor
open Go.RowKit Go.Sort
set_option linter.unusedVariables false

/-- A call returned a score of its own, or nil and false; below the heap's old size nothing has turned. -/
def RetScore (B : World) (l : List Nt) (ok : Bool) (e : Ending) (w' : World) : Prop :=
  ∃ v, e = .returned (.tuple #[v, .bool ok]) ∧ Own w' B.heap.size 34 v (if ok = true then l else []) ∧ Below B.heap.size B w'
theorem RetScore.mono {B B' : World} {l : List Nt} {ok : Bool} {e : Ending} {w' : World} (h : RetScore B' l ok e w') (hb : Below B.heap.size B B') : RetScore B l ok e w' := by
  obtain ⟨v, he, ho, hbl⟩ := h
  refine ⟨v, he, ?_, hb.trans (hbl.mono hb.size)⟩
  exact ho.mono hb.size
set_option maxHeartbeats 1000000 in
theorem scoreOnly_any (v : Value) (l : List Nt) (base : Nat) (w : World) (hn : l.length ≤ 1048576) (hv : Own w base 34 v l) :
    Calls Tryd.prog 61 #[v] w fun e w' => ∃ u, e = .returned (.tuple #[u, .bool (goodB l)]) ∧ Own w' base 34 u (if goodB l = true then l else []) ∧ Below w.heap.size w w' := by
  have hv0 := hv
  obtain ⟨A, c, rfl, hA⟩ := hv.form
  clear hv
  cases hgb : goodB l with
  | false =>
    go_enter Tryd.func61, Tryd.ntmps61
    go_wp2_with fail
    refine (isScore_any _ _ _ _ hn hA).mono ?_
    rintro e w1 ⟨rfl, hb1⟩
    go_wp2
    go_ret2
    exact ⟨_, rfl, by simpa using Own.nil _ _ _, hb1⟩
  | true =>
    go_enter Tryd.func61, Tryd.ntmps61
    go_wp2_with fail
    refine (isScore_any _ _ _ _ hn hA).mono ?_
    rintro e w1 ⟨rfl, hb1⟩
    have ho := hv0.below hb1 (Nat.le_refl _)
    go_wp2
    go_ret2
    exact ⟨_, rfl, by simpa using ho, hb1⟩

end Go.Proofs.YtkfgmkgbicahgaaDoor
