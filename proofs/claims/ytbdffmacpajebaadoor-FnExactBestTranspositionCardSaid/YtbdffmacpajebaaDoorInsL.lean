/- Contracts of the laws' own functions on instruments: sizes, copies, equality, marks. -/
import Derived.Test.YtbdffmacpajebaaDoorInsP
import Derived.Test.YtbdffmacpajebaaDoorIntS
import Derived.Test.YtbdffmacpajebaaDoorSlc
import Derived.Lib.BufferWrite
namespace Go.Proofs.YtbdffmacpajebaaDoor
open Go.RowKit
set_option linter.unusedVariables false
set_option linter.unusedSimpArgs false

theorem Tryd.info_intL : (Tryd.prog.info? 3).map (fun i => (i.zero, i.size, i.bytes)) = some (some (.int .i64 0), 1, 8) := by kernel_rfl

theorem make_ints (n : Nat) (hn : n ≤ 1048576) (W : World) :
    (Instr.makeSlice 22 (.int .i64 (n : Int)) (.int .i64 (n : Int))).run Tryd.prog W = .ok (.slice (some ⟨W.heap.size, 0, none⟩) n n) (W.alloc (.cells (madeCells #[.int .i64 0] (n * 1)) 3)) := by
  obtain ⟨i, hi, hz, hs, hb⟩ := info_parts Tryd.info_intL
  have h := run_make (P := Tryd.prog) W 22 3 i _ Tryd.underlying22 hi hz .i64 .i64 (n : Int) (n : Int) (by omega) (by omega) (by rw [hb]; omega) (by omega)
  rw [hs] at h
  simp only [Int.toNat_natCast] at h
  exact h
theorem made_ci (n : Nat) : (madeCells #[.int .i64 0] (n * 1)).toList = ci (List.replicate n 0) := by
  apply List.ext_getElem?
  intro i
  by_cases hi : i < n
  · simp [madeCells, ci, hi, Nat.mod_one]
  · rw [List.getElem?_eq_none (by simp [size_madeCells]; omega), List.getElem?_eq_none (by rw [ci_length]; simp; omega)]

set_option maxHeartbeats 400000 in
theorem szIntS_any (A : Option Addr) (n c : Nat) (left : Int) (w : World) (hn : n ≤ 9223372036854775807) (h0 : 0 ≤ left) (h1 : left ≤ 1048576) :
    Calls Tryd.prog 35 #[.slice A n c, .int .i64 left] w fun e w' => e = .returned (.int .i64 (if left - n < 0 then -1 else left - n)) ∧ w = w' := by
  by_cases h : left - n < 0
  all_goals
    go_enter Tryd.func35, Tryd.ntmps35
    go_wp2
    go_ret
    exact ⟨ret_int (by simp), rfl⟩

theorem takeI_set (l m : List Int) (k : Nat) (x : Int) (h : l[k]? = some x) (hm : k < m.length) : (l.take k ++ m.drop k).set k x = l.take (k + 1) ++ m.drop (k + 1) := by
  have hk : k < l.length := (List.getElem?_eq_some_iff.1 h).1
  rw [List.set_append_right _ _ (by simp; omega), List.length_take, Nat.min_eq_left (by omega), Nat.sub_self, List.drop_eq_getElem_cons hm, List.set_cons_zero, List.take_add_one, h]
  simp

set_option maxRecDepth 100000 in
set_option maxHeartbeats 1000000 in
theorem toIntS_any (A : Option Addr) (l : List Int) (c : Nat) (w : World) (hn : l.length ≤ 1048576) (hA : RI w A l) :
    Calls Tryd.prog 39 #[.slice A l.length c] w fun e w' => e = .returned (.slice (some ⟨w.heap.size, 0, none⟩) l.length l.length) ∧
      OwnI w' w.heap.size 3 (.slice (some ⟨w.heap.size, 0, none⟩) l.length l.length) l ∧ Below w.heap.size w w' := by
  have hmk := make_ints l.length hn
  go_enter Tryd.func39, Tryd.ntmps39
  go_wp2
  go_loopw [4] (fun i wr => ∃ k : Nat, k ≤ l.length ∧ i = .int .i64 k ∧ OwnI wr w.heap.size 3 (.slice (some ⟨w.heap.size, 0, none⟩) l.length l.length) (l.take k ++ (List.replicate l.length 0).drop k) ∧ Below w.heap.size w wr)
    (fun i _ => l.length - (intOf i).toNat)
  case atStart =>
    refine ⟨0, Nat.zero_le _, rfl, ?_, (Below.refl _ _).alloc (Nat.le_refl _) _⟩
    have h := World.ownsRow_lit (base := w.heap.size) (e := 3) (size := 1) w (madeCells #[.int .i64 0] (l.length * 1)) l.length (Nat.le_refl _) (by unfold maxLen; omega) (size_madeCells _ _)
    rw [made_ci] at h
    simpa [OwnI] using h
  case round =>
    obtain ⟨k, hk, rfl, hown, hb⟩ := hrel
    by_cases hlt : k < l.length
    · have hx : l[k]? = some l[k] := List.getElem?_eq_getElem hlt
      generalize l[k] = x at hx
      obtain ⟨g, o, rfl, hg, h0⟩ := (hA.below hb) k _ hx
      have hz1 : w.heap.size < wr.heap.size := (hown.lt _ rfl).2
      have hL : (l.take k ++ (List.replicate l.length (0 : Int)).drop k).length = l.length := by simp; omega
      unfold OwnI at hown
      rw [hL] at hown
      have f0 := hown.frozenAt k
      have c0 : ∃ u, wr.cell? ⟨w.heap.size, k, none⟩ = some u := by rw [hown.cellAt _ (by omega)]; exact ⟨_, List.getElem?_eq_getElem (by rw [ci_length, hL]; omega)⟩
      obtain ⟨u0, c0⟩ := c0
      have i1 : (0 : Int) ≤ (k : Int) := by omega
      have i2 : (k : Int) < (l.length : Int) := by omega
      have H := Lib.hid hown
      have HX := Lib.hid hx
      clear hown hL hx hA
      go_wp2
      go_roundw
      case rel =>
        have s1 := H.out.stored k (.int .i64 x)
        have k2 := s1.1
        have e1 : (ci (l.take k ++ (List.replicate l.length (0 : Int)).drop k)).set k (.int .i64 x) = ci (l.take (k + 1) ++ (List.replicate l.length (0 : Int)).drop (k + 1)) := by
          rw [← takeI_set l _ k x HX.out (by simpa using hlt)]; simp [ci, List.map_set]
        rw [e1] at k2
        have hL' : (l.take (k + 1) ++ (List.replicate l.length (0 : Int)).drop (k + 1)).length = l.length := by simp; omega
        refine ⟨k + 1, by omega, by go_num, ?_, hb.setCell (by simp) _⟩
        unfold OwnI
        rw [hL']
        exact k2
      case measure => simp [intOf]; omega
    · obtain rfl : k = l.length := by omega
      go_wp2
      go_ret
      exact ⟨rfl, by simpa using hown, hb⟩

set_option maxHeartbeats 400000 in
theorem szIns_any (A : Option Addr) (n c : Nat) (r left : Int) (w : World) (hn : n ≤ 9223372036854775807) (h0 : 0 ≤ left) (h1 : left ≤ 1048576) :
    Calls Tryd.prog 10 #[.agg #[.slice A n c, .int .i64 r], .int .i64 left] w fun e w' => e = .returned (.int .i64 (if left - n < 0 then -1 else left - n)) ∧ Below w.heap.size w w' := by
  by_cases h : left - n < 0
  all_goals
    go_enter Tryd.func10, Tryd.ntmps10
    go_wp2_with (go_at_call 35; refine (szIntS_any _ _ _ _ _ hn h0 h1).mono ?_; rintro e w1 ⟨rfl, rfl⟩)
    go_ret
    exact ⟨ret_int (by simp [*]), (Below.refl _ _).alloc (Nat.le_refl _) _⟩

set_option maxRecDepth 100000 in
set_option maxHeartbeats 1000000 in
theorem toIns_any (A : Option Addr) (l : List Int) (c : Nat) (r : Int) (w : World) (hn : l.length ≤ 1048576) (hA : RI w A l) :
    Calls Tryd.prog 12 #[.agg #[.slice A l.length c, .int .i64 r]] w fun e w' => ∃ g, w.heap.size ≤ g ∧ e = .returned (.agg #[.slice (some ⟨g, 0, none⟩) l.length l.length, .int .i64 r]) ∧
      OwnI w' w.heap.size 3 (.slice (some ⟨g, 0, none⟩) l.length l.length) l ∧ Below w.heap.size w w' := by
  have hb3 : Below w.heap.size w (((w.alloc (.cells #[.slice A l.length c, .int .i64 r] 24)).alloc (.cells #[.slice none 0 0, .int .i64 0] 28)).alloc (.cells #[.slice none 0 0, .int .i64 0] 28)) := (((Below.refl _ _).alloc (Nat.le_refl _) _).alloc (by simp) _).alloc (by simp; omega) _
  have a1 : (((w.alloc (.cells #[.slice A l.length c, .int .i64 r] 24)).alloc (.cells #[.slice none 0 0, .int .i64 0] 28)).alloc (.cells #[.slice none 0 0, .int .i64 0] 28)).cell? ⟨w.heap.size, 1, none⟩ = some (.int .i64 r) := by go_simp
  have d0 : (((w.alloc (.cells #[.slice A l.length c, .int .i64 r] 24)).alloc (.cells #[.slice none 0 0, .int .i64 0] 28)).alloc (.cells #[.slice none 0 0, .int .i64 0] 28)).cell? ⟨w.heap.size + 1, 0, none⟩ = some (.slice none 0 0) := by go_simp
  have d1 : (((w.alloc (.cells #[.slice A l.length c, .int .i64 r] 24)).alloc (.cells #[.slice none 0 0, .int .i64 0] 28)).alloc (.cells #[.slice none 0 0, .int .i64 0] 28)).cell? ⟨w.heap.size + 1, 1, none⟩ = some (.int .i64 0) := by go_simp
  have e0 : (((w.alloc (.cells #[.slice A l.length c, .int .i64 r] 24)).alloc (.cells #[.slice none 0 0, .int .i64 0] 28)).alloc (.cells #[.slice none 0 0, .int .i64 0] 28)).cell? ⟨w.heap.size + 1 + 1, 0, none⟩ = some (.slice none 0 0) := by go_simp
  have e1 : (((w.alloc (.cells #[.slice A l.length c, .int .i64 r] 24)).alloc (.cells #[.slice none 0 0, .int .i64 0] 28)).alloc (.cells #[.slice none 0 0, .int .i64 0] 28)).cell? ⟨w.heap.size + 1 + 1, 1, none⟩ = some (.int .i64 0) := by go_simp
  have fd0 : (((w.alloc (.cells #[.slice A l.length c, .int .i64 r] 24)).alloc (.cells #[.slice none 0 0, .int .i64 0] 28)).alloc (.cells #[.slice none 0 0, .int .i64 0] 28)).frozen? ⟨w.heap.size + 1, 0, none⟩ = false := by go_simp
  have fd1 : (((w.alloc (.cells #[.slice A l.length c, .int .i64 r] 24)).alloc (.cells #[.slice none 0 0, .int .i64 0] 28)).alloc (.cells #[.slice none 0 0, .int .i64 0] 28)).frozen? ⟨w.heap.size + 1, 1, none⟩ = false := by go_simp
  have fe0 : (((w.alloc (.cells #[.slice A l.length c, .int .i64 r] 24)).alloc (.cells #[.slice none 0 0, .int .i64 0] 28)).alloc (.cells #[.slice none 0 0, .int .i64 0] 28)).frozen? ⟨w.heap.size + 1 + 1, 0, none⟩ = false := by go_simp
  have fe1 : (((w.alloc (.cells #[.slice A l.length c, .int .i64 r] 24)).alloc (.cells #[.slice none 0 0, .int .i64 0] 28)).alloc (.cells #[.slice none 0 0, .int .i64 0] 28)).frozen? ⟨w.heap.size + 1 + 1, 1, none⟩ = false := by go_simp
  have hz : (((w.alloc (.cells #[.slice A l.length c, .int .i64 r] 24)).alloc (.cells #[.slice none 0 0, .int .i64 0] 28)).alloc (.cells #[.slice none 0 0, .int .i64 0] 28)).heap.size = w.heap.size + 1 + 1 + 1 := by simp
  go_enter Tryd.func12, Tryd.ntmps12
  go_wp2_with fail
  have hA3 := hA.below hb3
  generalize (((w.alloc (.cells #[.slice A l.length c, .int .i64 r] 24)).alloc (.cells #[.slice none 0 0, .int .i64 0] 28)).alloc (.cells #[.slice none 0 0, .int .i64 0] 28)) = W at *
  refine (toIntS_any _ _ _ _ hn hA3).mono ?_
  rintro e w1 ⟨rfl, ho1, hb1⟩
  rw [hz] at ho1
  have h0 : w.heap.size < W.heap.size := by omega
  have h1 : w.heap.size + 1 < W.heap.size := by omega
  have h2 : w.heap.size + 1 + 1 < W.heap.size := by omega
  have a1 := (hb1.cell (p := ⟨w.heap.size, 1, none⟩) h0).trans a1
  have d0 := (hb1.cell (p := ⟨w.heap.size + 1, 0, none⟩) h1).trans d0
  have d1 := (hb1.cell (p := ⟨w.heap.size + 1, 1, none⟩) h1).trans d1
  have e0 := (hb1.cell (p := ⟨w.heap.size + 1 + 1, 0, none⟩) h2).trans e0
  have e1 := (hb1.cell (p := ⟨w.heap.size + 1 + 1, 1, none⟩) h2).trans e1
  have fd0 := (hb1.frozen (p := ⟨w.heap.size + 1, 0, none⟩) h1).trans fd0
  have fd1 := (hb1.frozen (p := ⟨w.heap.size + 1, 1, none⟩) h1).trans fd1
  have fe0 := (hb1.frozen (p := ⟨w.heap.size + 1 + 1, 0, none⟩) h2).trans fe0
  have fe1 := (hb1.frozen (p := ⟨w.heap.size + 1 + 1, 1, none⟩) h2).trans fe1
  have hB := hb3.trans (hb1.mono hb3.size)
  rw [hz]
  have HO := Lib.hid ho1
  have HB := Lib.hid hB
  have HZ := Lib.hid hz
  clear ho1 hb1 hA3 hA hb3 hz h0 h1 h2 hB
  go_wp2
  have n1 : w.heap.size + 1 + 1 + 1 ≠ w.heap.size + 1 + 1 := by omega
  have n2 : w.heap.size + 1 + 1 + 1 ≠ w.heap.size + 1 := by omega
  have n3 : w.heap.size + 1 + 1 ≠ w.heap.size := by omega
  have n4 : w.heap.size + 1 ≠ w.heap.size := by omega
  refine bodyPost_ret (v := .agg #[.slice (some ⟨w.heap.size + 1 + 1 + 1, 0, none⟩) l.length l.length, .int .i64 r]) (by simp [results, Tryd.results12, go_sem, *]) rfl ⟨w.heap.size + 1 + 1 + 1, by omega, rfl, ?_, ?_⟩
  · refine OwnI.mono ?_ (show w.heap.size ≤ w.heap.size + 1 + 1 + 1 by omega)
    exact (((HO.out.grown (Lib.grownBy_setCell _ _ _ _) (.inr (by simp [Value.ownBlock] <;> omega))).grown (Lib.grownBy_setCell _ _ _ _) (.inr (by simp [Value.ownBlock] <;> omega))).grown (Lib.grownBy_setCell _ _ _ _) (.inr (by simp [Value.ownBlock] <;> omega))).grown (Lib.grownBy_setCell _ _ _ _) (.inr (by simp [Value.ownBlock] <;> omega))
  · have m1 : w.heap.size ≤ w.heap.size + 1 + 1 := by omega
    have m2 : w.heap.size ≤ w.heap.size + 1 := by omega
    exact (((HB.out.setCell m1 _).setCell m1 _).setCell m2 _).setCell m2 _

set_option maxRecDepth 100000 in
set_option maxHeartbeats 1000000 in
theorem eqIns_any (A B : Option Addr) (l m : List Int) (c d : Nat) (r s : Int) (w : World) (hl : l.length ≤ 9223372036854775807) (hm : m.length ≤ 9223372036854775807) (hA : RI w A l) (hB : RI w B m) :
    Calls Tryd.prog 14 #[.agg #[.slice A l.length c, .int .i64 r], .agg #[.slice B m.length d, .int .i64 s]] w fun e w' => e = .returned (.bool (decide (l = m) && decide (r = s))) ∧ Below w.heap.size w w' := by
  have hb2 : Below w.heap.size w ((w.alloc (.cells #[.slice A l.length c, .int .i64 r] 28)).alloc (.cells #[.slice B m.length d, .int .i64 s] 28)) := ((Below.refl _ _).alloc (Nat.le_refl _) _).alloc (by simp) _
  have a1 : ((w.alloc (.cells #[.slice A l.length c, .int .i64 r] 28)).alloc (.cells #[.slice B m.length d, .int .i64 s] 28)).cell? ⟨w.heap.size, 1, none⟩ = some (.int .i64 r) := by
    rw [World.cell?_alloc_old _ _ _ (by simp), World.cell?_alloc_new]; rfl
  have b1 : ((w.alloc (.cells #[.slice A l.length c, .int .i64 r] 28)).alloc (.cells #[.slice B m.length d, .int .i64 s] 28)).cell? ⟨w.heap.size + 1, 1, none⟩ = some (.int .i64 s) := by
    go_simp
  have hA2 := hA.below hb2
  have hB2 := hB.below hb2
  have hz : w.heap.size + 1 < ((w.alloc (.cells #[.slice A l.length c, .int .i64 r] 28)).alloc (.cells #[.slice B m.length d, .int .i64 s] 28)).heap.size := by simp
  go_enter Tryd.func14, Tryd.ntmps14
  go_wp2_with fail
  generalize ((w.alloc (.cells #[.slice A l.length c, .int .i64 r] 28)).alloc (.cells #[.slice B m.length d, .int .i64 s] 28)) = W at *
  refine (eqIntS_any _ _ _ _ _ _ _ hl hm hA2 hB2).mono ?_
  rintro e w1 ⟨rfl, hb1⟩
  have a2 := (hb1.cell (p := ⟨w.heap.size, 1, none⟩) (by show w.heap.size < _; omega)).trans a1
  have b2 := (hb1.cell (p := ⟨w.heap.size + 1, 1, none⟩) hz).trans b1
  have hB := hb2.trans (hb1.mono hb2.size)
  clear a1 b1 hA2 hA hb1 hb2
  cases hd : decide (l = m) with
  | false =>
    go_wp2
    go_ret
    exact ⟨ret_bool (by simp [of_decide_eq_false hd]), hB⟩
  | true =>
    by_cases hrs : r = s
    · subst hrs
      go_wp2
      go_ret
      exact ⟨ret_bool (by simp), hB⟩
    · have hne : (r != s) = true := by simp [hrs]
      go_wp2
      go_ret
      exact ⟨ret_bool (by simp [hrs]), hB⟩
end Go.Proofs.YtbdffmacpajebaaDoor
