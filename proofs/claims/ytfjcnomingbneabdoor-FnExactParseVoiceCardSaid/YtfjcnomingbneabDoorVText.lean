/- The text of a voice: the model's function. -/
import Derived.Test.YtfjcnomingbneabDoorText
import Derived.Test.YtfjcnomingbneabDoorVoice
import Derived.Lib.Join
namespace Go.Proofs.YtfjcnomingbneabDoor
open Go.RowKit Go.Sort
set_option linter.unusedVariables false
set_option linter.unusedSimpArgs false

def nameE (p : Int) : List UInt8 := if p = 0 then [114] else nm p
def wordOf (x : Nt) : List UInt8 := nameE x.1 ++ [42] ++ dec x.2.1 ++ [47] ++ dec x.2.2
def vT (l : List Nt) : List UInt8 := Lib.join (l.map wordOf) [32]
theorem vT_zero (l : List Nt) : vT (l.take 0) = [] := rfl
theorem vT_one (l : List Nt) (x : Nt) (h : l[0]? = some x) : vT (l.take (0 + 1)) = wordOf x := by
  rw [List.take_add_one, h]
  simp [vT, Lib.join_one]
theorem vT_snoc (l : List Nt) (k : Nat) (x : Nt) (h : l[k]? = some x) (hk : 0 < k) : vT (l.take (k + 1)) = vT (l.take k) ++ [32] ++ wordOf x := by
  rw [List.take_add_one, h]
  have hl : (l.take k) ≠ [] := by
    intro e
    have := congrArg List.length e
    have h1 := (List.getElem?_eq_some_iff.1 h).1
    rw [List.length_take] at this
    simp only [List.length_nil] at this
    omega
  cases hc : l.take k with
  | nil => exact absurd hc hl
  | cons y r =>
    simp only [vT, List.cons_append, List.map_cons, List.map_append, Option.toList_some, List.map_nil, Lib.join_cons]
    simp [Lib.joinTail]
theorem evN_facts {p n d : Int} (h : evN (p, n, d) = true) : (p = 0 ∨ 24 ≤ p ∧ p ≤ 96) ∧ (1 ≤ n ∧ n ≤ 99) ∧ (1 ≤ d ∧ d ≤ 16) := by
  have := (evN_iff _).1 h
  exact ⟨this.1, this.2.1, this.2.2.1⟩
theorem nameE_len (p : Int) (h : p = 0 ∨ 24 ≤ p ∧ p ≤ 96) : (nameE p).length ≤ 3 := by
  unfold nameE
  split
  · simp
  · exact nm_len p (by omega) (by omega)
theorem wordOf_len (x : Nt) (h : evN x = true) : (wordOf x).length ≤ 11 := by
  obtain ⟨p, n, d⟩ := x
  obtain ⟨h0, h1, h2⟩ := evN_facts h
  have e0 := nameE_len p h0
  have e1 := dec_len n (by omega)
  have e2 := dec_len d (by omega)
  simp only [wordOf, List.length_append, List.length_cons, List.length_nil]
  omega
theorem vT_len (l : List Nt) (hg : ∀ x ∈ l, evN x = true) : ∀ k, k ≤ l.length → (vT (l.take k)).length ≤ 12 * k := by
  intro k
  induction k with
  | zero => intro _; rw [vT_zero]; simp
  | succ k ih =>
    intro hk
    have hx : l[k]? = some l[k] := List.getElem?_eq_getElem (by omega)
    have := wordOf_len _ (hg _ (List.mem_of_getElem? hx))
    have := ih (by omega)
    rcases Nat.eq_zero_or_pos k with rfl | h0
    · rw [vT_one l _ hx]; omega
    · rw [vT_snoc l k _ hx h0, List.length_append, List.length_append]
      simp only [List.length_cons, List.length_nil]
      omega

set_option maxRecDepth 100000 in
set_option maxHeartbeats 2000000 in
theorem noText_any (A : Option Addr) (l : List Nt) (c : Nat) (w : World) (hA : RA w A l) (hg : ∀ x ∈ l, evN x = true) (h20 : l.length ≤ 20) :
    Calls Tryd.prog 22 #[.slice A l.length c] w fun e w' => e = .returned (.string (bs (vT l))) ∧ Below w.heap.size w w' := by
  go_enter Tryd.func22, Tryd.ntmps22
  go_wp2
  go_loopw [3, 8] (fun s i wr => ∃ k : Nat, k ≤ l.length ∧ i = .int .i64 k ∧ s = .string (bs (vT (l.take k))) ∧ Below w.heap.size w wr)
    (fun _ i _ => l.length - (intOf i).toNat)
  case atStart => exact ⟨0, Nat.zero_le _, rfl, rfl, Below.refl _ _⟩
  case round =>
    obtain ⟨k, hk, rfl, rfl, hb⟩ := hrel
    by_cases hlt : k < l.length
    · have hx : l[k]? = some l[k] := List.getElem?_eq_getElem hlt
      generalize l[k] = x at hx
      have hv := evN_facts (hg _ (List.mem_of_getElem? hx))
      obtain ⟨p, n, d⟩ := x
      obtain ⟨hvp, hvn, hvd⟩ := hv
      obtain ⟨g, o, rfl, hgb, h0, h1, h2⟩ := (hA.below hb) k _ hx
      simp only at h0 h1 h2 hvp hvn hvd
      have i1 : (0 : Int) ≤ (k : Int) := by omega
      have i2 : (k : Int) < (l.length : Int) := by omega
      have CN := Lib.hid (fun (W : World) (h : p ≠ 0) => ntName_n p W (by omega) (by omega))
      have C1 := Lib.hid (fun W => l1Num_n n W (by omega) (by omega))
      have C2 := Lib.hid (fun W => l1Num_n d W (by omega) (by omega))
      have s1 : (bs (dec n)).size ≤ 3 := by rw [bs_size]; exact dec_len n (by omega)
      have s2 : (bs (dec d)).size ≤ 3 := by rw [bs_size]; exact dec_len d (by omega)
      have sT : (bs (vT (l.take k))).size ≤ 240 := by rw [bs_size]; have := vT_len l hg k hk; omega
      have sN : p ≠ 0 → (bs (nm p)).size ≤ 3 := fun h => by rw [bs_size]; exact nm_len p (by omega) (by omega)
      have HE : ∃ S N : ByteArray, ((k = 0 ∧ bs (vT (l.take k)) = S) ∨ (0 < k ∧ bs (vT (l.take k)) ++ bs [32] = S)) ∧ ((p = 0 ∧ bs [114] = N) ∨ (0 < p ∧ bs (nm p) = N)) ∧ Hid (S ++ N ++ (bs [42] ++ bs (dec n) ++ bs [47] ++ bs (dec d)) = bs (vT (l.take (k + 1)))) := by
        have hw : ∀ S : List UInt8, bs S ++ bs (nameE p) ++ (bs [42] ++ bs (dec n) ++ bs [47] ++ bs (dec d)) = bs (S ++ wordOf (p, n, d)) := fun S => by simp only [bs_append, wordOf, List.append_assoc]
        refine ⟨if k = 0 then bs (vT (l.take k)) else bs (vT (l.take k) ++ [32]), bs (nameE p), ?_, ?_, ?_⟩
        · by_cases h : k = 0
          · exact .inl ⟨h, (if_pos h).symm⟩
          · exact .inr ⟨by omega, by rw [if_neg h, bs_append]⟩
        · by_cases h : p = 0
          · exact .inl ⟨h, by rw [nameE, if_pos h]⟩
          · exact .inr ⟨by omega, by rw [nameE, if_neg h]⟩
        · refine Lib.hid ?_
          by_cases h : k = 0
          · subst h
            rw [if_pos rfl, hw, vT_one l _ hx, vT_zero]
            rfl
          · rw [if_neg h, hw, vT_snoc l k _ hx (by omega)]
      obtain ⟨S, N, hS, hN, HE⟩ := HE
      generalize hT1 : vT (l.take (k + 1)) = T1 at *
      have HT1 := Lib.hid hT1
      clear hx hT1
      change Hid (∀ W, Calls Tryd.prog 38 #[.int .i64 n] W fun e w' => e = .returned (.string (bs (dec n))) ∧ Below W.heap.size W w') at C1
      change Hid (∀ W, Calls Tryd.prog 38 #[.int .i64 d] W fun e w' => e = .returned (.string (bs (dec d))) ∧ Below W.heap.size W w') at C2
      generalize bs (dec n) = D1 at *
      generalize bs (dec d) = D2 at *
      generalize bs (vT (l.take k)) = T at *
      generalize bs (nm p) = NN at *
      rcases hS with ⟨hk0, rfl⟩ | ⟨hk0, rfl⟩ <;> rcases hN with ⟨hp0, rfl⟩ | ⟨hp0, rfl⟩
      · have i3 : ¬ ((0 : Int) < (k : Int)) := by omega
        have HK := Lib.hid hk0
        clear hk0
        have i4 : ¬ ((0 : Int) < p) := by omega
        have HP := Lib.hid hp0
        clear hp0 sN
        have z1 : ¬ 9223372036854775807 < T.size + 1 := by omega
        have z2 : ¬ 9223372036854775807 < 1 + D1.size := by omega
        have z3 : ¬ 9223372036854775807 < 1 + D1.size + 1 := by omega
        have z4 : ¬ 9223372036854775807 < 1 + D1.size + 1 + D2.size := by omega
        have z5 : ¬ 9223372036854775807 < T.size + 1 + (1 + D1.size + 1 + D2.size) := by omega
        have hxc : ∀ j, (wr.alloc (.cells #[.int .i64 p, .int .i64 n, .int .i64 d] 42)).cell? ⟨wr.heap.size, j, none⟩ = #[Value.int .i64 p, .int .i64 n, .int .i64 d][j]? := fun j => World.cell?_alloc_new wr _ _ j
        have hbW : Below w.heap.size w (wr.alloc (.cells #[.int .i64 p, .int .i64 n, .int .i64 d] 42)) := hb.alloc hb.size _
        have hzW : wr.heap.size < (wr.alloc (.cells #[.int .i64 p, .int .i64 n, .int .i64 d] 42)).heap.size := by simp
        go_wp2_with fail
        generalize wr.alloc (.cells #[.int .i64 p, .int .i64 n, .int .i64 d] 42) = V at *
        generalize wr.heap.size = xb at *
        have x1 : V.cell? ⟨xb, 1, none⟩ = some (.int .i64 n) := hxc 1
        have x2 : V.cell? ⟨xb, 2, none⟩ = some (.int .i64 d) := hxc 2
        clear hxc h0 h1 h2
        have x1 := cell_regrown x1
        have x2 := cell_regrown x2
        have c1 : ∀ q os, Calls Tryd.prog 38 #[.int .i64 n] (grow (redrawn V q) os) fun e w'' => e = .returned (.string D1) ∧ ∃ q : Regrown, w'' = grow (redrawn V q.d) q.os := fun q os => Calls.regrown_of (C1.out _)
        have c2 : ∀ q os, Calls Tryd.prog 38 #[.int .i64 d] (grow (redrawn V q) os) fun e w'' => e = .returned (.string D2) ∧ ∃ q : Regrown, w'' = grow (redrawn V q.d) q.os := fun q os => Calls.regrown_of (C2.out _)
        refine wp_region_quiet_below (by kernel_rfl) (by kernel_rfl) ?_
        repeat (go_big_quiet_step (first | (go_at_call_of 38 n; exact (c1 _ _)) | (go_at_call_of 38 d; exact (c2 _ _))))
        refine wpQuiet_nil ?_
        intro _ hw'
        obtain ⟨q, hw''⟩ := hw'
        subst hw''
        go_wp2
        go_roundw
        case rel =>
          refine ⟨k + 1, by omega, by go_num, ?_, hbW.trans ((below_regrown V q.d q.os).mono hbW.size)⟩
          rw [HT1.out, ← HE.out]
          rfl
        case measure => simp [intOf]; omega
      · have i3 : ¬ ((0 : Int) < (k : Int)) := by omega
        have HK := Lib.hid hk0
        clear hk0
        have i4 : (0 : Int) < p := by omega
        have sN := sN (by omega)
        have z1 : ¬ 9223372036854775807 < T.size + NN.size := by omega
        have z2 : ¬ 9223372036854775807 < 1 + D1.size := by omega
        have z3 : ¬ 9223372036854775807 < 1 + D1.size + 1 := by omega
        have z4 : ¬ 9223372036854775807 < 1 + D1.size + 1 + D2.size := by omega
        have z5 : ¬ 9223372036854775807 < T.size + NN.size + (1 + D1.size + 1 + D2.size) := by omega
        have hxc : ∀ j, (wr.alloc (.cells #[.int .i64 p, .int .i64 n, .int .i64 d] 42)).cell? ⟨wr.heap.size, j, none⟩ = #[Value.int .i64 p, .int .i64 n, .int .i64 d][j]? := fun j => World.cell?_alloc_new wr _ _ j
        have hbW : Below w.heap.size w (wr.alloc (.cells #[.int .i64 p, .int .i64 n, .int .i64 d] 42)) := hb.alloc hb.size _
        have hzW : wr.heap.size < (wr.alloc (.cells #[.int .i64 p, .int .i64 n, .int .i64 d] 42)).heap.size := by simp
        go_wp2_with fail
        generalize wr.alloc (.cells #[.int .i64 p, .int .i64 n, .int .i64 d] 42) = V at *
        generalize wr.heap.size = xb at *
        have x1 : V.cell? ⟨xb, 1, none⟩ = some (.int .i64 n) := hxc 1
        have x2 : V.cell? ⟨xb, 2, none⟩ = some (.int .i64 d) := hxc 2
        clear hxc h0 h1 h2
        refine (CN.out _ (by omega)).mono ?_
        rintro e V2 ⟨rfl, hb2⟩
        have x1 := (hb2.cell (p := ⟨xb, 1, none⟩) hzW).trans x1
        have x2 := (hb2.cell (p := ⟨xb, 2, none⟩) hzW).trans x2
        have hbW := hbW.trans (hb2.mono hbW.size)
        clear hb2 hzW
        go_wp2_with fail
        have x1 := cell_regrown x1
        have x2 := cell_regrown x2
        have c1 : ∀ q os, Calls Tryd.prog 38 #[.int .i64 n] (grow (redrawn V2 q) os) fun e w'' => e = .returned (.string D1) ∧ ∃ q : Regrown, w'' = grow (redrawn V2 q.d) q.os := fun q os => Calls.regrown_of (C1.out _)
        have c2 : ∀ q os, Calls Tryd.prog 38 #[.int .i64 d] (grow (redrawn V2 q) os) fun e w'' => e = .returned (.string D2) ∧ ∃ q : Regrown, w'' = grow (redrawn V2 q.d) q.os := fun q os => Calls.regrown_of (C2.out _)
        refine wp_region_quiet_below (by kernel_rfl) (by kernel_rfl) ?_
        repeat (go_big_quiet_step (first | (go_at_call_of 38 n; exact (c1 _ _)) | (go_at_call_of 38 d; exact (c2 _ _))))
        refine wpQuiet_nil ?_
        intro _ hw'
        obtain ⟨q, hw''⟩ := hw'
        subst hw''
        go_wp2
        go_roundw
        case rel =>
          refine ⟨k + 1, by omega, by go_num, ?_, hbW.trans ((below_regrown V2 q.d q.os).mono hbW.size)⟩
          rw [HT1.out, ← HE.out]
          rfl
        case measure => simp [intOf]; omega
      · have i3 : (0 : Int) < (k : Int) := by omega
        have HK := Lib.hid hk0
        clear hk0
        have i4 : ¬ ((0 : Int) < p) := by omega
        have HP := Lib.hid hp0
        clear hp0 sN
        have z0 : ¬ 9223372036854775807 < T.size + 1 := by omega
        have z1 : ¬ 9223372036854775807 < T.size + 1 + 1 := by omega
        have z2 : ¬ 9223372036854775807 < 1 + D1.size := by omega
        have z3 : ¬ 9223372036854775807 < 1 + D1.size + 1 := by omega
        have z4 : ¬ 9223372036854775807 < 1 + D1.size + 1 + D2.size := by omega
        have z5 : ¬ 9223372036854775807 < T.size + 1 + 1 + (1 + D1.size + 1 + D2.size) := by omega
        have hxc : ∀ j, (wr.alloc (.cells #[.int .i64 p, .int .i64 n, .int .i64 d] 42)).cell? ⟨wr.heap.size, j, none⟩ = #[Value.int .i64 p, .int .i64 n, .int .i64 d][j]? := fun j => World.cell?_alloc_new wr _ _ j
        have hbW : Below w.heap.size w (wr.alloc (.cells #[.int .i64 p, .int .i64 n, .int .i64 d] 42)) := hb.alloc hb.size _
        have hzW : wr.heap.size < (wr.alloc (.cells #[.int .i64 p, .int .i64 n, .int .i64 d] 42)).heap.size := by simp
        go_wp2_with fail
        generalize wr.alloc (.cells #[.int .i64 p, .int .i64 n, .int .i64 d] 42) = V at *
        generalize wr.heap.size = xb at *
        have x1 : V.cell? ⟨xb, 1, none⟩ = some (.int .i64 n) := hxc 1
        have x2 : V.cell? ⟨xb, 2, none⟩ = some (.int .i64 d) := hxc 2
        clear hxc h0 h1 h2
        have x1 := cell_regrown x1
        have x2 := cell_regrown x2
        have c1 : ∀ q os, Calls Tryd.prog 38 #[.int .i64 n] (grow (redrawn V q) os) fun e w'' => e = .returned (.string D1) ∧ ∃ q : Regrown, w'' = grow (redrawn V q.d) q.os := fun q os => Calls.regrown_of (C1.out _)
        have c2 : ∀ q os, Calls Tryd.prog 38 #[.int .i64 d] (grow (redrawn V q) os) fun e w'' => e = .returned (.string D2) ∧ ∃ q : Regrown, w'' = grow (redrawn V q.d) q.os := fun q os => Calls.regrown_of (C2.out _)
        refine wp_region_quiet_below (by kernel_rfl) (by kernel_rfl) ?_
        repeat (go_big_quiet_step (first | (go_at_call_of 38 n; exact (c1 _ _)) | (go_at_call_of 38 d; exact (c2 _ _))))
        refine wpQuiet_nil ?_
        intro _ hw'
        obtain ⟨q, hw''⟩ := hw'
        subst hw''
        go_wp2
        go_roundw
        case rel =>
          refine ⟨k + 1, by omega, by go_num, ?_, hbW.trans ((below_regrown V q.d q.os).mono hbW.size)⟩
          rw [HT1.out, ← HE.out]
          rfl
        case measure => simp [intOf]; omega
      · have i3 : (0 : Int) < (k : Int) := by omega
        have HK := Lib.hid hk0
        clear hk0
        have i4 : (0 : Int) < p := by omega
        have sN := sN (by omega)
        have z0 : ¬ 9223372036854775807 < T.size + 1 := by omega
        have z1 : ¬ 9223372036854775807 < T.size + 1 + NN.size := by omega
        have z2 : ¬ 9223372036854775807 < 1 + D1.size := by omega
        have z3 : ¬ 9223372036854775807 < 1 + D1.size + 1 := by omega
        have z4 : ¬ 9223372036854775807 < 1 + D1.size + 1 + D2.size := by omega
        have z5 : ¬ 9223372036854775807 < T.size + 1 + NN.size + (1 + D1.size + 1 + D2.size) := by omega
        have hxc : ∀ j, (wr.alloc (.cells #[.int .i64 p, .int .i64 n, .int .i64 d] 42)).cell? ⟨wr.heap.size, j, none⟩ = #[Value.int .i64 p, .int .i64 n, .int .i64 d][j]? := fun j => World.cell?_alloc_new wr _ _ j
        have hbW : Below w.heap.size w (wr.alloc (.cells #[.int .i64 p, .int .i64 n, .int .i64 d] 42)) := hb.alloc hb.size _
        have hzW : wr.heap.size < (wr.alloc (.cells #[.int .i64 p, .int .i64 n, .int .i64 d] 42)).heap.size := by simp
        go_wp2_with fail
        generalize wr.alloc (.cells #[.int .i64 p, .int .i64 n, .int .i64 d] 42) = V at *
        generalize wr.heap.size = xb at *
        have x1 : V.cell? ⟨xb, 1, none⟩ = some (.int .i64 n) := hxc 1
        have x2 : V.cell? ⟨xb, 2, none⟩ = some (.int .i64 d) := hxc 2
        clear hxc h0 h1 h2
        refine (CN.out _ (by omega)).mono ?_
        rintro e V2 ⟨rfl, hb2⟩
        have x1 := (hb2.cell (p := ⟨xb, 1, none⟩) hzW).trans x1
        have x2 := (hb2.cell (p := ⟨xb, 2, none⟩) hzW).trans x2
        have hbW := hbW.trans (hb2.mono hbW.size)
        clear hb2 hzW
        go_wp2_with fail
        have x1 := cell_regrown x1
        have x2 := cell_regrown x2
        have c1 : ∀ q os, Calls Tryd.prog 38 #[.int .i64 n] (grow (redrawn V2 q) os) fun e w'' => e = .returned (.string D1) ∧ ∃ q : Regrown, w'' = grow (redrawn V2 q.d) q.os := fun q os => Calls.regrown_of (C1.out _)
        have c2 : ∀ q os, Calls Tryd.prog 38 #[.int .i64 d] (grow (redrawn V2 q) os) fun e w'' => e = .returned (.string D2) ∧ ∃ q : Regrown, w'' = grow (redrawn V2 q.d) q.os := fun q os => Calls.regrown_of (C2.out _)
        refine wp_region_quiet_below (by kernel_rfl) (by kernel_rfl) ?_
        repeat (go_big_quiet_step (first | (go_at_call_of 38 n; exact (c1 _ _)) | (go_at_call_of 38 d; exact (c2 _ _))))
        refine wpQuiet_nil ?_
        intro _ hw'
        obtain ⟨q, hw''⟩ := hw'
        subst hw''
        go_wp2
        go_roundw
        case rel =>
          refine ⟨k + 1, by omega, by go_num, ?_, hbW.trans ((below_regrown V2 q.d q.os).mono hbW.size)⟩
          rw [HT1.out, ← HE.out]
          rfl
        case measure => simp [intOf]; omega
    · obtain rfl : k = l.length := by omega
      go_wp2
      go_ret
      refine ⟨?_, hb⟩
      simp only [List.take_length]
      rfl
end Go.Proofs.YtfjcnomingbneabDoor
