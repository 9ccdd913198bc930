/- The text of a sheet: the model's function. -/
import Derived.Test.YtfjcnomingbneaaDoorNum3
import Derived.Test.YtfjcnomingbneaaDoorNtGood
import Derived.LoopTactic
import Derived.Lib.QuietBelow
namespace Go.Proofs.YtfjcnomingbneaaDoor
open Go.RowKit Go.Sort
set_option linter.unusedVariables false
set_option linter.unusedSimpArgs false

def bs (l : List UInt8) : ByteArray := ⟨l.toArray⟩
theorem bs_append (a b : List UInt8) : bs a ++ bs b = bs (a ++ b) := bytes_append a b
theorem bs_size (a : List UInt8) : (bs a).size = a.length := by simp [bs, ByteArray.size]
def dec (z : Int) : List UInt8 := Lib.decDigits z.toNat
def lineOf (x : Nt) : List UInt8 := dec x.1 ++ [32] ++ dec x.2.1 ++ [32] ++ dec x.2.2 ++ [10]
def textOf (l : List Nt) : List UInt8 := l.flatMap lineOf
theorem textOf_snoc (l : List Nt) (k : Nat) (x : Nt) (h : l[k]? = some x) : textOf (l.take (k + 1)) = textOf (l.take k) ++ lineOf x := by
  rw [List.take_add_one, h]
  simp [textOf, List.flatMap_append]
theorem decDigits_len4 (n : Nat) (h : n < 10000) : (Lib.decDigits n).length ≤ 4 := by
  by_cases h1 : n < 10
  · rw [decDigits_small h1]; simp
  · rw [decDigits_big h1]
    have := decDigits_len3 (n / 10) (by omega)
    simp
    omega
theorem dec_len (z : Int) (h : z ≤ 2000) : (dec z).length ≤ 4 := decDigits_len4 _ (by omega)
theorem lineOf_len (x : Nt) (h : noteN x = true) : (lineOf x).length ≤ 15 := by
  have hv := (noteN_iff x).1 h
  have h1 := dec_len x.1 (by omega)
  have h2 := dec_len x.2.1 (by omega)
  have h3 := dec_len x.2.2 (by omega)
  simp only [lineOf, List.length_append, List.length_cons, List.length_nil]
  omega
theorem textOf_len (l : List Nt) (hg : Good l) : ∀ k, k ≤ l.length → (textOf (l.take k)).length ≤ 15 * k := by
  intro k
  induction k with
  | zero => intro _; simp [textOf]
  | succ k ih =>
    intro hk
    have hx : l[k]? = some l[k] := List.getElem?_eq_getElem (by omega)
    have := lineOf_len _ (hg.1 k _ (by omega) hx).1
    have := ih (by omega)
    rw [textOf_snoc l k _ hx, List.length_append]
    omega
theorem l1Num_4 (p : Int) (w : World) (h0 : 0 ≤ p) (h9 : p ≤ 2000) :
    Calls Tryd.prog 27 #[.int .i64 p] w fun e w' => e = .returned (.string (bs (dec p))) ∧ Below w.heap.size w w' := by
  by_cases h : p ≤ 999
  · exact l1Num_n p w h0 h
  · obtain ⟨n, rfl⟩ := Int.eq_ofNat_of_zero_le h0
    have := l1Num_qr (n : Int) (n / 10) (n % 10) w (by omega) (by omega) (by omega) (by omega) (Lib.hid fun w => by have := l1Num_n ((n / 10 : Nat) : Int) w (by omega) (by omega); rwa [Int.toNat_natCast] at this)
    rw [← decDigits_qr (n / 10) (n % 10) (by omega) (by omega), Nat.div_add_mod] at this
    unfold dec
    rw [Int.toNat_natCast]
    exact this

set_option maxRecDepth 100000 in
set_option maxHeartbeats 2000000 in
theorem shText_any (A : Option Addr) (l : List Nt) (c : Nat) (w : World) (hA : RA w A l) (hg : Good l) :
    Calls Tryd.prog 15 #[.slice A l.length c] w fun e w' => e = .returned (.string (bs (textOf l))) ∧ Below w.heap.size w w' := by
  have h60 := hg.2
  go_enter Tryd.func15, Tryd.ntmps15
  go_wp2
  go_loopw [3, 8] (fun s i wr => ∃ k : Nat, k ≤ l.length ∧ i = .int .i64 k ∧ s = .string (bs (textOf (l.take k))) ∧ Below w.heap.size w wr)
    (fun _ i _ => l.length - (intOf i).toNat)
  case atStart => exact ⟨0, Nat.zero_le _, rfl, rfl, Below.refl _ _⟩
  case round =>
    obtain ⟨k, hk, rfl, rfl, hb⟩ := hrel
    by_cases hlt : k < l.length
    · have hx : l[k]? = some l[k] := List.getElem?_eq_getElem hlt
      generalize l[k] = x at hx
      have hs := textOf_snoc l k x hx
      have hv := (noteN_iff x).1 (hg.1 k x hlt hx).1
      obtain ⟨p, s, n⟩ := x
      simp only at hs hv
      obtain ⟨g, o, rfl, hgb, h0, h1, h2⟩ := (hA.below hb) k _ hx
      simp only at h0 h1 h2
      have i1 : (0 : Int) ≤ (k : Int) := by omega
      have i2 : (k : Int) < (l.length : Int) := by omega
      have HS := Lib.hid hs
      clear hs hx
      have CN := Lib.hid (fun W => l1Num_4 p W (by omega) (by omega))
      have C1 := Lib.hid (fun W => l1Num_4 s W (by omega) (by omega))
      have C2 := Lib.hid (fun W => l1Num_4 n W (by omega) (by omega))
      have sN : (bs (dec p)).size ≤ 4 := by rw [bs_size]; exact dec_len p (by omega)
      have s1 : (bs (dec s)).size ≤ 4 := by rw [bs_size]; exact dec_len s (by omega)
      have s2 : (bs (dec n)).size ≤ 4 := by rw [bs_size]; exact dec_len n (by omega)
      have sT : (bs (textOf (l.take k))).size ≤ 1000 := by rw [bs_size]; have := textOf_len l hg k hk; omega
      have HE := Lib.hid (show bs (textOf (l.take k)) ++ (bs (dec p) ++ bs [32] ++ bs (dec s) ++ bs [32] ++ bs (dec n) ++ bs [10]) = bs (textOf (l.take (k + 1))) by rw [HS.out]; simp only [bs_append, lineOf])
      generalize bs (dec p) = N at *
      generalize bs (dec s) = D1 at *
      generalize bs (dec n) = D2 at *
      generalize bs (textOf (l.take k)) = T at *
      have z1 : ¬ 9223372036854775807 < N.size + 1 := by omega
      have z2 : ¬ 9223372036854775807 < N.size + 1 + D1.size := by omega
      have z3 : ¬ 9223372036854775807 < N.size + 1 + D1.size + 1 := by omega
      have z4 : ¬ 9223372036854775807 < N.size + 1 + D1.size + 1 + D2.size := by omega
      have z5 : ¬ 9223372036854775807 < N.size + 1 + D1.size + 1 + D2.size + 1 := by omega
      have z6 : ¬ 9223372036854775807 < T.size + (N.size + 1 + D1.size + 1 + D2.size + 1) := by omega
      go_wp2_with fail
      have hxc : ∀ j, (wr.alloc (.cells #[.int .i64 p, .int .i64 s, .int .i64 n] 37)).cell? ⟨wr.heap.size, j, none⟩ = #[Value.int .i64 p, .int .i64 s, .int .i64 n][j]? := fun j => World.cell?_alloc_new wr _ _ j
      have hbW : Below w.heap.size w (wr.alloc (.cells #[.int .i64 p, .int .i64 s, .int .i64 n] 37)) := hb.alloc hb.size _
      have hzW : wr.heap.size < (wr.alloc (.cells #[.int .i64 p, .int .i64 s, .int .i64 n] 37)).heap.size := by simp
      generalize wr.alloc (.cells #[.int .i64 p, .int .i64 s, .int .i64 n] 37) = V at *
      generalize wr.heap.size = xb at *
      have x0 : V.cell? ⟨xb, 0, none⟩ = some (.int .i64 p) := hxc 0
      have x1 : V.cell? ⟨xb, 1, none⟩ = some (.int .i64 s) := hxc 1
      have x2 : V.cell? ⟨xb, 2, none⟩ = some (.int .i64 n) := hxc 2
      clear hxc h0 h1 h2
      have x0 := cell_regrown x0
      have x1 := cell_regrown x1
      have x2 := cell_regrown x2
      have cN : ∀ d os, Calls Tryd.prog 27 #[.int .i64 p] (grow (redrawn V d) os) fun e w'' => e = .returned (.string N) ∧ ∃ q : Regrown, w'' = grow (redrawn V q.d) q.os := fun d os => Calls.regrown_of (CN.out _)
      have c1 : ∀ d os, Calls Tryd.prog 27 #[.int .i64 s] (grow (redrawn V d) os) fun e w'' => e = .returned (.string D1) ∧ ∃ q : Regrown, w'' = grow (redrawn V q.d) q.os := fun d os => Calls.regrown_of (C1.out _)
      have c2 : ∀ d os, Calls Tryd.prog 27 #[.int .i64 n] (grow (redrawn V d) os) fun e w'' => e = .returned (.string D2) ∧ ∃ q : Regrown, w'' = grow (redrawn V q.d) q.os := fun d os => Calls.regrown_of (C2.out _)
      refine wp_region_quiet_below (by kernel_rfl) (by kernel_rfl) ?_
      repeat (go_big_quiet_step (first | (go_at_call_of 27 p; exact (cN _ _)) | (go_at_call_of 27 s; exact (c1 _ _)) | (go_at_call_of 27 n; exact (c2 _ _))))
      refine wpQuiet_nil ?_
      intro _ hw'
      obtain ⟨q, hw''⟩ := hw'
      subst hw''
      go_wp2
      go_roundw
      case rel =>
        refine ⟨k + 1, by omega, by go_num, ?_, hbW.trans ((below_regrown V q.d q.os).mono hbW.size)⟩
        rw [← HE.out]
        rfl
      case measure => simp [intOf]; omega
    · obtain rfl : k = l.length := by omega
      go_wp2
      go_ret
      refine ⟨?_, hb⟩
      simp only [List.take_length]
      rfl

def textR (l : List Nt) : Array Value := if goodB l = true then #[.string (bs (textOf l)), .bool true] else #[.string ⟨#[]⟩, .bool false]
set_option maxRecDepth 100000 in
set_option maxHeartbeats 1000000 in
theorem specText_any (A : Option Addr) (l : List Nt) (c : Nat) (w : World) (hn : l.length ≤ 1048576) (hc : l.length ≤ c) (hc' : c ≤ 9223372036854775807) (hA : RA w A l) :
    Calls Tryd.prog 6 #[.slice A l.length c] w fun e w' => e = .returned (.tuple (textR l)) ∧ Below w.heap.size w w' := by
  cases hgb : goodB l with
  | false =>
    rw [show textR l = #[.string ⟨#[]⟩, .bool false] from by simp [textR, hgb]]
    go_enter Tryd.func6, Tryd.ntmps6
    go_wp2_with fail
    refine (ntGood_any _ _ _ _ hn hc hc' hA).mono ?_
    rintro e w1 ⟨rfl, hb1⟩
    go_wp2
    go_ret2
    exact ⟨rfl, hb1⟩
  | true =>
    have hg := (goodB_iff l).1 hgb
    rw [show textR l = #[.string (bs (textOf l)), .bool true] from by simp [textR, hgb]]
    go_enter Tryd.func6, Tryd.ntmps6
    go_wp2_with fail
    refine (ntGood_any _ _ _ _ hn hc hc' hA).mono ?_
    rintro e w1 ⟨rfl, hb1⟩
    go_wp2_with (go_at_call 15; refine (shText_any _ _ _ _ (hA.below hb1) hg).mono ?_; rintro e w2 ⟨rfl, hb2⟩)
    go_ret2
    exact ⟨rfl, hb1.trans (hb2.mono hb1.size)⟩
end Go.Proofs.YtfjcnomingbneaaDoor
