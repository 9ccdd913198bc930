/- The text of a score: the model's function. -/
import Derived.Test.YtfjcnomingbneabDoorNum3
import Derived.Test.YtfjcnomingbneabDoorName
import Derived.Test.YtfjcnomingbneabDoorNtGood
import Derived.LoopTactic
import Derived.Lib.QuietBelow
namespace Go.Proofs.YtfjcnomingbneabDoor
open Go.RowKit Go.Sort
set_option linter.unusedVariables false
set_option linter.unusedSimpArgs false

def bs (l : List UInt8) : ByteArray := ⟨l.toArray⟩
theorem bs_append (a b : List UInt8) : bs a ++ bs b = bs (a ++ b) := bytes_append a b
theorem bs_size (a : List UInt8) : (bs a).size = a.length := by simp [bs, ByteArray.size]
def nm (p : Int) : List UInt8 := nameOf (p % 12).toNat ++ Lib.decDigits (p / 12).toNat
def dec (z : Int) : List UInt8 := Lib.decDigits z.toNat
def lineOf (x : Nt) : List UInt8 := nm x.1 ++ [32] ++ dec x.2.1 ++ [32] ++ dec x.2.2 ++ [10]
def textOf (l : List Nt) : List UInt8 := l.flatMap lineOf
theorem textOf_snoc (l : List Nt) (k : Nat) (x : Nt) (h : l[k]? = some x) : textOf (l.take (k + 1)) = textOf (l.take k) ++ lineOf x := by
  rw [List.take_add_one, h]
  simp [textOf, List.flatMap_append]
theorem nm_len (p : Int) (h : 24 ≤ p) (h' : p ≤ 96) : (nm p).length ≤ 3 := by
  have h1 := nameOf_len (p % 12).toNat
  have h2 : (p / 12).toNat < 10 := by omega
  simp only [nm, List.length_append]
  rw [decDigits_small h2]
  simp; omega
theorem dec_len (z : Int) (h : z ≤ 999) : (dec z).length ≤ 3 := decDigits_len3 _ (by omega)
theorem lineOf_len (x : Nt) (h : noteN x = true) : (lineOf x).length ≤ 12 := by
  have hv := (noteN_iff x).1 h
  have h1 := nm_len x.1 (by omega) (by omega)
  have h2 := dec_len x.2.1 (by omega)
  have h3 := dec_len x.2.2 (by omega)
  simp only [lineOf, List.length_append, List.length_cons, List.length_nil]
  omega
theorem textOf_len (l : List Nt) (hg : Good l) : ∀ k, k ≤ l.length → (textOf (l.take k)).length ≤ 12 * k := by
  intro k
  induction k with
  | zero => intro _; simp [textOf]
  | succ k ih =>
    intro hk
    have hx : l[k]? = some l[k] := List.getElem?_eq_getElem (by omega)
    have := lineOf_len _ (hg.1 k _ (by omega) hx).1
    have := ih (by omega)
    rw [textOf_snoc l k _ hx, List.length_append]
    omega
theorem ntName_n (p : Int) (w : World) (h : 24 ≤ p) (h' : p ≤ 96) :
    Calls Tryd.prog 37 #[.int .i64 p] w fun e w' => e = .returned (.string (bs (nm p))) ∧ Below w.heap.size w w' :=
  ntName_qr p (p / 12).toNat (p % 12).toNat w (by omega) (by omega) (by omega)

set_option maxRecDepth 100000 in
set_option maxHeartbeats 1000000 in
theorem ntText_any (A : Option Addr) (l : List Nt) (c : Nat) (w : World) (hA : RA w A l) (hg : Good l) :
    Calls Tryd.prog 31 #[.slice A l.length c] w fun e w' => e = .returned (.string (bs (textOf l))) ∧ Below w.heap.size w w' := by
  have h30 := hg.2
  go_enter Tryd.func31, Tryd.ntmps31
  go_wp2
  go_loopw [3, 8] (fun s i wr => ∃ k : Nat, k ≤ l.length ∧ i = .int .i64 k ∧ s = .string (bs (textOf (l.take k))) ∧ Below w.heap.size w wr)
    (fun _ i _ => l.length - (intOf i).toNat)
  case atStart => exact ⟨0, Nat.zero_le _, rfl, rfl, Below.refl _ _⟩
  case round =>
    obtain ⟨k, hk, rfl, rfl, hb⟩ := hrel
    by_cases hlt : k < l.length
    · have hx : l[k]? = some l[k] := List.getElem?_eq_getElem hlt
      generalize l[k] = x at hx
      have hs := textOf_snoc l k x hx
      have hv := (noteN_iff x).1 (hg.1 k x hlt hx).1
      obtain ⟨p, s, n⟩ := x
      simp only at hs hv
      obtain ⟨g, o, rfl, hgb, h0, h1, h2⟩ := (hA.below hb) k _ hx
      simp only at h0 h1 h2
      have i1 : (0 : Int) ≤ (k : Int) := by omega
      have i2 : (k : Int) < (l.length : Int) := by omega
      have HS := Lib.hid hs
      clear hs hx
      have CN := Lib.hid (fun W => ntName_n p W (by omega) (by omega))
      have C1 := Lib.hid (fun W => l1Num_n s W (by omega) (by omega))
      have C2 := Lib.hid (fun W => l1Num_n n W (by omega) (by omega))
      have sN : (bs (nm p)).size ≤ 3 := by rw [bs_size]; exact nm_len p (by omega) (by omega)
      have s1 : (bs (dec s)).size ≤ 3 := by rw [bs_size]; exact dec_len s (by omega)
      have s2 : (bs (dec n)).size ≤ 3 := by rw [bs_size]; exact dec_len n (by omega)
      have sT : (bs (textOf (l.take k))).size ≤ 400 := by rw [bs_size]; have := textOf_len l hg k hk; omega
      have HE := Lib.hid (show bs (textOf (l.take k)) ++ (bs (nm p) ++ bs [32] ++ bs (dec s) ++ bs [32] ++ bs (dec n) ++ bs [10]) = bs (textOf (l.take (k + 1))) by rw [HS.out]; simp only [bs_append, lineOf])
      change Hid (∀ W, Calls Tryd.prog 38 #[.int .i64 s] W fun e w' => e = .returned (.string (bs (dec s))) ∧ Below W.heap.size W w') at C1
      change Hid (∀ W, Calls Tryd.prog 38 #[.int .i64 n] W fun e w' => e = .returned (.string (bs (dec n))) ∧ Below W.heap.size W w') at C2
      generalize bs (nm p) = N at *
      generalize bs (dec s) = D1 at *
      generalize bs (dec n) = D2 at *
      generalize bs (textOf (l.take k)) = T at *
      have z1 : ¬ 9223372036854775807 < N.size + 1 := by omega
      have z2 : ¬ 9223372036854775807 < N.size + 1 + D1.size := by omega
      have z3 : ¬ 9223372036854775807 < N.size + 1 + D1.size + 1 := by omega
      have z4 : ¬ 9223372036854775807 < N.size + 1 + D1.size + 1 + D2.size := by omega
      have z5 : ¬ 9223372036854775807 < N.size + 1 + D1.size + 1 + D2.size + 1 := by omega
      have z6 : ¬ 9223372036854775807 < T.size + (N.size + 1 + D1.size + 1 + D2.size + 1) := by omega
      go_wp2_with fail
      have hxc : ∀ j, (wr.alloc (.cells #[.int .i64 p, .int .i64 s, .int .i64 n] 35)).cell? ⟨wr.heap.size, j, none⟩ = #[Value.int .i64 p, .int .i64 s, .int .i64 n][j]? := fun j => World.cell?_alloc_new wr _ _ j
      have hbW : Below w.heap.size w (wr.alloc (.cells #[.int .i64 p, .int .i64 s, .int .i64 n] 35)) := hb.alloc hb.size _
      have hzW : wr.heap.size < (wr.alloc (.cells #[.int .i64 p, .int .i64 s, .int .i64 n] 35)).heap.size := by simp
      generalize wr.alloc (.cells #[.int .i64 p, .int .i64 s, .int .i64 n] 35) = V at *
      generalize wr.heap.size = xb at *
      have x0 : V.cell? ⟨xb, 0, none⟩ = some (.int .i64 p) := hxc 0
      have x1 : V.cell? ⟨xb, 1, none⟩ = some (.int .i64 s) := hxc 1
      have x2 : V.cell? ⟨xb, 2, none⟩ = some (.int .i64 n) := hxc 2
      clear hxc h0 h1 h2
      have x0 := cell_regrown x0
      have x1 := cell_regrown x1
      have x2 := cell_regrown x2
      have cN : ∀ d os, Calls Tryd.prog 37 #[.int .i64 p] (grow (redrawn V d) os) fun e w'' => e = .returned (.string N) ∧ ∃ q : Regrown, w'' = grow (redrawn V q.d) q.os := fun d os => Calls.regrown_of (CN.out _)
      have c1 : ∀ d os, Calls Tryd.prog 38 #[.int .i64 s] (grow (redrawn V d) os) fun e w'' => e = .returned (.string D1) ∧ ∃ q : Regrown, w'' = grow (redrawn V q.d) q.os := fun d os => Calls.regrown_of (C1.out _)
      have c2 : ∀ d os, Calls Tryd.prog 38 #[.int .i64 n] (grow (redrawn V d) os) fun e w'' => e = .returned (.string D2) ∧ ∃ q : Regrown, w'' = grow (redrawn V q.d) q.os := fun d os => Calls.regrown_of (C2.out _)
      refine wp_region_quiet_below (by kernel_rfl) (by kernel_rfl) ?_
      repeat (go_big_quiet_step (first | (go_at_call 37; exact (cN _ _)) | (go_at_call_of 38 s; exact (c1 _ _)) | (go_at_call_of 38 n; exact (c2 _ _))))
      refine wpQuiet_nil ?_
      intro _ hw'
      obtain ⟨q, hw''⟩ := hw'
      subst hw''
      go_wp2
      go_roundw
      case rel =>
        refine ⟨k + 1, by omega, by go_num, ?_, hbW.trans ((below_regrown V q.d q.os).mono hbW.size)⟩
        rw [← HE.out]
        rfl
      case measure => simp [intOf]; omega
    · obtain rfl : k = l.length := by omega
      go_wp2
      go_ret
      refine ⟨?_, hb⟩
      simp only [List.take_length]
      rfl

def textR (l : List Nt) : Array Value := if goodB l = true then #[.string (bs (textOf l)), .bool true] else #[.string ⟨#[]⟩, .bool false]
end Go.Proofs.YtfjcnomingbneabDoor
