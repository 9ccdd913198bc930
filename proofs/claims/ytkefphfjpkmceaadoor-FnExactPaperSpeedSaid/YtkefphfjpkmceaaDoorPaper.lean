/- Contracts: PaperSpeed of the model and of the program; the variable factors is read, what it holds does not matter. -/
import Derived.Test.YtkefphfjpkmceaaDoorTimes2
import Derived.Test.YtkefphfjpkmceaaDoorGcd
namespace Go.Proofs.YtkefphfjpkmceaaDoor
open Go.RowKit Go.Sort
set_option linter.unusedVariables false
set_option linter.unusedSimpArgs false

theorem lowest_int (x y : Int) (a b G : Nat) (w : World) (hx : x = a) (hy : y = b) (hG : Nat.gcd a b = G) (ha : a ≤ 1000000000) (hb : b ≤ 1000000000) (hb0 : 0 < b) :
    Calls Tryd.prog 17 #[.int .i64 x, .int .i64 y] w fun e w' => e = .returned (.tuple #[.int .i64 (x / (G : Int)), .int .i64 (y / (G : Int))]) ∧ Below w.heap.size w w' := by
  subst hx; subst hy; exact lowest_any a b G w hG ha hb hb0
theorem tePart_int (x y : Int) (a b G : Nat) (w : World) (hx : x = a) (hy : y = b) (hG : Nat.gcd a b = G) (ha : a ≤ 1000000000) (hb : b ≤ 1000000000) (hb0 : 0 < b) :
    Calls Tryd.prog 12 #[.int .i64 x, .int .i64 y] w fun e w' => e = .returned (.tuple #[.int .i64 (x / (G : Int)), .int .i64 (y / (G : Int))]) ∧ Below w.heap.size w w' := by
  subst hx; subst hy; exact tePart_any a b G w hG ha hb hb0
theorem quick4 {f : Nat} {A : Option Addr} {l : List Nt2} {c : Nat} {b : Bool} (h : goodT l = b) (hc : ∀ w : World, RA2 w A l → Calls Tryd.prog f #[.slice A l.length c] w fun e w' => e = .returned (.bool (goodT l)) ∧ Below w.heap.size w w') :
    Hid (∀ w : World, RA2 w A l → Calls Tryd.prog f #[.slice A l.length c] w fun e w' => e = .returned (.bool b) ∧ Below w.heap.size w w') := by
  subst h; exact Lib.hid hc

/-- The speed's two numbers. -/
def spdG (d n : Int) : Nat := Nat.gcd (d * 1000000).toNat n.toNat
def spdA (d n : Int) : Int := d * 1000000 / (spdG d n : Int)
def spdB (d n : Int) : Int := n / (spdG d n : Int)

set_option maxRecDepth 100000 in
set_option maxHeartbeats 1000000 in
theorem implPaper_no (A : Nat) (l : List Nt2) (c : Nat) (s d : Int) (w : World) (hn : l.length ≤ 1048576) (hA : RA2 w (some ⟨A, 0, none⟩) l) (hbad : ((goodT l && inR s 0 2000) && inR d 1 100) = false) :
    Calls Tryd.prog 7 #[.slice (some ⟨A, 0, none⟩) l.length c, .int .i64 s, .int .i64 d] w fun e w' => e = .returned (.tuple #[.int .i64 0, .int .i64 0, .bool false]) ∧ Below w.heap.size w w' := by
  cases hgi : (goodT l && inR s 0 2000) with
  | false =>
    have HC := Lib.hid (implTempoAt_no A l c s w hn hA hgi)
    clear hgi hbad
    go_enter Tryd.func7, Tryd.ntmps7
    go_wp2_with fail
    refine HC.out.mono ?_
    rintro e w1 ⟨rfl, hb1⟩
    go_wp2
    exact bodyPost_ret (v := .tuple #[.int .i64 0, .int .i64 0, .bool false]) (by simp [results, Tryd.results7, go_sem]) rfl ⟨rfl, hb1⟩
  | true =>
    have hd : inR d 1 100 = false := by rw [hgi] at hbad; simpa using hbad
    obtain ⟨hg, hi⟩ := Bool.and_eq_true_iff.1 hgi
    have HC := Lib.hid (implTempoAt_yes A l c s w hn hA hg hi)
    clear hgi hbad hg hi
    go_enter Tryd.func7, Tryd.ntmps7
    go_wp2_with fail
    refine HC.out.mono ?_
    rintro e w1 ⟨rfl, hb1⟩
    go_wp2_with (go_at_call 16; refine (inRange_any _ _ _ _).mono ?_; rintro e w2 ⟨rfl, rfl⟩)
    exact bodyPost_ret (v := .tuple #[.int .i64 0, .int .i64 0, .bool false]) (by simp [results, Tryd.results7, go_sem]) rfl ⟨rfl, hb1⟩

set_option maxRecDepth 100000 in
set_option maxHeartbeats 1000000 in
theorem implPaper_yes (A : Nat) (l : List Nt2) (c : Nat) (s d : Int) (w : World) (hn : l.length ≤ 1048576) (hA : RA2 w (some ⟨A, 0, none⟩) l) (hg : goodT l = true) (hi : inR s 0 2000 = true) (hd : inR d 1 100 = true) (fv : Value) (hz : 0 < w.heap.size) (hF : w.cell? ⟨0, 6, none⟩ = some fv) :
    Calls Tryd.prog 7 #[.slice (some ⟨A, 0, none⟩) l.length c, .int .i64 s, .int .i64 d] w fun e w' => e = .returned (.tuple #[.int .i64 (spdA d (lst l (atT l s))), .int .i64 (spdB d (lst l (atT l s))), .bool true]) ∧ Below w.heap.size w w' := by
  have ht := goodT.tmp hg
  have hlb := ht.last (atT l s) (atT_lt ht.pos s)
  obtain ⟨d1, d2⟩ := inR_iff.1 hd
  have HC := Lib.hid (implTempoAt_yes A l c s w hn hA hg hi)
  generalize lst l (atT l s) = n at *
  obtain ⟨n1, n2⟩ := hlb
  clear hg hi ht
  have m1 : (0 : Int) ≤ d * 1000000 := by omega
  have m2 : d * 1000000 ≤ 100000000 := by omega
  go_enter Tryd.func7, Tryd.ntmps7
  go_wp2_with fail
  refine HC.out.mono ?_
  rintro e w1 ⟨rfl, hb1⟩
  have hF1 : w1.cell? ⟨0, 6, none⟩ = some fv := (hb1.cell (p := ⟨0, 6, none⟩) hz).trans hF
  go_wp2_with (first
    | (go_at_call 16; refine (inRange_any _ _ _ _).mono ?_; rintro e w2 ⟨rfl, rfl⟩)
    | (go_at_call 17; refine (lowest_int _ _ (d * 1000000).toNat n.toNat _ _ (by omega) (by omega) rfl (by omega) (by omega) (by omega)).mono ?_; rintro e w3 ⟨rfl, hb3⟩))
  exact bodyPost_ret (v := .tuple #[.int .i64 (spdA d n), .int .i64 (spdB d n), .bool true]) (by simp [results, Tryd.results7, go_sem, spdA, spdB, spdG]) rfl ⟨rfl, hb1.trans (hb3.mono hb1.size)⟩

set_option maxRecDepth 100000 in
set_option maxHeartbeats 1000000 in
theorem specPaper_no (A : Nat) (l : List Nt2) (c : Nat) (s d : Int) (w : World) (hn : l.length ≤ 1048576) (hA : RA2 w (some ⟨A, 0, none⟩) l) (hbad : ((goodT l && inR s 0 2000) && inR d 1 100) = false) :
    Calls Tryd.prog 5 #[.slice (some ⟨A, 0, none⟩) l.length c, .int .i64 s, .int .i64 d] w fun e w' => e = .returned (.tuple #[.int .i64 0, .int .i64 0, .bool false]) ∧ Below w.heap.size w w' := by
  cases hg : goodT l with
  | false =>
    have HG := quick4 (c := c) (A := some ⟨A, 0, none⟩) hg (fun w hA => teGood_any _ l c w hn hA)
    clear hg hbad
    go_enter Tryd.func5, Tryd.ntmps5
    go_wp2_with (go_at_call 9; refine (HG.out _ hA).mono ?_; rintro e w1 ⟨rfl, hb1⟩)
    exact bodyPost_ret (v := .tuple #[.int .i64 0, .int .i64 0, .bool false]) (by simp [results, Tryd.results5, go_sem]) rfl ⟨rfl, hb1⟩
  | true =>
    have HG := quick4 (c := c) (A := some ⟨A, 0, none⟩) hg (fun w hA => teGood_any _ l c w hn hA)
    rw [hg, Bool.true_and] at hbad
    clear hg
    cases hi : inR s 0 2000 with
    | false =>
      clear hbad
      go_enter Tryd.func5, Tryd.ntmps5
      go_wp2_with (first
        | (go_at_call 9; refine (HG.out _ hA).mono ?_; rintro e w1 ⟨rfl, hb1⟩)
        | (go_at_call 10; refine (teStep_any _ _).mono ?_; rintro e w2 ⟨rfl, rfl⟩))
      exact bodyPost_ret (v := .tuple #[.int .i64 0, .int .i64 0, .bool false]) (by simp [results, Tryd.results5, go_sem]) rfl ⟨rfl, hb1⟩
    | true =>
      have hd : inR d 1 100 = false := by rw [hi] at hbad; simpa using hbad
      clear hbad
      go_enter Tryd.func5, Tryd.ntmps5
      go_wp2_with (first
        | (go_at_call 9; refine (HG.out _ hA).mono ?_; rintro e w1 ⟨rfl, hb1⟩)
        | (go_at_call 10; refine (teStep_any _ _).mono ?_; rintro e w2 ⟨rfl, rfl⟩)
        | (go_at_call 11; refine (l1In_any _ _ _ _).mono ?_; rintro e w2 ⟨rfl, rfl⟩))
      exact bodyPost_ret (v := .tuple #[.int .i64 0, .int .i64 0, .bool false]) (by simp [results, Tryd.results5, go_sem]) rfl ⟨rfl, hb1⟩

set_option maxRecDepth 100000 in
set_option maxHeartbeats 1000000 in
theorem specPaper_yes (A : Nat) (l : List Nt2) (c : Nat) (s d : Int) (w : World) (hn : l.length ≤ 1048576) (hA : RA2 w (some ⟨A, 0, none⟩) l) (hg : goodT l = true) (hi : inR s 0 2000 = true) (hd : inR d 1 100 = true) :
    Calls Tryd.prog 5 #[.slice (some ⟨A, 0, none⟩) l.length c, .int .i64 s, .int .i64 d] w fun e w' => e = .returned (.tuple #[.int .i64 (spdA d (lst l (atT l s))), .int .i64 (spdB d (lst l (atT l s))), .bool true]) ∧ Below w.heap.size w w' := by
  have ht := goodT.tmp hg
  obtain ⟨h0, h1⟩ := inR_iff.1 hi
  obtain ⟨d1, d2⟩ := inR_iff.1 hd
  have hj := atT_lt ht.pos s
  have hlb := ht.last (atT l s) hj
  have HG := quick4 (c := c) (A := some ⟨A, 0, none⟩) hg (fun w hA => teGood_any _ l c w hn hA)
  have HC := Lib.hid fun (w : World) (hA : RA2 w (some ⟨A, 0, none⟩) l) => teAt_any (some ⟨A, 0, none⟩) l c s w ht h0 hA
  generalize atT l s = j at *
  have hx : l[j]? = some l[j] := List.getElem?_eq_getElem hj
  generalize l[j] = x at hx
  obtain ⟨a, n⟩ := x
  have hl := lst_of hx
  rw [hl] at hlb ⊢
  simp only at hlb
  obtain ⟨n1, n2⟩ := hlb
  have HX := Lib.hid hx
  clear hg hl hx ht h0 h1
  have hjI : (j : Int) < (l.length : Int) := by omega
  have m1 : (0 : Int) ≤ 1000000 * d := by omega
  have m2 : 1000000 * d ≤ 100000000 := by omega
  have m3 : 1000000 * d = d * 1000000 := Int.mul_comm _ _
  have M3 := Lib.hid m3
  clear m3
  go_enter Tryd.func5, Tryd.ntmps5
  go_wp2_with (first
    | (go_at_call 9; refine (HG.out _ hA).mono ?_; rintro e w1 ⟨rfl, hb1⟩)
    | (go_at_call 10; refine (teStep_any _ _).mono ?_; rintro e w2 ⟨rfl, rfl⟩)
    | (go_at_call 11; refine (l1In_any _ _ _ _).mono ?_; rintro e w2 ⟨rfl, rfl⟩)
    | (go_at_call 13; refine (HC.out _ (hA.below hb1)).mono ?_; rintro e w2 ⟨rfl, rfl⟩; obtain ⟨_, c0, c1⟩ := (hA.below hb1).at j _ HX.out; simp only [Nat.zero_add] at c0 c1)
    | (go_at_call 12; refine (tePart_int _ _ (1000000 * d).toNat n.toNat _ _ (by omega) (by omega) rfl (by omega) (by omega) (by omega)).mono ?_; rintro e w3 ⟨rfl, hb3⟩))
  exact bodyPost_ret (v := .tuple #[.int .i64 (spdA d n), .int .i64 (spdB d n), .bool true]) (by simp [results, Tryd.results5, go_sem, spdA, spdB, spdG, M3.out]) rfl ⟨rfl, hb1.trans (hb3.mono hb1.size)⟩

theorem paperSpeed_both (l : List Nt2) (s d : Int) (fv : Value) (hbig : l.length ≤ 1048576) : ∃ (va vb : Int) (vc : Bool),
    (∀ (A : Nat) (c : Nat) (W : World), l.length ≤ c → c ≤ 9223372036854775807 → RA2 W (some ⟨A, 0, none⟩) l → Calls Tryd.prog 5 #[.slice (some ⟨A, 0, none⟩) l.length c, .int .i64 s, .int .i64 d] W fun e W' => e = .returned (.tuple #[.int .i64 va, .int .i64 vb, .bool vc]) ∧ Below W.heap.size W W') ∧
    (∀ (A : Nat) (c : Nat) (W : World), l.length ≤ c → c ≤ 9223372036854775807 → RA2 W (some ⟨A, 0, none⟩) l → 0 < W.heap.size → W.cell? ⟨0, 6, none⟩ = some fv → Calls Tryd.prog 7 #[.slice (some ⟨A, 0, none⟩) l.length c, .int .i64 s, .int .i64 d] W fun e W' => e = .returned (.tuple #[.int .i64 va, .int .i64 vb, .bool vc]) ∧ Below W.heap.size W W') := by
  cases hc : ((goodT l && inR s 0 2000) && inR d 1 100) with
  | false => exact ⟨0, 0, false, fun A c W _ _ hA => specPaper_no A l c s d W hbig hA hc, fun A c W _ _ hA _ _ => implPaper_no A l c s d W hbig hA hc⟩
  | true =>
    obtain ⟨hgi, hd⟩ := Bool.and_eq_true_iff.1 hc
    obtain ⟨hg, hi⟩ := Bool.and_eq_true_iff.1 hgi
    exact ⟨_, _, true, fun A c W _ _ hA => specPaper_yes A l c s d W hbig hA hg hi hd, fun A c W _ _ hA hz hF => implPaper_yes A l c s d W hbig hA hg hi hd fv hz hF⟩
end Go.Proofs.YtkefphfjpkmceaaDoor
