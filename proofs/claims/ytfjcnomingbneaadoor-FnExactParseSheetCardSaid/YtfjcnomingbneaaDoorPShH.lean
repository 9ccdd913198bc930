/- Contracts: a line, lines and texts of sheets, the program's way. -/
import Derived.Test.YtfjcnomingbneaaDoorPShR
namespace Go.Proofs.YtfjcnomingbneaaDoor
open Go.RowKit Go.Sort
set_option linter.unusedVariables false
set_option linter.unusedSimpArgs false

theorem res_facts (w W1 : World) (o : Obj) (h : W1 = (w.alloc (.cells #[.int .i64 0, .int .i64 0, .int .i64 0] 37)).alloc o) :
    W1.cell? ⟨w.heap.size, 0, none⟩ = some (.int .i64 0) ∧ W1.cell? ⟨w.heap.size, 1, none⟩ = some (.int .i64 0) ∧ W1.cell? ⟨w.heap.size, 2, none⟩ = some (.int .i64 0) ∧
    W1.frozen? ⟨w.heap.size, 0, none⟩ = false ∧ W1.frozen? ⟨w.heap.size, 1, none⟩ = false ∧ W1.frozen? ⟨w.heap.size, 2, none⟩ = false ∧ Below w.heap.size w W1 := by
  subst h
  have hz : (w.alloc (.cells #[.int .i64 0, .int .i64 0, .int .i64 0] 37)).heap.size = w.heap.size + 1 := by simp
  have hb : Below (w.alloc (.cells #[.int .i64 0, .int .i64 0, .int .i64 0] 37)).heap.size (w.alloc (.cells #[.int .i64 0, .int .i64 0, .int .i64 0] 37)) ((w.alloc (.cells #[.int .i64 0, .int .i64 0, .int .i64 0] 37)).alloc o) := (Below.refl _ _).alloc (Nat.le_refl _) _
  have hr := fun j => ((bcell hb).1 w.heap.size j (by omega)).trans (World.cell?_alloc_new w #[.int .i64 0, .int .i64 0, .int .i64 0] 37 j)
  have hf := fun j => ((bcell hb).2 w.heap.size j (by omega)).trans (World.frozen?_alloc_at (w := w) #[.int .i64 0, .int .i64 0, .int .i64 0] 37 w.heap.size j rfl)
  exact ⟨(hr 0).trans rfl, (hr 1).trans rfl, (hr 2).trans rfl, hf 0, hf 1, hf 2, ((Below.refl _ _).alloc (Nat.le_refl _) _).alloc (by omega) _⟩

theorem words_rs (W : World) (ws : List (List UInt8)) (t : TypeId) : RSs (W.alloc (.cells (ws.map fun x => Value.string (bs x)).toArray t)) (some ⟨W.heap.size, 0, none⟩) ws := by
  intro k x hx
  exact ⟨W.heap.size, 0, rfl, by simp, by rw [Nat.zero_add, World.cell?_alloc_new]; simp [hx]⟩
theorem ntL_none {u : List UInt8} (h : numsL (splitB 32 u) = none) : ntL u = none := by unfold ntL; rw [h]
theorem ntL_len {u : List UInt8} {ns : List Int} (h : numsL (splitB 32 u) = some ns) (hl : ns.length ≠ 3) : ntL u = none := by
  unfold ntL
  rw [h]
  match ns, hl with
  | [], _ => rfl
  | [a], _ => rfl
  | [a, b], _ => rfl
  | [a, b, c], hl => exact absurd rfl hl
  | a :: b :: c :: d :: r, _ => rfl
theorem ntL_three {u : List UInt8} {a b c : Int} (h : numsL (splitB 32 u) = some [a, b, c]) : ntL u = some (a, b, c) := by unfold ntL; rw [h]

set_option maxRecDepth 100000 in
set_option maxHeartbeats 2000000 in
theorem readHole_any (u : List UInt8) (w : World) (hu : u.length ≤ 2000000) (hP : PW w) :
    Calls Tryd.prog 24 #[.string (bs u)] w fun e w' => e = .returned (.tuple #[noteV (ntL u), .bool (ntL u).isSome]) ∧ Below w.heap.size w w' := by
  have HSP := Lib.hid fun (W : World) (hP : PW W) => split_any 32 u W hu hP
  have HML := Lib.hid (splitB_mem_len 32 u)
  have HLN := Lib.hid (splitB_length 32 u)
  have HNN := Lib.hid (@ntL_none u)
  have HNL := Lib.hid (fun ns => @ntL_len u ns)
  have HN3 := Lib.hid (fun a b c => @ntL_three u a b c)
  generalize splitB 32 u = ws at *
  have hB0 : Below w.heap.size w (w.alloc (.cells #[.int .i64 0, .int .i64 0, .int .i64 0] 37)) := (Below.refl _ _).alloc (Nat.le_refl _) _
  have hP0 := hP.below hB0
  have hz0 : (w.alloc (.cells #[.int .i64 0, .int .i64 0, .int .i64 0] 37)).heap.size = w.heap.size + 1 := by simp
  have hwl : ws.length ≤ 2000001 := by have := HLN.out; omega
  have HRS := Lib.hid (words_rs (w.alloc (.cells #[.int .i64 0, .int .i64 0, .int .i64 0] 37)) ws 9)
  obtain ⟨W1, hW1⟩ : ∃ W1, W1 = (w.alloc (.cells #[.int .i64 0, .int .i64 0, .int .i64 0] 37)).alloc (.cells (ws.map fun x => Value.string (bs x)).toArray 9) := ⟨_, rfl⟩
  obtain ⟨r0, r1, r2, g0, g1, g2, hB1⟩ := res_facts w W1 _ hW1
  rw [← hW1, hz0] at HRS
  have HW1 := Lib.hid hW1
  have hsz1 : w.heap.size + 1 < W1.heap.size := by rw [hW1]; simp
  clear hW1
  have HC := Lib.hid (eachInt_any (some ⟨w.heap.size + 1, 0, none⟩) ws ws.length ws.length W1 rfl hwl (fun x hx => Nat.le_trans (HML.out x hx) hu) HRS.out (hP.below hB1))
  cases hn : numsL ws with
  | none =>
    have HN := Lib.hid (HNN.out hn)
    rw [hn] at HC
    clear hn hP hB0
    go_enter Tryd.func24, Tryd.ntmps24
    go_wp2_with fail
    refine (HSP.out _ hP0).mono ?_
    rintro e w1 ⟨rfl, hw1⟩
    obtain rfl : w1 = W1 := hw1.trans HW1.out.symm
    clear hw1
    rw [hz0]
    go_wp2_with fail
    refine HC.out.mono ?_
    rintro e w2 ⟨v, rfl, ho2, hb2⟩
    have hB2 := hB1.trans (hb2.mono hB1.size)
    have r0 := ((bcell hb2).1 w.heap.size 0 (by omega)).trans r0
    have r1 := ((bcell hb2).1 w.heap.size 1 (by omega)).trans r1
    have r2 := ((bcell hb2).1 w.heap.size 2 (by omega)).trans r2
    have g0 := ((bcell hb2).2 w.heap.size 0 (by omega)).trans g0
    have g1 := ((bcell hb2).2 w.heap.size 1 (by omega)).trans g1
    have g2 := ((bcell hb2).2 w.heap.size 2 (by omega)).trans g2
    clear hb2 ho2
    go_wp2
    rw [HN.out]
    exact bodyPost_ret (v := .tuple #[.agg #[.int .i64 0, .int .i64 0, .int .i64 0], .bool false]) (by simp [results, Tryd.results24, go_sem, *]) rfl ⟨rfl, ((hB2.setCell (Nat.le_refl _) _).setCell (Nat.le_refl _) _).setCell (Nat.le_refl _) _⟩
  | some ns =>
    rw [hn] at HC
    by_cases h3 : ns.length = 3
    · obtain ⟨a, b, c, rfl⟩ : ∃ a b c, ns = [a, b, c] := by
        match ns, h3 with
        | [a, b, c], _ => exact ⟨a, b, c, rfl⟩
      have HN := Lib.hid (HN3.out a b c hn)
      clear hn hP hB0 h3
      go_enter Tryd.func24, Tryd.ntmps24
      go_wp2_with fail
      refine (HSP.out _ hP0).mono ?_
      rintro e w1 ⟨rfl, hw1⟩
      obtain rfl : w1 = W1 := hw1.trans HW1.out.symm
      clear hw1
      rw [hz0]
      go_wp2_with fail
      refine HC.out.mono ?_
      rintro e w2 ⟨v, rfl, ho2, hb2⟩
      have hB2 := hB1.trans (hb2.mono hB1.size)
      have r0 := ((bcell hb2).1 w.heap.size 0 (by omega)).trans r0
      have r1 := ((bcell hb2).1 w.heap.size 1 (by omega)).trans r1
      have r2 := ((bcell hb2).1 w.heap.size 2 (by omega)).trans r2
      have g0 := ((bcell hb2).2 w.heap.size 0 (by omega)).trans g0
      have g1 := ((bcell hb2).2 w.heap.size 1 (by omega)).trans g1
      have g2 := ((bcell hb2).2 w.heap.size 2 (by omega)).trans g2
      clear hb2
      obtain ⟨A', c', hv, hri, hc1, hc2, _⟩ := ho2.form
      replace hri : RI w2 A' [a, b, c] := hri
      replace hv : v = .slice A' 3 c' := hv
      subst hv
      obtain ⟨gi, oi, rfl, hgi, k0⟩ := hri 0 a rfl
      obtain ⟨gi1, oi1, e1, _, k1⟩ := hri 1 b rfl
      obtain ⟨gi2, oi2, e2, _, k2⟩ := hri 2 c rfl
      simp only [Option.some.injEq, Addr.mk.injEq, and_true] at e1 e2
      obtain ⟨rfl, rfl⟩ := e1
      obtain ⟨rfl, rfl⟩ := e2
      have hne : gi ≠ w.heap.size := by have := (ho2.lt gi rfl).1; omega
      have hne' : w.heap.size ≠ gi := fun e => hne e.symm
      simp only [Nat.add_zero] at k0
      clear ho2 hri
      go_wp2_with fail
      go_region
      all_goals
        go_wp2
        rw [HN.out]
        exact bodyPost_ret (v := .tuple #[.agg #[.int .i64 a, .int .i64 b, .int .i64 c], .bool true]) (by simp [results, Tryd.results24, go_sem, *]) rfl ⟨rfl, by first | exact (((hB2.drew).setCell (Nat.le_refl _) _).setCell (Nat.le_refl _) _).setCell (Nat.le_refl _) _ | exact (((hB2.setCell (Nat.le_refl _) _).setCell (Nat.le_refl _) _).setCell (Nat.le_refl _) _).drew⟩
    · have HN := Lib.hid (HNL.out ns hn h3)
      have hne : ((ns.length : Int) != 3) = true := by simp; omega
      clear hn hP hB0
      go_enter Tryd.func24, Tryd.ntmps24
      go_wp2_with fail
      refine (HSP.out _ hP0).mono ?_
      rintro e w1 ⟨rfl, hw1⟩
      obtain rfl : w1 = W1 := hw1.trans HW1.out.symm
      clear hw1
      rw [hz0]
      go_wp2_with fail
      refine HC.out.mono ?_
      rintro e w2 ⟨v, rfl, ho2, hb2⟩
      have hB2 := hB1.trans (hb2.mono hB1.size)
      have r0 := ((bcell hb2).1 w.heap.size 0 (by omega)).trans r0
      have r1 := ((bcell hb2).1 w.heap.size 1 (by omega)).trans r1
      have r2 := ((bcell hb2).1 w.heap.size 2 (by omega)).trans r2
      have g0 := ((bcell hb2).2 w.heap.size 0 (by omega)).trans g0
      have g1 := ((bcell hb2).2 w.heap.size 1 (by omega)).trans g1
      have g2 := ((bcell hb2).2 w.heap.size 2 (by omega)).trans g2
      clear hb2
      obtain ⟨A', c', hv, hri, _⟩ := ho2.form
      replace hv : v = .slice A' ns.length c' := hv
      subst hv
      clear ho2 hri
      go_wp2
      rw [HN.out]
      exact bodyPost_ret (v := .tuple #[.agg #[.int .i64 0, .int .i64 0, .int .i64 0], .bool false]) (by simp [results, Tryd.results24, go_sem, *]) rfl ⟨rfl, ((hB2.setCell (Nat.le_refl _) _).setCell (Nat.le_refl _) _).setCell (Nat.le_refl _) _⟩
end Go.Proofs.YtfjcnomingbneaaDoor
