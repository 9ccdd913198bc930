/- Contracts: the model's noRead. -/
import Derived.Test.YtfjcnomingbneabDoorPScM
import Derived.Test.YtfjcnomingbneabDoorPVoR
import Derived.Deep.RegionHeld3
import Derived.Deep.DeepCutAuto
namespace Go.Proofs.YtfjcnomingbneabDoor
open Go.RowKit Go.Sort
set_option linter.unusedVariables false
set_option linter.unusedSimpArgs false

/-- A row of two strings. -/
theorem RSs.two {w : World} {A : Option Addr} {a b : List UInt8} (h : RSs w A [a, b]) : ∃ g o, A = some ⟨g, o, none⟩ ∧ g < w.heap.size ∧ w.cell? ⟨g, o, none⟩ = some (.string (bs a)) ∧ w.cell? ⟨g, o + 1, none⟩ = some (.string (bs b)) := by
  obtain ⟨g, o, hA, hg, h0⟩ := h 0 a rfl
  obtain ⟨g', o', hA', _, h1⟩ := h 1 b rfl
  rw [hA] at hA'
  simp only [Option.some.injEq, Addr.mk.injEq, and_true] at hA'
  obtain ⟨rfl, rfl⟩ := hA'
  exact ⟨g, o, hA, hg, h0, h1⟩

theorem box3 (w : World) (a b c : Value) (t : TypeId) : (w.alloc (.cells #[a, b, c] t)).drew.cell? ⟨w.heap.size, 0, none⟩ = some a ∧ (w.alloc (.cells #[a, b, c] t)).drew.cell? ⟨w.heap.size, 1, none⟩ = some b ∧ (w.alloc (.cells #[a, b, c] t)).drew.cell? ⟨w.heap.size, 2, none⟩ = some c ∧ (w.alloc (.cells #[a, b, c] t)).drew.frozen? ⟨w.heap.size, 0, none⟩ = false ∧ (w.alloc (.cells #[a, b, c] t)).drew.heap.size = w.heap.size + 1 ∧ RowKit.Below w.heap.size w (w.alloc (.cells #[a, b, c] t)).drew :=
  ⟨(World.cell?_alloc_new w #[a, b, c] t 0).trans rfl, (World.cell?_alloc_new w #[a, b, c] t 1).trans rfl, (World.cell?_alloc_new w #[a, b, c] t 2).trans rfl, World.frozen?_alloc_at (w := w) #[a, b, c] t w.heap.size 0 rfl, by show (w.alloc (.cells #[a, b, c] t)).heap.size = _; simp, ((RowKit.Below.refl _ _).alloc (Nat.le_refl _) _).drew⟩

def evV (x : Nt) : Value := .agg #[.int .i64 x.1, .int .i64 x.2.1, .int .i64 x.2.2]

set_option maxRecDepth 100000 in
set_option maxHeartbeats 4000000 in
theorem noRead_any (u : List UInt8) (w : World) (hu : u.length ≤ 2000000) :
    Calls Tryd.prog 21 #[.string (bs u)] w fun e w' => e = .returned (.tuple #[evV (evM u), .bool (evN (evM u))]) ∧ RowKit.Below w.heap.size w w' := by
  obtain ⟨W0, hW0⟩ : ∃ W0, W0 = w.alloc (.cells #[.int .i64 0, .int .i64 0, .int .i64 0] 42) := ⟨_, rfl⟩
  have hbf := box_facts w W0 _ hW0
  have HBF := Lib.hid hbf
  have HW0 := Lib.hid hW0
  clear hbf hW0
  have hml1 := splitB_mem_len 42 u
  have HN : Hid (evM u = match splitB 42 u with | [a, r] => (match splitB 47 r with | [n, d] => (pvE a, readL n, readL d) | _ => (0, 0, 0)) | _ => (0, 0, 0)) := Lib.hid rfl
  go_enter Tryd.func21, Tryd.ntmps21
  go_wp2_with fail
  rw [← HW0.out]
  refine (l1Split_any u 42 W0 hu).mono ?_
  rintro e w1 ⟨v1, rfl, hO1, hb1⟩
  generalize splitB 42 u = ws at *
  obtain ⟨A1, c1, rfl, hRS1, hnc1, hcm1, -, -⟩ := hO1.form
  obtain ⟨r0, r1, r2, f0, f1, f2, hsz, hB0⟩ := HBF.out
  have hz1 : w.heap.size < w1.heap.size := by have := hb1.size; omega
  have r0 := ((bcell hb1).1 w.heap.size 0 (by omega)).trans r0
  have r1 := ((bcell hb1).1 w.heap.size 1 (by omega)).trans r1
  have r2 := ((bcell hb1).1 w.heap.size 2 (by omega)).trans r2
  have f0 := ((bcell hb1).2 w.heap.size 0 (by omega)).trans f0
  have f1 := ((bcell hb1).2 w.heap.size 1 (by omega)).trans f1
  have f2 := ((bcell hb1).2 w.heap.size 2 (by omega)).trans f2
  have hB1 := hB0.trans (hb1.mono hB0.size)
  clear hb1 hsz hB0 hO1
  by_cases h2 : ws.length = 2
  · obtain ⟨a, r, rfl⟩ : ∃ a r, ws = [a, r] := by
      match ws, h2 with
      | [a, r], _ => exact ⟨a, r, rfl⟩
    obtain ⟨g1, o1, rfl, hg1, k0, k1⟩ := hRS1.two
    have hra := hml1 r (by simp)
    have hh : (((([a, r] : List (List UInt8)).length : Nat) : Int) != 2) = false := rfl
    rw [show ([a, r] : List (List UInt8)).length = 2 from rfl] at *
    clear hml1 hRS1 hcm1 h2
    have HG1 := Lib.hid hg1
    clear hg1
    go_wp2_with fail
    refine (l1Split_any r 47 w1 (by omega)).mono ?_
    rintro e w2 ⟨v2, rfl, hO2, hb2⟩
    have hml2 := splitB_mem_len 47 r
    generalize splitB 47 r = ns at *
    obtain ⟨A2, c2, rfl, hRS2, hnc2, hcm2, -, -⟩ := hO2.form
    have hz2 : w.heap.size < w2.heap.size := by have := hb2.size; omega
    have r0 := ((bcell hb2).1 w.heap.size 0 (by omega)).trans r0
    have r1 := ((bcell hb2).1 w.heap.size 1 (by omega)).trans r1
    have r2 := ((bcell hb2).1 w.heap.size 2 (by omega)).trans r2
    have f0 := ((bcell hb2).2 w.heap.size 0 (by omega)).trans f0
    have f1 := ((bcell hb2).2 w.heap.size 1 (by omega)).trans f1
    have f2 := ((bcell hb2).2 w.heap.size 2 (by omega)).trans f2
    have k0 := ((bcell hb2).1 g1 o1 HG1.out).trans k0
    have HG1 := Lib.hid (Nat.lt_of_lt_of_le HG1.out hb2.size)
    have hB2 := hB1.trans (hb2.mono hB1.size)
    clear hb2 hB1 hO2 k1 hz1
    by_cases h2 : ns.length = 2
    · obtain ⟨n, d, rfl⟩ : ∃ n d, ns = [n, d] := by
        match ns, h2 with
        | [n, d], _ => exact ⟨n, d, rfl⟩
      obtain ⟨g2, o2, rfl, hg2, m0, m1⟩ := hRS2.two
      have hna := hml2 n (by simp)
      have hda := hml2 d (by simp)
      have CN := Lib.hid (fun W => l1Read_any n W (by omega))
      have CD := Lib.hid (fun W => l1Read_any d W (by omega))
      have HN2 : Hid (evM u = (pvE a, readL n, readL d)) := Lib.hid HN.out
      have hh2 : (((([n, d] : List (List UInt8)).length : Nat) : Int) != 2) = false := rfl
      rw [show ([n, d] : List (List UInt8)).length = 2 from rfl] at *
      clear hml2 hRS2 hcm2 h2 HN hra hna hda
      generalize readL n = rn at *
      generalize readL d = rd at *
      go_upto_region 7 with fail
      have m0 : w2.drew.cell? ⟨g2, o2, none⟩ = some (.string (bs n)) := m0
      have m1 : w2.drew.cell? ⟨g2, o2 + 1, none⟩ = some (.string (bs d)) := m1
      go_cut [6] (fun b wx => b = .pointer (some ⟨w2.heap.size, 0, none⟩) ∧ wx.cell? ⟨w2.heap.size, 0, none⟩ = some (.int .i64 0) ∧ wx.cell? ⟨w2.heap.size, 1, none⟩ = some (.int .i64 rn) ∧ wx.cell? ⟨w2.heap.size, 2, none⟩ = some (.int .i64 rd) ∧ wx.frozen? ⟨w2.heap.size, 0, none⟩ = false ∧ wx.heap.size = w2.heap.size + 1 ∧ RowKit.Below w2.heap.size w2 wx)
      case first =>
        go_region_held3 (fun w' => w'.cell? ⟨g2, o2, none⟩ = some (.string (bs n)) ∧ w'.cell? ⟨g2, o2 + 1, none⟩ = some (.string (bs d)))
          (first | go_keep | assumption)
          (first
            | (go_at_call 29; (first | with_reducible refine (CN.out _).mono ?_ | with_reducible refine (CD.out _).mono ?_); rintro e w5 ⟨rfl, hw5⟩; replace hw5 := hw5.symm; subst hw5))
        all_goals
          go_wp2_with fail
          go_meet
          case rel => exact ⟨rfl, box3 _ _ _ _ _⟩
      case rest =>
        obtain ⟨rfl, x0, x1, x2, xf, xz, hbc⟩ := hcut
        have r0 := ((bcell hbc).1 w.heap.size 0 hz2).trans r0
        have r1 := ((bcell hbc).1 w.heap.size 1 hz2).trans r1
        have r2 := ((bcell hbc).1 w.heap.size 2 hz2).trans r2
        have f0 := ((bcell hbc).2 w.heap.size 0 hz2).trans f0
        have f1 := ((bcell hbc).2 w.heap.size 1 hz2).trans f1
        have f2 := ((bcell hbc).2 w.heap.size 2 hz2).trans f2
        have k0 := ((bcell hbc).1 g1 o1 HG1.out).trans k0
        have hz3 : w.heap.size < wc.heap.size := by omega
        have hBc := Lib.hid (hB2.trans (hbc.mono hB2.size))
        have hxl : w2.heap.size < wc.heap.size := by omega
        have hne1 : w2.heap.size ≠ w.heap.size := by omega
        clear m0 m1 hbc xz HG1 hB2 HBF
        generalize w2.heap.size = xb at *
        by_cases ha : a = [114]
        · subst ha
          have e1 : bs [114] = ⟨#[114]⟩ := rfl
          rw [e1] at k0
          have HP : Hid (evM u = (0, rn, rd)) := Lib.hid (by rw [HN2.out]; rfl)
          clear e1 HN2
          go_upto_region 10 with fail
          have r0 : wc.drew.cell? ⟨w.heap.size, 0, none⟩ = some (.int .i64 0) := r0
          have r1 : wc.drew.cell? ⟨w.heap.size, 1, none⟩ = some (.int .i64 0) := r1
          have r2 : wc.drew.cell? ⟨w.heap.size, 2, none⟩ = some (.int .i64 0) := r2
          have f0 : wc.drew.frozen? ⟨w.heap.size, 0, none⟩ = false := f0
          have f1 : wc.drew.frozen? ⟨w.heap.size, 1, none⟩ = false := f1
          have f2 : wc.drew.frozen? ⟨w.heap.size, 2, none⟩ = false := f2
          have x0 : wc.drew.cell? ⟨xb, 0, none⟩ = some (.int .i64 0) := x0
          have x1 : wc.drew.cell? ⟨xb, 1, none⟩ = some (.int .i64 rn) := x1
          have x2 : wc.drew.cell? ⟨xb, 2, none⟩ = some (.int .i64 rd) := x2
          have hz9 : w.heap.size < wc.drew.heap.size := hz3
          have hBc := Lib.hid (hBc.out.drew)
          have hx9 : xb < wc.drew.heap.size := hxl
          have hne2 := hne1.symm
          go_region_held3 (fun w' => w'.cell? ⟨xb, 0, none⟩ = some (.int .i64 0) ∧ w'.cell? ⟨xb, 1, none⟩ = some (.int .i64 rn) ∧ w'.cell? ⟨xb, 2, none⟩ = some (.int .i64 rd))
            (first | go_keep | (dsimp only; refine ⟨?_, ?_, ?_⟩ <;> go_keep) | (go_split_ands; refine ⟨?_, ?_, ?_⟩ <;> (refine ((bcell hb6).1 _ _ ?_).trans ?_) <;> first | assumption | (simp; exact hx9)))
            (first | (go_at_call 36; refine (noEvent_any _ _ _ _).mono ?_; rintro e w6 ⟨rfl, hb6⟩; have q0 := ((bcell hb6).1 w.heap.size 0 hz9).trans r0; have q1 := ((bcell hb6).1 w.heap.size 1 hz9).trans r1; have q2 := ((bcell hb6).1 w.heap.size 2 hz9).trans r2; have y0 := ((bcell hb6).2 w.heap.size 0 hz9).trans f0; have y1 := ((bcell hb6).2 w.heap.size 1 hz9).trans f1; have y2 := ((bcell hb6).2 w.heap.size 2 hz9).trans f2; have HB6 := Lib.hid (hBc.out.trans (hb6.mono hBc.out.size))))
          all_goals
            clear r0 r1 r2 f0 f1 f2 x0 x1 x2 hb6
            go_wp2
            exact bodyPost_ret (v := .tuple #[.agg #[.int .i64 0, .int .i64 rn, .int .i64 rd], .bool (evB 0 rn rd)]) (by simp [results, Tryd.results21, go_sem, *]) rfl ⟨by rw [HP.out]; rfl, ((HB6.out.setCell (Nat.le_refl _) _).setCell (Nat.le_refl _) _).setCell (Nat.le_refl _) _⟩
        · have hb1 : ((bs a).toList == ([114] : List UInt8)) = false := by rw [bs_toList]; simpa using ha
          have HP : Hid (evM u = (ntRd a, rn, rd)) := Lib.hid (by rw [HN2.out]; unfold pvE; rw [if_neg ha])
          clear ha HN2
          go_wp2_with fail
          refine (ntRead_any a wc).mono ?_
          rintro e w5 ⟨rfl, hb5⟩
          generalize ntRd a = pa at *
          have r0 := ((bcell hb5).1 w.heap.size 0 hz3).trans r0
          have r1 := ((bcell hb5).1 w.heap.size 1 hz3).trans r1
          have r2 := ((bcell hb5).1 w.heap.size 2 hz3).trans r2
          have f0 := ((bcell hb5).2 w.heap.size 0 hz3).trans f0
          have f1 := ((bcell hb5).2 w.heap.size 1 hz3).trans f1
          have f2 := ((bcell hb5).2 w.heap.size 2 hz3).trans f2
          have x0 := ((bcell hb5).1 xb 0 hxl).trans x0
          have x1 := ((bcell hb5).1 xb 1 hxl).trans x1
          have x2 := ((bcell hb5).1 xb 2 hxl).trans x2
          have xf := ((bcell hb5).2 xb 0 hxl).trans xf
          have hz3 : w.heap.size < w5.heap.size := Nat.lt_of_lt_of_le hz3 hb5.size
          have hBc := Lib.hid (hBc.out.trans (hb5.mono hBc.out.size))
          have hxl : xb < w5.heap.size := Nat.lt_of_lt_of_le hxl hb5.size
          clear hb5 k0
          go_upto_region 10 with fail
          obtain ⟨V, hV⟩ : ∃ V, V = w5.setCell ⟨xb, 0, none⟩ (.int .i64 pa) := ⟨_, rfl⟩
          have hne3 := hne1.symm
          have r0 : V.cell? ⟨w.heap.size, 0, none⟩ = some (.int .i64 0) := by rw [hV]; exact (World.cell?_setCell_other _ _ _ _ (by simp [hne1])).trans r0
          have r1 : V.cell? ⟨w.heap.size, 1, none⟩ = some (.int .i64 0) := by rw [hV]; exact (World.cell?_setCell_other _ _ _ _ (by simp [hne1])).trans r1
          have r2 : V.cell? ⟨w.heap.size, 2, none⟩ = some (.int .i64 0) := by rw [hV]; exact (World.cell?_setCell_other _ _ _ _ (by simp [hne1])).trans r2
          have f0 : V.frozen? ⟨w.heap.size, 0, none⟩ = false := by rw [hV]; simpa using f0
          have f1 : V.frozen? ⟨w.heap.size, 1, none⟩ = false := by rw [hV]; simpa using f1
          have f2 : V.frozen? ⟨w.heap.size, 2, none⟩ = false := by rw [hV]; simpa using f2
          have x0 : V.cell? ⟨xb, 0, none⟩ = some (.int .i64 pa) := by rw [hV]; exact World.cell?_setCell_same' w5 _ _ (by rw [x0]; rfl)
          have x1 : V.cell? ⟨xb, 1, none⟩ = some (.int .i64 rn) := by rw [hV]; exact (World.cell?_setCell_other _ _ _ _ (by simp)).trans x1
          have x2 : V.cell? ⟨xb, 2, none⟩ = some (.int .i64 rd) := by rw [hV]; exact (World.cell?_setCell_other _ _ _ _ (by simp)).trans x2
          have hz3 : w.heap.size < V.heap.size := by rw [hV]; simpa using hz3
          have hxl : xb < V.heap.size := by rw [hV]; simpa using hxl
          have hBc : Hid (RowKit.Below w.heap.size w V) := Lib.hid (by rw [hV]; exact hBc.out.setCell (Nat.le_of_lt hz2) _)
          rw [← hV]
          clear hV
          have r0 : V.drew.cell? ⟨w.heap.size, 0, none⟩ = some (.int .i64 0) := r0
          have r1 : V.drew.cell? ⟨w.heap.size, 1, none⟩ = some (.int .i64 0) := r1
          have r2 : V.drew.cell? ⟨w.heap.size, 2, none⟩ = some (.int .i64 0) := r2
          have f0 : V.drew.frozen? ⟨w.heap.size, 0, none⟩ = false := f0
          have f1 : V.drew.frozen? ⟨w.heap.size, 1, none⟩ = false := f1
          have f2 : V.drew.frozen? ⟨w.heap.size, 2, none⟩ = false := f2
          have x0 : V.drew.cell? ⟨xb, 0, none⟩ = some (.int .i64 pa) := x0
          have x1 : V.drew.cell? ⟨xb, 1, none⟩ = some (.int .i64 rn) := x1
          have x2 : V.drew.cell? ⟨xb, 2, none⟩ = some (.int .i64 rd) := x2
          have hz9 : w.heap.size < V.drew.heap.size := hz3
          have hBc := Lib.hid (hBc.out.drew)
          have hx9 : xb < V.drew.heap.size := hxl
          have hne2 := hne1.symm
          go_region_held3 (fun w' => w'.cell? ⟨xb, 0, none⟩ = some (.int .i64 pa) ∧ w'.cell? ⟨xb, 1, none⟩ = some (.int .i64 rn) ∧ w'.cell? ⟨xb, 2, none⟩ = some (.int .i64 rd))
            (first | go_keep | (dsimp only; refine ⟨?_, ?_, ?_⟩ <;> go_keep) | (go_split_ands; refine ⟨?_, ?_, ?_⟩ <;> (refine ((bcell hb6).1 _ _ ?_).trans ?_) <;> first | assumption | (simp; exact hx9)))
            (first | (go_at_call 36; refine (noEvent_any _ _ _ _).mono ?_; rintro e w6 ⟨rfl, hb6⟩; have q0 := ((bcell hb6).1 w.heap.size 0 hz9).trans r0; have q1 := ((bcell hb6).1 w.heap.size 1 hz9).trans r1; have q2 := ((bcell hb6).1 w.heap.size 2 hz9).trans r2; have y0 := ((bcell hb6).2 w.heap.size 0 hz9).trans f0; have y1 := ((bcell hb6).2 w.heap.size 1 hz9).trans f1; have y2 := ((bcell hb6).2 w.heap.size 2 hz9).trans f2; have HB6 := Lib.hid (hBc.out.trans (hb6.mono hBc.out.size))))
          all_goals
            clear r0 r1 r2 f0 f1 f2 x0 x1 x2 hb6
            go_wp2
            exact bodyPost_ret (v := .tuple #[.agg #[.int .i64 pa, .int .i64 rn, .int .i64 rd], .bool (evB pa rn rd)]) (by simp [results, Tryd.results21, go_sem, *]) rfl ⟨by rw [HP.out]; rfl, ((HB6.out.setCell (Nat.le_refl _) _).setCell (Nat.le_refl _) _).setCell (Nat.le_refl _) _⟩
    · have hne : ((ns.length : Int) != 2) = true := by simp; omega
      have HN2 : Hid (evM u = (0, 0, 0)) := Lib.hid (by
        rw [HN.out]
        split
        · rename_i n d; exact absurd rfl h2
        · rfl)
      have HB := Lib.hid hB2
      clear hRS2 h2 hB2 HN hml2
      go_wp2
      exact bodyPost_ret (v := .tuple #[.agg #[.int .i64 0, .int .i64 0, .int .i64 0], .bool false]) (by simp [results, Tryd.results21, go_sem, *]) rfl ⟨by rw [HN2.out]; rfl, ((HB.out.setCell (Nat.le_refl _) _).setCell (Nat.le_refl _) _).setCell (Nat.le_refl _) _⟩
  · have hne : ((ws.length : Int) != 2) = true := by simp; omega
    have HN2 : Hid (evM u = (0, 0, 0)) := Lib.hid (by
      rw [HN.out]
      split
      · rename_i a r; exact absurd rfl h2
      · rfl)
    have HB := Lib.hid hB1
    clear hRS1 h2 hB1 HN hml1
    go_wp2
    exact bodyPost_ret (v := .tuple #[.agg #[.int .i64 0, .int .i64 0, .int .i64 0], .bool false]) (by simp [results, Tryd.results21, go_sem, *]) rfl ⟨by rw [HN2.out]; rfl, ((HB.out.setCell (Nat.le_refl _) _).setCell (Nat.le_refl _) _).setCell (Nat.le_refl _) _⟩
end Go.Proofs.YtfjcnomingbneabDoor
