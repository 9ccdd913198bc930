/- The program's stretched voices. -/
import Derived.Test.YtecbeicppfcofaaStretch
namespace Go.Proofs.Ytecbeicppfcofaa
open Go.RowKit Go.Sort
set_option linter.unusedVariables false
set_option linter.unusedSimpArgs false

set_option maxRecDepth 100000 in
set_option maxHeartbeats 2000000 in
theorem fnStretch_any (p n d sn sd : Int) (b1 b2 : Nat) (w : World) (hn : 1 ≤ n ∧ n ≤ 99) (hd : 1 ≤ d ∧ d ≤ 16) (k1 : 1 ≤ sn ∧ sn ≤ 16) (k2 : 1 ≤ sd ∧ sd ≤ 16) (hl1 : b1 < w.heap.size) (hl2 : b2 < w.heap.size)
    (hc1 : w.cell? ⟨b1, 0, none⟩ = some (.int .i64 sn)) (hc2 : w.cell? ⟨b2, 0, none⟩ = some (.int .i64 sd)) :
    Calls Try.prog 66 #[.agg #[.int .i64 p, .int .i64 n, .int .i64 d], .pointer (some ⟨b1, 0, none⟩), .pointer (some ⟨b2, 0, none⟩)] w
      fun e w' => e = .returned (.agg #[.int .i64 p, .int .i64 (low (n * sn) (d * sd)).1, .int .i64 (low (n * sn) (d * sd)).2]) ∧ Below w.heap.size w w' := by
  have m1 : 0 ≤ n * sn := Int.mul_nonneg (by omega) (by omega)
  have m2 : n * sn ≤ 99 * 16 := Int.mul_le_mul hn.2 k1.2 (by omega) (by omega)
  have m3 : 0 < d * sd := Int.mul_pos (by omega) (by omega)
  have m4 : d * sd ≤ 16 * 16 := Int.mul_le_mul hd.2 k2.2 (by omega) (by omega)
  have HL := Lib.hid (fun W => lowestTerms_any (n * sn) (d * sd) W m1 m3 (by omega) (by omega))
  have hb2 : Below w.heap.size w ((w.alloc (.cells #[.int .i64 p, .int .i64 n, .int .i64 d] 52)).alloc (.cells #[.int .i64 0, .int .i64 0, .int .i64 0] 52)) := ((Below.refl _ _).alloc (Nat.le_refl _) _).alloc (by simp) _
  have a0 : ((w.alloc (.cells #[.int .i64 p, .int .i64 n, .int .i64 d] 52)).alloc (.cells #[.int .i64 0, .int .i64 0, .int .i64 0] 52)).cell? ⟨w.heap.size, 0, none⟩ = some (.int .i64 p) := by go_simp
  have a1 : ((w.alloc (.cells #[.int .i64 p, .int .i64 n, .int .i64 d] 52)).alloc (.cells #[.int .i64 0, .int .i64 0, .int .i64 0] 52)).cell? ⟨w.heap.size, 1, none⟩ = some (.int .i64 n) := by go_simp
  have a2 : ((w.alloc (.cells #[.int .i64 p, .int .i64 n, .int .i64 d] 52)).alloc (.cells #[.int .i64 0, .int .i64 0, .int .i64 0] 52)).cell? ⟨w.heap.size, 2, none⟩ = some (.int .i64 d) := by go_simp
  have r0 : ((w.alloc (.cells #[.int .i64 p, .int .i64 n, .int .i64 d] 52)).alloc (.cells #[.int .i64 0, .int .i64 0, .int .i64 0] 52)).cell? ⟨w.heap.size + 1, 0, none⟩ = some (.int .i64 0) := by go_simp
  have r1 : ((w.alloc (.cells #[.int .i64 p, .int .i64 n, .int .i64 d] 52)).alloc (.cells #[.int .i64 0, .int .i64 0, .int .i64 0] 52)).cell? ⟨w.heap.size + 1, 1, none⟩ = some (.int .i64 0) := by go_simp
  have r2 : ((w.alloc (.cells #[.int .i64 p, .int .i64 n, .int .i64 d] 52)).alloc (.cells #[.int .i64 0, .int .i64 0, .int .i64 0] 52)).cell? ⟨w.heap.size + 1, 2, none⟩ = some (.int .i64 0) := by go_simp
  have f0 : ∀ o, ((w.alloc (.cells #[.int .i64 p, .int .i64 n, .int .i64 d] 52)).alloc (.cells #[.int .i64 0, .int .i64 0, .int .i64 0] 52)).frozen? ⟨w.heap.size, o, none⟩ = false := fun o => by go_simp
  have f1 : ∀ o, ((w.alloc (.cells #[.int .i64 p, .int .i64 n, .int .i64 d] 52)).alloc (.cells #[.int .i64 0, .int .i64 0, .int .i64 0] 52)).frozen? ⟨w.heap.size + 1, o, none⟩ = false := fun o => by go_simp
  have hz : ((w.alloc (.cells #[.int .i64 p, .int .i64 n, .int .i64 d] 52)).alloc (.cells #[.int .i64 0, .int .i64 0, .int .i64 0] 52)).heap.size = w.heap.size + 2 := by simp
  have d1 := (hb2.cell (p := ⟨b1, 0, none⟩) hl1).trans hc1
  have d2 := (hb2.cell (p := ⟨b2, 0, none⟩) hl2).trans hc2
  generalize (low (n * sn) (d * sd)).1 = x at *
  generalize (low (n * sn) (d * sd)).2 = y at *
  generalize hu : n * sn = u at *
  generalize hv : d * sd = v at *
  go_enter Try.func66, Try.ntmps66
  go_wp2_with fail
  generalize (w.alloc (.cells #[.int .i64 p, .int .i64 n, .int .i64 d] 52)).alloc (.cells #[.int .i64 0, .int .i64 0, .int .i64 0] 52) = W at *
  refine (HL.out _).mono ?_
  rintro e w3 ⟨rfl, hb3⟩
  have l0 : w.heap.size < W.heap.size := by omega
  have l1 : w.heap.size + 1 < W.heap.size := by omega
  have s0 := (hb3.cell (p := ⟨w.heap.size, 0, none⟩) l0).trans a0
  have s1 := (hb3.cell (p := ⟨w.heap.size, 1, none⟩) l0).trans a1
  have s2 := (hb3.cell (p := ⟨w.heap.size, 2, none⟩) l0).trans a2
  have t0 := (hb3.cell (p := ⟨w.heap.size + 1, 0, none⟩) l1).trans r0
  have t1 := (hb3.cell (p := ⟨w.heap.size + 1, 1, none⟩) l1).trans r1
  have t2 := (hb3.cell (p := ⟨w.heap.size + 1, 2, none⟩) l1).trans r2
  have g1 := (hb3.frozen (p := ⟨w.heap.size, 1, none⟩) l0).trans (f0 1)
  have g2 := (hb3.frozen (p := ⟨w.heap.size, 2, none⟩) l0).trans (f0 2)
  have h0 := (hb3.frozen (p := ⟨w.heap.size + 1, 0, none⟩) l1).trans (f1 0)
  have h1 := (hb3.frozen (p := ⟨w.heap.size + 1, 1, none⟩) l1).trans (f1 1)
  have h2 := (hb3.frozen (p := ⟨w.heap.size + 1, 2, none⟩) l1).trans (f1 2)
  have hB := hb2.trans (hb3.mono hb2.size)
  have n0 : w.heap.size ≠ w.heap.size + 1 := by omega
  clear a0 a1 a2 r0 r1 r2 f0 f1 d1 d2 hc1 hc2 hb3
  go_wp2
  exact bodyPost_ret (v := .agg #[.int .i64 p, .int .i64 x, .int .i64 y]) (by simp [results, Try.results66, go_sem, *]) rfl ⟨rfl, by
    have q0 : w.heap.size ≤ w.heap.size + 1 := by omega
    first
      | exact ((((hB.setCell (Nat.le_refl _) _).setCell (Nat.le_refl _) _).setCell q0 _).setCell q0 _).setCell q0 _
      | exact (((hB.setCell (Nat.le_refl _) _).setCell (Nat.le_refl _) _).setCell q0 _).setCell q0 _⟩

set_option maxRecDepth 100000 in
set_option maxHeartbeats 2000000 in
theorem changeStretch_any (A : Option Addr) (l : List Nt) (c : Nat) (sn sd : Int) (b1 b2 : Nat) (w : World) (hn : l.length ≤ 1048576) (hA : RA w A l) (k1 : 1 ≤ sn ∧ sn ≤ 16) (k2 : 1 ≤ sd ∧ sd ≤ 16) (hl1 : b1 < w.heap.size) (hl2 : b2 < w.heap.size)
    (hc1 : w.cell? ⟨b1, 0, none⟩ = some (.int .i64 sn)) (hc2 : w.cell? ⟨b2, 0, none⟩ = some (.int .i64 sd)) :
    Calls Try.prog 64 #[.slice A l.length c, .func (.func 66) #[] #[.pointer (some ⟨b1, 0, none⟩), .pointer (some ⟨b2, 0, none⟩)]] w fun e w' => RetEv w (strL sn sd l) (goodV l && goodV (strL sn sd l)) e w' := by
  cases hgb : goodV l with
  | false =>
    go_enter Try.func64, Try.ntmps64
    go_wp2_with fail
    refine (implIsVoice_any' _ _ _ _ hn hA).mono ?_
    rintro e w1 ⟨rfl, hb1⟩
    go_wp2
    go_ret2
    exact ⟨_, rfl, by simpa using Own.nil _ _ _, hb1⟩
  | true =>
    have hmk := make_events l.length hn
    have HEV := Lib.hid ((goodV_iff l).1 hgb).1
    go_enter Try.func64, Try.ntmps64
    go_wp2_with fail
    refine (implIsVoice_any' _ _ _ _ hn hA).mono ?_
    rintro e w1 ⟨rfl, hb1⟩
    have hA1 := hA.below hb1
    have hc1 : w1.cell? ⟨b1, 0, none⟩ = some (.int .i64 sn) := (hb1.cell (p := ⟨b1, 0, none⟩) hl1).trans hc1
    have hc2 : w1.cell? ⟨b2, 0, none⟩ = some (.int .i64 sd) := (hb1.cell (p := ⟨b2, 0, none⟩) hl2).trans hc2
    have hl1 : b1 < w1.heap.size := Nat.lt_of_lt_of_le hl1 hb1.size
    have hl2 : b2 < w1.heap.size := Nat.lt_of_lt_of_le hl2 hb1.size
    have HC1 := Lib.hid hc1
    have HC2 := Lib.hid hc2
    go_wp2
    clear hgb hA hmk hc1 hc2
    go_loopw [17] (fun i wr => ∃ k : Nat, k ≤ l.length ∧ i = .int .i64 k ∧ Own wr w1.heap.size 52 (.slice (some ⟨w1.heap.size, 0, none⟩) l.length l.length) ((strL sn sd l).take k ++ (List.replicate l.length (0, 0, 0)).drop k) ∧ Below w1.heap.size w1 wr)
      (fun i _ => l.length - (intOf i).toNat)
    case atStart =>
      refine ⟨0, Nat.zero_le _, rfl, ?_, (Below.refl _ _).alloc (Nat.le_refl _) _⟩
      have h := World.ownsRow_lit (base := w1.heap.size) (e := 52) (size := 3) w1 (madeCells #[.int .i64 0, .int .i64 0, .int .i64 0] (l.length * 3)) l.length (Nat.le_refl _) (by unfold maxLen; omega) (size_madeCells _ _)
      rw [made_cl] at h
      simpa [Own] using h
    case round =>
      obtain ⟨k, hk, rfl, hown, hb⟩ := hrel
      by_cases hkl : k < l.length
      · have hx : l[k]? = some l[k] := List.getElem?_eq_getElem hkl
        generalize l[k] = x at hx
        have hv := (evN_iff x).1 (HEV.out x (List.mem_of_getElem? hx))
        have hx' := strL_get sn sd l k _ hx
        obtain ⟨p, n, d⟩ := x
        have hse : strE sn sd (p, n, d) = (p, (low (n * sn) (d * sd)).1, (low (n * sn) (d * sd)).2) := rfl
        rw [hse] at hx'
        simp only at hv
        obtain ⟨g, o, rfl, hgb, h0, h1', h2'⟩ := (hA1.below hb) k _ hx
        simp only at h0 h1' h2'
        have i1 : (0 : Int) ≤ (k : Int) := by omega
        have i2 : (k : Int) < (l.length : Int) := by omega
        have HF := Lib.hid (fun W => fnStretch_any p n d sn sd b1 b2 W hv.2.1 hv.2.2.1 k1 k2)
        generalize (low (n * sn) (d * sd)).1 = a at *
        generalize (low (n * sn) (d * sd)).2 = b at *
        have hnb : Below wr.heap.size wr (wr.alloc (.cells #[.int .i64 p, .int .i64 n, .int .i64 d] 52)) := (Below.refl _ _).alloc (Nat.le_refl _) _
        have hcr1 := (hnb.cell (p := ⟨b1, 0, none⟩) (Nat.lt_of_lt_of_le hl1 hb.size)).trans ((hb.cell (p := ⟨b1, 0, none⟩) hl1).trans HC1.out)
        have hcr2 := (hnb.cell (p := ⟨b2, 0, none⟩) (Nat.lt_of_lt_of_le hl2 hb.size)).trans ((hb.cell (p := ⟨b2, 0, none⟩) hl2).trans HC2.out)
        have hlr1 : b1 < (wr.alloc (.cells #[.int .i64 p, .int .i64 n, .int .i64 d] 52)).heap.size := Nat.lt_of_lt_of_le hl1 (Nat.le_trans hb.size hnb.size)
        have hlr2 : b2 < (wr.alloc (.cells #[.int .i64 p, .int .i64 n, .int .i64 d] 52)).heap.size := Nat.lt_of_lt_of_le hl2 (Nat.le_trans hb.size hnb.size)
        have HX := Lib.hid hx'
        clear hx hx' hse
        go_wp2_with fail
        refine (HF.out _ hlr1 hlr2 hcr1 hcr2).mono ?_
        rintro e w2 ⟨rfl, hb2⟩
        have hbr2 : Below wr.heap.size wr w2 := hnb.trans (hb2.mono hnb.size)
        have hown1 := hown.below hbr2 (Nat.le_refl _)
        have hz1 : w1.heap.size < w2.heap.size := (hown1.lt _ rfl).2
        have hL : ((strL sn sd l).take k ++ (List.replicate l.length ((0, 0, 0) : Nt)).drop k).length = l.length := by simp [strL_length]; omega
        unfold Own at hown1
        rw [hL] at hown1
        have ff := fun j => hown1.frozenAt j
        have c0 : ∃ u, w2.cell? ⟨w1.heap.size, k * 3, none⟩ = some u := by rw [hown1.cellAt _ (by omega)]; exact ⟨_, List.getElem?_eq_getElem (by rw [cl_length, hL]; omega)⟩
        have c1 : ∃ u, w2.cell? ⟨w1.heap.size, k * 3 + 1, none⟩ = some u := by rw [hown1.cellAt _ (by omega)]; exact ⟨_, List.getElem?_eq_getElem (by rw [cl_length, hL]; omega)⟩
        have c2 : ∃ u, w2.cell? ⟨w1.heap.size, k * 3 + 2, none⟩ = some u := by rw [hown1.cellAt _ (by omega)]; exact ⟨_, List.getElem?_eq_getElem (by rw [cl_length, hL]; omega)⟩
        obtain ⟨u0, c0⟩ := c0
        obtain ⟨u1, c1⟩ := c1
        obtain ⟨u2, c2⟩ := c2
        have f0 := ff (k * 3)
        have f1 := ff (k * 3 + 1)
        have f2 := ff (k * 3 + 2)
        have H := Lib.hid hown1
        have HL := Lib.hid hL
        clear ff hown1 hL hown hcr1 hcr2
        go_wp2
        go_roundw
        case rel =>
          refine ⟨k + 1, by omega, by go_num, ?_, ((hb.trans (hbr2.mono hb.size)).setCell (by simp) _ |>.setCell (by simp) _).setCell (by simp) _⟩
          have k1 := ((H.out.stored (k * 3) (.int .i64 p)).1.stored (k * 3 + 1) (.int .i64 a)).1.stored (k * 3 + 2) (.int .i64 b)
          have k2 := k1.1
          rw [cl_set _ _ (p, a, b) (by rw [HL.out]; exact hkl), take_set (strL sn sd l) _ k _ HX.out (by simpa using hkl)] at k2
          unfold Own
          have hL' : ((strL sn sd l).take (k + 1) ++ (List.replicate l.length ((0, 0, 0) : Nt)).drop (k + 1)).length = l.length := by simp [strL_length]; omega
          rw [hL']
          exact k2
        case measure => simp [intOf]; omega
      · obtain rfl : k = l.length := by omega
        have hown2 : Own wr w1.heap.size 52 (.slice (some ⟨w1.heap.size, 0, none⟩) l.length l.length) (strL sn sd l) := by
          simpa [strL_length, List.take_of_length_le] using hown
        go_wp2_with fail
        refine (voiceOnly_any _ (strL sn sd l) w1.heap.size _ (by rw [strL_length]; exact hn) hown2).mono ?_
        rintro e w2 ⟨u, rfl, ho2, hb2⟩
        go_wp2
        go_ret2
        refine RetEv.mono (B' := w1) ⟨_, rfl, ho2, hb.trans (hb2.mono hb.size)⟩ hb1

set_option maxRecDepth 100000 in
set_option maxHeartbeats 1000000 in
theorem implStretchVoice_any (g : Nat) (l : List Nt) (c : Nat) (sn sd : Int) (w : World) (hn : l.length ≤ 1048576) (hc : l.length ≤ c) (hc' : c ≤ 9223372036854775807) (hA : RA w (some ⟨g, 0, none⟩) l) :
    Calls Try.prog 36 #[.slice (some ⟨g, 0, none⟩) l.length c, .int .i64 sn, .int .i64 sd] w fun e w' => ∃ v, e = .returned (.tuple #[v, .bool (stretchB l sn sd)]) ∧ Own w' w.heap.size 52 v (stretchG l sn sd) ∧ Below w.heap.size w w' := by
  have hmf : ∀ (fn : Fn) (first cap : Array Value) (w : World), (Instr.makeFunc fn first cap).run Try.prog w = .ok (.func fn first cap) w := fun _ _ _ _ => rfl
  have hB2 : Below w.heap.size w ((w.alloc (.cells #[.int .i64 sn] 3)).alloc (.cells #[.int .i64 sd] 3)) := ((Below.refl _ _).alloc (Nat.le_refl _) _).alloc (by simp) _
  cases h1 : inR sn 1 16 with
  | false =>
    have hr : stretchB l sn sd = false := by simp [stretchB, h1]
    have hr2 : stretchG l sn sd = [] := by simp [stretchG, hr]
    rw [hr, hr2]
    go_enter Try.func36, Try.ntmps36
    go_wp2_with (go_at_call 51; refine (inRange_any _ _ _ _).mono ?_; rintro e w1 ⟨rfl, rfl⟩)
    go_ret2
    exact ⟨_, rfl, Own.nil _ _ _, hB2⟩
  | true =>
    cases h2 : inR sd 1 16 with
    | false =>
      have hr : stretchB l sn sd = false := by simp [stretchB, h2]
      have hr2 : stretchG l sn sd = [] := by simp [stretchG, hr]
      rw [hr, hr2]
      go_enter Try.func36, Try.ntmps36
      go_wp2_with (go_at_call 51; refine (inRange_any _ _ _ _).mono ?_; rintro e w1 ⟨rfl, rfl⟩)
      go_ret2
      exact ⟨_, rfl, Own.nil _ _ _, hB2⟩
    | true =>
      have hr : stretchB l sn sd = (goodV l && goodV (strL sn sd l)) := by simp [stretchB, h1, h2]
      have k1 : 1 ≤ sn ∧ sn ≤ 16 := by simpa [inR] using h1
      have k2 : 1 ≤ sd ∧ sd ≤ 16 := by simpa [inR] using h2
      have e1 : ((w.alloc (.cells #[.int .i64 sn] 3)).alloc (.cells #[.int .i64 sd] 3)).cell? ⟨w.heap.size, 0, none⟩ = some (.int .i64 sn) := by go_simp
      have e2 : ((w.alloc (.cells #[.int .i64 sn] 3)).alloc (.cells #[.int .i64 sd] 3)).cell? ⟨w.heap.size + 1, 0, none⟩ = some (.int .i64 sd) := by go_simp
      go_enter Try.func36, Try.ntmps36
      go_wp2_with (first
        | (go_at_call 51; refine (inRange_any _ _ _ _).mono ?_; rintro e w1 ⟨rfl, rfl⟩)
        | (go_at_call 64; refine (changeStretch_any _ l c sn sd w.heap.size (w.heap.size + 1) _ hn (hA.below hB2) k1 k2 (by simp; omega) (by simp) e1 e2).mono ?_; rintro e w2 ⟨v, rfl, ho, hb⟩))
      go_ret2
      rw [hr]
      have hG : stretchG l sn sd = if (goodV l && goodV (strL sn sd l)) = true then strL sn sd l else [] := by simp only [stretchG, hr]
      rw [hG]
      exact ⟨_, rfl, ho.mono hB2.size, hB2.trans (hb.mono hB2.size)⟩

end Go.Proofs.Ytecbeicppfcofaa
