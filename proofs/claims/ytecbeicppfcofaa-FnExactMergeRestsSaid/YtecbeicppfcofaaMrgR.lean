/- Contracts: the program's rest of some ticks, and its map of rests by the notes before them. -/
import Derived.Test.YtecbeicppfcofaaMrgP
import Derived.Test.YtecbeicppfcofaaMapK
import Derived.Test.YtecbeicppfcofaaSum
import Derived.Test.YtecbeicppfcofaaStretch
import Derived.Deep.RegionLaw
namespace Go.Proofs.Ytecbeicppfcofaa
open Go.RowKit Go.Maps
set_option linter.unusedVariables false
set_option linter.unusedSimpArgs false

set_option maxRecDepth 100000 in
set_option maxHeartbeats 1000000 in
theorem restOf_any (t : Int) (w : World) (ht : 0 ≤ t) (ht' : t ≤ 30000000000) :
    Calls Try.prog 68 #[.int .i64 t] w fun e w' => e = .returned (.agg #[.int .i64 0, .int .i64 (restE t).2.1, .int .i64 (restE t).2.2]) ∧ Below w.heap.size w w' := by
  have HL := Lib.hid (fun W => lowestTerms_any t 720720 W ht (by omega) (by omega) (by omega))
  unfold restE
  simp only
  generalize (low t 720720).1 = x at *
  generalize (low t 720720).2 = y at *
  have hb2 : Below w.heap.size w (w.alloc (.cells #[.int .i64 0, .int .i64 0, .int .i64 0] 52)) := (Below.refl _ _).alloc (Nat.le_refl _) _
  have r0 : (w.alloc (.cells #[.int .i64 0, .int .i64 0, .int .i64 0] 52)).cell? ⟨w.heap.size, 0, none⟩ = some (.int .i64 0) := by go_simp
  have r1 : (w.alloc (.cells #[.int .i64 0, .int .i64 0, .int .i64 0] 52)).cell? ⟨w.heap.size, 1, none⟩ = some (.int .i64 0) := by go_simp
  have r2 : (w.alloc (.cells #[.int .i64 0, .int .i64 0, .int .i64 0] 52)).cell? ⟨w.heap.size, 2, none⟩ = some (.int .i64 0) := by go_simp
  have f0 : ∀ o, (w.alloc (.cells #[.int .i64 0, .int .i64 0, .int .i64 0] 52)).frozen? ⟨w.heap.size, o, none⟩ = false := fun o => by go_simp
  have hz : (w.alloc (.cells #[.int .i64 0, .int .i64 0, .int .i64 0] 52)).heap.size = w.heap.size + 1 := by simp
  go_enter Try.func68, Try.ntmps68
  go_wp2_with fail
  generalize w.alloc (.cells #[.int .i64 0, .int .i64 0, .int .i64 0] 52) = W at *
  refine (HL.out _).mono ?_
  rintro e w3 ⟨rfl, hb3⟩
  have l0 : w.heap.size < W.heap.size := by omega
  have s0 := (hb3.cell (p := ⟨w.heap.size, 0, none⟩) l0).trans r0
  have s1 := (hb3.cell (p := ⟨w.heap.size, 1, none⟩) l0).trans r1
  have s2 := (hb3.cell (p := ⟨w.heap.size, 2, none⟩) l0).trans r2
  have g0 := (hb3.frozen (p := ⟨w.heap.size, 0, none⟩) l0).trans (f0 0)
  have g1 := (hb3.frozen (p := ⟨w.heap.size, 1, none⟩) l0).trans (f0 1)
  have g2 := (hb3.frozen (p := ⟨w.heap.size, 2, none⟩) l0).trans (f0 2)
  have hB := hb2.trans (hb3.mono hb2.size)
  clear r0 r1 r2 f0 hb3
  go_wp2
  exact bodyPost_ret (v := .agg #[.int .i64 0, .int .i64 x, .int .i64 y]) (by simp [results, Try.results68, go_sem, *]) rfl ⟨rfl, ((hB.setCell (Nat.le_refl _) _).setCell (Nat.le_refl _) _).setCell (Nat.le_refl _) _⟩

/-- What the program's map says: the ticks of the rests behind so many notes. -/
def MapIs (D : DataW Unit) (r : RS) : Prop := IsMap D ∧ ∀ c : Nat, Maps.has D (.int .i64 (c : Int)) = r.2.2 c ∧ D.atKey (.int .i64 (c : Int)) (.lit (.int .i64 0)) = .lit (.int .i64 (r.2.1 c))
theorem MapIs.zero : MapIs (.map []) (rsM []) := ⟨⟨[], rfl⟩, fun c => ⟨rfl, rfl⟩⟩
theorem MapIs.rest {D : DataW Unit} {r : RS} {x : Nt} (h : MapIs D r) (hx : x.1 = 0) : MapIs (D.put (.int .i64 (r.1 : Int)) (.lit (.int .i64 (r.2.1 r.1 + tk x)))) (stepR r x) := by
  refine ⟨h.1.put _ _, fun c => ?_⟩
  unfold stepR
  rw [if_pos hx]
  simp only
  by_cases hc : c = r.1
  · subst hc
    rw [has_put_same h.1 (show WideAt.IsKeyLit (.int .i64 _) from trivial), atKey_put_same h.1 (show WideAt.IsKeyLit (.int .i64 _) from trivial)]
    simp
  · have hne : Lit.int .i64 (c : Int) ≠ Lit.int .i64 (r.1 : Int) := fun e => hc (by injection e with _ e; omega)
    rw [has_put_other hne, atKey_put_other hne, (h.2 c).1, (h.2 c).2]
    simp [hc]
theorem MapIs.note {D : DataW Unit} {r : RS} {x : Nt} (h : MapIs D r) (hx : x.1 ≠ 0) : MapIs D (stepR r x) := by
  refine ⟨h.1, fun c => ?_⟩
  unfold stepR
  rw [if_neg hx]
  exact h.2 c
theorem rs_count (l : List Nt) (k : Nat) : (rsM (l.take k)).1 ≤ k := by
  induction k with
  | zero => simp [rsM]
  | succ k ih =>
    rcases Nat.lt_or_ge k l.length with hk | hk
    · rw [rsM_take (List.getElem?_eq_getElem hk)]
      unfold stepR
      split <;> simp only <;> omega
    · have e : l.take (k + 1) = l.take k := by rw [List.take_of_length_le (by omega), List.take_of_length_le (by omega)]
      rw [e]; omega
theorem rs_total {l : List Nt} (h : goodV l = true) (k c : Nat) : 0 ≤ (rsM (l.take k)).2.1 c ∧ (rsM (l.take k)).2.1 c ≤ tks (l.take k) := by
  induction k with
  | zero => simp [rsM, tks]
  | succ k ih =>
    rcases Nat.lt_or_ge k l.length with hk | hk
    · have hx : l[k]? = some l[k] := List.getElem?_eq_getElem hk
      generalize l[k] = x at hx
      have hb := (evN.okT (((goodV_iff l).1 h).1 x (List.mem_of_getElem? hx))).1.bounds
      rw [rsM_take hx, tks_take hx]
      unfold stepR
      split
      · simp only
        split <;> omega
      · simp only; omega
    · have e : l.take (k + 1) = l.take k := by rw [List.take_of_length_le (by omega), List.take_of_length_le (by omega)]
      rw [e]; exact ih

set_option maxRecDepth 100000 in
set_option maxHeartbeats 4000000 in
theorem restsByNotes_any (A : Option Addr) (l : List Nt) (c : Nat) (w : World) (hg : goodV l = true) (hA : RA w A l) :
    Calls Try.prog 67 #[.slice A l.length c] w fun e w' => e = .returned (.map (some w.heap.size)) ∧ (∃ D : DataW Unit, w'.ownsMap Try.prog 3 (plainElem Try.prog 3) w.heap.size 100 D ∧ MapIs D (rsM l)) ∧ Below w.heap.size w w' ∧ w.heap.size < w'.heap.size := by
  have h20 := ((goodV_iff l).1 hg).2
  have hmm := @run_makeMap Try.prog
  have hb0 : Below w.heap.size w (w.alloc (.map #[] 0)) := (Below.refl w.heap.size w).alloc (Nat.le_refl _) _
  have hm0 : (w.alloc (.map #[] 0)).ownsMap Try.prog 3 (plainElem (H := Unit) Try.prog 3) w.heap.size 0 (.map []) := World.ownsMap_made _ _ _ _
  have hz0 : w.heap.size + 1 ≤ (w.alloc (.map #[] 0)).heap.size := by simp
  go_enter Try.func67, Try.ntmps67
  go_wp2_with fail
  generalize w.alloc (.map #[] 0) = W0 at *
  go_loopw [4, 10] (fun a i wr => ∃ (k : Nat) (D : DataW Unit), k ≤ l.length ∧ i = .int .i64 k ∧ a = .int .i64 ((rsM (l.take k)).1 : Int) ∧ wr.ownsMap Try.prog 3 (plainElem Try.prog 3) w.heap.size k D ∧ MapIs D (rsM (l.take k)) ∧ Below w.heap.size w wr ∧ W0.heap.size ≤ wr.heap.size)
    (fun _ i _ => l.length - (intOf i).toNat)
  case atStart => exact ⟨0, .map [], Nat.zero_le _, rfl, rfl, hm0, MapIs.zero, hb0, Nat.le_refl _⟩
  case round =>
    obtain ⟨k, D, hk, rfl, rfl, hmap, his, hb, hsz⟩ := hrel
    by_cases hlt : k < l.length
    · have hx : l[k]? = some l[k] := List.getElem?_eq_getElem hlt
      generalize l[k] = x at hx
      have hst := rsM_take hx
      have hrc := rs_count l k
      have hev := ((goodV_iff l).1 hg).1 x (List.mem_of_getElem? hx)
      have hox := (evN.okT hev).1
      have hxb := hox.bounds
      have hxt := hox.2.2.2
      have hT := tks_of hg k
      have hrt := rs_total hg k (rsM (l.take k)).1
      have hic := his.2 (rsM (l.take k)).1
      have hsr := fun h0 => MapIs.rest (x := x) his h0
      have hsn := fun h0 => MapIs.note (x := x) his h0
      rw [← hst] at hsr hsn
      have hst1 : x.1 = 0 → (rsM (l.take (k + 1))).1 = (rsM (l.take k)).1 := fun h0 => by rw [hst]; unfold stepR; rw [if_pos h0]
      have hst2 : x.1 ≠ 0 → (rsM (l.take (k + 1))).1 = (rsM (l.take k)).1 + 1 := fun h0 => by rw [hst]; unfold stepR; rw [if_neg h0]
      obtain ⟨p, n, d⟩ := x
      simp only at hsr hsn hst1 hst2
      obtain ⟨g, o, rfl, hgb, h0, h1, h2⟩ := (hA.below hb) k _ hx
      simp only at h0 h1 h2
      have i1 : (0 : Int) ≤ (k : Int) := by omega
      have i2 : (k : Int) < (l.length : Int) := by omega
      have HSR := Lib.hid hsr
      have HSN := Lib.hid hsn
      have HS1 := Lib.hid hst1
      have HS2 := Lib.hid hst2
      have HOX := Lib.hid hox
      clear hsr hsn hst1 hst2 hst hx his hev hox
      generalize hR : rsM (l.take k) = R at *
      have HR := Lib.hid hR
      clear hR
      have hnb : Below wr.heap.size wr (wr.alloc (.cells #[.int .i64 p, .int .i64 n, .int .i64 d] 52)) := (Below.refl _ _).alloc (Nat.le_refl _) _
      have q0 : (wr.alloc (.cells #[.int .i64 p, .int .i64 n, .int .i64 d] 52)).cell? ⟨wr.heap.size, 0, none⟩ = some (.int .i64 p) := by rw [World.cell?_alloc_new]; rfl
      have q1 : (wr.alloc (.cells #[.int .i64 p, .int .i64 n, .int .i64 d] 52)).cell? ⟨wr.heap.size, 1, none⟩ = some (.int .i64 n) := by rw [World.cell?_alloc_new]; rfl
      have q2 : (wr.alloc (.cells #[.int .i64 p, .int .i64 n, .int .i64 d] 52)).cell? ⟨wr.heap.size, 2, none⟩ = some (.int .i64 d) := by rw [World.cell?_alloc_new]; rfl
      have hz1 : (wr.alloc (.cells #[.int .i64 p, .int .i64 n, .int .i64 d] 52)).heap.size = wr.heap.size + 1 := by simp
      go_wp2_with fail
      generalize wr.alloc (.cells #[.int .i64 p, .int .i64 n, .int .i64 d] 52) = W at *
      refine (isRest_any _ _ _ _).mono ?_
      rintro e w2 ⟨rfl, hb2⟩
      have hnb2 := hnb.trans (hb2.mono hnb.size)
      have q0 := (hb2.cell (p := ⟨wr.heap.size, 0, none⟩) (by show wr.heap.size < _; omega)).trans q0
      have q1 := (hb2.cell (p := ⟨wr.heap.size, 1, none⟩) (by show wr.heap.size < _; omega)).trans q1
      have q2 := (hb2.cell (p := ⟨wr.heap.size, 2, none⟩) (by show wr.heap.size < _; omega)).trans q2
      have hbw := hb.trans (hnb2.mono hb.size)
      have hm2 := ownsMap_below hmap hnb2
      have hx2 : wr.heap.size < w2.heap.size := by have := hb2.size; omega
      have hs2 : W0.heap.size ≤ w2.heap.size := by omega
      clear hb2 hnb hnb2 h0 h1 h2 hmap
      by_cases h0 : p = 0
      · have hd : decide (p = 0) = true := by simp [h0]
        have hkey := keyI (R.1 : Int) (by omega) (by omega)
        obtain ⟨c1, hrun1, hat1, _⟩ := hm2.lookup_int mapLaw Try.underlying75 Try.underlying3 (zeroInt _) hkey
        have hc1 : c1 = R.2.1 R.1 := by
          have := hat1.symm.trans hic.2
          injection this with this
          injection this
        have hwr : IntKind.i64.wrap (R.2.1 R.1 + tk (p, n, d)) = R.2.1 R.1 + tk (p, n, d) := IntWalk.i64_in _ (by omega)
        have hwf := wf64 (R.2.1 R.1 + tk (p, n, d)) (by omega) (by omega)
        subst hc1
        have hrunD : (Instr.lookup 75 (.map (some w.heap.size)) (.int .i64 (R.1 : Int)) false).run Try.prog w2.drew = .ok (.int .i64 (R.2.1 R.1)) w2.drew := by
          obtain ⟨c2, hrun2, hat2, _⟩ := (hm2.drew).lookup_int mapLaw Try.underlying75 Try.underlying3 (zeroInt _) hkey
          have hc2 : c2 = R.2.1 R.1 := by
            have := hat2.symm.trans hic.2
            injection this with this
            injection this
          rw [← hc2]; exact hrun2
        have HP0 := Lib.hid h0
        have HIC := Lib.hid hic
        have HWF := Lib.hid hwf
        have HM2 := Lib.hid hm2
        clear h0 hrun1 hat1 hic hwf hm2
        go_upto_region 7 with fail
        have q0d : w2.drew.cell? ⟨wr.heap.size, 0, none⟩ = some (.int .i64 p) := q0
        have q1d : w2.drew.cell? ⟨wr.heap.size, 1, none⟩ = some (.int .i64 n) := q1
        have q2d : w2.drew.cell? ⟨wr.heap.size, 2, none⟩ = some (.int .i64 d) := q2
        go_region_law (go_simp; (refine (ticksOf_any p n d _ HOX.out).mono ?_; rintro e w3 ⟨rfl, hb3⟩; have hBW := Lib.hid (show Below w2.heap.size w2 w3 from (Below.refl _ w2).drew.trans hb3); have hm3 := ownsMap_below HM2.out hBW.out; obtain ⟨c3, hrun3, hat3, hu3⟩ := hm3.lookup_int mapLaw Try.underlying75 Try.underlying3 (zeroInt _) hkey; have hc3 : c3 = R.2.1 R.1 := (by have := hat3.symm.trans HIC.out.2; injection this with this; injection this); subst hc3; clear hat3 hu3; obtain ⟨w5, hrun5, hmap5, hg5⟩ := hm3.update mapLaw Try.underlying75 (by unfold maxLen; omega) hkey (plainElem_int Try.underlying3 HWF.out); have HM5 := Lib.hid hmap5; have HG5 := Lib.hid hg5; clear hb3 hm3 hmap5 hg5; dsimp only))
        all_goals
          go_wp2
          go_roundw
          case rel =>
            have hB3 := hbw.trans (hBW.out.mono hbw.size)
            exact ⟨k + 1, _, by omega, by go_num, by rw [HS1.out HP0.out], HM5.out, HSR.out HP0.out, hB3.grown HG5.out hB3.size (fun j hj => by injection hj with hj; omega), by have := hBW.out.size; have := HG5.out.size; omega⟩
          case measure => simp [intOf]; omega
      · have hd : decide (p = 0) = false := by simp [h0]
        go_wp2
        go_roundw
        case rel => exact ⟨k + 1, _, by omega, by go_num, by rw [HS2.out h0]; rfl, hm2.mono (by omega), HSN.out h0, hbw, hs2⟩
        case measure => simp [intOf]; omega
    · obtain rfl : k = l.length := by omega
      rw [List.take_length] at his
      go_wp2
      go_ret
      exact ⟨rfl, ⟨D, hmap.mono (by omega), his⟩, hb, by omega⟩

end Go.Proofs.Ytecbeicppfcofaa
