/- The program's repeatedNotes: the pairs of notes of one pitch with no other one between. -/
import Derived.Test.YtecbeicppfcofaaPairs
import Derived.Test.YtecbeicppfcofaaMapK
import Derived.LoopTactic
import Derived.Deep.Onto
import Derived.Deep.DeepCutAuto
namespace Go.Proofs.Ytecbeicppfcofaa
open Go.RowKit Go.Maps
set_option linter.unusedVariables false
set_option linter.unusedSimpArgs false

theorem OwnI.pair (w : World) (base : Nat) (a b : Int) (hb : base ≤ w.heap.size) : OwnI (w.alloc (.cells #[.int .i64 a, .int .i64 b] 3)) base 3 (ps2 w.heap.size) [a, b] := by
  have h := World.ownsRow_lit (base := base) (e := 3) (size := 1) w #[.int .i64 a, .int .i64 b] 2 hb (by unfold maxLen; omega) rfl
  exact h

set_option maxRecDepth 100000 in
set_option maxHeartbeats 4000000 in
theorem repeated_any (A : Option Addr) (l : List Nt) (c : Nat) (w : World) (hn : l.length ≤ 1048576) (hA : RA w A l) (hg : Good l) :
    Calls Try.prog 73 #[.slice A l.length c] w fun e w' => ∃ v, e = .returned v ∧ OwnP w' w.heap.size v (pairsL l l.length) ∧ Below w.heap.size w w' := by
  have h30 := hg.2
  have hmm := @run_makeMap Try.prog
  have hb0 : Below w.heap.size w (w.alloc (.map #[] 0)) := (Below.refl w.heap.size w).alloc (Nat.le_refl _) _
  have hm0 : (w.alloc (.map #[] 0)).ownsMap Try.prog 3 (plainElem (H := Unit) Try.prog 3) w.heap.size 0 (.map []) := World.ownsMap_made _ _ _ _
  have hz0 : w.heap.size + 1 ≤ (w.alloc (.map #[] 0)).heap.size := by simp
  go_enter Try.func73, Try.ntmps73
  go_wp2_with fail
  generalize w.alloc (.map #[] 0) = W at *
  go_loopw [3, 12] (fun a i wr => ∃ (k : Nat) (D : DataW Unit), k ≤ l.length ∧ i = .int .i64 k ∧ OwnP wr (w.heap.size + 1) a (pairsL l k) ∧ wr.ownsMap Try.prog 3 (plainElem Try.prog 3) w.heap.size k D ∧ Seen D l k ∧ Below w.heap.size w wr ∧ W.heap.size ≤ wr.heap.size)
    (fun _ i _ => l.length - (intOf i).toNat)
  case atStart => exact ⟨0, .map [], Nat.zero_le _, rfl, OwnP.nil _ _, hm0, Seen.zero l, hb0, Nat.le_refl _⟩
  case round =>
    obtain ⟨k, D, hk, rfl, hown, hmap, hseen, hb, hsz⟩ := hrel
    by_cases hlt : k < l.length
    · have hx : l[k]? = some l[k] := List.getElem?_eq_getElem hlt
      generalize l[k] = x at hx
      have hs := pairsL_succ hx
      have hst := hseen.step hx
      have hv := (noteN_iff x).1 (hg.1 k x hlt hx).1
      obtain ⟨p, s, n⟩ := x
      simp only at hs hst hv
      obtain ⟨g, o, rfl, hgb, h0, h1, h2⟩ := (hA.below hb) k _ hx
      simp only at h0 h1 h2
      have i1 : (0 : Int) ≤ (k : Int) := by omega
      have i2 : (k : Int) < (l.length : Int) := by omega
      have hvlt := hown.blocks
      have hgz : w.heap.size < wr.heap.size := by omega
      have HVL := Lib.hid hvlt
      have HS := Lib.hid hs
      have HST := Lib.hid hst
      have hsp := hseen.2 p
      have hwf := wf64 (k : Int) (by omega) (by omega)
      have hkey := keyI p (by omega) (by omega)
      have hpl := pairsL_length l k
      clear hs hst hx hseen hvlt
      have hnb : Below wr.heap.size wr (wr.alloc (.cells #[.int .i64 p, .int .i64 s, .int .i64 n] 66)) := (Below.refl _ _).alloc (Nat.le_refl _) _
      have hmap1 := hmap.alloc (.cells #[.int .i64 p, .int .i64 s, .int .i64 n] 66)
      have ho1 := hown.below hnb (Nat.le_refl _)
      have p0 : (wr.alloc (.cells #[.int .i64 p, .int .i64 s, .int .i64 n] 66)).cell? ⟨wr.heap.size, 0, none⟩ = some (.int .i64 p) := by rw [World.cell?_alloc_new]; rfl
      have hz1 : (wr.alloc (.cells #[.int .i64 p, .int .i64 s, .int .i64 n] 66)).heap.size = wr.heap.size + 1 := by simp
      go_upto_region 6 with fail
      generalize wr.alloc (.cells #[.int .i64 p, .int .i64 s, .int .i64 n] 66) = W1 at *
      clear h0 h1 h2 hown hmap
      have hb1 := hb.trans (hnb.mono hb.size)
      by_cases hq : 0 ≤ lastIx p l k
      · have hat0 := hsp.2 hq
        have hhas : Maps.has D (.int .i64 p) = true := by rw [hsp.1]; simp [hq]
        have HQ := Lib.hid hq
        clear hsp hq
        generalize hqq : lastIx p l k = q at *
        have HQQ := Lib.hid hqq
        clear hqq
        have ho3 : OwnI ((W1.alloc (.cells #[.int .i64 q, .int .i64 (k : Int)] 3)).alloc (.cells #[ps2 (wr.heap.size + 1)] 60)) (w.heap.size + 1) 3 (ps2 (wr.heap.size + 1)) [q, (k : Int)] := by
          rw [← hz1]
          exact (OwnI.pair W1 (w.heap.size + 1) q k (by omega)).below ((Below.refl _ _).alloc (Nat.le_refl _) _) (Nat.le_refl _)
        have hb13 : Below W1.heap.size W1 ((W1.alloc (.cells #[.int .i64 q, .int .i64 (k : Int)] 3)).alloc (.cells #[ps2 (wr.heap.size + 1)] 60)) := ((Below.refl _ _).alloc (Nat.le_refl _) _).alloc (by simp) _
        have hc3 : ((W1.alloc (.cells #[.int .i64 q, .int .i64 (k : Int)] 3)).alloc (.cells #[ps2 (wr.heap.size + 1)] 60)).cell? ⟨wr.heap.size + 1 + 1, 0, none⟩ = some (ps2 (wr.heap.size + 1)) := by
          have h := World.cell?_alloc_new (W1.alloc (.cells #[.int .i64 q, .int .i64 (k : Int)] 3)) #[ps2 (wr.heap.size + 1)] 60 0
          rw [show (W1.alloc (.cells #[.int .i64 q, .int .i64 (k : Int)] 3)).heap.size = wr.heap.size + 1 + 1 by simp [hz1]] at h
          exact h
        have H3 := Lib.hid ho3
        have HB3 := Lib.hid hb13
        have HC3 := Lib.hid hc3
        have hmap3 := Lib.hid ((hmap1.alloc (.cells #[.int .i64 q, .int .i64 (k : Int)] 3)).alloc (.cells #[ps2 (wr.heap.size + 1)] 60))
        have p03 := Lib.hid ((hb13.cell (p := ⟨wr.heap.size, 0, none⟩) (by show wr.heap.size < _; omega)).trans p0)
        have HO1 := Lib.hid ho1
        clear ho3 hb13 hc3 ho1
        go_wp2_with (first
          | (at_lookup; refine wpList_lookup_own_ok_int _ rfl _ _ 75 rfl 3 3 .i64 mapLaw Try.underlying75 Try.underlying3 (zeroInt _) w.heap.size k D rfl hmap1 _ _ rfl hkey ?_; intro cL hat hwc; rw [hhas]; (obtain rfl : q = cL := by have e := hat0.symm.trans hat; injection e with e; injection e); clear hat hwc)
          | (at_builtin; go_loud (refine wpList_appP W1 _ rfl (.tmp 25) (.tmp 29) rfl (w.heap.size + 1) _ _ rfl HO1.out HB3.out (by omega) (wr.heap.size + 1) (wr.heap.size + 1 + 1) (q, (k : Int)) rfl HC3.out H3.out (Nat.le_of_eq hz1) (by omega) ?_); intro v4 w4 ho4 hg4; have p04 := hg4.cell p03.out (fun e => by have := HVL.out _ e.symm; simp at this <;> omega); have hmap4 := hmap3.out.kept hg4 (fun e => by have := HVL.out _ e.symm; omega); have hb4 := (hb1.trans (HB3.out.mono hb1.size)).grown hg4 (Nat.le_trans hb1.size HB3.out.size) (fun j hj => by have := HVL.out j hj; omega); have hz4 := hg4.size)
          | (at_mapUpdate; go_loud (refine wpList_mapUpdate_own _ rfl _ _ _ 75 rfl 3 3 mapLaw Try.underlying75 _ w.heap.size k D rfl hmap4 (by unfold maxLen; omega) _ _ _ rfl rfl hkey _ [] (plainElem_int Try.underlying3 hwf) ?_); intro w5 hmap5 hgm))
        go_roundw
        case rel =>
          refine ⟨k + 1, _, by omega, by go_num, ?_, hmap5, HST.out, hb4.grown hgm hb4.size (fun j hj => by injection hj with hj; omega), ?_⟩
          · rw [HS.out, if_pos HQ.out]
            exact ho4.grownOff hgm (Nat.lt_succ_self _)
          · exact Nat.le_trans hsz (Nat.le_trans (by omega : wr.heap.size ≤ W1.heap.size) (Nat.le_trans HB3.out.size (Nat.le_trans hz4 hgm.size)))
        case measure => simp [intOf]; omega
      · have hhas : Maps.has D (.int .i64 p) = false := by rw [hsp.1]; simp [hq]
        have HQ := Lib.hid hq
        have HO1 := Lib.hid ho1
        clear hsp hq ho1
        go_wp2_with (first
          | (at_lookup; refine wpList_lookup_own_ok_int _ rfl _ _ 75 rfl 3 3 .i64 mapLaw Try.underlying75 Try.underlying3 (zeroInt _) w.heap.size k D rfl hmap1 _ _ rfl hkey ?_; intro cL hat hwc; rw [hhas]; clear hat)
          | (at_mapUpdate; go_loud (refine wpList_mapUpdate_own _ rfl _ _ _ 75 rfl 3 3 mapLaw Try.underlying75 _ w.heap.size k D rfl hmap1 (by unfold maxLen; omega) _ _ _ rfl rfl hkey _ [] (plainElem_int Try.underlying3 hwf) ?_); intro w5 hmap5 hgm))
        go_roundw
        case rel =>
          refine ⟨k + 1, _, by omega, by go_num, ?_, hmap5, HST.out, hb1.grown hgm hb1.size (fun j hj => by injection hj with hj; omega), ?_⟩
          · rw [HS.out, if_neg HQ.out]
            exact HO1.out.grownOff hgm (Nat.lt_succ_self _)
          · have := hgm.size; omega
        case measure => simp [intOf]; omega
    · obtain rfl : k = l.length := by omega
      go_wp2
      go_ret
      obtain ⟨gs, h1, h2, hr, h4, h5⟩ := hown
      refine ⟨_, rfl, ⟨gs, h1, h2, World.ownsRow.mono hr (Nat.le_succ _), h4, fun j g q hj hq => (h5 j g q hj hq).mono (Nat.le_succ _)⟩, hb⟩
end Go.Proofs.Ytecbeicppfcofaa
