/- Contracts: LeastWeb of the program; both sides together. -/
import Derived.Test.YtjjohenpapfabaaWebS
namespace Go.Proofs.Ytjjohenpapfabaa
open Go.RowKit Go.Maps
set_option linter.unusedVariables false
set_option linter.unusedSimpArgs false

def wa (r : Int) : Int := if r < 0 then 0 else r
set_option maxRecDepth 100000 in
set_option maxHeartbeats 4000000 in
theorem implWeb_false (A : Option Addr) (l : List Nt) (c : Nat) (w : World) (hn : l.length ≤ 1048576) (hA : RA w A l) (hg : goodB l = false) :
    Calls Try.prog 44 #[.slice A l.length c] w fun e w' => e = .returned (.tuple #[.int .i64 0, .bool false]) ∧ Below w.heap.size w w' := by
  have HG := isSheet_quick A l c false hn hg
  clear hg
  go_enter Try.func44, Try.ntmps44
  go_wp2_with (go_at_call 28; refine (HG.out _ hA).mono ?_; rintro e w1 ⟨rfl, hb1⟩)
  go_ret2
  exact ⟨rfl, hb1⟩

set_option maxRecDepth 100000 in
set_option maxHeartbeats 4000000 in
theorem implWeb_true (A : Option Addr) (l : List Nt) (c : Nat) (w : World) (hn : l.length ≤ 1048576) (hA : RA w A l) (hg : goodB l = true) :
    Calls Try.prog 44 #[.slice A l.length c] w fun e w' => e = .returned (.tuple #[.int .i64 (wa (webTo l l.length)), .bool (decide (0 ≤ webTo l l.length))]) ∧ Below w.heap.size w w' := by
  have HG := isSheet_quick A l c true hn hg
  have hGd := (goodB_iff l).1 hg
  have h60 := hGd.2
  have hG := Lib.hid hGd
  clear hg hGd
  have hmm := @run_makeMap Try.prog
  go_enter Try.func44, Try.ntmps44
  go_wp2_with fail
  refine (HG.out _ hA).mono ?_
  rintro e w1 ⟨rfl, hbW⟩
  have hA1 := hA.below hbW
  have HBW := Lib.hid hbW
  clear hA hbW
  have hb0 : Below w1.heap.size w1 (w1.alloc (.map #[] 0)) := (Below.refl w1.heap.size w1).alloc (Nat.le_refl _) _
  have hm0 : (w1.alloc (.map #[] 0)).ownsMap Try.prog 3 (plainElem (H := Unit) Try.prog 3) w1.heap.size 0 (.map []) := World.ownsMap_made _ _ _ _
  have hz0 : w1.heap.size + 1 ≤ (w1.alloc (.map #[] 0)).heap.size := by simp
  go_wp2_with fail
  generalize w1.alloc (.map #[] 0) = W at *
  go_loopw [4, 5, 18] (fun a f i wr => ∃ (k : Nat) (D : DataW Unit), k ≤ l.length ∧ i = .int .i64 k ∧ (a = .int .i64 (wa (webTo l k)) ∧ f = .bool (decide (0 ≤ webTo l k))) ∧ wr.ownsMap Try.prog 3 (plainElem Try.prog 3) w1.heap.size k D ∧ Seen D l k ∧ Below w1.heap.size w1 wr ∧ W.heap.size ≤ wr.heap.size)
    (fun _ _ i _ => l.length - (intOf i).toNat)
  case atStart => exact ⟨0, .map [], Nat.zero_le _, rfl, ⟨rfl, rfl⟩, hm0, Seen.zero l, hb0, Nat.le_refl _⟩
  case round =>
    obtain ⟨k, D, hk, rfl, ⟨rfl, rfl⟩, hmap, hseen, hb, hsz⟩ := hrel
    by_cases hlt : k < l.length
    · have hx : l[k]? = some l[k] := List.getElem?_eq_getElem hlt
      generalize l[k] = x at hx
      have hv := (noteN_iff x).1 (hG.out.valid x (List.mem_iff_getElem?.2 ⟨k, hx⟩))
      have hs : webTo l (k + 1) = _ := (webTo_succ l k x hx).trans (webRow_take hG.out hx (webTo l k) k (Nat.le_refl _))
      have hst := hseen.step hx (by omega)
      have hnx := hG.out.next hx
      have hnn := endsF_nonneg hG.out x.1 k (by omega)
      have hsp := hseen.2 x.1
      obtain ⟨p, s, n⟩ := x
      simp only at hs hst hv hnx hnn hsp
      obtain ⟨g, o, rfl, hgb, h0, h1, h2⟩ := (hA1.below hb) k _ hx
      simp only at h0 h1 h2
      have i1 : (0 : Int) ≤ (k : Int) := by omega
      have i2 : (k : Int) < (l.length : Int) := by omega
      have HS := Lib.hid hs
      have HST := Lib.hid hst
      have hwf := wf64 n (by omega) (by omega)
      have hkey := keyI p (by omega) (by omega)
      have hgz : w1.heap.size < wr.heap.size := by omega
      generalize webTo l k = r at *
      generalize endsF p (l.take k) 0 = E at *
      clear hs hst hx hseen
      have hnb : Below wr.heap.size wr (wr.alloc (.cells #[.int .i64 p, .int .i64 s, .int .i64 n] 34)) := (Below.refl _ _).alloc (Nat.le_refl _) _
      have hmap1 := hmap.alloc (.cells #[.int .i64 p, .int .i64 s, .int .i64 n] 34)
      have p0 : (wr.alloc (.cells #[.int .i64 p, .int .i64 s, .int .i64 n] 34)).cell? ⟨wr.heap.size, 0, none⟩ = some (.int .i64 p) := by rw [World.cell?_alloc_new]; rfl
      have p1 : (wr.alloc (.cells #[.int .i64 p, .int .i64 s, .int .i64 n] 34)).cell? ⟨wr.heap.size, 1, none⟩ = some (.int .i64 s) := by rw [World.cell?_alloc_new]; rfl
      have p2 : (wr.alloc (.cells #[.int .i64 p, .int .i64 s, .int .i64 n] 34)).cell? ⟨wr.heap.size, 2, none⟩ = some (.int .i64 n) := by rw [World.cell?_alloc_new]; rfl
      have hz1 : (wr.alloc (.cells #[.int .i64 p, .int .i64 s, .int .i64 n] 34)).heap.size = wr.heap.size + 1 := by simp
      go_upto_region 8 with fail
      generalize wr.alloc (.cells #[.int .i64 p, .int .i64 s, .int .i64 n] 34) = W1 at *
      have hb1 := hb.trans (hnb.mono hb.size)
      clear h0 h1 h2 hmap hnb hb
      by_cases hE : E = 0
      · subst hE
        have hhas : Maps.has D (.int .i64 p) = false := by rw [hsp.1]; rfl
        have HS' := Lib.hid (HS.out.trans (if_pos rfl))
        clear hsp HS hnx hnn
        go_wp2_with (first
          | (at_lookup; refine wpList_lookup_own_ok_int _ rfl _ _ 79 rfl 3 3 .i64 mapLaw Try.underlying79 Try.underlying3 (zeroInt _) w1.heap.size k D rfl hmap1 _ _ rfl hkey ?_; intro cL hat hwc; rw [hhas]; clear hat)
          | (at_mapUpdate; go_loud (refine wpList_mapUpdate_own _ rfl _ _ _ 79 rfl 3 3 mapLaw Try.underlying79 _ w1.heap.size k D rfl hmap1 (by unfold maxLen; omega) _ _ _ rfl rfl hkey _ [] (plainElem_int Try.underlying3 hwf) ?_); intro w5 hmap5 hgm))
        go_roundw
        case rel => exact ⟨k + 1, _, by omega, by go_num, ⟨by rw [HS'.out], by rw [HS'.out]⟩, hmap5, HST.out, hb1.grown hgm hb1.size (fun j hj => by injection hj with hj; omega), by have := hgm.size; omega⟩
        case measure => simp [intOf]; omega
      · have hhas : Maps.has D (.int .i64 p) = true := by rw [hsp.1]; simp [hE]
        have hat0 := hsp.2 hE
        have hE2 : 2 ≤ E := by omega
        have HS1 := Lib.hid (HS.out.trans (if_neg hE))
        clear hsp HS hE hnn
        have e1 : E ≤ 2000 := by omega
        generalize hq : E - 1 = q at *
        have q1 : 1 ≤ q := by omega
        have q2 : q < s := by omega
        clear hq hE2 e1 hnx
        by_cases hr0 : r < 0
        · have HS' := Lib.hid (HS1.out.trans (if_pos (.inl hr0)))
          have hd : decide (0 ≤ r) = false := decide_eq_false (by omega)
          rw [hd]
          clear HS1
          go_wp2_with (first
            | (at_lookup; refine wpList_lookup_own_ok_int _ rfl _ _ 79 rfl 3 3 .i64 mapLaw Try.underlying79 Try.underlying3 (zeroInt _) w1.heap.size k D rfl hmap1 _ _ rfl hkey ?_; intro cL hat hwc; rw [hhas]; (obtain rfl : q = cL := by have e := hat0.symm.trans hat; injection e with e; injection e); clear hat hwc)
            | (at_mapUpdate; go_loud (refine wpList_mapUpdate_own _ rfl _ _ _ 79 rfl 3 3 mapLaw Try.underlying79 _ w1.heap.size k D rfl hmap1 (by unfold maxLen; omega) _ _ _ rfl rfl hkey _ [] (plainElem_int Try.underlying3 hwf) ?_); intro w5 hmap5 hgm))
          go_roundw
          case rel => exact ⟨k + 1, _, by omega, by go_num, ⟨by rw [HS'.out]; unfold wa; rw [if_neg (by omega)], by rw [HS'.out, decide_eq_true (show 0 ≤ s - q from by omega)]⟩, hmap5, HST.out, hb1.grown hgm hb1.size (fun j hj => by injection hj with hj; omega), by have := hgm.size; omega⟩
          case measure => simp [intOf]; omega
        · have hwa : wa r = r := if_neg hr0
          have hd : decide (0 ≤ r) = true := decide_eq_true (by omega)
          rw [hd, hwa]
          by_cases hr1 : s - q < r
          · have HS' := Lib.hid (HS1.out.trans (if_pos (.inr hr1)))
            clear HS1 hwa
            go_wp2_with (first
              | (at_lookup; refine wpList_lookup_own_ok_int _ rfl _ _ 79 rfl 3 3 .i64 mapLaw Try.underlying79 Try.underlying3 (zeroInt _) w1.heap.size k D rfl hmap1 _ _ rfl hkey ?_; intro cL hat hwc; rw [hhas]; (obtain rfl : q = cL := by have e := hat0.symm.trans hat; injection e with e; injection e); clear hat hwc)
              | (at_mapUpdate; go_loud (refine wpList_mapUpdate_own _ rfl _ _ _ 79 rfl 3 3 mapLaw Try.underlying79 _ w1.heap.size k D rfl hmap1 (by unfold maxLen; omega) _ _ _ rfl rfl hkey _ [] (plainElem_int Try.underlying3 hwf) ?_); intro w5 hmap5 hgm))
            go_roundw
            case rel => exact ⟨k + 1, _, by omega, by go_num, ⟨by rw [HS'.out]; unfold wa; rw [if_neg (by omega)], by rw [HS'.out, decide_eq_true (show 0 ≤ s - q from by omega)]⟩, hmap5, HST.out, hb1.grown hgm hb1.size (fun j hj => by injection hj with hj; omega), by have := hgm.size; omega⟩
            case measure => simp [intOf]; omega
          · have HS' := Lib.hid (HS1.out.trans (if_neg (fun h => by rcases h with h | h; exact hr0 h; exact hr1 h)))
            have HWA := Lib.hid hwa
            clear HS1 hwa
            go_wp2_with (first
              | (at_lookup; refine wpList_lookup_own_ok_int _ rfl _ _ 79 rfl 3 3 .i64 mapLaw Try.underlying79 Try.underlying3 (zeroInt _) w1.heap.size k D rfl hmap1 _ _ rfl hkey ?_; intro cL hat hwc; rw [hhas]; (obtain rfl : q = cL := by have e := hat0.symm.trans hat; injection e with e; injection e); clear hat hwc)
              | (at_mapUpdate; go_loud (refine wpList_mapUpdate_own _ rfl _ _ _ 79 rfl 3 3 mapLaw Try.underlying79 _ w1.heap.size k D rfl hmap1 (by unfold maxLen; omega) _ _ _ rfl rfl hkey _ [] (plainElem_int Try.underlying3 hwf) ?_); intro w5 hmap5 hgm))
            go_roundw
            case rel => exact ⟨k + 1, _, by omega, by go_num, ⟨by rw [HS'.out, HWA.out], by rw [HS'.out, decide_eq_true (show 0 ≤ r from by omega)]⟩, hmap5, HST.out, hb1.grown hgm hb1.size (fun j hj => by injection hj with hj; omega), by have := hgm.size; omega⟩
            case measure => simp [intOf]; omega
    · obtain rfl : k = l.length := by omega
      go_wp2
      go_ret2
      exact ⟨rfl, HBW.out.trans (hb.mono HBW.out.size)⟩

set_option maxRecDepth 100000 in
set_option maxHeartbeats 1000000 in
theorem specWeb_any (A : Option Addr) (l : List Nt) (c : Nat) (w : World) (hn : l.length ≤ 1048576) (hc : l.length ≤ c) (hc' : c ≤ 9223372036854775807) (hA : RA w A l) :
    Calls Try.prog 43 #[.slice A l.length c] w fun e w' => e = .returned (.tuple #[.int .i64 (if goodB l = true then wa (webTo l l.length) else 0), .bool (goodB l && decide (0 ≤ webTo l l.length))]) ∧ Below w.heap.size w w' := by
  cases hg : goodB l with
  | false =>
    have HG := shGood_quick A l c false hn hc hc' hg
    clear hg
    go_enter Try.func43, Try.ntmps43
    go_wp2_with (go_at_call 64; refine (HG.out _ hA).mono ?_; rintro e w1 ⟨rfl, hb1⟩)
    go_ret2
    exact ⟨by simp, hb1⟩
  | true =>
    have hG := Lib.hid ((goodB_iff l).1 hg)
    have HG := shGood_quick A l c true hn hc hc' hg
    clear hg
    rw [if_pos rfl, Bool.true_and]
    by_cases hr : webTo l l.length < 0
    · rw [show wa (webTo l l.length) = 0 from if_pos hr, decide_eq_false (show ¬ 0 ≤ webTo l l.length from by omega)]
      go_enter Try.func43, Try.ntmps43
      go_wp2_with fail
      refine (HG.out _ hA).mono ?_
      rintro e w1 ⟨rfl, hb1⟩
      go_wp2_with fail
      refine (shWeb_any A l c _ hc hc' (hA.below hb1) hG.out).mono ?_
      rintro e w2 ⟨rfl, hb2⟩
      go_wp2
      go_ret2
      exact ⟨rfl, hb1.trans (hb2.mono hb1.size)⟩
    · rw [show wa (webTo l l.length) = webTo l l.length from if_neg hr, decide_eq_true (show 0 ≤ webTo l l.length from by omega)]
      go_enter Try.func43, Try.ntmps43
      go_wp2_with fail
      refine (HG.out _ hA).mono ?_
      rintro e w1 ⟨rfl, hb1⟩
      go_wp2_with fail
      refine (shWeb_any A l c _ hc hc' (hA.below hb1) hG.out).mono ?_
      rintro e w2 ⟨rfl, hb2⟩
      have hB2 := hb1.trans (hb2.mono hb1.size)
      go_wp2_with fail
      refine (shWeb_any A l c _ hc hc' (hA.below hB2) hG.out).mono ?_
      rintro e w3 ⟨rfl, hb3⟩
      go_wp2
      go_ret2
      exact ⟨rfl, hB2.trans (hb3.mono hB2.size)⟩

theorem leastWeb_both (l : List Nt) (hbig : l.length ≤ 1048576) : ∃ (va : Int) (vb : Bool),
    (∀ (A : Nat) (c : Nat) (W : World), l.length ≤ c → c ≤ 9223372036854775807 → RA W (some ⟨A, 0, none⟩) l → Calls Try.prog 43 #[.slice (some ⟨A, 0, none⟩) l.length c] W fun e W' => e = .returned (.tuple #[.int .i64 va, .bool vb]) ∧ Below W.heap.size W W') ∧
    (∀ (A : Nat) (c : Nat) (W : World), l.length ≤ c → c ≤ 9223372036854775807 → RA W (some ⟨A, 0, none⟩) l → Calls Try.prog 44 #[.slice (some ⟨A, 0, none⟩) l.length c] W fun e W' => e = .returned (.tuple #[.int .i64 va, .bool vb]) ∧ Below W.heap.size W W') := by
  refine ⟨_, _, fun A c W h1 h2 hA => specWeb_any _ l c W hbig h1 h2 hA, fun A c W h1 h2 hA => ?_⟩
  cases hg : goodB l with
  | false => exact implWeb_false _ l c W hbig hA hg
  | true => exact implWeb_true _ l c W hbig hA hg
end Go.Proofs.Ytjjohenpapfabaa
