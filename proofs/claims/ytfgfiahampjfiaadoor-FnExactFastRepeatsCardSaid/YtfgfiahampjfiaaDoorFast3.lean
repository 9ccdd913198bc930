/- FastRepeats: the model's and the program's functions have one answer, in memory of their own. -/
import Derived.Test.YtfgfiahampjfiaaDoorFast2
namespace Go.Proofs.YtfgfiahampjfiaaDoor
open Go.RowKit Go.Sort Go.Maps
set_option linter.unusedVariables false
set_option linter.unusedSimpArgs false

/-- A call returned pairs of its own, or nil and false; below the heap's old size nothing has turned. -/
def RetP (B : World) (l : List (Int × Int)) (ok : Bool) (e : Ending) (w' : World) : Prop :=
  ∃ v, e = .returned (.tuple #[v, .bool ok]) ∧ OwnP w' B.heap.size v (if ok = true then l else []) ∧ Below B.heap.size B w'
theorem OwnP.mono {w : World} {base base' : Nat} {v : Value} {ps : List (Int × Int)} (h : OwnP w base v ps) (hb : base' ≤ base) : OwnP w base' v ps := by
  obtain ⟨gs, h1, h2, hr, h4, h5⟩ := h
  exact ⟨gs, h1, h2, World.ownsRow.mono hr hb, h4, fun j g q hj hq => (h5 j g q hj hq).mono hb⟩

set_option maxRecDepth 100000 in
set_option maxHeartbeats 2000000 in
theorem specFast_any (A : Option Addr) (l : List Int) (c : Nat) (r : Int) (M : Option Addr) (m : List Nt) (d : Nat) (w : World) (hn : l.length ≤ 1048576) (hA : RI w A l) (hm : m.length ≤ 1048576) (hd : m.length ≤ d) (hd' : d ≤ 9223372036854775807) (hM : RA w M m) :
    Calls Tryd.prog 35 #[.agg #[.slice A l.length c, .int .i64 r], .slice M m.length d] w fun e w' => RetP w (fastL r m m.length) (gdI l r && goodB m) e w' := by
  have hb0 : Below w.heap.size w (w.alloc (.cells #[.slice A l.length c, .int .i64 r] 27)) := (Below.refl w.heap.size w).alloc (Nat.le_refl _) _
  obtain ⟨x0, x1, hz⟩ := Box.new w A l.length c r 27
  have hA := hA.below hb0
  have hM := hM.below hb0
  go_enter Tryd.func35, Tryd.ntmps35
  go_wp2_with fail
  generalize w.alloc (.cells #[.slice A l.length c, .int .i64 r] 27) = W at *
  refine (inAsked_any _ _ _ _ _ _ _ _ hn hA hm hd hd' hM).mono ?_
  rintro e w1 ⟨rfl, hb1⟩
  have hB1 := hb0.trans (hb1.mono hb0.size)
  have y0 := (hb1.cell (p := ⟨w.heap.size, 0, none⟩) hz).trans x0
  have y1 := (hb1.cell (p := ⟨w.heap.size, 1, none⟩) hz).trans x1
  cases hg : (gdI l r && goodB m) with
  | false =>
    go_wp2
    go_ret2
    rw [hg]
    exact ⟨_, rfl, by simpa using OwnP.nil w1 w.heap.size, hB1⟩
  | true =>
    have hgood : Good m := (goodB_iff m).1 (by simp at hg; exact hg.2)
    have HG := Lib.hid hg
    clear hg
    go_wp2_with fail
    refine (inFast_any _ _ _ _ _ hm (hM.below hb1) hgood).mono ?_
    rintro e w2 ⟨v2, rfl, ho2, hb2⟩
    go_wp2
    go_ret2
    rw [HG.out]
    exact ⟨_, rfl, by simpa using ho2.mono hB1.size, hB1.trans (hb2.mono hB1.size)⟩

set_option maxRecDepth 100000 in
set_option maxHeartbeats 4000000 in
theorem implFast_any (A : Option Addr) (l : List Int) (c : Nat) (r : Int) (M : Option Addr) (m : List Nt) (d : Nat) (w : World) (hn : l.length ≤ 1048576) (hA : RI w A l) (hm : m.length ≤ 1048576) (hM : RA w M m) (hL : Lim w) :
    Calls Tryd.prog 36 #[.agg #[.slice A l.length c, .int .i64 r], .slice M m.length d] w fun e w' => RetP w (fastL r m m.length) (gdI l r && goodB m) e w' := by
  have hb0 : Below w.heap.size w (w.alloc (.cells #[.slice A l.length c, .int .i64 r] 27)) := (Below.refl w.heap.size w).alloc (Nat.le_refl _) _
  obtain ⟨x0, x1, hz⟩ := Box.new w A l.length c r 27
  have hA := hA.below hb0
  have hM := hM.below hb0
  have hL := hL.below hb0
  go_enter Tryd.func36, Tryd.ntmps36
  go_wp2_with fail
  generalize w.alloc (.cells #[.slice A l.length c, .int .i64 r] 27) = W at *
  refine (isIns_any _ _ _ _ _ hn hA hL).mono ?_
  rintro e w1 ⟨rfl, hb1⟩
  have hB1 := hb0.trans (hb1.mono hb0.size)
  cases hg : gdI l r with
  | false =>
    go_wp2
    go_ret2
    rw [hg, Bool.false_and]
    exact ⟨_, rfl, by simpa using OwnP.nil w1 w.heap.size, hB1⟩
  | true =>
    have HG := Lib.hid hg
    clear hg
    go_wp2_with fail
    refine (isScore_any _ _ _ _ hm (hM.below hb1)).mono ?_
    rintro e w2 ⟨rfl, hb2⟩
    have hb12 := hb1.trans (hb2.mono hb1.size)
    have hB2 := hB1.trans (hb2.mono hB1.size)
    cases hgb : goodB m with
    | false =>
      have HB := Lib.hid hgb
      go_wp2
      go_ret2
      rw [HG.out, HB.out, Bool.and_false]
      exact ⟨_, rfl, by simpa using OwnP.nil w2 w.heap.size, hB2⟩
    | true =>
      have hgood := (goodB_iff m).1 hgb
      have h30 := hgood.2
      have HB := Lib.hid hgb
      have hM2 := hM.below hb12
      clear hgb hL
      go_wp2_with fail
      refine (repeated_any _ _ _ _ hm hM2 hgood).mono ?_
      rintro e w3 ⟨v0, rfl, hv0, hb3⟩
      have hb13 := hb12.trans (hb3.mono hb12.size)
      have hB3 := hB2.trans (hb3.mono hB2.size)
      have x1 := (hb13.cell (p := ⟨w.heap.size, 1, none⟩) hz).trans x1
      have hz := Nat.lt_of_lt_of_le hz hb13.size
      have hM3 := hM2.below hb3
      have hs23 := hb3.size
      have hpl := pairsL_length m m.length
      obtain ⟨gs, hown0⟩ : ∃ gs, OwnG w3 w2.heap.size v0 (pairsL m m.length) gs := hv0
      generalize hpp : pairsL m m.length = P at hown0 hpl
      have HPP := Lib.hid hpp
      obtain ⟨V, cV, hfV, hrV⟩ := hown0.form
      subst hfV
      have hmem := fun (a b : Int) (h : (a, b) ∈ P) => by rw [← HPP.out] at h; exact pairsL_mem m a b m.length h
      have HME := Lib.hid hmem
      have HOW := Lib.hid hown0
      have HRV := Lib.hid hrV
      clear hb1 hb2 hb12 hb13 x0 hM2 hmem hown0 hrV hpp hA
      go_wp2_with fail
      go_loopw [6, 20] (fun a i wr => ∃ k : Nat, k ≤ P.length ∧ i = .int .i64 k ∧ OwnG wr w2.heap.size a ((fz m r gs P k).map (·.2)) ((fz m r gs P k).map (·.1)) ∧ (∀ j, a.ownBlock = some j → w3.heap.size ≤ j) ∧ Below w3.heap.size w3 wr)
        (fun _ i _ => P.length - (intOf i).toNat)
      case atStart => exact ⟨0, Nat.zero_le _, rfl, by simpa [fz] using OwnG.nil w3 w2.heap.size, (fun j h => by simp [Value.ownBlock] at h), Below.refl _ _⟩
      case round =>
        obtain ⟨k, hk, rfl, hown, hout, hb⟩ := hrel
        have HO := Lib.hid hown
        have HOUT := Lib.hid hout
        clear hown hout
        by_cases hlt : k < P.length
        · have hq : P[k]? = some P[k] := List.getElem?_eq_getElem hlt
          have hgl : gs[k]? = some (gs[k]'(by rw [HOW.out.1]; exact hlt)) := List.getElem?_eq_getElem _
          generalize gs[k]'(by rw [HOW.out.1]; exact hlt) = g at hgl
          generalize P[k] = q at hq
          obtain ⟨qa, qb⟩ := q
          obtain ⟨gv, rfl, hgv, cv⟩ := HRV.out k g hgl
          have hin := HOW.out.2.2.2.2 k g (qa, qb) hgl hq
          have hqb := HME.out qa qb (List.mem_of_getElem? hq)
          have cvr := (hb.cell (p := ⟨gv, k, none⟩) hgv).trans cv
          have hgw : g < w3.heap.size := (hin.lt g rfl).2
          have hinr := hin.below hb (Nat.le_refl _)
          have c0 := hinr.ra.at (j := 0) rfl
          have c1 := hinr.ra.at (j := 1) rfl
          have yr := (hb.cell (p := ⟨w.heap.size, 1, none⟩) hz).trans x1
          have hzr := Nat.lt_of_lt_of_le hz hb.size
          have i1 : (0 : Int) ≤ (k : Int) := by omega
          have i2 : (k : Int) < (P.length : Int) := by omega
          have HFS := Lib.hid (fz_succ (l := m) (r := r) hgl hq)
          have HFR := Lib.hid (fz_fresh (l := m) (r := r) (ps := P) HOW.out.2.1 hgl)
          have hfl := fz_len m r gs P k
          have HIN := Lib.hid hinr
          have hMr := hM3.below hb
          clear hin hinr hgl hq cv
          have steps := fun (W : World) (h : Below wr.heap.size wr W) => steps_any M m d g qa qb W hm (hMr.below h) hgood (by omega) (by omega) (by omega) (by omega) ((h.cell (p := ⟨g, 0, none⟩) (Nat.lt_of_lt_of_le hgw hb.size)).trans c0) ((h.cell (p := ⟨g, 1, none⟩) (Nat.lt_of_lt_of_le hgw hb.size)).trans c1)
          have ST := Lib.hid steps
          clear steps c0 c1 hMr
          go_upto_region 7 with fail
          have hdr : Below wr.heap.size wr wr.drew := (Below.refl _ _).drew
          have yrd : wr.drew.cell? ⟨w.heap.size, 1, none⟩ = some (.int .i64 r) := yr
          have hzrd : w.heap.size < wr.drew.heap.size := hzr
          have hout := HOUT.out
          by_cases hlt2 : apart m qa qb < r
          · have hd : decide (apart m qa qb < r) = true := by simp [hlt2]
            go_cut [29] (fun b wx => b = .bool true ∧ Below wr.heap.size wr wx)
            case first =>
              go_region_with (go_at_call 78; refine (ST.out _ hdr).mono ?_; rintro e w4 ⟨rfl, hb4⟩; have y4 := (hb4.cell (p := ⟨w.heap.size, 1, none⟩) hzrd).trans yrd)
              all_goals
                go_wp2_with fail
                go_meet
                case rel => exact ⟨by simp [hlt2], hdr.trans (hb4.mono hdr.size)⟩
            case rest =>
            obtain ⟨rfl, hb4⟩ := hcut
            obtain ⟨w4, rfl⟩ : ∃ x, x = wc := ⟨wc, rfl⟩
            have hb34 := hb.trans (hb4.mono hb.size)
            have HO4 := Lib.hid ((HO.out.below hb4 (Nat.le_refl _)).below ((Below.refl w4.heap.size w4).alloc (Nat.le_refl _) (.cells #[ps2 g] 22)) (Nat.le_refl _))
            have HI4 := Lib.hid ((HIN.out.below hb4 (Nat.le_refl _)).below ((Below.refl w4.heap.size w4).alloc (Nat.le_refl _) (.cells #[ps2 g] 22)) (Nat.le_refl _))
            have hc4 : (w4.alloc (.cells #[ps2 g] 22)).cell? ⟨w4.heap.size, 0, none⟩ = some (ps2 g) := by rw [World.cell?_alloc_new]; rfl
            have HC4 := Lib.hid hc4
            have HB4 := Lib.hid (show Below w3.heap.size w3 (w4.alloc (.cells #[ps2 g] 22)) from hb34.alloc hb34.size _)
            have hlen : ((fz m r gs P k).map (·.2)).length ≤ 4000000 := by rw [List.length_map]; omega
            have HLEN := Lib.hid hlen
            clear hc4 hlen yr yrd hzr hzrd hdr hd
            go_wp2_with (at_builtin; go_loud (refine wpList_appG _ rfl (.tmp 30) (.tmp 32) rfl w2.heap.size _ _ _ rfl HO4.out (Nat.le_trans hs23 HB4.out.size) g w4.heap.size (qa, qb) rfl HC4.out HI4.out HFR.out (fun e => by have := hout _ e; omega) HLEN.out ?_); intro v5 w5 ho5 hg5 hv5)
            go_roundw
            case rel =>
              refine ⟨k + 1, by omega, by go_num, ?_, ?_, HB4.out.grown hg5 HB4.out.size hout⟩
              · rw [HFS.out, if_pos hlt2, List.map_append, List.map_append]
                exact ho5
              · intro j hj
                rcases hv5 with h | h
                · rw [h] at hj; exact hout j hj
                · rw [h] at hj; injection hj with hj; have := HB4.out.size; omega
            case measure => simp [intOf]; omega
          · have hd : decide (apart m qa qb < r) = false := by simp [hlt2]
            go_cut [29] (fun b wx => b = .bool false ∧ Below wr.heap.size wr wx)
            case first =>
              go_region_with (go_at_call 78; refine (ST.out _ hdr).mono ?_; rintro e w4 ⟨rfl, hb4⟩; have y4 := (hb4.cell (p := ⟨w.heap.size, 1, none⟩) hzrd).trans yrd)
              all_goals
                go_wp2_with fail
                go_meet
                case rel => exact ⟨by simp [hlt2], hdr.trans (hb4.mono hdr.size)⟩
            case rest =>
            obtain ⟨rfl, hb4⟩ := hcut
            have hb34 := hb.trans (hb4.mono hb.size)
            go_wp2
            go_roundw
            case rel =>
              refine ⟨k + 1, by omega, by go_num, ?_, hout, hb34⟩
              rw [HFS.out, if_neg hlt2]
              exact HO.out.below hb4 (Nat.le_refl _)
            case measure => simp [intOf]; omega
        · obtain rfl : k = P.length := by omega
          go_wp2
          go_ret2
          rw [HG.out, HB.out, Bool.and_true]
          refine ⟨_, rfl, ?_, hB3.trans (hb.mono hB3.size)⟩
          have e := fz_end m r gs P HOW.out.1
          have e2 : P.filter (fun q => decide (apart m q.1 q.2 < r)) = fastL r m m.length := by rw [← HPP.out]; rfl
          have ho := HO.out
          rw [e, e2] at ho
          have hP : OwnP wr w2.heap.size u6 (fastL r m m.length) := ⟨_, ho⟩
          simpa using hP.mono hB2.size
end Go.Proofs.YtfgfiahampjfiaaDoor
