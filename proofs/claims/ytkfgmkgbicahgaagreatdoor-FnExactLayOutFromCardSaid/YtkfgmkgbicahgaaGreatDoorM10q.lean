/- Texts of the proof, run together: Fast2, Fast3, Can, LayS, Lay2. -/
import Derived.Test.YtkfgmkgbicahgaaGreatDoorM9q
import Derived.Test.YtkfgmkgbicahgaaGreatDoorM8q
import Derived.Test.YtkfgmkgbicahgaaGreatDoorHSortedq
namespace Go.Proofs.YtkfgmkgbicahgaaGreatDoor
open Go.RowKit Go.Sort Go.Maps
set_option linter.unusedVariables false
set_option linter.unusedSimpArgs false

/-- A slice of pairs of the call's own, its blocks named. -/
def OwnG (w : World) (base : Nat) (v : Value) (ps : List (Int × Int)) (gs : List Nat) : Prop :=
  gs.length = ps.length ∧ gs.Nodup ∧ w.ownsRow base 22 1 v ps.length (gs.map ps2) ∧ (∀ g ∈ gs, v.ownBlock ≠ some g) ∧ ∀ (j g : Nat) (q : Int × Int), gs[j]? = some g → ps[j]? = some q → OwnI w base 3 (ps2 g) [q.1, q.2]
theorem OwnG.nil (w : World) (base : Nat) : OwnG w base (.slice none 0 0) [] [] :=
  ⟨rfl, List.nodup_nil, World.ownsRow_nil w base 22 1, fun g h => by simp at h, fun j g q h => by simp at h⟩
theorem OwnG.blocks {w : World} {base : Nat} {v : Value} {ps : List (Int × Int)} {gs : List Nat} (h : OwnG w base v ps gs) : ∀ k, v.ownBlock = some k → base ≤ k ∧ k < w.heap.size := World.ownsRow.lt h.2.2.1
theorem OwnG.below {w w' : World} {base B : Nat} {v : Value} {ps : List (Int × Int)} {gs : List Nat} (h : OwnG w base v ps gs) (hb : Below B w w') (hB : w.heap.size ≤ B) : OwnG w' base v ps gs := by
  obtain ⟨h1, h2, hr, h4, h5⟩ := h
  refine ⟨h1, h2, ?_, h4, fun j g q hj hq => (h5 j g q hj hq).below hb hB⟩
  exact hr.kept (row := none) ⟨hb.os, hb.tape, hb.output, hb.size, fun k hk _ => hb.block k (by omega)⟩ (by cases h' : v.ownBlock <;> simp)
theorem OwnG.form {w : World} {base : Nat} {v : Value} {ps : List (Int × Int)} {gs : List Nat} (h : OwnG w base v ps gs) : ∃ A c, v = .slice A ps.length c ∧ ∀ (j g : Nat), gs[j]? = some g → ∃ gv, A = some ⟨gv, 0, none⟩ ∧ gv < w.heap.size ∧ w.cell? ⟨gv, j, none⟩ = some (ps2 g) := by
  obtain ⟨h1, h2, hr, h4, h5⟩ := h
  have hr0 := hr
  rcases hr.2 with ⟨rfl, hn⟩ | ⟨g, cap, cur, rfl, hg, hh, hnc, hm, hs, ht⟩
  · refine ⟨none, 0, by rw [hn], fun j g hj => ?_⟩
    have := (List.getElem?_eq_some_iff.1 hj).1
    omega
  · refine ⟨_, _, rfl, fun j g' hj => ⟨g, rfl, (World.ownsRow.lt hr0 g rfl).2, ?_⟩⟩
    have hjl := (List.getElem?_eq_some_iff.1 hj).1
    rw [hr0.cellAt j (by omega), List.getElem?_map, hj]
    rfl

theorem wpList_appG (w : World) {ops : Array Oper} {rest : List Oper} {o : Oper} {a : Act} {Q : Exit → Act → World → Prop} (hgd : o.guard = none) (s x : Operand)
    (ho : o.op = .call { callee := .builtin .append, args := #[s, x], argTypes := #[70, 70] })
    (base : Nat) (v : Value) (ps : List (Int × Int)) (gs : List Nat) (hs : a.eval s = v) (hown : OwnG w base v ps gs) (hbase : base ≤ w.heap.size)
    (b1 b2 : Nat) (q : Int × Int) (hx : a.eval x = .slice (some ⟨b2, 0, none⟩) 1 1) (hc : w.cell? ⟨b2, 0, none⟩ = some (ps2 b1)) (hq : OwnI w base 3 (ps2 b1) [q.1, q.2]) (hf : b1 ∉ gs) (hvb : v.ownBlock ≠ some b1) (hsz : ps.length ≤ 4000000)
    (h : ∀ v' w', OwnG w' base v' (ps ++ [q]) (gs ++ [b1]) → w.grownBy w' v.ownBlock → (v'.ownBlock = v.ownBlock ∨ v'.ownBlock = some w.heap.size) → wpList Tryz.prog ops Q rest (a.put o.dst v') w') :
    wpList Tryz.prog ops Q (o :: rest) a w := by
  obtain ⟨i, hi, hz, hs1, hbb⟩ := info_parts Tryz.info_slI
  obtain ⟨h1, h2, hr, h4, h5⟩ := hown
  have hglt : ∀ g ∈ gs, g < w.heap.size := by
    intro g hg
    obtain ⟨j, hj⟩ := List.mem_iff_getElem?.1 hg
    have hjl := (List.getElem?_eq_some_iff.1 hj).1
    exact ((h5 j g (ps[j]'(by omega)) hj (List.getElem?_eq_getElem (by omega))).lt g rfl).2
  have hb1w : b1 < w.heap.size := (hq.lt b1 rfl).2
  refine wpList_app w hgd s x 70 ho base 22 i (.slice none 0 0) 1 24 Tryz.underlying70 hi hz hs1 hbb rfl (by decide) v ps.length (gs.map ps2) hs hr (some ⟨b2, 0, none⟩) 1 1 [ps2 b1] hx rfl (fun h => by cases h) ?_ ?_ (by unfold maxLen; omega) (by omega) hbase ?_
  · intro j u hu
    cases j with
    | zero => simp at hu; subst hu; exact ⟨_, rfl, by rw [Addr.add_lit]; exact hc⟩
    | succ j => simp at hu
  · intro u hu
    simp only [List.mem_singleton] at hu
    subst hu
    rfl
  · intro v' w' k1 k2 k3
    refine h v' w' ⟨by simp [h1], ?_, ?_, ?_, ?_⟩ k2 k3
    · rw [List.nodup_append]
      refine ⟨h2, by simp, fun a ha b hb => ?_⟩
      simp only [List.mem_singleton] at hb
      subst hb
      intro e
      subst e
      exact hf ha
    · rw [List.map_append, List.length_append]
      exact k1
    · intro g hg
      rcases List.mem_append.1 hg with hg | hg
      · rcases k3 with k3 | k3
        · rw [k3]; exact h4 g hg
        · rw [k3]; intro e; injection e with e; have := hglt g hg; omega
      · simp only [List.mem_singleton] at hg
        subst hg
        rcases k3 with k3 | k3
        · rw [k3]; exact hvb
        · rw [k3]; intro e; injection e with e; omega
    · intro j g q' hj hq'
      rcases Nat.lt_or_ge j gs.length with hjl | hjl
      · rw [List.getElem?_append_left hjl] at hj
        rw [List.getElem?_append_left (by omega)] at hq'
        refine (h5 j g q' hj hq').grown k2 (.inr fun e => h4 g (List.mem_of_getElem? hj) ?_)
        rw [← e]; rfl
      · rw [List.getElem?_append_right hjl] at hj
        rw [List.getElem?_append_right (by omega)] at hq'
        have hj0 : j - gs.length = 0 := by have := (List.getElem?_eq_some_iff.1 hj).1; simp at this; omega
        rw [hj0] at hj
        rw [show j - ps.length = 0 by omega] at hq'
        simp at hj hq'
        subst hj hq'
        refine hq.grown k2 (.inr fun e => hvb ?_)
        rw [← e]; rfl

/-- Of the first k pairs with their blocks those that are fast. -/
def fz (l : List Nt) (r : Int) (gs : List Nat) (ps : List (Int × Int)) (k : Nat) : List (Nat × (Int × Int)) := ((gs.zip ps).take k).filter fun t => decide (apart l t.2.1 t.2.2 < r)
theorem fz_succ {l : List Nt} {r : Int} {gs : List Nat} {ps : List (Int × Int)} {k g : Nat} {q : Int × Int} (hg : gs[k]? = some g) (hq : ps[k]? = some q) : fz l r gs ps (k + 1) = if apart l q.1 q.2 < r then fz l r gs ps k ++ [(g, q)] else fz l r gs ps k := by
  unfold fz
  have hz : (gs.zip ps)[k]? = some (g, q) := by rw [List.getElem?_zip_eq_some]; exact ⟨hg, hq⟩
  rw [List.take_add_one, hz, List.filter_append]
  by_cases h : apart l q.1 q.2 < r
  · rw [if_pos h]; simp [h]
  · rw [if_neg h]; simp [h]
theorem fz_end (l : List Nt) (r : Int) (gs : List Nat) (ps : List (Int × Int)) (h : gs.length = ps.length) : (fz l r gs ps ps.length).map (·.2) = ps.filter fun q => decide (apart l q.1 q.2 < r) := by
  unfold fz
  rw [List.take_of_length_le (by rw [List.length_zip]; omega)]
  have e : (gs.zip ps).map (·.2) = ps := List.map_snd_zip (by omega)
  conv => rhs; rw [← e]
  rw [List.filter_map]
  rfl
theorem fz_fresh {l : List Nt} {r : Int} {gs : List Nat} {ps : List (Int × Int)} {k g : Nat} (hn : gs.Nodup) (hg : gs[k]? = some g) : g ∉ (fz l r gs ps k).map (·.1) := by
  intro hm
  obtain ⟨t, ht, rfl⟩ := List.mem_map.1 hm
  have ht := (List.mem_filter.1 ht).1
  obtain ⟨j, hj⟩ := List.mem_iff_getElem?.1 ht
  rw [List.getElem?_take] at hj
  split at hj
  · rename_i hjk
    have := List.getElem?_zip_eq_some.1 hj
    have h2 := (List.getElem?_inj (List.getElem?_eq_some_iff.1 hg).1 hn).1 (hg.trans this.1.symm)
    omega
  · cases hj
theorem fz_len (l : List Nt) (r : Int) (gs : List Nat) (ps : List (Int × Int)) (k : Nat) : (fz l r gs ps k).length ≤ k := by
  unfold fz
  exact Nat.le_trans (List.length_filter_le _ _) (by rw [List.length_take]; omega)
end Go.Proofs.YtkfgmkgbicahgaaGreatDoor

namespace Go.Proofs.YtkfgmkgbicahgaaGreatDoor
open Go.RowKit Go.Sort Go.Maps
set_option linter.unusedVariables false
set_option linter.unusedSimpArgs false

/-- A call returned pairs of its own, or nil and false; below the heap's old size nothing has turned. -/
def RetP (B : World) (l : List (Int × Int)) (ok : Bool) (e : Ending) (w' : World) : Prop :=
  ∃ v, e = .returned (.tuple #[v, .bool ok]) ∧ OwnP w' B.heap.size v (if ok = true then l else []) ∧ Below B.heap.size B w'
theorem OwnP.mono {w : World} {base base' : Nat} {v : Value} {ps : List (Int × Int)} (h : OwnP w base v ps) (hb : base' ≤ base) : OwnP w base' v ps := by
  obtain ⟨gs, h1, h2, hr, h4, h5⟩ := h
  exact ⟨gs, h1, h2, World.ownsRow.mono hr hb, h4, fun j g q hj hq => (h5 j g q hj hq).mono hb⟩

set_option maxRecDepth 100000 in
set_option maxHeartbeats 4000000 in
theorem implFast_any (A : Option Addr) (l : List Int) (c : Nat) (r : Int) (M : Option Addr) (m : List Nt) (d : Nat) (w : World) (hn : l.length ≤ 1048576) (hA : RI w A l) (hm : m.length ≤ 1048576) (hM : RA w M m) (hL : Lim w) :
    Calls Tryz.prog 49 #[.agg #[.slice A l.length c, .int .i64 r], .slice M m.length d] w fun e w' => RetP w (fastL r m m.length) (gdI l r && goodB m) e w' := by
  have hb0 : Below w.heap.size w (w.alloc (.cells #[.slice A l.length c, .int .i64 r] 31)) := (Below.refl w.heap.size w).alloc (Nat.le_refl _) _
  obtain ⟨x0, x1, hz⟩ := Box.new w A l.length c r 31
  have hA := hA.below hb0
  have hM := hM.below hb0
  have hL := hL.below hb0
  go_enter Tryz.func49, Tryz.ntmps49
  go_wp2_with fail
  generalize w.alloc (.cells #[.slice A l.length c, .int .i64 r] 31) = W at *
  refine (isIns_any _ _ _ _ _ hn hA hL).mono ?_
  rintro e w1 ⟨rfl, hb1⟩
  have hB1 := hb0.trans (hb1.mono hb0.size)
  cases hg : gdI l r with
  | false =>
    go_wp2
    go_ret2
    rw [hg, Bool.false_and]
    exact ⟨_, rfl, by simpa using OwnP.nil w1 w.heap.size, hB1⟩
  | true =>
    have HG := Lib.hid hg
    clear hg
    go_wp2_with fail
    refine (isScore_any _ _ _ _ hm (hM.below hb1)).mono ?_
    rintro e w2 ⟨rfl, hb2⟩
    have hb12 := hb1.trans (hb2.mono hb1.size)
    have hB2 := hB1.trans (hb2.mono hB1.size)
    cases hgb : goodB m with
    | false =>
      have HB := Lib.hid hgb
      go_wp2
      go_ret2
      rw [HG.out, HB.out, Bool.and_false]
      exact ⟨_, rfl, by simpa using OwnP.nil w2 w.heap.size, hB2⟩
    | true =>
      have hgood := (goodB_iff m).1 hgb
      have h30 := hgood.2
      have HB := Lib.hid hgb
      have hM2 := hM.below hb12
      clear hgb hL
      go_wp2_with fail
      refine (repeated_any _ _ _ _ hm hM2 hgood).mono ?_
      rintro e w3 ⟨v0, rfl, hv0, hb3⟩
      have hb13 := hb12.trans (hb3.mono hb12.size)
      have hB3 := hB2.trans (hb3.mono hB2.size)
      have x1 := (hb13.cell (p := ⟨w.heap.size, 1, none⟩) hz).trans x1
      have hz := Nat.lt_of_lt_of_le hz hb13.size
      have hM3 := hM2.below hb3
      have hs23 := hb3.size
      have hpl := pairsL_length m m.length
      obtain ⟨gs, hown0⟩ : ∃ gs, OwnG w3 w2.heap.size v0 (pairsL m m.length) gs := hv0
      generalize hpp : pairsL m m.length = P at hown0 hpl
      have HPP := Lib.hid hpp
      obtain ⟨V, cV, hfV, hrV⟩ := hown0.form
      subst hfV
      have hmem := fun (a b : Int) (h : (a, b) ∈ P) => by rw [← HPP.out] at h; exact pairsL_mem m a b m.length h
      have HME := Lib.hid hmem
      have HOW := Lib.hid hown0
      have HRV := Lib.hid hrV
      clear hb1 hb2 hb12 hb13 x0 hM2 hmem hown0 hrV hpp hA
      go_wp2_with fail
      go_loopw [6, 20] (fun a i wr => ∃ k : Nat, k ≤ P.length ∧ i = .int .i64 k ∧ OwnG wr w2.heap.size a ((fz m r gs P k).map (·.2)) ((fz m r gs P k).map (·.1)) ∧ (∀ j, a.ownBlock = some j → w3.heap.size ≤ j) ∧ Below w3.heap.size w3 wr)
        (fun _ i _ => P.length - (intOf i).toNat)
      case atStart => exact ⟨0, Nat.zero_le _, rfl, by simpa [fz] using OwnG.nil w3 w2.heap.size, (fun j h => by simp [Value.ownBlock] at h), Below.refl _ _⟩
      case round =>
        obtain ⟨k, hk, rfl, hown, hout, hb⟩ := hrel
        have HO := Lib.hid hown
        have HOUT := Lib.hid hout
        clear hown hout
        by_cases hlt : k < P.length
        · have hq : P[k]? = some P[k] := List.getElem?_eq_getElem hlt
          have hgl : gs[k]? = some (gs[k]'(by rw [HOW.out.1]; exact hlt)) := List.getElem?_eq_getElem _
          generalize gs[k]'(by rw [HOW.out.1]; exact hlt) = g at hgl
          generalize P[k] = q at hq
          obtain ⟨qa, qb⟩ := q
          obtain ⟨gv, rfl, hgv, cv⟩ := HRV.out k g hgl
          have hin := HOW.out.2.2.2.2 k g (qa, qb) hgl hq
          have hqb := HME.out qa qb (List.mem_of_getElem? hq)
          have cvr := (hb.cell (p := ⟨gv, k, none⟩) hgv).trans cv
          have hgw : g < w3.heap.size := (hin.lt g rfl).2
          have hinr := hin.below hb (Nat.le_refl _)
          have c0 := hinr.ra.at (j := 0) rfl
          have c1 := hinr.ra.at (j := 1) rfl
          have yr := (hb.cell (p := ⟨w.heap.size, 1, none⟩) hz).trans x1
          have hzr := Nat.lt_of_lt_of_le hz hb.size
          have i1 : (0 : Int) ≤ (k : Int) := by omega
          have i2 : (k : Int) < (P.length : Int) := by omega
          have HFS := Lib.hid (fz_succ (l := m) (r := r) hgl hq)
          have HFR := Lib.hid (fz_fresh (l := m) (r := r) (ps := P) HOW.out.2.1 hgl)
          have hfl := fz_len m r gs P k
          have HIN := Lib.hid hinr
          have hMr := hM3.below hb
          clear hin hinr hgl hq cv
          have steps := fun (W : World) (h : Below wr.heap.size wr W) => steps_any M m d g qa qb W hm (hMr.below h) hgood (by omega) (by omega) (by omega) (by omega) ((h.cell (p := ⟨g, 0, none⟩) (Nat.lt_of_lt_of_le hgw hb.size)).trans c0) ((h.cell (p := ⟨g, 1, none⟩) (Nat.lt_of_lt_of_le hgw hb.size)).trans c1)
          have ST := Lib.hid steps
          clear steps c0 c1 hMr
          go_upto_region 7 with fail
          have hdr : Below wr.heap.size wr wr.drew := (Below.refl _ _).drew
          have yrd : wr.drew.cell? ⟨w.heap.size, 1, none⟩ = some (.int .i64 r) := yr
          have hzrd : w.heap.size < wr.drew.heap.size := hzr
          have hout := HOUT.out
          by_cases hlt2 : apart m qa qb < r
          · have hd : decide (apart m qa qb < r) = true := by simp [hlt2]
            go_cut [29] (fun b wx => b = .bool true ∧ Below wr.heap.size wr wx)
            case first =>
              go_region_with (go_at_call 66; refine (ST.out _ hdr).mono ?_; rintro e w4 ⟨rfl, hb4⟩; have y4 := (hb4.cell (p := ⟨w.heap.size, 1, none⟩) hzrd).trans yrd)
              all_goals
                go_wp2_with fail
                go_meet
                case rel => exact ⟨by simp [hlt2], hdr.trans (hb4.mono hdr.size)⟩
            case rest =>
            obtain ⟨rfl, hb4⟩ := hcut
            obtain ⟨w4, rfl⟩ : ∃ x, x = wc := ⟨wc, rfl⟩
            have hb34 := hb.trans (hb4.mono hb.size)
            have HO4 := Lib.hid ((HO.out.below hb4 (Nat.le_refl _)).below ((Below.refl w4.heap.size w4).alloc (Nat.le_refl _) (.cells #[ps2 g] 22)) (Nat.le_refl _))
            have HI4 := Lib.hid ((HIN.out.below hb4 (Nat.le_refl _)).below ((Below.refl w4.heap.size w4).alloc (Nat.le_refl _) (.cells #[ps2 g] 22)) (Nat.le_refl _))
            have hc4 : (w4.alloc (.cells #[ps2 g] 22)).cell? ⟨w4.heap.size, 0, none⟩ = some (ps2 g) := by rw [World.cell?_alloc_new]; rfl
            have HC4 := Lib.hid hc4
            have HB4 := Lib.hid (show Below w3.heap.size w3 (w4.alloc (.cells #[ps2 g] 22)) from hb34.alloc hb34.size _)
            have hlen : ((fz m r gs P k).map (·.2)).length ≤ 4000000 := by rw [List.length_map]; omega
            have HLEN := Lib.hid hlen
            clear hc4 hlen yr yrd hzr hzrd hdr hd
            go_wp2_with (at_builtin; go_loud (refine wpList_appG _ rfl (.tmp 30) (.tmp 32) rfl w2.heap.size _ _ _ rfl HO4.out (Nat.le_trans hs23 HB4.out.size) g w4.heap.size (qa, qb) rfl HC4.out HI4.out HFR.out (fun e => by have := hout _ e; omega) HLEN.out ?_); intro v5 w5 ho5 hg5 hv5)
            go_roundw
            case rel =>
              refine ⟨k + 1, by omega, by go_num, ?_, ?_, HB4.out.grown hg5 HB4.out.size hout⟩
              · rw [HFS.out, if_pos hlt2, List.map_append, List.map_append]
                exact ho5
              · intro j hj
                rcases hv5 with h | h
                · rw [h] at hj; exact hout j hj
                · rw [h] at hj; injection hj with hj; have := HB4.out.size; omega
            case measure => simp [intOf]; omega
          · have hd : decide (apart m qa qb < r) = false := by simp [hlt2]
            go_cut [29] (fun b wx => b = .bool false ∧ Below wr.heap.size wr wx)
            case first =>
              go_region_with (go_at_call 66; refine (ST.out _ hdr).mono ?_; rintro e w4 ⟨rfl, hb4⟩; have y4 := (hb4.cell (p := ⟨w.heap.size, 1, none⟩) hzrd).trans yrd)
              all_goals
                go_wp2_with fail
                go_meet
                case rel => exact ⟨by simp [hlt2], hdr.trans (hb4.mono hdr.size)⟩
            case rest =>
            obtain ⟨rfl, hb4⟩ := hcut
            have hb34 := hb.trans (hb4.mono hb.size)
            go_wp2
            go_roundw
            case rel =>
              refine ⟨k + 1, by omega, by go_num, ?_, hout, hb34⟩
              rw [HFS.out, if_neg hlt2]
              exact HO.out.below hb4 (Nat.le_refl _)
            case measure => simp [intOf]; omega
        · obtain rfl : k = P.length := by omega
          go_wp2
          go_ret2
          rw [HG.out, HB.out, Bool.and_true]
          refine ⟨_, rfl, ?_, hB3.trans (hb.mono hB3.size)⟩
          have e := fz_end m r gs P HOW.out.1
          have e2 : P.filter (fun q => decide (apart m q.1 q.2 < r)) = fastL r m m.length := by rw [← HPP.out]; rfl
          have ho := HO.out
          rw [e, e2] at ho
          have hP : OwnP wr w2.heap.size u6 (fastL r m m.length) := ⟨_, ho⟩
          simpa using hP.mono hB2.size
end Go.Proofs.YtkfgmkgbicahgaaGreatDoor

namespace Go.Proofs.YtkfgmkgbicahgaaGreatDoor
open Go.RowKit Go.Sort Go.Maps
set_option linter.unusedVariables false
set_option linter.unusedSimpArgs false

def canB (l : List Int) (r : Int) (m : List Nt) : Bool := decide ((atF (misB l) m).length = 0) && decide ((fastL r m m.length).length = 0)
def canR (l : List Int) (r : Int) (m : List Nt) : Array Value := if (gdI l r && goodB m) = true then #[.bool (canB l r m), .bool true] else #[.bool false, .bool false]
theorem OwnP.form {w : World} {base : Nat} {v : Value} {ps : List (Int × Int)} (h : OwnP w base v ps) : ∃ A c, v = .slice A ps.length c := by
  obtain ⟨gs, h⟩ := h
  obtain ⟨A, c, e, _⟩ := OwnG.form h
  exact ⟨A, c, e⟩

set_option maxRecDepth 100000 in
set_option maxHeartbeats 1000000 in
theorem inPlays_any (A : Option Addr) (l : List Int) (c : Nat) (r : Int) (M : Option Addr) (m : List Nt) (d : Nat) (w : World) (hn : l.length ≤ 1048576) (hA : RI w A l) (hm : m.length ≤ 1048576) (hM : RA w M m) (hg : Good m) :
    Calls Tryz.prog 32 #[.agg #[.slice A l.length c, .int .i64 r], .slice M m.length d] w fun e w' => e = .returned (.bool (canB l r m)) ∧ Below w.heap.size w w' := by
  have hb0 : Below w.heap.size w (w.alloc (.cells #[.slice A l.length c, .int .i64 r] 31)) := (Below.refl w.heap.size w).alloc (Nat.le_refl _) _
  obtain ⟨x0, x1, hz⟩ := Box.new w A l.length c r 31
  have hA := hA.below hb0
  have hM := hM.below hb0
  go_enter Tryz.func32, Tryz.ntmps32
  go_wp2_with fail
  generalize w.alloc (.cells #[.slice A l.length c, .int .i64 r] 31) = W at *
  refine (inMissing_any _ _ _ _ _ _ _ _ hn hA hM hg).mono ?_
  rintro e w1 ⟨v1, rfl, ho1, hb1⟩
  have hB1 := hb0.trans (hb1.mono hb0.size)
  have y1 := (hb1.cell (p := ⟨w.heap.size, 1, none⟩) hz).trans x1
  obtain ⟨A1, c1, hf1, _⟩ := ho1.form
  subst hf1
  have HC := Lib.hid (show canB l r m = (decide ((atF (misB l) m).length = 0) && decide ((fastL r m m.length).length = 0)) from rfl)
  clear ho1
  generalize (atF (misB l) m).length = n1 at *
  by_cases h1 : n1 = 0
  · subst h1
    go_wp2_with fail
    refine (inFast_any _ _ _ _ _ hm (hM.below hb1) hg).mono ?_
    rintro e w2 ⟨v2, rfl, ho2, hb2⟩
    obtain ⟨A2, c2, hf2⟩ := ho2.form
    subst hf2
    clear ho2
    generalize (fastL r m m.length).length = n2 at *
    by_cases h2 : n2 = 0
    · subst h2
      go_wp2
      go_ret
      exact ⟨ret_bool (by rw [HC.out]; rfl), hB1.trans (hb2.mono hB1.size)⟩
    · have hne : ((n2 : Int) == 0) = false := by simp [h2]
      go_wp2
      go_ret
      exact ⟨ret_bool (by rw [HC.out]; simp [h2]), hB1.trans (hb2.mono hB1.size)⟩
  · have hne : ((n1 : Int) == 0) = false := by simp [h1]
    go_wp2
    go_ret
    exact ⟨ret_bool (by rw [HC.out]; simp [h1]), hB1⟩

set_option maxRecDepth 100000 in
set_option maxHeartbeats 1000000 in
theorem implCan_any (A : Option Addr) (l : List Int) (c : Nat) (r : Int) (M : Option Addr) (m : List Nt) (d : Nat) (w : World) (hn : l.length ≤ 1048576) (hA : RI w A l) (hm : m.length ≤ 1048576) (hM : RA w M m) (hL : Lim w) :
    Calls Tryz.prog 35 #[.agg #[.slice A l.length c, .int .i64 r], .slice M m.length d] w fun e w' => e = .returned (.tuple (canR l r m)) ∧ Below w.heap.size w w' := by
  have hb0 : Below w.heap.size w (w.alloc (.cells #[.slice A l.length c, .int .i64 r] 31)) := (Below.refl w.heap.size w).alloc (Nat.le_refl _) _
  obtain ⟨x0, x1, hz⟩ := Box.new w A l.length c r 31
  have hA := hA.below hb0
  have hM := hM.below hb0
  have hL := hL.below hb0
  go_enter Tryz.func35, Tryz.ntmps35
  go_wp2_with fail
  generalize w.alloc (.cells #[.slice A l.length c, .int .i64 r] 31) = W at *
  refine (implMiss_any _ _ _ _ _ _ _ _ hn hA hm hM hL).mono ?_
  rintro e w1 ⟨v1, rfl, ho1, hb1⟩
  have hB1 := hb0.trans (hb1.mono hb0.size)
  have y0 := (hb1.cell (p := ⟨w.heap.size, 0, none⟩) hz).trans x0
  have y1 := (hb1.cell (p := ⟨w.heap.size, 1, none⟩) hz).trans x1
  have HC := Lib.hid (show canB l r m = (decide ((atF (misB l) m).length = 0) && decide ((fastL r m m.length).length = 0)) from rfl)
  cases hg : (gdI l r && goodB m) with
  | false =>
    rw [hg] at ho1
    have HG := Lib.hid hg
    clear hg
    simp only [Bool.false_eq_true, if_false] at ho1
    obtain ⟨A1, c1, hf1, _⟩ := ho1.form
    subst hf1
    clear ho1
    go_wp2_with fail
    refine (implFast_any _ _ _ _ _ _ _ _ hn (hA.below hb1) hm (hM.below hb1) (hL.below hb1)).mono ?_
    rintro e w2 ⟨v2, rfl, ho2, hb2⟩
    have hB2 := hB1.trans (hb2.mono hB1.size)
    rw [HG.out] at ho2
    simp only [Bool.false_eq_true, if_false] at ho2
    obtain ⟨A2, c2, hf2⟩ := ho2.form
    subst hf2
    clear ho2
    rw [HG.out]
    go_wp2
    go_ret2
    exact ⟨by unfold canR; rw [HG.out]; rfl, hB2⟩
  | true =>
    rw [hg] at ho1
    have HG := Lib.hid hg
    clear hg
    simp only [if_true] at ho1
    obtain ⟨A1, c1, hf1, _⟩ := ho1.form
    subst hf1
    clear ho1
    generalize (atF (misB l) m).length = n1 at *
    go_wp2_with fail
    refine (implFast_any _ _ _ _ _ _ _ _ hn (hA.below hb1) hm (hM.below hb1) (hL.below hb1)).mono ?_
    rintro e w2 ⟨v2, rfl, ho2, hb2⟩
    have hB2 := hB1.trans (hb2.mono hB1.size)
    rw [HG.out] at ho2
    simp only [if_true] at ho2
    obtain ⟨A2, c2, hf2⟩ := ho2.form
    subst hf2
    clear ho2
    rw [HG.out]
    generalize (fastL r m m.length).length = n2 at *
    by_cases h1 : n1 = 0
    · subst h1
      by_cases h2 : n2 = 0
      · subst h2
        go_wp2
        go_ret2
        exact ⟨by simp [canR, HG.out, HC.out], hB2⟩
      · have hne : ((n2 : Int) == 0) = false := by simp [h2]
        go_wp2
        go_ret2
        exact ⟨by simp [canR, HG.out, HC.out, h2], hB2⟩
    · have hne : ((n1 : Int) == 0) = false := by simp [h1]
      go_wp2
      go_ret2
      exact ⟨by simp [canR, HG.out, HC.out, h1], hB2⟩
end Go.Proofs.YtkfgmkgbicahgaaGreatDoor

namespace Go.Proofs.YtkfgmkgbicahgaaGreatDoor
open Go.RowKit Go.Sort
set_option linter.unusedVariables false
set_option linter.unusedSimpArgs false

def okH (P : List Int) (x : Nt) : Bool := H.noteN (holeN P x)
/-- The layout from a step on. -/
def mvL (P : List Int) (b : Int) (m : List Nt) : List Nt := (m.map (holeN P)).map (H.moveN b)
theorem mvL_snoc {P : List Int} {b : Int} {m : List Nt} {k : Nat} {x : Nt} (hx : m[k]? = some x) : mvL P b (m.take (k + 1)) = mvL P b (m.take k) ++ [((holeN P x).1, (holeN P x).2.1 + b, (holeN P x).2.2 + b)] := by
  unfold mvL
  rw [take_map hx, List.map_append]; rfl
theorem mvL_length (P : List Int) (b : Int) (m : List Nt) : (mvL P b m).length = m.length := by simp [mvL]

theorem same_retH {B : World} {l m : List Nt} {a b : Bool} {e : Ending} {w' : World} (h : H.RetScore B l a e w') (ha : a = b) (hl : (if a = true then l else []) = (if b = true then m else [])) : H.RetScore B m b e w' := by
  obtain ⟨v, he, ho, hb⟩ := h
  subst ha
  exact ⟨v, he, by rw [← hl]; exact ho, hb⟩

set_option maxRecDepth 100000 in
set_option maxHeartbeats 4000000 in
theorem laHoles_any (A : Option Addr) (l : List Int) (c : Nat) (r : Int) (M : Option Addr) (m : List Nt) (d : Nat) (b : Int) (w : World) (hn : l.length ≤ 1048576) (hA : RI w A l) (hM : RA w M m) (hg : Good m) (hb1 : 0 ≤ b) (hb2 : b ≤ 2000) :
    Calls Tryz.prog 20 #[.agg #[.slice A l.length c, .int .i64 r], .slice M m.length d, .int .i64 b] w fun e w' => H.RetScore w (canon (mvL l b m)) (canB l r m && (m.all (okH l) && H.goodB (canon (mvL l b m)))) e w' := by
  have h30 := hg.2
  have hb0 : Below w.heap.size w (w.alloc (.cells #[.slice A l.length c, .int .i64 r] 31)) := (Below.refl w.heap.size w).alloc (Nat.le_refl _) _
  have hx := Box.new w A l.length c r 31
  have hA := hA.below hb0
  have hM := hM.below hb0
  go_enter Tryz.func20, Tryz.ntmps20
  go_wp2_with fail
  generalize w.alloc (.cells #[.slice A l.length c, .int .i64 r] 31) = W0 at *
  refine (inPlays_any _ _ _ _ _ _ _ _ hn hA (by omega) hM hg).mono ?_
  rintro e W ⟨rfl, hbW⟩
  have HB1 := Lib.hid (hb0.trans (hbW.mono hb0.size))
  have hA := hA.below hbW
  have hM := hM.below hbW
  obtain ⟨x0, x1, hz⟩ := hx.below hbW
  clear hb0 hbW
  cases hc : canB l r m with
  | false =>
    go_wp2
    go_ret2
    rw [hc, Bool.false_and]
    exact ⟨_, rfl, by simpa using Own.nil W w.heap.size _, HB1.out⟩
  | true =>
  have HC := Lib.hid hc
  clear hc
  go_wp2_with fail
  go_loopw [8, 19] (fun a i wr => ∃ k : Nat, k ≤ m.length ∧ i = .int .i64 k ∧ (m.take k).all (okH l) = true ∧ Own wr W.heap.size 54 a (mvL l b (m.take k)) ∧ Below W.heap.size W wr)
    (fun _ i _ => m.length - (intOf i).toNat)
  case atStart => exact ⟨0, Nat.zero_le _, rfl, rfl, Own.nil _ _ _, Below.refl _ _⟩
  case round =>
    obtain ⟨k, hk, rfl, hall, hown, hb⟩ := hrel
    have HO := Lib.hid hown
    have HL := Lib.hid hall
    clear hown hall
    by_cases hlt : k < m.length
    · have hx : m[k]? = some m[k] := List.getElem?_eq_getElem hlt
      generalize m[k] = x at hx
      have hv : noteN x = true := (hg.1 k x hlt hx).1
      have HX := Lib.hid hx
      obtain ⟨p, s, n⟩ := x
      obtain ⟨g, o, rfl, hgb, h0, h1, h2⟩ := (hM.below hb) k _ hx
      simp only at h0 h1 h2
      have i1 : (0 : Int) ≤ (k : Int) := by omega
      have i2 : (k : Int) < (m.length : Int) := by omega
      clear hx
      have y0 := ((bcell hb).1 w.heap.size 0 hz).trans x0
      have y1 := ((bcell hb).1 w.heap.size 1 hz).trans x1
      have hzr : w.heap.size < wr.heap.size := Nat.lt_of_lt_of_le hz hb.size
      have hnb : Below wr.heap.size wr (wr.alloc (.cells #[.int .i64 p, .int .i64 s, .int .i64 n] 47)) := (Below.refl _ _).alloc (Nat.le_refl _) _
      have hAr := (hA.below hb).below hnb
      go_wp2_with fail
      generalize wr.alloc (.cells #[.int .i64 p, .int .i64 s, .int .i64 n] 47) = W1 at *
      refine (laHole_any _ _ _ _ _ _ _ _ hn hAr hv).mono ?_
      rintro e w3 ⟨rfl, hb3⟩
      have HB3 := Lib.hid (hnb.trans (hb3.mono hnb.size))
      clear y0 y1 h0 h1 h2 hAr hnb hb3 hv
      unfold hoR
      cases hf : H.noteN (holeN l (p, s, n)) with
      | false =>
        have HF := Lib.hid (show okH l (p, s, n) = false from hf)
        simp only [Bool.false_eq_true, if_false, no3]
        go_wp2
        go_ret2
        rw [all_not HX.out HF.out, Bool.false_and, Bool.and_false]
        exact ⟨_, rfl, by simpa using Own.nil _ _ _, HB1.out.trans ((hb.trans ((HB3.out.alloc HB3.out.size _).mono hb.size)).mono HB1.out.size)⟩
      | true =>
        have HF := Lib.hid (show okH l (p, s, n) = true from hf)
        have hvv := (H.noteN_iff _).1 hf
        have HTM := Lib.hid (mvL_snoc (P := l) (b := b) HX.out)
        simp only [if_true, nt3]
        generalize holeN l (p, s, n) = y at *
        obtain ⟨a, t, q⟩ := y
        simp only at hvv
        simp only
        have m1 : IntKind.i64.wrap (t + b) = t + b := IntWalk.i64_in _ (by omega)
        have m2 : IntKind.i64.wrap (q + b) = q + b := IntWalk.i64_in _ (by omega)
        have hbr2 : Below wr.heap.size wr (w3.alloc (.cells #[.int .i64 a, .int .i64 t, .int .i64 q] 54)) := HB3.out.alloc HB3.out.size _
        have hz3 : (w3.alloc (.cells #[.int .i64 a, .int .i64 t, .int .i64 q] 54)).heap.size = w3.heap.size + 1 := by simp
        have hbr3 := Lib.hid (hbr2.alloc hbr2.size (.cells #[.int .i64 a, .int .i64 (t + b), .int .i64 (q + b)] 54))
        have ho3 := Lib.hid (HO.out.below hbr3.out (Nat.le_refl _))
        have hc3 := Lib.hid (RA.one (p := a) (s := t + b) (n := q + b) (t := 54) (fr := (0, 0)) (heap_alloc_new (w3.alloc (.cells #[.int .i64 a, .int .i64 t, .int .i64 q] 54)) (.cells #[.int .i64 a, .int .i64 (t + b), .int .i64 (q + b)] 54)))
        rw [hz3] at hc3
        have hsz : (mvL l b (m.take k)).length ≤ 30 := by rw [mvL_length]; simp; omega
        clear hz3 hbr2 hvv hf
        go_wp2_with (at_builtin; go_loud (refine H.wpList_appHole _ rfl (.tmp 31) (.tmp 43) rfl W.heap.size _ _ rfl ho3.out (some ⟨w3.heap.size + 1, 0, none⟩) 1 1 [(a, t + b, q + b)] rfl rfl (fun h => by cases h) hc3.out (by omega) (Nat.le_trans hb.size hbr3.out.size) ?_; intro v4 w4 ho4 hg4))
        go_roundw
        case rel =>
          refine ⟨k + 1, by omega, by go_num, take_all HL.out HX.out HF.out, ?_, (hb.trans (hbr3.out.mono hb.size)).grown hg4 (Nat.le_trans hb.size hbr3.out.size) (fun j hj => (ho3.out.lt j hj).1)⟩
          rw [HTM.out]
          exact ho4
        case measure => simp [intOf]; omega
    · obtain rfl : k = m.length := by omega
      rw [List.take_length] at HO HL
      obtain ⟨O, oc, rfl, hO⟩ := HO.out.form
      go_wp2_with fail
      refine (H.ntSorted_any _ _ _ _ (by rw [mvL_length]; omega) hO).mono ?_
      rintro e w3 ⟨v3, rfl, ho3, hb3⟩
      have HALL := Lib.hid HL.out
      clear HL
      go_wp2
      go_ret2
      rw [HC.out, HALL.out, Bool.true_and, Bool.true_and]
      exact ⟨_, rfl, ho3.mono (Nat.le_trans HB1.out.size hb.size), HB1.out.trans ((hb.trans (hb3.mono hb.size)).mono HB1.out.size)⟩

/-- The instrument can play a score, and each of its notes has a hole. -/
def layB (P : List Int) (r : Int) (m : List Nt) : Bool := gdI P r && (goodB m && (canB P r m && m.all (okH P)))
theorem layB_iff {P : List Int} {m : List Nt} {r : Int} (hg : (gdI P r && goodB m) = true) (hc : canB P r m = true) : layB P r m = m.all (okH P) := by
  simp only [Bool.and_eq_true] at hg
  unfold layB
  rw [hg.1, hg.2, hc, Bool.true_and, Bool.true_and, Bool.true_and]
theorem can_mem {P : List Int} {m : List Nt} {r : Int} (hc : canB P r m = true) : ∀ x ∈ m, x.1 ∈ P := by
  intro x hx
  unfold canB at hc
  simp only [Bool.and_eq_true, decide_eq_true_eq] at hc
  have h0 : atF (misB P) m = [] := List.eq_nil_of_length_eq_zero hc.1
  have h1 := mem_atF (misB P) m x.1 m.length (Nat.le_refl _)
  rw [List.take_length, h0] at h1
  cases hh : hasB P x.1 with
  | true => exact (hasB_iff _ _).1 hh
  | false =>
    have : x.1 ∈ psF (misB P) m := by
      have hmem : ∀ (l : List Nt), x ∈ l → x.1 ∈ psF (misB P) l := by
        intro l
        induction l with
        | nil => intro h; cases h
        | cons y l ih =>
          intro h
          have e : psF (misB P) (y :: l) = psF (misB P) [y] ++ psF (misB P) l := psF_append (misB P) [y] l
          rw [e, List.mem_append]
          rcases List.mem_cons.1 h with h | h
          · left; subst h
            have := psF_snoc (misB P) [x] 0 x rfl
            simp only [List.take_succ_cons, List.take_zero, List.take] at this
            rw [this, if_pos (by simp [misB, hh])]
            simp
          · right; exact ih h
      exact hmem m hx
    exact absurd (h1.2 this) (by simp)

theorem lay_eq {P : List Int} {m : List Nt} {r : Int} (hg : (gdI P r && goodB m) = true) :
    (canB P r m && (m.all (okH P) && H.goodB (canon (mvL P 0 m)))) = layB P r m ∧ (if (canB P r m && (m.all (okH P) && H.goodB (canon (mvL P 0 m)))) = true then canon (mvL P 0 m) else []) = (if layB P r m = true then m.map (holeN P) else []) := by
  cases hc : canB P r m with
  | false =>
    have e : layB P r m = false := by unfold layB; rw [hc, Bool.false_and, Bool.and_false, Bool.and_false]
    rw [e, Bool.false_and]; exact ⟨rfl, rfl⟩
  | true =>
    rw [layB_iff hg hc, Bool.true_and]
    cases ha : m.all (okH P) with
    | false => rw [Bool.false_and]; exact ⟨rfl, rfl⟩
    | true =>
      simp only [Bool.and_eq_true] at hg
      have hgood := (goodB_iff m).1 hg.2
      have hinc := ((gdI_iff P r).1 hg.1).2.1.inc
      have hok : ∀ x ∈ m, H.noteN (holeN P x) = true := fun x hx => List.all_eq_true.1 ha x hx
      have hgd := (H.goodB_iff _).2 (lay_good hinc (can_mem hc) hgood hok)
      have h := lay_canon 0 hinc (can_mem hc) hgood
      unfold mvL
      rw [move_zero] at h ⊢
      rw [hgd] at h
      rw [Bool.true_and, h.1]
      have h2 := h.2
      rw [h.1] at h2
      exact ⟨rfl, h2⟩

end Go.Proofs.YtkfgmkgbicahgaaGreatDoor

namespace Go.Proofs.YtkfgmkgbicahgaaGreatDoor
open Go.RowKit Go.Sort
set_option linter.unusedVariables false
set_option linter.unusedSimpArgs false

set_option maxRecDepth 100000 in
set_option maxHeartbeats 8000000 in
theorem implLay_any (A : Option Addr) (l : List Int) (c : Nat) (r : Int) (M : Option Addr) (m : List Nt) (d : Nat) (w : World) (hn : l.length ≤ 1048576) (hA : RI w A l) (hm : m.length ≤ 1048576) (hd : m.length ≤ d) (hd' : d ≤ 9223372036854775807) (hM : RA w M m) (hL : Lim w) :
    Calls Tryz.prog 23 #[.agg #[.slice A l.length c, .int .i64 r], .slice M m.length d] w fun e w' => H.RetScore w (m.map (holeN l)) (layB l r m) e w' := by
  have hb0 : Below w.heap.size w (w.alloc (.cells #[.slice A l.length c, .int .i64 r] 31)) := (Below.refl w.heap.size w).alloc (Nat.le_refl _) _
  have hx := Box.new w A l.length c r 31
  have hbw : w.heap.size ≤ (w.alloc (.cells #[.slice A l.length c, .int .i64 r] 31)).heap.size := by simp
  have hA := hA.below hb0
  have hM := hM.below hb0
  have hL := hL.below hb0
  go_enter Tryz.func23, Tryz.ntmps23
  go_wp2_with fail
  generalize (w.alloc (.cells #[.slice A l.length c, .int .i64 r] 31)) = W at *
  refine (implCan_any _ _ _ _ _ _ _ _ hn hA hm hM hL).mono ?_
  rintro e w1 ⟨rfl, hb1⟩
  have hx := hx.below hb1
  have hM1 := hM.below hb1
  have hA1 := hA.below hb1
  have hL1 := hL.below hb1
  have HB1 := Lib.hid (hb0.trans (hb1.mono hb0.size))
  clear hb1 hb0 hA hL hM
  unfold canR
  cases hg : (gdI l r && goodB m) with
  | false =>
    have HG := Lib.hid (show layB l r m = false from by unfold layB; rw [← Bool.and_assoc, hg, Bool.false_and])
    clear hg
    simp only [Bool.false_eq_true, if_false]
    go_wp2
    go_ret2
    rw [HG.out]
    exact ⟨_, rfl, by simpa using Own.nil w1 w.heap.size _, HB1.out⟩
  | true =>
  have hgg := hg
  simp only [Bool.and_eq_true] at hgg
  obtain ⟨hgd, hgm⟩ := hgg
  simp only [if_true]
  cases hc : canB l r m with
  | false =>
    have HG := Lib.hid (show layB l r m = false from by unfold layB; rw [hc, Bool.false_and, Bool.and_false, Bool.and_false])
    clear hg hc
    go_wp2
    go_ret2
    rw [HG.out]
    exact ⟨_, rfl, by simpa using Own.nil w1 w.heap.size _, HB1.out⟩
  | true =>
  have hgood := (goodB_iff m).1 hgm
  have h60 := hgood.2
  have HG := Lib.hid (show layB l r m = m.all (okH l) from layB_iff hg hc)
  obtain ⟨x0, x1, xl⟩ := hx
  have hmk := H.make_Hole m.length hm
  have hown0 := made_new w1 m.length hm 54
  have hbm : Below w1.heap.size w1 (w1.alloc (.cells (madeCells #[.int .i64 0, .int .i64 0, .int .i64 0] (m.length * 3)) 54)) := (Below.refl _ _).alloc (Nat.le_refl _) _
  clear hgm hg hc
  go_wp2_with fail
  generalize w1.alloc (.cells (madeCells #[.int .i64 0, .int .i64 0, .int .i64 0] (m.length * 3)) 54) = W2 at *
  clear hmk
  go_loopw [25] (fun i wr => ∃ k : Nat, k ≤ m.length ∧ i = .int .i64 k ∧ (m.take k).all (okH l) = true ∧ Own wr w1.heap.size 54 (.slice (some ⟨w1.heap.size, 0, none⟩) m.length m.length) (fill (holeN l) m k) ∧ Below w1.heap.size w1 wr)
    (fun i _ => m.length - (intOf i).toNat)
  case atStart => exact ⟨0, Nat.zero_le _, rfl, rfl, by rw [fill_zero]; exact hown0, hbm⟩
  case round =>
    obtain ⟨k, hk, rfl, hall, hown, hb⟩ := hrel
    have HL := Lib.hid hall
    clear hall
    by_cases hlt : k < m.length
    · have hx : m[k]? = some m[k] := List.getElem?_eq_getElem hlt
      generalize m[k] = x at hx
      have hv : noteN x = true := (hgood.1 k x hlt hx).1
      have HX := Lib.hid hx
      obtain ⟨p, s, n⟩ := x
      obtain ⟨g, o, rfl, hgb, h0, h1, h2⟩ := (hM1.below hb) k _ hx
      simp only at h0 h1 h2
      obtain ⟨a0, b0, d0, ok, hk1, hk2, hC⟩ := implHole_good A l c r hn hgd p s n hv
      have HC := Lib.hid hC
      have i1 : (0 : Int) ≤ (k : Int) := by omega
      have i2 : (k : Int) < (m.length : Int) := by omega
      have y0 := ((bcell hb).1 w.heap.size 0 xl).trans x0
      have y1 := ((bcell hb).1 w.heap.size 1 xl).trans x1
      have hzr : w.heap.size < wr.heap.size := Nat.lt_of_lt_of_le xl hb.size
      have nx0 := World.new_ne wr _ y0
      have nx1 := World.new_ne wr _ h0
      have hbd : Below wr.heap.size wr wr.drew := (Below.refl _ _).drew
      have hbe : Below wr.heap.size wr (wr.alloc (.cells #[.int .i64 0, .int .i64 0, .int .i64 0] 54)).drew := ((Below.refl _ _).alloc (Nat.le_refl _) _).drew
      have hr : Res3 (wr.alloc (.cells #[.int .i64 0, .int .i64 0, .int .i64 0] 54)).drew wr.heap.size 0 0 0 := (Res3.new wr 0 0 0 54).drew
      have hAd := (hA1.below hb).below hbd
      have hLd := (hL1.below hb).below hbd
      have hAe := (hA1.below hb).below hbe
      have hLe := (hL1.below hb).below hbe
      have hwl : w1.heap.size < wr.heap.size := (hown.lt _ rfl).2
      clear hx hv hC
      go_wp2_with fail
      go_region_held3 (fun w' => w'.cell? ⟨w.heap.size, 0, none⟩ = some (.slice A l.length c) ∧ w'.cell? ⟨w.heap.size, 1, none⟩ = some (.int .i64 r) ∧ w'.cell? ⟨g, o + k * 3, none⟩ = some (.int .i64 p) ∧ w'.cell? ⟨g, o + k * 3 + 1, none⟩ = some (.int .i64 s) ∧ w'.cell? ⟨g, o + k * 3 + 2, none⟩ = some (.int .i64 n))
        (first | go_keep | exact ⟨X0, X1, H0, H1, H2⟩)
        (first
          | (go_at_call 36; with_reducible refine (HC.out wr.drew hAd hLd).mono ?_; rintro e w5 ⟨rfl, hb5⟩; have hb6 : Below wr.heap.size wr w5 := hbd.trans (hb5.mono hbd.size); have hq := Res3.new w5 0 0 0 54; have q0 := hq.c0; have q1 := hq.c1; have q2 := hq.c2; have p0 := hq.f0; have p1 := hq.f1; have p2 := hq.f2; clear hq; have X0 := ((bcell hb6).1 w.heap.size 0 hzr).trans y0; have X1 := ((bcell hb6).1 w.heap.size 1 hzr).trans y1; have H0 := ((bcell hb6).1 g (o + k * 3) hgb).trans h0; have H1 := ((bcell hb6).1 g (o + k * 3 + 1) hgb).trans h1; have H2 := ((bcell hb6).1 g (o + k * 3 + 2) hgb).trans h2; have NX0 := World.new_ne w5 _ X0; have NX1 := World.new_ne w5 _ H0)
          | (go_at_call 36; refine (HC.out _ hAe hLe).mono ?_; rintro e w5 ⟨rfl, hb5⟩; have hb6 : Below wr.heap.size wr w5 := hbe.trans (hb5.mono hbe.size); have hq := hr.below hb5; have q0 := hq.c0; have q1 := hq.c1; have q2 := hq.c2; have p0 := hq.f0; have p1 := hq.f1; have p2 := hq.f2; clear hq; have X0 := ((bcell hb6).1 w.heap.size 0 hzr).trans y0; have X1 := ((bcell hb6).1 w.heap.size 1 hzr).trans y1; have H0 := ((bcell hb6).1 g (o + k * 3) hgb).trans h0; have H1 := ((bcell hb6).1 g (o + k * 3 + 1) hgb).trans h1; have H2 := ((bcell hb6).1 g (o + k * 3 + 2) hgb).trans h2; have NX0 := World.new_ne w5 _ X0; have NX1 := World.new_ne w5 _ H0))
      · have hg6 := Res3.new w5 a0 b0 d0 54
        have hB6 := hb6.alloc hb6.size (.cells #[.int .i64 a0, .int .i64 b0, .int .i64 d0] 54)
        have hgv : w5.heap.size ≠ w1.heap.size := by have := hb6.size; omega
        have hown6 := hown.below hB6 (Nat.le_refl _)
        have HBW := Lib.hid (hb.trans (hB6.mono hb.size))
        generalize w5.alloc (.cells #[.int .i64 a0, .int .i64 b0, .int .i64 d0] 54) = W6 at *
        generalize w5.heap.size = gv at *
        have hgn : gv ≠ w1.heap.size := hgv
        have hgn2 : w1.heap.size ≠ gv := fun e => hgv e.symm
        obtain ⟨u0, u1, u2, _, _, _, ul⟩ := hg6
        clear h0 h1 h2 y0 y1 nx0 nx1 hbd hbe hr hb5 hb6 q0 q1 q2 p0 p1 p2 X0 X1 H0 H1 H2 NX0 NX1 hown hAd hLd hAe hLe hB6 hgv
        cases ok with
        | false =>
          have HF := Lib.hid hk1
          clear hown6 hk2
          go_wp2
          go_ret2
          rw [HG.out, all_not HX.out HF.out]
          exact ⟨_, rfl, by simpa using Own.nil _ _ _, HB1.out.trans (HBW.out.mono HB1.out.size)⟩
        | true =>
          have HF := Lib.hid hk1
          have HV := Lib.hid (hk2 rfl)
          obtain ⟨⟨c0', s0⟩, ⟨c1', s1⟩, ⟨c2', s2⟩, f0, f1, f2⟩ := hown6.cells3 (fill_length _ _ _ (by omega)) k hlt
          have HO6 := Lib.hid hown6
          clear hown6 hk2
          go_wp2
          go_roundw
          case rel =>
            refine ⟨k + 1, by omega, by go_num, take_all (f := (okH l)) HL.out HX.out HF.out, ?_, ((HBW.out.setCell (by simp) _).setCell (by simp) _).setCell (by simp) _⟩
            have h := HO6.out.store3 (fill_length _ _ _ (by omega)) k hlt a0 b0 d0
            have e : (a0, b0, d0) = (holeN l) (p, s, n) := HV.out
            rw [e, fill_set (holeN l) m k _ HX.out] at h
            exact h
          case measure => simp [intOf]; omega
      · have hg6 := (show Res3 w5 wr.heap.size 0 0 0 from ⟨q0, q1, q2, p0, p1, p2, World.block_lt_of_cell? _ _ q0⟩).set (x' := a0) (y' := b0) (z' := d0)
        have hB6 := Below.set3 hb6 (b := wr.heap.size) (Nat.le_refl _) (.int .i64 a0) (.int .i64 b0) (.int .i64 d0)
        have hgv : wr.heap.size ≠ w1.heap.size := by omega
        have hown6 := hown.below hB6 (Nat.le_refl _)
        have HBW := Lib.hid (hb.trans (hB6.mono hb.size))
        generalize ((w5.setCell ⟨wr.heap.size, 0, none⟩ (.int .i64 a0)).setCell ⟨wr.heap.size, 1, none⟩ (.int .i64 b0)).setCell ⟨wr.heap.size, 2, none⟩ (.int .i64 d0) = W6 at *
        generalize hgw : wr.heap.size = gv at *
        have hgn : gv ≠ w1.heap.size := hgv
        have hgn2 : w1.heap.size ≠ gv := fun e => hgv e.symm
        obtain ⟨u0, u1, u2, _, _, _, ul⟩ := hg6
        clear h0 h1 h2 y0 y1 nx0 nx1 hbd hbe hr hb5 hb6 q0 q1 q2 p0 p1 p2 X0 X1 H0 H1 H2 NX0 NX1 hown hAd hLd hAe hLe hB6 hgv
        cases ok with
        | false =>
          have HF := Lib.hid hk1
          clear hown6 hk2
          go_wp2
          go_ret2
          rw [HG.out, all_not HX.out HF.out]
          exact ⟨_, rfl, by simpa using Own.nil _ _ _, HB1.out.trans (HBW.out.mono HB1.out.size)⟩
        | true =>
          have HF := Lib.hid hk1
          have HV := Lib.hid (hk2 rfl)
          obtain ⟨⟨c0', s0⟩, ⟨c1', s1⟩, ⟨c2', s2⟩, f0, f1, f2⟩ := hown6.cells3 (fill_length _ _ _ (by omega)) k hlt
          have HO6 := Lib.hid hown6
          clear hown6 hk2
          go_wp2
          go_roundw
          case rel =>
            refine ⟨k + 1, by omega, by go_num, take_all (f := (okH l)) HL.out HX.out HF.out, ?_, ((HBW.out.setCell (by simp) _).setCell (by simp) _).setCell (by simp) _⟩
            have h := HO6.out.store3 (fill_length _ _ _ (by omega)) k hlt a0 b0 d0
            have e : (a0, b0, d0) = (holeN l) (p, s, n) := HV.out
            rw [e, fill_set (holeN l) m k _ HX.out] at h
            exact h
          case measure => simp [intOf]; omega
    · obtain rfl : k = m.length := by omega
      rw [fill_all] at hown
      rw [List.take_length] at HL
      have HO := Lib.hid hown
      clear hown
      go_wp2
      go_ret2
      rw [HG.out, HL.out]
      exact ⟨_, rfl, by simpa using HO.out.mono HB1.out.size, HB1.out.trans (hb.mono HB1.out.size)⟩
end Go.Proofs.YtkfgmkgbicahgaaGreatDoor
