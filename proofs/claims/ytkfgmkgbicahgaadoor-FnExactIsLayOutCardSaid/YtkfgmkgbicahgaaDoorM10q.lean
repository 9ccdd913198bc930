/- Texts of the proof, run together: Pairs, RepN, Spare, Steps, BackS. -/
import Derived.Test.YtkfgmkgbicahgaaDoorM3q
import Derived.Test.YtkfgmkgbicahgaaDoorM6q
import Derived.Test.YtkfgmkgbicahgaaDoorM1q
import Derived.OwnWalk
import Derived.Maps.OwnSet
import Derived.Maps.OwnOps
import Derived.Test.YtkfgmkgbicahgaaDoorM2q
import Derived.LoopTactic
import Derived.Deep.Onto
import Derived.Deep.DeepCutAuto
import Derived.Test.YtkfgmkgbicahgaaDoorM4q
import Derived.Test.YtkfgmkgbicahgaaDoorM7q
import Derived.Lib.QuietBelow
import Derived.Test.YtkfgmkgbicahgaaDoorM9q
import Derived.Test.YtkfgmkgbicahgaaDoorSortedq
namespace Go.Proofs.YtkfgmkgbicahgaaDoor
open Go.RowKit Go.Maps
set_option linter.unusedVariables false
set_option linter.unusedSimpArgs false

abbrev ps2 (g : Nat) : Value := .slice (some ⟨g, 0, none⟩) 2 2
/-- A slice of the call's own that holds pairs, each in a block of its own. -/
def OwnP (w : World) (base : Nat) (v : Value) (ps : List (Int × Int)) : Prop :=
  ∃ gs : List Nat, gs.length = ps.length ∧ gs.Nodup ∧ w.ownsRow base 22 1 v ps.length (gs.map ps2) ∧ (∀ g ∈ gs, v.ownBlock ≠ some g) ∧ ∀ (j g : Nat) (q : Int × Int), gs[j]? = some g → ps[j]? = some q → OwnI w base 3 (ps2 g) [q.1, q.2]
theorem OwnP.nil (w : World) (base : Nat) : OwnP w base (.slice none 0 0) [] :=
  ⟨[], rfl, List.nodup_nil, World.ownsRow_nil w base 22 1, fun g h => by simp at h, fun j g q h => by simp at h⟩
theorem OwnP.blocks {w : World} {base : Nat} {v : Value} {ps : List (Int × Int)} (h : OwnP w base v ps) : ∀ k, v.ownBlock = some k → base ≤ k ∧ k < w.heap.size := by
  obtain ⟨gs, _, _, hr, _⟩ := h
  exact World.ownsRow.lt hr
theorem OwnP.grownOff {w w' : World} {base : Nat} {v : Value} {ps : List (Int × Int)} {b : Nat} (h : OwnP w base v ps) (hg : w.grownBy w' (some b)) (hb : b < base) : OwnP w' base v ps := by
  obtain ⟨gs, h1, h2, hr, h4, h5⟩ := h
  refine ⟨gs, h1, h2, World.ownsRow.kept hr hg ?_, h4, fun j g q hj hq => ?_⟩
  · cases hv : v.ownBlock with
    | none => exact .inl rfl
    | some k => exact .inr fun e => by injection e with e; have := (World.ownsRow.lt hr k hv).1; omega
  · have ho := h5 j g q hj hq
    exact ho.grown hg (.inr fun e => by have := (ho.lt g rfl).1; simp [Value.ownBlock] at e; omega)
theorem OwnP.below {w w' : World} {base B : Nat} {v : Value} {ps : List (Int × Int)} (h : OwnP w base v ps) (hb : Below B w w') (hB : w.heap.size ≤ B) : OwnP w' base v ps := by
  obtain ⟨gs, h1, h2, hr, h4, h5⟩ := h
  refine ⟨gs, h1, h2, ?_, h4, fun j g q hj hq => (h5 j g q hj hq).below hb hB⟩
  exact hr.kept (row := none) ⟨hb.os, hb.tape, hb.output, hb.size, fun k hk _ => hb.block k (by omega)⟩ (by cases h' : v.ownBlock <;> simp)

theorem Tryd.info_slI : (Tryd.prog.info? 22).map (fun i => (i.zero, i.size, i.bytes)) = some (some (.slice none 0 0), 1, 24) := by kernel_rfl

/-- A pair in a new block, appended. -/
theorem wpList_appP (W0 w : World) {ops : Array Oper} {rest : List Oper} {o : Oper} {a : Act} {Q : Exit → Act → World → Prop} (hgd : o.guard = none) (s x : Operand)
    (ho : o.op = .call { callee := .builtin .append, args := #[s, x], argTypes := #[93, 93] })
    (base : Nat) (v : Value) (ps : List (Int × Int)) (hs : a.eval s = v) (hown : OwnP W0 base v ps) (hb0 : Below W0.heap.size W0 w) (hbase : base ≤ W0.heap.size)
    (b1 b2 : Nat) (q : Int × Int) (hx : a.eval x = .slice (some ⟨b2, 0, none⟩) 1 1) (hc : w.cell? ⟨b2, 0, none⟩ = some (ps2 b1)) (hq : OwnI w base 3 (ps2 b1) [q.1, q.2]) (hb1 : W0.heap.size ≤ b1) (hsz : ps.length ≤ 4000000)
    (h : ∀ v' w', OwnP w' base v' (ps ++ [q]) → w.grownBy w' v.ownBlock → wpList Tryd.prog ops Q rest (a.put o.dst v') w') :
    wpList Tryd.prog ops Q (o :: rest) a w := by
  obtain ⟨i, hi, hz, hs1, hbb⟩ := info_parts Tryd.info_slI
  obtain ⟨gs, h1, h2, hr, h4, h5⟩ := hown
  have hvlt : ∀ k, v.ownBlock = some k → base ≤ k ∧ k < W0.heap.size := World.ownsRow.lt hr
  have hglt : ∀ g ∈ gs, g < W0.heap.size := by
    intro g hg
    obtain ⟨j, hj⟩ := List.mem_iff_getElem?.1 hg
    have hjl := (List.getElem?_eq_some_iff.1 hj).1
    exact ((h5 j g (ps[j]'(by omega)) hj (List.getElem?_eq_getElem (by omega))).lt g rfl).2
  have hr' : w.ownsRow base 22 1 v ps.length (gs.map ps2) := hr.kept (row := none) ⟨hb0.os, hb0.tape, hb0.output, hb0.size, fun k hk _ => hb0.block k (by omega)⟩ (by cases h' : v.ownBlock <;> simp)
  have hb1w : b1 < w.heap.size := (hq.lt b1 rfl).2
  refine wpList_app w hgd s x 93 ho base 22 i (.slice none 0 0) 1 24 Tryd.underlying93 hi hz hs1 hbb rfl (by decide) v ps.length (gs.map ps2) hs hr' (some ⟨b2, 0, none⟩) 1 1 [ps2 b1] hx rfl (fun h => by cases h) ?_ ?_ (by unfold maxLen; omega) (by omega) (Nat.le_trans hbase hb0.size) ?_
  · intro j u hu
    cases j with
    | zero => simp at hu; subst hu; exact ⟨_, rfl, by rw [Addr.add_lit]; exact hc⟩
    | succ j => simp at hu
  · intro u hu
    simp only [List.mem_singleton] at hu
    subst hu
    rfl
  · intro v' w' k1 k2 k3
    refine h v' w' ⟨gs ++ [b1], by simp [h1], ?_, ?_, ?_, ?_⟩ k2
    · rw [List.nodup_append]
      refine ⟨h2, by simp, fun a ha b hb => ?_⟩
      simp only [List.mem_singleton] at hb
      subst hb
      have := hglt a ha
      omega
    · rw [List.map_append, List.length_append]
      exact k1
    · intro g hg
      rcases List.mem_append.1 hg with hg | hg
      · rcases k3 with k3 | k3
        · rw [k3]; exact h4 g hg
        · rw [k3]; intro e; injection e with e; have := hglt g hg; have := hb0.size; omega
      · simp only [List.mem_singleton] at hg
        subst hg
        rcases k3 with k3 | k3
        · rw [k3]; intro e; have := hvlt g e; omega
        · rw [k3]; intro e; injection e with e; omega
    · intro j g q' hj hq'
      rcases Nat.lt_or_ge j gs.length with hjl | hjl
      · rw [List.getElem?_append_left hjl] at hj
        rw [List.getElem?_append_left (by omega)] at hq'
        have ho := h5 j g q' hj hq'
        refine (ho.below hb0 (Nat.le_refl _)).grown k2 (.inr fun e => h4 g (List.mem_of_getElem? hj) ?_)
        rw [← e]; rfl
      · rw [List.getElem?_append_right hjl] at hj
        rw [List.getElem?_append_right (by omega)] at hq'
        have hj0 : j - gs.length = 0 := by have := (List.getElem?_eq_some_iff.1 hj).1; simp at this; omega
        rw [hj0] at hj
        rw [show j - ps.length = 0 by omega] at hq'
        simp at hj hq'
        subst hj hq'
        refine hq.grown k2 (.inr fun e => ?_)
        have e' : v.ownBlock = some b1 := by rw [← e]; rfl
        have := hvlt b1 e'
        omega

/-- What the program's map says of the notes looked at so far. -/
def Seen (D : DataW Unit) (l : List Nt) (k : Nat) : Prop := IsMap D ∧ ∀ p : Int, Maps.has D (.int .i64 p) = decide (0 ≤ lastIx p l k) ∧ (0 ≤ lastIx p l k → D.atKey (.int .i64 p) (.lit (.int .i64 0)) = .lit (.int .i64 (lastIx p l k)))
theorem Seen.zero (l : List Nt) : Seen (.map []) l 0 := ⟨⟨[], rfl⟩, fun p => ⟨rfl, fun h => by simp [lastIx] at h⟩⟩
theorem Seen.step {D : DataW Unit} {l : List Nt} {k : Nat} {x : Nt} (h : Seen D l k) (hx : l[k]? = some x) : Seen (D.put (.int .i64 x.1) (.lit (.int .i64 (k : Int)))) l (k + 1) := by
  refine ⟨?_, fun p => ?_⟩
  · obtain ⟨es, rfl⟩ := h.1
    exact ⟨_, rfl⟩
  · rw [lastIx_succ hx]
    by_cases hp : x.1 = p
    · subst hp
      rw [if_pos rfl]
      refine ⟨?_, fun _ => ?_⟩
      · rw [has_put_same h.1 (show WideAt.IsKeyLit (.int .i64 x.1) from trivial)]; simp
      · rw [atKey_put_same h.1 (show WideAt.IsKeyLit (.int .i64 x.1) from trivial)]
    · rw [if_neg hp, has_put_other (fun e => hp (by injection e with _ e; exact e.symm)), atKey_put_other (fun e => hp (by injection e with _ e; exact e.symm))]
      exact h.2 p
end Go.Proofs.YtkfgmkgbicahgaaDoor

namespace Go.Proofs.YtkfgmkgbicahgaaDoor
open Go.RowKit Go.Maps
set_option linter.unusedVariables false
set_option linter.unusedSimpArgs false

theorem mapLaw : Keyed Tryd.prog 3 := int_keyed Tryd.underlying3
theorem zeroInt (w : World) : (zeroValue 3).run Tryd.prog w = .ok (.int .i64 0) w := by kernel_rfl
theorem wf64 (z : Int) (h : -1000000 ≤ z) (h' : z ≤ 1000000) : (Lit.int .i64 z).wf = true := WalkArith.wf_i64 (by omega)
theorem keyI (p : Int) (h : -1000000 ≤ p) (h' : p ≤ 1000000) : keyOf Tryd.prog 3 (.int .i64 p) = some (.int .i64 p) := keyOf_int_mk Tryd.underlying3 (wf64 p h h')

theorem OwnI.pair (w : World) (base : Nat) (a b : Int) (hb : base ≤ w.heap.size) : OwnI (w.alloc (.cells #[.int .i64 a, .int .i64 b] 3)) base 3 (ps2 w.heap.size) [a, b] := by
  have h := World.ownsRow_lit (base := base) (e := 3) (size := 1) w #[.int .i64 a, .int .i64 b] 2 hb (by unfold maxLen; omega) rfl
  exact h

set_option maxRecDepth 100000 in
set_option maxHeartbeats 4000000 in
theorem repeated_any (A : Option Addr) (l : List Nt) (c : Nat) (w : World) (hn : l.length ≤ 1048576) (hA : RA w A l) (hg : Good l) :
    Calls Tryd.prog 93 #[.slice A l.length c] w fun e w' => ∃ v, e = .returned v ∧ OwnP w' w.heap.size v (pairsL l l.length) ∧ Below w.heap.size w w' := by
  have h30 := hg.2
  have hmm := @run_makeMap Tryd.prog
  have hb0 : Below w.heap.size w (w.alloc (.map #[] 0)) := (Below.refl w.heap.size w).alloc (Nat.le_refl _) _
  have hm0 : (w.alloc (.map #[] 0)).ownsMap Tryd.prog 3 (plainElem (H := Unit) Tryd.prog 3) w.heap.size 0 (.map []) := World.ownsMap_made _ _ _ _
  have hz0 : w.heap.size + 1 ≤ (w.alloc (.map #[] 0)).heap.size := by simp
  go_enter Tryd.func93, Tryd.ntmps93
  go_wp2_with fail
  generalize w.alloc (.map #[] 0) = W at *
  go_loopw [3, 12] (fun a i wr => ∃ (k : Nat) (D : DataW Unit), k ≤ l.length ∧ i = .int .i64 k ∧ OwnP wr (w.heap.size + 1) a (pairsL l k) ∧ wr.ownsMap Tryd.prog 3 (plainElem Tryd.prog 3) w.heap.size k D ∧ Seen D l k ∧ Below w.heap.size w wr ∧ W.heap.size ≤ wr.heap.size)
    (fun _ i _ => l.length - (intOf i).toNat)
  case atStart => exact ⟨0, .map [], Nat.zero_le _, rfl, OwnP.nil _ _, hm0, Seen.zero l, hb0, Nat.le_refl _⟩
  case round =>
    obtain ⟨k, D, hk, rfl, hown, hmap, hseen, hb, hsz⟩ := hrel
    by_cases hlt : k < l.length
    · have hx : l[k]? = some l[k] := List.getElem?_eq_getElem hlt
      generalize l[k] = x at hx
      have hs := pairsL_succ hx
      have hst := hseen.step hx
      have hv := (noteN_iff x).1 (hg.1 k x hlt hx).1
      obtain ⟨p, s, n⟩ := x
      simp only at hs hst hv
      obtain ⟨g, o, rfl, hgb, h0, h1, h2⟩ := (hA.below hb) k _ hx
      simp only at h0 h1 h2
      have i1 : (0 : Int) ≤ (k : Int) := by omega
      have i2 : (k : Int) < (l.length : Int) := by omega
      have hvlt := hown.blocks
      have hgz : w.heap.size < wr.heap.size := by omega
      have HVL := Lib.hid hvlt
      have HS := Lib.hid hs
      have HST := Lib.hid hst
      have hsp := hseen.2 p
      have hwf := wf64 (k : Int) (by omega) (by omega)
      have hkey := keyI p (by omega) (by omega)
      have hpl := pairsL_length l k
      clear hs hst hx hseen hvlt
      have hnb : Below wr.heap.size wr (wr.alloc (.cells #[.int .i64 p, .int .i64 s, .int .i64 n] 34)) := (Below.refl _ _).alloc (Nat.le_refl _) _
      have hmap1 := hmap.alloc (.cells #[.int .i64 p, .int .i64 s, .int .i64 n] 34)
      have ho1 := hown.below hnb (Nat.le_refl _)
      have p0 : (wr.alloc (.cells #[.int .i64 p, .int .i64 s, .int .i64 n] 34)).cell? ⟨wr.heap.size, 0, none⟩ = some (.int .i64 p) := by rw [World.cell?_alloc_new]; rfl
      have hz1 : (wr.alloc (.cells #[.int .i64 p, .int .i64 s, .int .i64 n] 34)).heap.size = wr.heap.size + 1 := by simp
      go_upto_region 6 with fail
      generalize wr.alloc (.cells #[.int .i64 p, .int .i64 s, .int .i64 n] 34) = W1 at *
      clear h0 h1 h2 hown hmap
      have hb1 := hb.trans (hnb.mono hb.size)
      by_cases hq : 0 ≤ lastIx p l k
      · have hat0 := hsp.2 hq
        have hhas : Maps.has D (.int .i64 p) = true := by rw [hsp.1]; simp [hq]
        have HQ := Lib.hid hq
        clear hsp hq
        generalize hqq : lastIx p l k = q at *
        have HQQ := Lib.hid hqq
        clear hqq
        have ho3 : OwnI ((W1.alloc (.cells #[.int .i64 q, .int .i64 (k : Int)] 3)).alloc (.cells #[ps2 (wr.heap.size + 1)] 22)) (w.heap.size + 1) 3 (ps2 (wr.heap.size + 1)) [q, (k : Int)] := by
          rw [← hz1]
          exact (OwnI.pair W1 (w.heap.size + 1) q k (by omega)).below ((Below.refl _ _).alloc (Nat.le_refl _) _) (Nat.le_refl _)
        have hb13 : Below W1.heap.size W1 ((W1.alloc (.cells #[.int .i64 q, .int .i64 (k : Int)] 3)).alloc (.cells #[ps2 (wr.heap.size + 1)] 22)) := ((Below.refl _ _).alloc (Nat.le_refl _) _).alloc (by simp) _
        have hc3 : ((W1.alloc (.cells #[.int .i64 q, .int .i64 (k : Int)] 3)).alloc (.cells #[ps2 (wr.heap.size + 1)] 22)).cell? ⟨wr.heap.size + 1 + 1, 0, none⟩ = some (ps2 (wr.heap.size + 1)) := by
          have h := World.cell?_alloc_new (W1.alloc (.cells #[.int .i64 q, .int .i64 (k : Int)] 3)) #[ps2 (wr.heap.size + 1)] 22 0
          rw [show (W1.alloc (.cells #[.int .i64 q, .int .i64 (k : Int)] 3)).heap.size = wr.heap.size + 1 + 1 by simp [hz1]] at h
          exact h
        have H3 := Lib.hid ho3
        have HB3 := Lib.hid hb13
        have HC3 := Lib.hid hc3
        have hmap3 := Lib.hid ((hmap1.alloc (.cells #[.int .i64 q, .int .i64 (k : Int)] 3)).alloc (.cells #[ps2 (wr.heap.size + 1)] 22))
        have p03 := Lib.hid ((hb13.cell (p := ⟨wr.heap.size, 0, none⟩) (by show wr.heap.size < _; omega)).trans p0)
        have HO1 := Lib.hid ho1
        clear ho3 hb13 hc3 ho1
        go_wp2_with (first
          | (at_lookup; refine wpList_lookup_own_ok_int _ rfl _ _ 115 rfl 3 3 .i64 mapLaw Tryd.underlying115 Tryd.underlying3 (zeroInt _) w.heap.size k D rfl hmap1 _ _ rfl hkey ?_; intro cL hat hwc; rw [hhas]; (obtain rfl : q = cL := by have e := hat0.symm.trans hat; injection e with e; injection e); clear hat hwc)
          | (at_builtin; go_loud (refine wpList_appP W1 _ rfl (.tmp 25) (.tmp 29) rfl (w.heap.size + 1) _ _ rfl HO1.out HB3.out (by omega) (wr.heap.size + 1) (wr.heap.size + 1 + 1) (q, (k : Int)) rfl HC3.out H3.out (Nat.le_of_eq hz1) (by omega) ?_); intro v4 w4 ho4 hg4; have p04 := hg4.cell p03.out (fun e => by have := HVL.out _ e.symm; simp at this <;> omega); have hmap4 := hmap3.out.kept hg4 (fun e => by have := HVL.out _ e.symm; omega); have hb4 := (hb1.trans (HB3.out.mono hb1.size)).grown hg4 (Nat.le_trans hb1.size HB3.out.size) (fun j hj => by have := HVL.out j hj; omega); have hz4 := hg4.size)
          | (at_mapUpdate; go_loud (refine wpList_mapUpdate_own _ rfl _ _ _ 115 rfl 3 3 mapLaw Tryd.underlying115 _ w.heap.size k D rfl hmap4 (by unfold maxLen; omega) _ _ _ rfl rfl hkey _ [] (plainElem_int Tryd.underlying3 hwf) ?_); intro w5 hmap5 hgm))
        go_roundw
        case rel =>
          refine ⟨k + 1, _, by omega, by go_num, ?_, hmap5, HST.out, hb4.grown hgm hb4.size (fun j hj => by injection hj with hj; omega), ?_⟩
          · rw [HS.out, if_pos HQ.out]
            exact ho4.grownOff hgm (Nat.lt_succ_self _)
          · exact Nat.le_trans hsz (Nat.le_trans (by omega : wr.heap.size ≤ W1.heap.size) (Nat.le_trans HB3.out.size (Nat.le_trans hz4 hgm.size)))
        case measure => simp [intOf]; omega
      · have hhas : Maps.has D (.int .i64 p) = false := by rw [hsp.1]; simp [hq]
        have HQ := Lib.hid hq
        have HO1 := Lib.hid ho1
        clear hsp hq ho1
        go_wp2_with (first
          | (at_lookup; refine wpList_lookup_own_ok_int _ rfl _ _ 115 rfl 3 3 .i64 mapLaw Tryd.underlying115 Tryd.underlying3 (zeroInt _) w.heap.size k D rfl hmap1 _ _ rfl hkey ?_; intro cL hat hwc; rw [hhas]; clear hat)
          | (at_mapUpdate; go_loud (refine wpList_mapUpdate_own _ rfl _ _ _ 115 rfl 3 3 mapLaw Tryd.underlying115 _ w.heap.size k D rfl hmap1 (by unfold maxLen; omega) _ _ _ rfl rfl hkey _ [] (plainElem_int Tryd.underlying3 hwf) ?_); intro w5 hmap5 hgm))
        go_roundw
        case rel =>
          refine ⟨k + 1, _, by omega, by go_num, ?_, hmap5, HST.out, hb1.grown hgm hb1.size (fun j hj => by injection hj with hj; omega), ?_⟩
          · rw [HS.out, if_neg HQ.out]
            exact HO1.out.grownOff hgm (Nat.lt_succ_self _)
          · have := hgm.size; omega
        case measure => simp [intOf]; omega
    · obtain rfl : k = l.length := by omega
      go_wp2
      go_ret
      obtain ⟨gs, h1, h2, hr, h4, h5⟩ := hown
      refine ⟨_, rfl, ⟨gs, h1, h2, World.ownsRow.mono hr (Nat.le_succ _), h4, fun j g q hj hq => (h5 j g q hj hq).mono (Nat.le_succ _)⟩, hb⟩
end Go.Proofs.YtkfgmkgbicahgaaDoor

namespace Go.Proofs.YtkfgmkgbicahgaaDoor
open Go.RowKit Go.Sort
set_option linter.unusedVariables false
set_option linter.unusedSimpArgs false

set_option maxHeartbeats 1000000 in
theorem l1Has_any (A : Option Addr) (l : List Int) (c : Nat) (n : Int) (w : World) (hn : l.length ≤ 1048576) (hA : RI w A l) :
    Calls Tryd.prog 64 #[.slice A l.length c, .int .i64 n] w fun e w' => e = .returned (.bool (hasB l n)) ∧ Below w.heap.size w w' := by
  go_enter Tryd.func64, Tryd.ntmps64
  go_wp2
  go_loopw [9] (fun i wr => ∃ k : Nat, k ≤ l.length ∧ i = .int .i64 k ∧ (∀ j x, j < k → l[j]? = some x → x ≠ n) ∧ wr = w)
    (fun i _ => l.length - (intOf i).toNat)
  case atStart => exact ⟨0, Nat.zero_le _, rfl, fun j x h _ => absurd h (by omega), rfl⟩
  case round =>
    obtain ⟨k, hk, rfl, hno, rfl⟩ := hrel
    have HN := Lib.hid hno
    clear hno
    by_cases hlt : k < l.length
    · have hx : l[k]? = some l[k] := List.getElem?_eq_getElem hlt
      generalize l[k] = x at hx
      obtain ⟨g, o, rfl, hgb, h0⟩ := hA k _ hx
      have i1 : (0 : Int) ≤ (k : Int) := by omega
      have i2 : (k : Int) < (l.length : Int) := by omega
      have HX := Lib.hid hx
      clear hx
      by_cases hxn : x = n
      · subst hxn
        go_wp2
        go_ret
        exact ⟨ret_bool (by rw [eq_comm, hasB_iff]; exact List.mem_iff_getElem?.2 ⟨_, HX.out⟩), Below.refl _ _⟩
      · go_wp2
        go_roundw
        case rel =>
          refine ⟨k + 1, by omega, by go_num, fun j y hj hy => ?_, by first | rfl | trivial⟩
          rcases Nat.lt_or_ge j k with h | h
          · exact HN.out j y h hy
          · obtain rfl : j = k := by omega
            have e := HX.out.symm.trans hy
            injection e with e
            exact e ▸ hxn
        case measure => simp [intOf]; omega
    · obtain rfl : k = l.length := by omega
      go_wp2
      go_ret
      refine ⟨ret_bool ?_, Below.refl _ _⟩
      cases h : hasB l n with
      | false => rfl
      | true =>
        obtain ⟨j, hj⟩ := List.mem_iff_getElem?.1 ((hasB_iff l n).1 h)
        exact absurd rfl (HN.out j n (List.getElem?_eq_some_iff.1 hj).1 hj)

set_option maxRecDepth 100000 in
set_option maxHeartbeats 1000000 in
theorem laAsked_any (A : Option Addr) (l : List Int) (c : Nat) (r : Int) (M : Option Addr) (m : List Nt) (d : Nat) (w : World) (hn : l.length ≤ 1048576) (hA : RI w A l) (hm : m.length ≤ 1048576) (hd : m.length ≤ d) (hd' : d ≤ 9223372036854775807) (hM : RA w M m) :
    Calls Tryd.prog 57 #[.agg #[.slice A l.length c, .int .i64 r], .slice M m.length d] w fun e w' => e = .returned (.bool (gdI l r && H.goodB m)) ∧ Below w.heap.size w w' := by
  have hb0 : Below w.heap.size w (w.alloc (.cells #[.slice A l.length c, .int .i64 r] 32)) := (Below.refl w.heap.size w).alloc (Nat.le_refl _) _
  go_enter Tryd.func57, Tryd.ntmps57
  go_wp2_with fail
  refine (inGood_any _ _ _ _ _ hn (hA.below hb0)).mono ?_
  rintro e w1 ⟨rfl, hb1⟩
  have hB1 := hb0.trans (hb1.mono hb0.size)
  cases hg : gdI l r with
  | false =>
    go_wp2
    go_ret
    exact ⟨ret_bool (by simp [hg]), hB1⟩
  | true =>
    go_wp2_with fail
    refine (H.ntGood_any _ _ _ _ hm hd hd' (hM.below hB1)).mono ?_
    rintro e w2 ⟨rfl, hb2⟩
    go_wp2
    go_ret
    exact ⟨ret_bool (by simp [hg]), hB1.trans (hb2.mono hB1.size)⟩

/-- The tracks below n that are not used. -/
def spN (u : List Int) (n : Nat) : List Int := ((List.range n).map fun (j : Nat) => (j : Int)).filter fun x => !hasB u x
def spareL (P : List Int) (m : List Nt) : List Int := spN (H.tracksL m) P.length
theorem spN_succ (u : List Int) (n : Nat) : spN u (n + 1) = spN u n ++ if hasB u (n : Int) = true then [] else [(n : Int)] := by
  unfold spN
  rw [List.range_succ, List.map_append, List.filter_append]
  congr 1
  cases h : hasB u (n : Int) <;> simp [h]
theorem spN_length (u : List Int) (n : Nat) : (spN u n).length ≤ n := by
  unfold spN
  exact Nat.le_trans (List.length_filter_le _ _) (by simp)
theorem spareL_length (P : List Int) (m : List Nt) : (spareL P m).length ≤ P.length := spN_length _ _

set_option maxRecDepth 100000 in
set_option maxHeartbeats 4000000 in
theorem specSpare_any (A : Option Addr) (l : List Int) (c : Nat) (r : Int) (M : Option Addr) (m : List Nt) (d : Nat) (w : World) (hn : l.length ≤ 1048576) (hA : RI w A l) (hm : m.length ≤ 1048576) (hd : m.length ≤ d) (hd' : d ≤ 9223372036854775807) (hM : RA w M m) :
    Calls Tryd.prog 37 #[.agg #[.slice A l.length c, .int .i64 r], .slice M m.length d] w fun e w' => RetI w (spareL l m) (gdI l r && H.goodB m) e w' := by
  have hb0 : Below w.heap.size w (w.alloc (.cells #[.slice A l.length c, .int .i64 r] 32)) := (Below.refl w.heap.size w).alloc (Nat.le_refl _) _
  have hx := Box.new w A l.length c r 32
  have hA := hA.below hb0
  have hM := hM.below hb0
  go_enter Tryd.func37, Tryd.ntmps37
  go_wp2_with fail
  generalize w.alloc (.cells #[.slice A l.length c, .int .i64 r] 32) = W at *
  refine (laAsked_any _ _ _ _ _ _ _ _ hn hA hm hd hd' hM).mono ?_
  rintro e w1 ⟨rfl, hb1⟩
  have hB1 := hb0.trans (hb1.mono hb0.size)
  have hx := hx.below hb1
  cases hg : (gdI l r && H.goodB m) with
  | false =>
    go_wp2
    go_ret2
    rw [hg]
    exact ⟨_, rfl, by simpa using OwnI.nil w1 w.heap.size 3, hB1⟩
  | true =>
    have HG := Lib.hid hg
    have h60 := ((H.goodB_iff m).1 (by simp at hg; exact hg.2)).2
    have h20 := ((gdI_iff l r).1 (by simp at hg; exact hg.1)).1
    clear hg
    go_wp2_with fail
    refine (H.laTracks_any _ _ _ _ (by omega) (hM.below hb1)).mono ?_
    rintro e w2 ⟨v2, rfl, ho2, hb2⟩
    have hx := hx.below hb2
    have HB2 := Lib.hid (hB1.trans (hb2.mono hB1.size))
    obtain ⟨U, uc, rfl, hUr⟩ := ho2.form2
    have HU := Lib.hid hUr
    have hul := H.tracksL_length m
    obtain ⟨x0, x1, xl⟩ := hx
    clear ho2 hUr hb1 hb2 hB1 hb0 hA hM
    go_wp2_with fail
    go_loopw [7, 18] (fun a i wr => ∃ k : Nat, k ≤ l.length ∧ i = .int .i64 k ∧ OwnI wr w2.heap.size 3 a (spN (H.tracksL m) k) ∧ Below w2.heap.size w2 wr)
      (fun _ i _ => l.length - (intOf i).toNat)
    case atStart => exact ⟨0, Nat.zero_le _, rfl, OwnI.nil _ _ _, Below.refl _ _⟩
    case round =>
      obtain ⟨k, hk, rfl, hown, hb⟩ := hrel
      have HO := Lib.hid hown
      clear hown
      by_cases hlt : k < l.length
      · have HS := Lib.hid (spN_succ (H.tracksL m) k)
        have hsz := spN_length (H.tracksL m) k
        have hU := HU.out.below hb
        have HCC := Lib.hid (l1Has_any U (H.tracksL m) uc (k : Int) wr (by omega) hU)
        go_wp2_with fail
        refine HCC.out.mono ?_
        rintro e w5 ⟨rfl, hb5⟩
        clear hU HCC
        have HB5 := Lib.hid (hb.trans (hb5.mono hb.size))
        have HO5 := Lib.hid (HO.out.below hb5 (Nat.le_refl _))
        clear hb hb5 HO
        cases hh : hasB (H.tracksL m) (k : Int) with
        | false =>
          have hbr3 := Lib.hid (show Below w2.heap.size w2 (w5.alloc (.cells #[.int .i64 (k : Int)] 3)) from HB5.out.alloc HB5.out.size _)
          have ho3 := Lib.hid (HO5.out.below ((Below.refl _ _).alloc (Nat.le_refl _) (.cells #[.int .i64 (k : Int)] 3)) (Nat.le_refl _))
          have hc3 := Lib.hid (one_new w5 (k : Int))
          go_wp2_with (at_builtin; go_loud (refine wpList_appI _ rfl (.tmp 25) (.tmp 27) rfl w2.heap.size _ _ rfl ho3.out (some ⟨w5.heap.size, 0, none⟩) 1 1 [(k : Int)] rfl rfl (fun h => by cases h) (fun j y hy => one_at hc3.out hy) (by simp; omega) hbr3.out.size ?_; intro v4 w4 ho4 hg4 hv4))
          go_roundw
          case rel =>
            refine ⟨k + 1, by omega, by go_num, ?_, hbr3.out.grown hg4 hbr3.out.size (fun j hj => (ho3.out.lt j hj).1)⟩
            rw [HS.out, if_neg (by rw [hh]; simp)]
            exact ho4
          case measure => simp [intOf]; omega
        | true =>
          go_wp2
          go_roundw
          case rel =>
            refine ⟨k + 1, by omega, by go_num, ?_, HB5.out⟩
            rw [HS.out, if_pos hh, List.append_nil]
            exact HO5.out
          case measure => simp [intOf]; omega
      · obtain rfl : k = l.length := by omega
        go_wp2
        go_ret2
        rw [HG.out]
        exact ⟨_, rfl, by simpa [spareL] using HO.out.mono HB2.out.size, HB2.out.trans (hb.mono HB2.out.size)⟩

set_option maxRecDepth 100000 in
set_option maxHeartbeats 4000000 in
theorem implSpare_any (A : Option Addr) (l : List Int) (c : Nat) (r : Int) (M : Option Addr) (m : List Nt) (d : Nat) (w : World) (hn : l.length ≤ 1048576) (hA : RI w A l) (hm : m.length ≤ 1048576) (hd : m.length ≤ d) (hd' : d ≤ 9223372036854775807) (hM : RA w M m) (hL : Lim w) :
    Calls Tryd.prog 38 #[.agg #[.slice A l.length c, .int .i64 r], .slice M m.length d] w fun e w' => RetI w (spareL l m) (gdI l r && H.goodB m) e w' := by
  have hb0 : Below w.heap.size w (w.alloc (.cells #[.slice A l.length c, .int .i64 r] 32)) := (Below.refl w.heap.size w).alloc (Nat.le_refl _) _
  have hx := Box.new w A l.length c r 32
  have hA := hA.below hb0
  have hM := hM.below hb0
  have hL := hL.below hb0
  go_enter Tryd.func38, Tryd.ntmps38
  go_wp2_with fail
  generalize w.alloc (.cells #[.slice A l.length c, .int .i64 r] 32) = W at *
  refine (H.implTracks_any _ _ _ _ hm hM).mono ?_
  rintro e w1 ⟨v1, rfl, ho1, hb1⟩
  have HB1 := Lib.hid (hb0.trans (hb1.mono hb0.size))
  have hx := hx.below hb1
  cases hgm : H.goodB m with
  | false =>
    rw [hgm] at ho1
    simp only [Bool.false_eq_true, if_false] at ho1
    obtain ⟨U, uc, rfl, hUr⟩ := ho1.form2
    have HB := Lib.hid hgm
    clear hUr ho1 hgm
    go_wp2
    go_ret2
    rw [HB.out, Bool.and_false]
    exact ⟨_, rfl, by simpa using OwnI.nil w1 w.heap.size 3, HB1.out⟩
  | true =>
    rw [hgm] at ho1
    simp only [if_true] at ho1
    obtain ⟨U, uc, rfl, hUr⟩ := ho1.form2
    have h60 := ((H.goodB_iff m).1 hgm).2
    obtain ⟨x0, x1, xl⟩ := id hx
    have HB := Lib.hid hgm
    clear ho1 hgm
    go_wp2_with fail
    refine (isIns_any _ _ _ _ _ hn (hA.below hb1) (hL.below hb1)).mono ?_
    rintro e w2 ⟨rfl, hb2⟩
    have hx := hx.below hb2
    have HB2 := Lib.hid (HB1.out.trans (hb2.mono HB1.out.size))
    have HU := Lib.hid (hUr.below hb2)
    clear x0 x1 xl hUr hb1 hb2 hb0 hA hM hL
    cases hg : gdI l r with
    | false =>
      go_wp2
      go_ret2
      rw [hg, Bool.false_and]
      exact ⟨_, rfl, by simpa using OwnI.nil w2 w.heap.size 3, HB2.out⟩
    | true =>
      have h20 := ((gdI_iff l r).1 hg).1
      have HG := Lib.hid (show (gdI l r && H.goodB m) = true from by rw [hg, HB.out]; rfl)
      clear hg
      have hul := H.tracksL_length m
      obtain ⟨x0, x1, xl⟩ := hx
      go_wp2_with fail
      go_loopw [8, 25] (fun a i wr => ∃ k : Nat, k ≤ l.length ∧ i = .int .i64 k ∧ OwnI wr w2.heap.size 3 a (spN (H.tracksL m) k) ∧ Below w2.heap.size w2 wr)
        (fun _ i _ => l.length - (intOf i).toNat)
      case atStart => exact ⟨0, Nat.zero_le _, rfl, OwnI.nil _ _ _, Below.refl _ _⟩
      case round =>
        obtain ⟨k, hk, rfl, hown, hb⟩ := hrel
        have HO := Lib.hid hown
        clear hown
        by_cases hlt : k < l.length
        · have HS := Lib.hid (spN_succ (H.tracksL m) k)
          have hsz := spN_length (H.tracksL m) k
          have hU := HU.out.below hb
          have HCC := Lib.hid ((contains_any U (H.tracksL m) uc (k : Int) wr (by omega) hU).mono fun e w' h => (show _ ∧ Below wr.heap.size wr w' from ⟨h.1, by rw [h.2]; exact Below.refl _ _⟩))
          go_wp2_with fail
          refine HCC.out.mono ?_
          rintro e w5 ⟨rfl, hb5⟩
          clear hU HCC
          have HB5 := Lib.hid (hb.trans (hb5.mono hb.size))
          have HO5 := Lib.hid (HO.out.below hb5 (Nat.le_refl _))
          clear hb hb5 HO
          cases hh : hasB (H.tracksL m) (k : Int) with
          | false =>
            have hbr3 := Lib.hid (show Below w2.heap.size w2 (w5.alloc (.cells #[.int .i64 (k : Int)] 3)) from HB5.out.alloc HB5.out.size _)
            have ho3 := Lib.hid (HO5.out.below ((Below.refl _ _).alloc (Nat.le_refl _) (.cells #[.int .i64 (k : Int)] 3)) (Nat.le_refl _))
            have hc3 := Lib.hid (one_new w5 (k : Int))
            go_wp2_with (at_builtin; go_loud (refine wpList_appI _ rfl (.tmp 32) (.tmp 34) rfl w2.heap.size _ _ rfl ho3.out (some ⟨w5.heap.size, 0, none⟩) 1 1 [(k : Int)] rfl rfl (fun h => by cases h) (fun j y hy => one_at hc3.out hy) (by simp; omega) hbr3.out.size ?_; intro v4 w4 ho4 hg4 hv4))
            go_roundw
            case rel =>
              refine ⟨k + 1, by omega, by go_num, ?_, hbr3.out.grown hg4 hbr3.out.size (fun j hj => (ho3.out.lt j hj).1)⟩
              rw [HS.out, if_neg (by rw [hh]; simp)]
              exact ho4
            case measure => simp [intOf]; omega
          | true =>
            go_wp2
            go_roundw
            case rel =>
              refine ⟨k + 1, by omega, by go_num, ?_, HB5.out⟩
              rw [HS.out, if_pos hh, List.append_nil]
              exact HO5.out
            case measure => simp [intOf]; omega
        · obtain rfl : k = l.length := by omega
          go_wp2
          go_ret2
          rw [HG.out]
          exact ⟨_, rfl, by simpa [spareL] using HO.out.mono HB2.out.size, HB2.out.trans (hb.mono HB2.out.size)⟩

end Go.Proofs.YtkfgmkgbicahgaaDoor

namespace Go.Proofs.YtkfgmkgbicahgaaDoor
open Go.RowKit Go.Sort Go.Maps
set_option linter.unusedVariables false
set_option linter.unusedSimpArgs false

set_option maxRecDepth 100000 in
set_option maxHeartbeats 1000000 in
theorem steps_any (A : Option Addr) (l : List Nt) (c g : Nat) (a b : Int) (w : World) (hn : l.length ≤ 1048576) (hA : RA w A l) (hg : Good l) (ha : 0 ≤ a) (ha' : a < l.length) (hb : 0 ≤ b) (hb' : b < l.length)
    (c0 : w.cell? ⟨g, 0, none⟩ = some (.int .i64 a)) (c1 : w.cell? ⟨g, 1, none⟩ = some (.int .i64 b)) :
    Calls Tryd.prog 94 #[.slice A l.length c, ps2 g] w fun e w' => e = .returned (.int .i64 (apart l a b)) ∧ Below w.heap.size w w' := by
  have hx : l[a.toNat]? = some l[a.toNat] := List.getElem?_eq_getElem (by omega)
  have hy : l[b.toNat]? = some l[b.toNat] := List.getElem?_eq_getElem (by omega)
  have hxd : l.getD a.toNat (0, 0, 0) = l[a.toNat] := by rw [List.getD_eq_getElem?_getD, hx]; rfl
  have hyd : l.getD b.toNat (0, 0, 0) = l[b.toNat] := by rw [List.getD_eq_getElem?_getD, hy]; rfl
  have hvx := (noteN_iff _).1 (hg.1 a.toNat _ (by omega) hx).1
  have hvy := (noteN_iff _).1 (hg.1 b.toNat _ (by omega) hy).1
  generalize l[a.toNat] = x at hx hxd hvx
  generalize l[b.toNat] = y at hy hyd hvy
  obtain ⟨px, sx, nx⟩ := x
  obtain ⟨py, sy, ny⟩ := y
  simp only at hvx hvy
  obtain ⟨g1, o1, rfl, hg1, x0, x1, x2⟩ := hA a.toNat _ hx
  obtain ⟨g2, o2, hgo, hg2, y0, y1, y2⟩ := hA b.toNat _ hy
  simp only [Option.some.injEq, Addr.mk.injEq, and_true] at hgo
  obtain ⟨rfl, rfl⟩ := hgo
  simp only at x1 y1
  have hap : apart l a b = sy - sx := by unfold apart; rw [hxd, hyd]
  have hw : IntKind.i64.wrap (sy - sx) = sy - sx := IntWalk.i64_in _ (by omega)
  have HAP := Lib.hid hap
  clear hap hxd hyd hx hy x0 x2 y0 y2 hA
  have x1 := cell_regrown x1
  have y1 := cell_regrown y1
  have c0 := cell_regrown c0
  have c1 := cell_regrown c1
  go_enter Tryd.func94, Tryd.ntmps94
  go_wp2_with fail
  refine wp_region_quiet_below (by kernel_rfl) (by kernel_rfl) ?_
  repeat (go_big_quiet_step (fail))
  refine wpQuiet_nil ?_
  intro _ hw'
  obtain ⟨qr, hw''⟩ := hw'
  subst hw''
  go_wp2
  go_ret
  exact ⟨ret_int (by rw [HAP.out]), below_regrown w qr.d qr.os⟩
end Go.Proofs.YtkfgmkgbicahgaaDoor

namespace Go.Proofs.YtkfgmkgbicahgaaDoor
open Go.RowKit Go.Sort
set_option linter.unusedVariables false
set_option linter.unusedSimpArgs false

theorem take_all {f : Nt → Bool} {m : List Nt} {k : Nat} {x : Nt} (h : (m.take k).all f = true) (hx : m[k]? = some x) (hf : f x = true) : (m.take (k + 1)).all f = true := by
  rw [List.take_add_one, hx, List.all_append, h]
  simp [hf]
theorem all_not {f : Nt → Bool} {m : List Nt} {k : Nat} {x : Nt} (hx : m[k]? = some x) (hf : f x = false) : m.all f = false := by
  cases h : m.all f with
  | false => rfl
  | true =>
    have := List.all_eq_true.1 h x (List.mem_iff_getElem?.2 ⟨k, hx⟩)
    rw [hf] at this; cases this
theorem take_map {f : Nt → Nt} {m : List Nt} {k : Nat} {x : Nt} (hx : m[k]? = some x) : (m.take (k + 1)).map f = (m.take k).map f ++ [f x] := by
  rw [List.take_add_one, hx, List.map_append]; rfl

/-- The notes of all holes. -/
def backL (P : List Int) (m : List Nt) : List Nt := m.map (noteOf P)
theorem backL_length (P : List Int) (m : List Nt) : (backL P m).length = m.length := by simp [backL]
theorem backL_snoc {P : List Int} {m : List Nt} {k : Nat} {x : Nt} (hx : m[k]? = some x) : backL P (m.take (k + 1)) = backL P (m.take k) ++ [noteOf P x] := take_map hx
theorem same_retS {B : World} {l m : List Nt} {a b : Bool} {e : Ending} {w' : World} (h : RetScore B l a e w') (ha : a = b) (hl : (if a = true then l else []) = (if b = true then m else [])) : RetScore B m b e w' := by
  obtain ⟨v, he, ho, hb⟩ := h
  subst ha
  exact ⟨v, he, by rw [← hl]; exact ho, hb⟩

set_option maxRecDepth 100000 in
set_option maxHeartbeats 4000000 in
theorem laNotes_any (A : Option Addr) (l : List Int) (c : Nat) (r : Int) (M : Option Addr) (m : List Nt) (d : Nat) (w : World) (hn : l.length ≤ 1048576) (hA : RI w A l) (hM : RA w M m) (hg : H.Good m) :
    Calls Tryd.prog 58 #[.agg #[.slice A l.length c, .int .i64 r], .slice M m.length d] w fun e w' => RetScore w (canon (backL l m)) (m.all (isOf l) && goodB (canon (backL l m))) e w' := by
  have h60 := hg.2
  have hb0 : Below w.heap.size w (w.alloc (.cells #[.slice A l.length c, .int .i64 r] 32)) := (Below.refl w.heap.size w).alloc (Nat.le_refl _) _
  obtain ⟨x0, x1, hz⟩ := Box.new w A l.length c r 32
  have hA := hA.below hb0
  have hM := hM.below hb0
  have hbw : w.heap.size ≤ (w.alloc (.cells #[.slice A l.length c, .int .i64 r] 32)).heap.size := by simp
  go_enter Tryd.func58, Tryd.ntmps58
  go_upto_region 1 with fail
  generalize w.alloc (.cells #[.slice A l.length c, .int .i64 r] 32) = W at *
  go_wp2_with fail
  go_loopw [6, 13] (fun a i wr => ∃ k : Nat, k ≤ m.length ∧ i = .int .i64 k ∧ (m.take k).all (isOf l) = true ∧ Own wr W.heap.size 34 a (backL l (m.take k)) ∧ Below W.heap.size W wr)
    (fun _ i _ => m.length - (intOf i).toNat)
  case atStart => exact ⟨0, Nat.zero_le _, rfl, rfl, Own.nil _ _ _, Below.refl _ _⟩
  case round =>
    obtain ⟨k, hk, rfl, hall, hown, hb⟩ := hrel
    have HO := Lib.hid hown
    have HL := Lib.hid hall
    clear hown hall
    by_cases hlt : k < m.length
    · have hx : m[k]? = some m[k] := List.getElem?_eq_getElem hlt
      generalize m[k] = x at hx
      have hv : H.noteN x = true := (hg.1 k x hlt hx).1
      have HX := Lib.hid hx
      obtain ⟨p, s, n⟩ := x
      obtain ⟨g, o, rfl, hgb, h0, h1, h2⟩ := (hM.below hb) k _ hx
      simp only at h0 h1 h2
      have i1 : (0 : Int) ≤ (k : Int) := by omega
      have i2 : (k : Int) < (m.length : Int) := by omega
      clear hx
      have y0 := ((bcell hb).1 w.heap.size 0 hz).trans x0
      have y1 := ((bcell hb).1 w.heap.size 1 hz).trans x1
      have hzr : w.heap.size < wr.heap.size := Nat.lt_of_lt_of_le hz hb.size
      have hnb : Below wr.heap.size wr (wr.alloc (.cells #[.int .i64 p, .int .i64 s, .int .i64 n] 29)) := (Below.refl _ _).alloc (Nat.le_refl _) _
      have hAr := (hA.below hb).below hnb
      go_wp2_with fail
      generalize wr.alloc (.cells #[.int .i64 p, .int .i64 s, .int .i64 n] 29) = W1 at *
      refine (laNote_any _ _ _ _ _ _ _ _ hn hAr hv).mono ?_
      rintro e w3 ⟨rfl, hb3⟩
      have HB3 := Lib.hid (hnb.trans (hb3.mono hnb.size))
      clear y0 y1 h0 h1 h2 hAr hnb hb3 hv
      unfold noR
      cases hf : isOf l (p, s, n) with
      | false =>
        have HF := Lib.hid hf
        simp only [Bool.false_eq_true, if_false, no3]
        go_wp2
        go_ret2
        rw [all_not HX.out HF.out, Bool.false_and]
        exact ⟨_, rfl, by simpa using Own.nil _ _ _, hb0.trans ((hb.trans ((HB3.out.alloc HB3.out.size _).mono hb.size)).mono hbw)⟩
      | true =>
        have HF := Lib.hid hf
        have HTM := Lib.hid (backL_snoc (P := l) HX.out)
        simp only [if_true, nt3]
        generalize noteOf l (p, s, n) = y at *
        obtain ⟨a, b, q⟩ := y
        simp only
        have hbr2 : Below wr.heap.size wr (w3.alloc (.cells #[.int .i64 a, .int .i64 b, .int .i64 q] 34)) := HB3.out.alloc HB3.out.size _
        have hz3 : (w3.alloc (.cells #[.int .i64 a, .int .i64 b, .int .i64 q] 34)).heap.size = w3.heap.size + 1 := by simp
        have hbr3 := Lib.hid (hbr2.alloc hbr2.size (.cells #[.int .i64 a, .int .i64 b, .int .i64 q] 34))
        have ho3 := Lib.hid (HO.out.below hbr3.out (Nat.le_refl _))
        have hc3 := Lib.hid (RA.one (p := a) (s := b) (n := q) (t := 34) (fr := (0, 0)) (heap_alloc_new (w3.alloc (.cells #[.int .i64 a, .int .i64 b, .int .i64 q] 34)) (.cells #[.int .i64 a, .int .i64 b, .int .i64 q] 34)))
        rw [hz3] at hc3
        have hsz : (backL l (m.take k)).length ≤ 60 := by rw [backL_length]; simp; omega
        clear hz3 hbr2
        go_wp2_with (at_builtin; go_loud (refine wpList_appN _ rfl (.tmp 25) (.tmp 27) rfl W.heap.size _ _ rfl ho3.out (some ⟨w3.heap.size + 1, 0, none⟩) 1 1 [(a, b, q)] rfl rfl (fun h => by cases h) hc3.out (by omega) (Nat.le_trans hb.size hbr3.out.size) ?_; intro v4 w4 ho4 hg4))
        go_roundw
        case rel =>
          refine ⟨k + 1, by omega, by go_num, take_all HL.out HX.out HF.out, ?_, (hb.trans (hbr3.out.mono hb.size)).grown hg4 (Nat.le_trans hb.size hbr3.out.size) (fun j hj => (ho3.out.lt j hj).1)⟩
          rw [HTM.out]
          exact ho4
        case measure => simp [intOf]; omega
    · obtain rfl : k = m.length := by omega
      rw [List.take_length] at HO HL
      obtain ⟨O, oc, rfl, hO⟩ := HO.out.form
      go_wp2_with fail
      refine (ntSorted_any _ _ _ _ (by rw [backL_length]; omega) hO).mono ?_
      rintro e w3 ⟨v3, rfl, ho3, hb3⟩
      have HALL := Lib.hid HL.out
      clear HL
      go_wp2
      go_ret2
      rw [HALL.out, Bool.true_and]
      exact ⟨_, rfl, ho3.mono (Nat.le_trans hbw hb.size), hb0.trans ((hb.trans (hb3.mono hb.size)).mono hbw)⟩

/-- A sheet is read back. -/
def backB (P : List Int) (r : Int) (m : List Nt) : Bool := gdI P r && (H.goodB m && (m.all (isOf P) && goodB (m.map (noteOf P))))
theorem back_canon {P : List Int} {m : List Nt} {r : Int} (hg : gdI P r = true) (hm : H.Good m) (ho : m.all (isOf P) = true) :
    goodB (canon (m.map (noteOf P))) = goodB (m.map (noteOf P)) ∧ (if goodB (canon (m.map (noteOf P))) = true then canon (m.map (noteOf P)) else []) = (if goodB (m.map (noteOf P)) = true then m.map (noteOf P) else []) := by
  have hs := noteOf_srt ((gdI_iff P r).1 hg).2.1.inc hm (fun x hx => List.all_eq_true.1 ho x hx)
  obtain ⟨h1, h2⟩ := canon_good (List.Perm.refl (m.map (noteOf P))) hs
  exact ⟨h1.symm, h2.symm⟩
theorem backB_iff {P : List Int} {m : List Nt} {r : Int} (hg : (gdI P r && H.goodB m) = true) : backB P r m = (m.all (isOf P) && goodB (m.map (noteOf P))) := by
  simp only [Bool.and_eq_true] at hg
  unfold backB
  rw [hg.1, hg.2, Bool.true_and, Bool.true_and]

theorem back_eq {P : List Int} {m : List Nt} {r : Int} (hg : (gdI P r && H.goodB m) = true) :
    (m.all (isOf P) && goodB (canon (backL P m))) = backB P r m ∧ (if (m.all (isOf P) && goodB (canon (backL P m))) = true then canon (backL P m) else []) = (if backB P r m = true then m.map (noteOf P) else []) := by
  rw [backB_iff hg]
  simp only [Bool.and_eq_true] at hg
  unfold backL
  cases ha : m.all (isOf P) with
  | false => exact ⟨rfl, rfl⟩
  | true =>
    obtain ⟨c1, c2⟩ := back_canon hg.1 ((H.goodB_iff m).1 hg.2) ha
    rw [Bool.true_and, Bool.true_and]
    exact ⟨c1, c2⟩

set_option maxRecDepth 100000 in
set_option maxHeartbeats 2000000 in
theorem specBack_any (A : Option Addr) (l : List Int) (c : Nat) (r : Int) (M : Option Addr) (m : List Nt) (d : Nat) (w : World) (hn : l.length ≤ 1048576) (hA : RI w A l) (hm : m.length ≤ 1048576) (hd : m.length ≤ d) (hd' : d ≤ 9223372036854775807) (hM : RA w M m) :
    Calls Tryd.prog 31 #[.agg #[.slice A l.length c, .int .i64 r], .slice M m.length d] w fun e w' => RetScore w (m.map (noteOf l)) (backB l r m) e w' := by
  have hb0 : Below w.heap.size w (w.alloc (.cells #[.slice A l.length c, .int .i64 r] 32)) := (Below.refl w.heap.size w).alloc (Nat.le_refl _) _
  have hx := Box.new w A l.length c r 32
  have hA := hA.below hb0
  have hM := hM.below hb0
  go_enter Tryd.func31, Tryd.ntmps31
  go_wp2_with fail
  generalize w.alloc (.cells #[.slice A l.length c, .int .i64 r] 32) = W at *
  refine (laAsked_any _ _ _ _ _ _ _ _ hn hA hm hd hd' hM).mono ?_
  rintro e w1 ⟨rfl, hb1⟩
  have hB1 := hb0.trans (hb1.mono hb0.size)
  obtain ⟨x0, x1, xl⟩ := hx.below hb1
  cases hg : (gdI l r && H.goodB m) with
  | false =>
    have HG := Lib.hid (show backB l r m = false from by unfold backB; rw [← Bool.and_assoc, hg, Bool.false_and])
    clear hg
    go_wp2
    go_ret2
    rw [HG.out]
    exact ⟨_, rfl, by simpa using Own.nil w1 w.heap.size _, hB1⟩
  | true =>
    have hgg := hg
    simp only [Bool.and_eq_true] at hgg
    have hgood := (H.goodB_iff m).1 hgg.2
    have HG := Lib.hid hg
    have HC := Lib.hid (back_eq hg)
    clear hg hgg
    go_wp2_with fail
    refine (laNotes_any _ _ _ _ _ _ _ _ hn (hA.below hb1) (hM.below hb1) hgood).mono ?_
    intro e w2 h2
    obtain ⟨v2, rfl, ho2, hb2⟩ := same_retS h2 HC.out.1 HC.out.2
    clear h2
    go_wp2
    go_ret2
    exact ⟨_, rfl, ho2.mono hB1.size, hB1.trans (hb2.mono hB1.size)⟩
end Go.Proofs.YtkfgmkgbicahgaaDoor
