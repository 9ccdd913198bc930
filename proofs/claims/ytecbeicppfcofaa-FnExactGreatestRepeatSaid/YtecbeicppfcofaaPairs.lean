/- Slices of pairs of numbers that a call owns, and the program's repeatedNotes. -/
import Derived.Test.YtecbeicppfcofaaPairP
import Derived.Test.YtecbeicppfcofaaSlc
import Derived.Test.YtecbeicppfcofaaIntP
import Derived.Test.YtecbeicppfcofaaApp
import Derived.OwnWalk
import Derived.Maps.OwnSet
import Derived.Maps.OwnOps
namespace Go.Proofs.Ytecbeicppfcofaa
open Go.RowKit Go.Maps
set_option linter.unusedVariables false
set_option linter.unusedSimpArgs false

abbrev ps2 (g : Nat) : Value := .slice (some ⟨g, 0, none⟩) 2 2
/-- A slice of the call's own that holds pairs, each in a block of its own. -/
def OwnP (w : World) (base : Nat) (v : Value) (ps : List (Int × Int)) : Prop :=
  ∃ gs : List Nat, gs.length = ps.length ∧ gs.Nodup ∧ w.ownsRow base 60 1 v ps.length (gs.map ps2) ∧ (∀ g ∈ gs, v.ownBlock ≠ some g) ∧ ∀ (j g : Nat) (q : Int × Int), gs[j]? = some g → ps[j]? = some q → OwnI w base 3 (ps2 g) [q.1, q.2]
theorem OwnP.nil (w : World) (base : Nat) : OwnP w base (.slice none 0 0) [] :=
  ⟨[], rfl, List.nodup_nil, World.ownsRow_nil w base 60 1, fun g h => by simp at h, fun j g q h => by simp at h⟩
theorem OwnP.blocks {w : World} {base : Nat} {v : Value} {ps : List (Int × Int)} (h : OwnP w base v ps) : ∀ k, v.ownBlock = some k → base ≤ k ∧ k < w.heap.size := by
  obtain ⟨gs, _, _, hr, _⟩ := h
  exact World.ownsRow.lt hr
theorem OwnP.grownOff {w w' : World} {base : Nat} {v : Value} {ps : List (Int × Int)} {b : Nat} (h : OwnP w base v ps) (hg : w.grownBy w' (some b)) (hb : b < base) : OwnP w' base v ps := by
  obtain ⟨gs, h1, h2, hr, h4, h5⟩ := h
  refine ⟨gs, h1, h2, World.ownsRow.kept hr hg ?_, h4, fun j g q hj hq => ?_⟩
  · cases hv : v.ownBlock with
    | none => exact .inl rfl
    | some k => exact .inr fun e => by injection e with e; have := (World.ownsRow.lt hr k hv).1; omega
  · have ho := h5 j g q hj hq
    exact ho.grown hg (.inr fun e => by have := (ho.lt g rfl).1; simp [Value.ownBlock] at e; omega)
theorem OwnP.below {w w' : World} {base B : Nat} {v : Value} {ps : List (Int × Int)} (h : OwnP w base v ps) (hb : Below B w w') (hB : w.heap.size ≤ B) : OwnP w' base v ps := by
  obtain ⟨gs, h1, h2, hr, h4, h5⟩ := h
  refine ⟨gs, h1, h2, ?_, h4, fun j g q hj hq => (h5 j g q hj hq).below hb hB⟩
  exact hr.kept (row := none) ⟨hb.os, hb.tape, hb.output, hb.size, fun k hk _ => hb.block k (by omega)⟩ (by cases h' : v.ownBlock <;> simp)

theorem Try.info_slI : (Try.prog.info? 60).map (fun i => (i.zero, i.size, i.bytes)) = some (some (.slice none 0 0), 1, 24) := by kernel_rfl

/-- A pair in a new block, appended. -/
theorem wpList_appP (W0 w : World) {ops : Array Oper} {rest : List Oper} {o : Oper} {a : Act} {Q : Exit → Act → World → Prop} (hgd : o.guard = none) (s x : Operand)
    (ho : o.op = .call { callee := .builtin .append, args := #[s, x], argTypes := #[78, 78] })
    (base : Nat) (v : Value) (ps : List (Int × Int)) (hs : a.eval s = v) (hown : OwnP W0 base v ps) (hb0 : Below W0.heap.size W0 w) (hbase : base ≤ W0.heap.size)
    (b1 b2 : Nat) (q : Int × Int) (hx : a.eval x = .slice (some ⟨b2, 0, none⟩) 1 1) (hc : w.cell? ⟨b2, 0, none⟩ = some (ps2 b1)) (hq : OwnI w base 3 (ps2 b1) [q.1, q.2]) (hb1 : W0.heap.size ≤ b1) (hsz : ps.length ≤ 4000000)
    (h : ∀ v' w', OwnP w' base v' (ps ++ [q]) → w.grownBy w' v.ownBlock → wpList Try.prog ops Q rest (a.put o.dst v') w') :
    wpList Try.prog ops Q (o :: rest) a w := by
  obtain ⟨i, hi, hz, hs1, hbb⟩ := info_parts Try.info_slI
  obtain ⟨gs, h1, h2, hr, h4, h5⟩ := hown
  have hvlt : ∀ k, v.ownBlock = some k → base ≤ k ∧ k < W0.heap.size := World.ownsRow.lt hr
  have hglt : ∀ g ∈ gs, g < W0.heap.size := by
    intro g hg
    obtain ⟨j, hj⟩ := List.mem_iff_getElem?.1 hg
    have hjl := (List.getElem?_eq_some_iff.1 hj).1
    exact ((h5 j g (ps[j]'(by omega)) hj (List.getElem?_eq_getElem (by omega))).lt g rfl).2
  have hr' : w.ownsRow base 60 1 v ps.length (gs.map ps2) := hr.kept (row := none) ⟨hb0.os, hb0.tape, hb0.output, hb0.size, fun k hk _ => hb0.block k (by omega)⟩ (by cases h' : v.ownBlock <;> simp)
  have hb1w : b1 < w.heap.size := (hq.lt b1 rfl).2
  refine wpList_app w hgd s x 78 ho base 60 i (.slice none 0 0) 1 24 Try.underlying78 hi hz hs1 hbb rfl (by decide) v ps.length (gs.map ps2) hs hr' (some ⟨b2, 0, none⟩) 1 1 [ps2 b1] hx rfl (fun h => by cases h) ?_ ?_ (by unfold maxLen; omega) (by omega) (Nat.le_trans hbase hb0.size) ?_
  · intro j u hu
    cases j with
    | zero => simp at hu; subst hu; exact ⟨_, rfl, by rw [Addr.add_lit]; exact hc⟩
    | succ j => simp at hu
  · intro u hu
    simp only [List.mem_singleton] at hu
    subst hu
    rfl
  · intro v' w' k1 k2 k3
    refine h v' w' ⟨gs ++ [b1], by simp [h1], ?_, ?_, ?_, ?_⟩ k2
    · rw [List.nodup_append]
      refine ⟨h2, by simp, fun a ha b hb => ?_⟩
      simp only [List.mem_singleton] at hb
      subst hb
      have := hglt a ha
      omega
    · rw [List.map_append, List.length_append]
      exact k1
    · intro g hg
      rcases List.mem_append.1 hg with hg | hg
      · rcases k3 with k3 | k3
        · rw [k3]; exact h4 g hg
        · rw [k3]; intro e; injection e with e; have := hglt g hg; have := hb0.size; omega
      · simp only [List.mem_singleton] at hg
        subst hg
        rcases k3 with k3 | k3
        · rw [k3]; intro e; have := hvlt g e; omega
        · rw [k3]; intro e; injection e with e; omega
    · intro j g q' hj hq'
      rcases Nat.lt_or_ge j gs.length with hjl | hjl
      · rw [List.getElem?_append_left hjl] at hj
        rw [List.getElem?_append_left (by omega)] at hq'
        have ho := h5 j g q' hj hq'
        refine (ho.below hb0 (Nat.le_refl _)).grown k2 (.inr fun e => h4 g (List.mem_of_getElem? hj) ?_)
        rw [← e]; rfl
      · rw [List.getElem?_append_right hjl] at hj
        rw [List.getElem?_append_right (by omega)] at hq'
        have hj0 : j - gs.length = 0 := by have := (List.getElem?_eq_some_iff.1 hj).1; simp at this; omega
        rw [hj0] at hj
        rw [show j - ps.length = 0 by omega] at hq'
        simp at hj hq'
        subst hj hq'
        refine hq.grown k2 (.inr fun e => ?_)
        have e' : v.ownBlock = some b1 := by rw [← e]; rfl
        have := hvlt b1 e'
        omega

/-- What the program's map says of the notes looked at so far. -/
def Seen (D : DataW Unit) (l : List Nt) (k : Nat) : Prop := IsMap D ∧ ∀ p : Int, Maps.has D (.int .i64 p) = decide (0 ≤ lastIx p l k) ∧ (0 ≤ lastIx p l k → D.atKey (.int .i64 p) (.lit (.int .i64 0)) = .lit (.int .i64 (lastIx p l k)))
theorem Seen.zero (l : List Nt) : Seen (.map []) l 0 := ⟨⟨[], rfl⟩, fun p => ⟨rfl, fun h => by simp [lastIx] at h⟩⟩
theorem Seen.step {D : DataW Unit} {l : List Nt} {k : Nat} {x : Nt} (h : Seen D l k) (hx : l[k]? = some x) : Seen (D.put (.int .i64 x.1) (.lit (.int .i64 (k : Int)))) l (k + 1) := by
  refine ⟨?_, fun p => ?_⟩
  · obtain ⟨es, rfl⟩ := h.1
    exact ⟨_, rfl⟩
  · rw [lastIx_succ hx]
    by_cases hp : x.1 = p
    · subst hp
      rw [if_pos rfl]
      refine ⟨?_, fun _ => ?_⟩
      · rw [has_put_same h.1 (show WideAt.IsKeyLit (.int .i64 x.1) from trivial)]; simp
      · rw [atKey_put_same h.1 (show WideAt.IsKeyLit (.int .i64 x.1) from trivial)]
    · rw [if_neg hp, has_put_other (fun e => hp (by injection e with _ e; exact e.symm)), atKey_put_other (fun e => hp (by injection e with _ e; exact e.symm))]
      exact h.2 p
end Go.Proofs.Ytecbeicppfcofaa
