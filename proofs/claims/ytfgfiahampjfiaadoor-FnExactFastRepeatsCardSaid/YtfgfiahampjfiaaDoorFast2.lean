/- The program's FastRepeats. -/
import Derived.Test.YtfgfiahampjfiaaDoorSteps
import Derived.Test.YtfgfiahampjfiaaDoorFast
import Derived.Test.YtfgfiahampjfiaaDoorMiss2
namespace Go.Proofs.YtfgfiahampjfiaaDoor
open Go.RowKit Go.Sort Go.Maps
set_option linter.unusedVariables false
set_option linter.unusedSimpArgs false

/-- A slice of pairs of the call's own, its blocks named. -/
def OwnG (w : World) (base : Nat) (v : Value) (ps : List (Int × Int)) (gs : List Nat) : Prop :=
  gs.length = ps.length ∧ gs.Nodup ∧ w.ownsRow base 22 1 v ps.length (gs.map ps2) ∧ (∀ g ∈ gs, v.ownBlock ≠ some g) ∧ ∀ (j g : Nat) (q : Int × Int), gs[j]? = some g → ps[j]? = some q → OwnI w base 3 (ps2 g) [q.1, q.2]
theorem OwnG.nil (w : World) (base : Nat) : OwnG w base (.slice none 0 0) [] [] :=
  ⟨rfl, List.nodup_nil, World.ownsRow_nil w base 22 1, fun g h => by simp at h, fun j g q h => by simp at h⟩
theorem OwnG.blocks {w : World} {base : Nat} {v : Value} {ps : List (Int × Int)} {gs : List Nat} (h : OwnG w base v ps gs) : ∀ k, v.ownBlock = some k → base ≤ k ∧ k < w.heap.size := World.ownsRow.lt h.2.2.1
theorem OwnG.below {w w' : World} {base B : Nat} {v : Value} {ps : List (Int × Int)} {gs : List Nat} (h : OwnG w base v ps gs) (hb : Below B w w') (hB : w.heap.size ≤ B) : OwnG w' base v ps gs := by
  obtain ⟨h1, h2, hr, h4, h5⟩ := h
  refine ⟨h1, h2, ?_, h4, fun j g q hj hq => (h5 j g q hj hq).below hb hB⟩
  exact hr.kept (row := none) ⟨hb.os, hb.tape, hb.output, hb.size, fun k hk _ => hb.block k (by omega)⟩ (by cases h' : v.ownBlock <;> simp)
theorem OwnG.form {w : World} {base : Nat} {v : Value} {ps : List (Int × Int)} {gs : List Nat} (h : OwnG w base v ps gs) : ∃ A c, v = .slice A ps.length c ∧ ∀ (j g : Nat), gs[j]? = some g → ∃ gv, A = some ⟨gv, 0, none⟩ ∧ gv < w.heap.size ∧ w.cell? ⟨gv, j, none⟩ = some (ps2 g) := by
  obtain ⟨h1, h2, hr, h4, h5⟩ := h
  have hr0 := hr
  rcases hr.2 with ⟨rfl, hn⟩ | ⟨g, cap, cur, rfl, hg, hh, hnc, hm, hs, ht⟩
  · refine ⟨none, 0, by rw [hn], fun j g hj => ?_⟩
    have := (List.getElem?_eq_some_iff.1 hj).1
    omega
  · refine ⟨_, _, rfl, fun j g' hj => ⟨g, rfl, (World.ownsRow.lt hr0 g rfl).2, ?_⟩⟩
    have hjl := (List.getElem?_eq_some_iff.1 hj).1
    rw [hr0.cellAt j (by omega), List.getElem?_map, hj]
    rfl

theorem wpList_appG (w : World) {ops : Array Oper} {rest : List Oper} {o : Oper} {a : Act} {Q : Exit → Act → World → Prop} (hgd : o.guard = none) (s x : Operand)
    (ho : o.op = .call { callee := .builtin .append, args := #[s, x], argTypes := #[46, 46] })
    (base : Nat) (v : Value) (ps : List (Int × Int)) (gs : List Nat) (hs : a.eval s = v) (hown : OwnG w base v ps gs) (hbase : base ≤ w.heap.size)
    (b1 b2 : Nat) (q : Int × Int) (hx : a.eval x = .slice (some ⟨b2, 0, none⟩) 1 1) (hc : w.cell? ⟨b2, 0, none⟩ = some (ps2 b1)) (hq : OwnI w base 3 (ps2 b1) [q.1, q.2]) (hf : b1 ∉ gs) (hvb : v.ownBlock ≠ some b1) (hsz : ps.length ≤ 4000000)
    (h : ∀ v' w', OwnG w' base v' (ps ++ [q]) (gs ++ [b1]) → w.grownBy w' v.ownBlock → (v'.ownBlock = v.ownBlock ∨ v'.ownBlock = some w.heap.size) → wpList Tryd.prog ops Q rest (a.put o.dst v') w') :
    wpList Tryd.prog ops Q (o :: rest) a w := by
  obtain ⟨i, hi, hz, hs1, hbb⟩ := info_parts Tryd.info_slI
  obtain ⟨h1, h2, hr, h4, h5⟩ := hown
  have hglt : ∀ g ∈ gs, g < w.heap.size := by
    intro g hg
    obtain ⟨j, hj⟩ := List.mem_iff_getElem?.1 hg
    have hjl := (List.getElem?_eq_some_iff.1 hj).1
    exact ((h5 j g (ps[j]'(by omega)) hj (List.getElem?_eq_getElem (by omega))).lt g rfl).2
  have hb1w : b1 < w.heap.size := (hq.lt b1 rfl).2
  refine wpList_app w hgd s x 46 ho base 22 i (.slice none 0 0) 1 24 Tryd.underlying46 hi hz hs1 hbb rfl (by decide) v ps.length (gs.map ps2) hs hr (some ⟨b2, 0, none⟩) 1 1 [ps2 b1] hx rfl (fun h => by cases h) ?_ ?_ (by unfold maxLen; omega) (by omega) hbase ?_
  · intro j u hu
    cases j with
    | zero => simp at hu; subst hu; exact ⟨_, rfl, by rw [Addr.add_lit]; exact hc⟩
    | succ j => simp at hu
  · intro u hu
    simp only [List.mem_singleton] at hu
    subst hu
    rfl
  · intro v' w' k1 k2 k3
    refine h v' w' ⟨by simp [h1], ?_, ?_, ?_, ?_⟩ k2 k3
    · rw [List.nodup_append]
      refine ⟨h2, by simp, fun a ha b hb => ?_⟩
      simp only [List.mem_singleton] at hb
      subst hb
      intro e
      subst e
      exact hf ha
    · rw [List.map_append, List.length_append]
      exact k1
    · intro g hg
      rcases List.mem_append.1 hg with hg | hg
      · rcases k3 with k3 | k3
        · rw [k3]; exact h4 g hg
        · rw [k3]; intro e; injection e with e; have := hglt g hg; omega
      · simp only [List.mem_singleton] at hg
        subst hg
        rcases k3 with k3 | k3
        · rw [k3]; exact hvb
        · rw [k3]; intro e; injection e with e; omega
    · intro j g q' hj hq'
      rcases Nat.lt_or_ge j gs.length with hjl | hjl
      · rw [List.getElem?_append_left hjl] at hj
        rw [List.getElem?_append_left (by omega)] at hq'
        refine (h5 j g q' hj hq').grown k2 (.inr fun e => h4 g (List.mem_of_getElem? hj) ?_)
        rw [← e]; rfl
      · rw [List.getElem?_append_right hjl] at hj
        rw [List.getElem?_append_right (by omega)] at hq'
        have hj0 : j - gs.length = 0 := by have := (List.getElem?_eq_some_iff.1 hj).1; simp at this; omega
        rw [hj0] at hj
        rw [show j - ps.length = 0 by omega] at hq'
        simp at hj hq'
        subst hj hq'
        refine hq.grown k2 (.inr fun e => hvb ?_)
        rw [← e]; rfl

/-- Of the first k pairs with their blocks those that are fast. -/
def fz (l : List Nt) (r : Int) (gs : List Nat) (ps : List (Int × Int)) (k : Nat) : List (Nat × (Int × Int)) := ((gs.zip ps).take k).filter fun t => decide (apart l t.2.1 t.2.2 < r)
theorem fz_succ {l : List Nt} {r : Int} {gs : List Nat} {ps : List (Int × Int)} {k g : Nat} {q : Int × Int} (hg : gs[k]? = some g) (hq : ps[k]? = some q) : fz l r gs ps (k + 1) = if apart l q.1 q.2 < r then fz l r gs ps k ++ [(g, q)] else fz l r gs ps k := by
  unfold fz
  have hz : (gs.zip ps)[k]? = some (g, q) := by rw [List.getElem?_zip_eq_some]; exact ⟨hg, hq⟩
  rw [List.take_add_one, hz, List.filter_append]
  by_cases h : apart l q.1 q.2 < r
  · rw [if_pos h]; simp [h]
  · rw [if_neg h]; simp [h]
theorem fz_end (l : List Nt) (r : Int) (gs : List Nat) (ps : List (Int × Int)) (h : gs.length = ps.length) : (fz l r gs ps ps.length).map (·.2) = ps.filter fun q => decide (apart l q.1 q.2 < r) := by
  unfold fz
  rw [List.take_of_length_le (by rw [List.length_zip]; omega)]
  have e : (gs.zip ps).map (·.2) = ps := List.map_snd_zip (by omega)
  conv => rhs; rw [← e]
  rw [List.filter_map]
  rfl
theorem fz_fresh {l : List Nt} {r : Int} {gs : List Nat} {ps : List (Int × Int)} {k g : Nat} (hn : gs.Nodup) (hg : gs[k]? = some g) : g ∉ (fz l r gs ps k).map (·.1) := by
  intro hm
  obtain ⟨t, ht, rfl⟩ := List.mem_map.1 hm
  have ht := (List.mem_filter.1 ht).1
  obtain ⟨j, hj⟩ := List.mem_iff_getElem?.1 ht
  rw [List.getElem?_take] at hj
  split at hj
  · rename_i hjk
    have := List.getElem?_zip_eq_some.1 hj
    have h2 := (List.getElem?_inj (List.getElem?_eq_some_iff.1 hg).1 hn).1 (hg.trans this.1.symm)
    omega
  · cases hj
theorem fz_len (l : List Nt) (r : Int) (gs : List Nat) (ps : List (Int × Int)) (k : Nat) : (fz l r gs ps k).length ≤ k := by
  unfold fz
  exact Nat.le_trans (List.length_filter_le _ _) (by rw [List.length_take]; omega)
end Go.Proofs.YtfgfiahampjfiaaDoor
