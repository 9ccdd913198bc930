/- append onto a row of strings of the call's own, outside of drawn regions. -/
import Derived.Test.YtfjcnomingbneaaDoorAppS
namespace Go.Proofs.YtfjcnomingbneaaDoor
open Go.RowKit
set_option linter.unusedVariables false
set_option linter.unusedSimpArgs false

theorem wpList_appS2 {w : World} {ops : Array Oper} {rest : List Oper} {o : Oper} {a : Act} {Q : Exit → Act → World → Prop} (hgd : o.guard = none) (s x : Operand)
    (ho : o.op = .call { callee := .builtin .append, args := #[s, x], argTypes := #[58, 58] })
    (base : Nat) (v : Value) (xs : List (List UInt8)) (hs : a.eval s = v) (hown : OwnS w base v xs)
    (b : Nat) (new : List UInt8) (hx : a.eval x = .slice (some ⟨b, 0, none⟩) 1 1)
    (hnew : w.cell? ⟨b, 0, none⟩ = some (.string (bs new))) (hsz : xs.length + 1 ≤ 4000000) (hbase : base ≤ w.heap.size)
    (h : ∀ v' w', OwnS w' base v' (xs ++ [new]) → w.grownBy w' v.ownBlock → wpList Tryd.prog ops Q rest (a.put o.dst v') w') :
    wpList Tryd.prog ops Q (o :: rest) a w := by
  obtain ⟨i, hi, hz, hs1, hb1⟩ := info_parts Tryd.info_string
  refine wpList_app w hgd s x 58 ho base 9 i (.string ⟨#[]⟩) 1 16 Tryd.underlying58 hi hz hs1 hb1 rfl (by decide) v xs.length (cS xs) hs hown (some ⟨b, 0, none⟩) 1 1 [.string (bs new)] hx rfl (fun h => by cases h) ?_ ?_ (by unfold maxLen; omega) (by omega) hbase ?_
  · intro j u hu
    cases j with
    | zero => simp at hu; subst hu; exact ⟨_, rfl, by rw [Addr.add_lit]; exact hnew⟩
    | succ j => simp at hu
  · intro u hu
    simp only [List.mem_singleton] at hu
    subst hu
    rfl
  · intro v' w' h1 h2 _
    refine h v' w' ?_ h2
    unfold OwnS
    rw [List.length_append, cS, List.map_append]
    exact h1
end Go.Proofs.YtfjcnomingbneaaDoor
