/- A row of strings of the call's own: append, strings.Join. -/
import Derived.Test.YtfjcnomingbneaaDoorShl
import Derived.Test.YtfjcnomingbneaaDoorApp
import Derived.OwnWalk
import Derived.Deep.AppendLies
import Derived.Test.YtfjcnomingbneaaDoorText
import Derived.Deep.RegionLaw
import Derived.Lib.Join
namespace Go.Proofs.YtfjcnomingbneaaDoor
open Go.RowKit
set_option linter.unusedVariables false
set_option linter.unusedSimpArgs false

theorem Tryd.info_string : (Tryd.prog.info? 9).map (fun i => (i.zero, i.size, i.bytes)) = some (some (.string ⟨#[]⟩), 1, 16) := by kernel_rfl

def cS (l : List (List UInt8)) : List Value := l.map fun x => .string (bs x)
theorem cS_length (l : List (List UInt8)) : (cS l).length = l.length := by simp [cS]
def OwnS (w : World) (base : Nat) (v : Value) (l : List (List UInt8)) : Prop := w.ownsRow base 9 1 v l.length (cS l)
theorem OwnS.nil (w : World) (base : Nat) : OwnS w base (.slice none 0 0) [] := World.ownsRow_nil w base 9 1
theorem OwnS.below {w w' : World} {base B : Nat} {v : Value} {l : List (List UInt8)} (h : OwnS w base v l) (hb : Below B w w') (hB : w.heap.size ≤ B) : OwnS w' base v l := by
  unfold OwnS at *
  exact h.kept (row := none) ⟨hb.os, hb.tape, hb.output, hb.size, fun k hk _ => hb.block k (by omega)⟩ (by cases h' : v.ownBlock <;> simp)
theorem OwnS.lt {w : World} {base : Nat} {v : Value} {l : List (List UInt8)} (h : OwnS w base v l) : ∀ k, v.ownBlock = some k → base ≤ k ∧ k < w.heap.size := World.ownsRow.lt h

theorem step_appS {w : World} {ops : Array Oper} {o : Oper} {a : Act} {K : Act → World → Prop} {Q : Exit → Act → World → Prop} {E : Prop} (hgd : o.guard = none) (s x : Operand)
    (ho : o.op = .call { callee := .builtin .append, args := #[s, x], argTypes := #[58, 58] })
    (base : Nat) (v : Value) (xs : List (List UInt8)) (hs : a.eval s = v) (hown : OwnS w base v xs)
    (b : Nat) (new : List UInt8) (hx : a.eval x = .slice (some ⟨b, 0, none⟩) 1 1)
    (hnew : w.cell? ⟨b, 0, none⟩ = some (.string (bs new))) (hsz : xs.length + 1 ≤ 4000000) (hbase : base ≤ w.heap.size)
    (h : ∀ v' w', OwnS w' base v' (xs ++ [new]) → w.grownBy w' v.ownBlock → K (a.put o.dst v') w') :
    if Region.wanted o (yielded ops a.tmps) = true then Oper.wp Tryd.prog o a w K Q else E := by
  have hw : Region.wanted o (yielded ops a.tmps) = true := by simp [Region.wanted, hgd]
  rw [if_pos hw]
  obtain ⟨i, hi, hz, hs1, hb1⟩ := info_parts Tryd.info_string
  refine wp_app w s x 58 ho base 9 i (.string ⟨#[]⟩) 1 16 Tryd.underlying58 hi hz hs1 hb1 rfl (by decide) v xs.length (cS xs) hs hown (some ⟨b, 0, none⟩) 1 1 [.string (bs new)] hx rfl (fun h => by cases h) ?_ ?_ (by unfold maxLen; omega) (by omega) hbase ?_
  · intro j u hu
    cases j with
    | zero => simp at hu; subst hu; exact ⟨_, rfl, by rw [Addr.add_lit]; exact hnew⟩
    | succ j => simp at hu
  · intro u hu
    simp only [List.mem_singleton] at hu
    subst hu
    rfl
  · intro v' w' h1 h2 _
    refine h v' w' ?_ h2
    unfold OwnS
    rw [List.length_append, cS, List.map_append]
    exact h1

theorem bs_list (l : List UInt8) : (bs l).data.toList = l := by simp [bs]

theorem join_any (base : Nat) (v : Value) (l : List (List UInt8)) (sep : List UInt8) (w : World) (h : OwnS w base v l) (hn : l.length ≤ 1000) (hlen : (Lib.join l sep).length ≤ 1000000) :
    Calls Tryd.prog 32 #[v, .string (bs sep)] w fun e w' => e = .returned (.string (bs (Lib.join l sep))) ∧ Below w.heap.size w w' := by
  have hmap : ((l.map bs).map (·.data.toList)) = l := by
    rw [List.map_map]
    conv => rhs; rw [← List.map_id l]
    exact List.map_congr_left fun x _ => bs_list x
  have hnone : ∀ (a : Option Addr) (c : Nat), l = [] → Calls Tryd.prog 32 #[.slice a 0 c, .string (bs sep)] w fun e w' => e = .returned (.string (bs (Lib.join l sep))) ∧ Below w.heap.size w w' := by
    intro a c hl
    subst hl
    refine (Tryd.strings_Join_none a c (bs sep) w).mono ?_
    rintro e w' ⟨rfl, rfl⟩
    exact ⟨rfl, Below.refl _ _⟩
  rcases h.2 with ⟨rfl, hl⟩ | ⟨g, cap, cur, rfl, hg, hh, hnc, hm, hs, ht⟩
  · exact hnone none 0 (List.length_eq_zero_iff.1 hl)
  · by_cases h0 : l = []
    · have h00 : l.length = 0 := by rw [h0]; rfl
      rw [h00]
      exact hnone _ _ h0
    · have hlt : g < w.heap.size := (Array.getElem?_eq_some_iff.1 hh).1
      have := Tryd.strings_Join g 0 cap (l.map bs) (bs sep) w (by
          intro j x hx
          rw [List.getElem?_map, Option.map_eq_some_iff] at hx
          obtain ⟨y, hy, rfl⟩ := hx
          have hj := (List.getElem?_eq_some_iff.1 hy).1
          rw [Nat.zero_add, h.cellAt _ (by omega)]
          simp [cS, hy]) hlt (by rw [List.length_map]; omega) (by rw [List.length_map]; omega) (by rw [hmap, bs_list]; omega)
      rw [hmap, bs_list, List.length_map] at this
      exact this
end Go.Proofs.YtfjcnomingbneaaDoor
