/- A line of numbers: the program's numbersLine. -/
import Derived.Test.YtfjcnomingbneaaDoorAppS
import Derived.Test.YtfjcnomingbneaaDoorBld
import Derived.LoopTactic
namespace Go.Proofs.YtfjcnomingbneaaDoor
open Go.RowKit Go.Sort
set_option linter.unusedVariables false
set_option linter.unusedSimpArgs false

theorem wpList_appS (w : World) {ops : Array Oper} {rest : List Oper} {o : Oper} {a : Act} {Q : Exit → Act → World → Prop} (hgd : o.guard = none) (s x : Operand)
    (ho : o.op = .call { callee := .builtin .append, args := #[s, x], argTypes := #[58, 58] })
    (base : Nat) (v : Value) (xs : List (List UInt8)) (hs : a.eval s = v) (hown : OwnS w base v xs)
    (b : Nat) (new : List UInt8) (hx : a.eval x = .slice (some ⟨b, 0, none⟩) 1 1)
    (hnew : w.cell? ⟨b, 0, none⟩ = some (.string (bs new))) (hsz : xs.length + 1 ≤ 4000000) (hbase : base ≤ w.heap.size)
    (h : ∀ v' w', OwnS w' base v' (xs ++ [new]) → w.grownBy w' v.ownBlock → wpList Tryd.prog ops Q rest (a.put o.dst v') w') : wpList Tryd.prog ops Q (o :: rest) a w := by
  refine wpList_plain hgd fun K hK => ?_
  obtain ⟨i, hi, hz, hs1, hb1⟩ := info_parts Tryd.info_string
  refine wp_app w s x 58 ho base 9 i (.string ⟨#[]⟩) 1 16 Tryd.underlying58 hi hz hs1 hb1 rfl (by decide) v xs.length (cS xs) hs hown (some ⟨b, 0, none⟩) 1 1 [.string (bs new)] hx rfl (fun h => by cases h) ?_ ?_ (by unfold maxLen; omega) (by omega) hbase ?_
  · intro j u hu
    cases j with
    | zero => simp at hu; subst hu; exact ⟨_, rfl, by rw [Addr.add_lit]; exact hnew⟩
    | succ j => simp at hu
  · intro u hu
    simp only [List.mem_singleton] at hu
    subst hu
    rfl
  · intro v' w' h1 h2 _
    refine hK _ _ (h v' w' ?_ h2)
    unfold OwnS
    rw [List.length_append, cS, List.map_append]
    exact h1


def lineL (ns : List Int) : List UInt8 := Lib.join (ns.map dec) [32] ++ [10]
theorem lineL_three (a b c : Int) : lineL [a, b, c] = lineOf (a, b, c) := by
  simp [lineL, lineOf, Lib.join, List.intercalate, List.intersperse]

set_option maxRecDepth 100000 in
set_option maxHeartbeats 2000000 in
theorem numbersLine_any (b : Nat) (x y z : Int) (w : World) (hT : Tabs w) (hz : b < w.heap.size) (c0 : w.cell? ⟨b, 0, none⟩ = some (.int .i64 x)) (c1 : w.cell? ⟨b, 1, none⟩ = some (.int .i64 y)) (c2 : w.cell? ⟨b, 2, none⟩ = some (.int .i64 z))
    (bx : 0 ≤ x ∧ x ≤ 2000) (by_ : 0 ≤ y ∧ y ≤ 2000) (bz : 0 ≤ z ∧ z ≤ 2000) :
    Calls Tryd.prog 19 #[.slice (some ⟨b, 0, none⟩) 3 3] w fun e w' => e = .returned (.string (bs (lineOf (x, y, z)))) ∧ Below w.heap.size w w' := by
  obtain ⟨ns, hns⟩ : ∃ ns, ns = [x, y, z] := ⟨_, rfl⟩
  have hl : ns.length = 3 := by rw [hns]; rfl
  have hc : ∀ (k : Nat) (n : Int), ns[k]? = some n → w.cell? ⟨b, k, none⟩ = some (.int .i64 n) ∧ 0 ≤ n ∧ n ≤ 2000 := by
    intro k n hk
    rw [hns] at hk
    match k, hk with
    | 0, hk => simp at hk; subst hk; exact ⟨c0, bx⟩
    | 1, hk => simp at hk; subst hk; exact ⟨c1, by_⟩
    | 2, hk => simp at hk; subst hk; exact ⟨c2, bz⟩
    | k + 3, hk => simp at hk
  have HR := Lib.hid (show bs (lineOf (x, y, z)) = bs (Lib.join (ns.map dec) [32]) ++ bs [10] from by rw [← lineL_three, lineL, bs_append, hns])
  have hjl : (Lib.join (ns.map dec) [32]).length ≤ 14 := by
    have d1 := dec_len x bx.2
    have d2 := dec_len y by_.2
    have d3 := dec_len z bz.2
    rw [hns]
    simp [Lib.join, List.intercalate, List.intersperse]
    omega
  have hsz : (bs (Lib.join (ns.map dec) [32])).size ≤ 14 := by rw [bs_size]; exact hjl
  clear hns c0 c1 c2 bx by_ bz
  rw [HR.out]
  clear HR
  go_enter Tryd.func19, Tryd.ntmps19
  go_wp2
  go_loopw [3, 8] (fun v i wr => ∃ k : Nat, k ≤ 3 ∧ i = .int .i64 k ∧ OwnS wr w.heap.size v ((ns.take k).map dec) ∧ Below w.heap.size w wr)
    (fun _ i _ => 3 - (intOf i).toNat)
  case atStart => exact ⟨0, Nat.zero_le _, rfl, by simpa using OwnS.nil _ _, Below.refl _ _⟩
  case round =>
    obtain ⟨k, hk, rfl, hO, hb⟩ := hrel
    by_cases hlt : k < 3
    · have hx : ns[k]? = some (ns[k]'(by omega)) := List.getElem?_eq_getElem _
      generalize ns[k]'(by omega) = n at hx
      obtain ⟨hcell, n1, n2⟩ := hc k n hx
      have hcw : wr.cell? ⟨b, k, none⟩ = some (.int .i64 n) := (hb.cell (p := ⟨b, k, none⟩) hz).trans hcell
      have i1 : (0 : Int) ≤ (k : Int) := by omega
      have i2 : (k : Int) < 3 := by omega
      have HS1 := Lib.hid (show (ns.take (k + 1)).map dec = (ns.take k).map dec ++ [dec n] by rw [List.take_add_one, hx]; simp)
      have hlk : ((ns.take k).map dec).length ≤ 3 := by simp; omega
      have HLK := Lib.hid hlk
      have HO := Lib.hid hO
      have HTW := Lib.hid (hT.below hb)
      clear hx hO hlk
      go_wp2_with (first
        | (go_at_call 31; refine (itoa_k n _ n1 n2 HTW.out.pow).mono ?_; rintro e w3 ⟨rfl, hb3⟩; have HO3 := Lib.hid (HO.out.below hb3 (Nat.le_refl _)); have HB3 := Lib.hid (hb.trans (hb3.mono hb.size)))
        | (at_builtin; refine wpList_appS _ rfl (.tmp 12) (.tmp 15) rfl w.heap.size _ _ rfl (HO3.out.below ((Below.refl _ _).alloc (Nat.le_refl _) _) (Nat.le_refl _)) _ (dec n) rfl ((World.cell?_alloc_new _ _ _ 0).trans rfl) (by have := HLK.out; omega) (Nat.le_trans HB3.out.size (by simp)) ?_; intro v4 w4 ho4 hg4; have HO4 := Lib.hid ho4; have HB4 := Lib.hid ((HB3.out.alloc HB3.out.size _).grown hg4 (Nat.le_trans HB3.out.size (by simp)) (fun j hj => (HO3.out.lt j hj).1)); clear ho4 hg4))
      go_roundw
      case rel => exact ⟨k + 1, by omega, by go_num, by rw [HS1.out]; exact HO4.out, HB4.out⟩
      case measure => simp [intOf]; omega
    · obtain rfl : k = 3 := by omega
      have hO' := hO
      rw [List.take_of_length_le (by omega)] at hO'
      have z1 : ¬ 9223372036854775807 < (bs (Lib.join (ns.map dec) [32])).size + 1 := by omega
      have HJ := Lib.hid (fun v W (h : OwnS W w.heap.size v (ns.map dec)) => join_any w.heap.size v (ns.map dec) [32] W h (by rw [List.length_map]; omega) (by omega))
      go_wp2_with (go_at_call 32; refine (HJ.out _ _ hO').mono ?_; rintro e w3 ⟨rfl, hb3⟩)
      go_ret
      exact ⟨rfl, hb.trans (hb3.mono hb.size)⟩
end Go.Proofs.YtfjcnomingbneaaDoor
