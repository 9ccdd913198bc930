/- append onto a slice of the call's own of one struct, whatever the source; the same where there is room; clear of what lies behind it; slices.Clone. -/
import Derived.Test.YtfjcnomingbneaaDoorHoleSlc
import Derived.Test.YtfjcnomingbneaaDoorRows3
import Derived.Test.YtfjcnomingbneaaDoorApp
import Derived.OwnWalk
import Derived.Deep.AppendLies
import Derived.Deep.RegionLaw
import Derived.Deep.RegionHeld3
import Derived.Lib.SliceRun
namespace Go.Proofs.YtfjcnomingbneaaDoor
open Go.RowKit
set_option linter.unusedVariables false
set_option linter.unusedSimpArgs false

theorem wp_appHole (w : World) {o : Oper} {a : Act} {K : Act → World → Prop} {Q : Exit → Act → World → Prop} (s x : Operand)
    (ho : o.op = .call { callee := .builtin .append, args := #[s, x], argTypes := #[26, 26] })
    (base : Nat) (v : Value) (xs : List Nt) (hs : a.eval s = v) (hown : Own w base 37 v xs)
    (A : Option Addr) (m c : Nat) (news : List Nt) (hx : a.eval x = .slice A m c) (hl : news.length = m) (hA : A = none → c = 0)
    (hnews : RA w A news) (hsz : xs.length + m ≤ 4000000) (hbase : base ≤ w.heap.size)
    (h : ∀ v' w', Own w' base 37 v' (xs ++ news) → w.grownBy w' v.ownBlock → K (a.put o.dst v') w') : o.wp Tryd.prog a w K Q := by
  obtain ⟨i, hi, hz, hs1, hb1⟩ := info_parts Tryd.info_Hole
  refine wp_app w s x 26 ho base 37 i _ 3 24 Tryd.underlying26 hi hz hs1 hb1 rfl (by decide) v xs.length (cl xs) hs hown A m c (cl news) hx (by rw [cl_length, hl]) hA (fun j u hu => hnews.cells j u hu) (cl_one news) (by unfold maxLen; omega) (by omega) hbase ?_
  intro v' w' h1 h2 h3
  refine h v' w' ?_ h2
  unfold Own
  rw [cl_append, List.length_append, hl]
  exact h1

theorem step_appHole {w : World} {ops : Array Oper} {o : Oper} {a : Act} {K : Act → World → Prop} {Q : Exit → Act → World → Prop} {E : Prop} (hgd : o.guard = none) (s x : Operand)
    (ho : o.op = .call { callee := .builtin .append, args := #[s, x], argTypes := #[26, 26] })
    (base : Nat) (v : Value) (xs : List Nt) (hs : a.eval s = v) (hown : Own w base 37 v xs)
    (A : Option Addr) (m c : Nat) (news : List Nt) (hx : a.eval x = .slice A m c) (hl : news.length = m) (hA : A = none → c = 0)
    (hnews : RA w A news) (hsz : xs.length + m ≤ 4000000) (hbase : base ≤ w.heap.size)
    (h : ∀ v' w', Own w' base 37 v' (xs ++ news) → w.grownBy w' v.ownBlock → K (a.put o.dst v') w') :
    if Region.wanted o (yielded ops a.tmps) = true then Oper.wp Tryd.prog o a w K Q else E := by
  have hw : Region.wanted o (yielded ops a.tmps) = true := by simp [Region.wanted, hgd]
  rw [if_pos hw]
  exact wp_appHole w s x ho base v xs hs hown A m c news hx hl hA hnews hsz hbase h

theorem wpList_appHole (w : World) {ops : Array Oper} {rest : List Oper} {o : Oper} {a : Act} {Q : Exit → Act → World → Prop} (hgd : o.guard = none) (s x : Operand)
    (ho : o.op = .call { callee := .builtin .append, args := #[s, x], argTypes := #[26, 26] })
    (base : Nat) (v : Value) (xs : List Nt) (hs : a.eval s = v) (hown : Own w base 37 v xs)
    (A : Option Addr) (m c : Nat) (news : List Nt) (hx : a.eval x = .slice A m c) (hl : news.length = m) (hA : A = none → c = 0)
    (hnews : RA w A news) (hsz : xs.length + m ≤ 4000000) (hbase : base ≤ w.heap.size)
    (h : ∀ v' w', Own w' base 37 v' (xs ++ news) → w.grownBy w' v.ownBlock → wpList Tryd.prog ops Q rest (a.put o.dst v') w') : wpList Tryd.prog ops Q (o :: rest) a w :=
  wpList_plain hgd fun _ hK => wp_appHole w s x ho base v xs hs hown A m c news hx hl hA hnews hsz hbase fun v' w' h2 h3 => hK _ _ (h v' w' h2 h3)

set_option maxRecDepth 10000 in
theorem wp_roomHole (w : World) {o : Oper} {a : Act} {K : Act → World → Prop} {Q : Exit → Act → World → Prop} (s x : Operand)
    (ho : o.op = .call { callee := .builtin .append, args := #[s, x], argTypes := #[26, 26] })
    (base g n cap : Nat) (xs : List Nt) (hs : a.eval s = .slice (some ⟨g, 0, none⟩) n cap) (hown : Own w base 37 (.slice (some ⟨g, 0, none⟩) n cap) xs)
    (A : Option Addr) (m c : Nat) (news : List Nt) (hx : a.eval x = .slice A m c) (hl : news.length = m) (hA : A = none → c = 0)
    (hnews : RA w A news) (hroom : n + m ≤ cap)
    (h : ∀ w', Own w' base 37 (.slice (some ⟨g, 0, none⟩) (n + m) cap) (xs ++ news) → w.grownBy w' (some g) → K (a.put o.dst (.slice (some ⟨g, 0, none⟩) (n + m) cap)) w') : o.wp Tryd.prog a w K Q := by
  obtain ⟨i, hi, hz, hs1, hb1⟩ := info_parts Tryd.info_Hole
  obtain ⟨hnx, hnc, hcm, hbg, hgs⟩ := hown.room
  have hO : w.ownsRow base 37 3 (.slice (some ⟨g, 0, none⟩) n cap) n (cl xs) := by rw [hnx]; unfold Own at hown; rw [hnx] at hown; exact hown
  cases A with
  | none =>
    have hn : news = [] := by
      cases news with
      | nil => rfl
      | cons u r => obtain ⟨g', o', e, _⟩ := hnews 0 u rfl; cases e
    subst hn
    obtain rfl : m = 0 := by simpa using hl.symm
    obtain rfl := hA rfl
    have hr := run_append_owned_none (P := Tryd.prog) w base 26 o.type 37 i 3 Tryd.underlying26 hi (.slice (some ⟨g, 0, none⟩) n cap) n (cl xs) hO
    unfold Oper.wp execOp
    simp only [ho, resolve, invoke, builtin, Sem.run_bind, Sem.run_pure, Result.andThen_ok, List.map_toArray, List.map_cons, List.map_nil, hs, hx, hr]
    exact h w (by simpa using hown) (World.grownBy.refl w _)
  | some ad =>
    obtain ⟨w', hr, h2, h3⟩ := run_append_fits (P := Tryd.prog) w base 26 o.type 37 i 3 Tryd.underlying26 hi hs1 g n cap (cl xs) hO ad m c (cl news) (by rw [cl_length, hl])
      (fun j u hu => by obtain ⟨ad', e, hc⟩ := hnews.cells j u hu; injection e with e; subst e; exact hc) (cl_one news) hroom
    unfold Oper.wp execOp
    simp only [ho, resolve, invoke, builtin, Sem.run_bind, Sem.run_pure, Result.andThen_ok, List.map_toArray, List.map_cons, List.map_nil, hs, hx, hr]
    refine h w' ?_ h3
    unfold Own
    rw [cl_append, List.length_append, hl, ← hnx]
    exact h2

theorem step_roomHole {w : World} {ops : Array Oper} {o : Oper} {a : Act} {K : Act → World → Prop} {Q : Exit → Act → World → Prop} {E : Prop} (hgd : o.guard = none) (s x : Operand)
    (ho : o.op = .call { callee := .builtin .append, args := #[s, x], argTypes := #[26, 26] })
    (base g n cap : Nat) (xs : List Nt) (hs : a.eval s = .slice (some ⟨g, 0, none⟩) n cap) (hown : Own w base 37 (.slice (some ⟨g, 0, none⟩) n cap) xs)
    (A : Option Addr) (m c : Nat) (news : List Nt) (hx : a.eval x = .slice A m c) (hl : news.length = m) (hA : A = none → c = 0)
    (hnews : RA w A news) (hroom : n + m ≤ cap)
    (h : ∀ w', Own w' base 37 (.slice (some ⟨g, 0, none⟩) (n + m) cap) (xs ++ news) → w.grownBy w' (some g) → K (a.put o.dst (.slice (some ⟨g, 0, none⟩) (n + m) cap)) w') :
    if Region.wanted o (yielded ops a.tmps) = true then Oper.wp Tryd.prog o a w K Q else E := by
  have hw : Region.wanted o (yielded ops a.tmps) = true := by simp [Region.wanted, hgd]
  rw [if_pos hw]
  exact wp_roomHole w s x ho base g n cap xs hs hown A m c news hx hl hA hnews hroom h

theorem wpList_roomHole (w : World) {ops : Array Oper} {rest : List Oper} {o : Oper} {a : Act} {Q : Exit → Act → World → Prop} (hgd : o.guard = none) (s x : Operand)
    (ho : o.op = .call { callee := .builtin .append, args := #[s, x], argTypes := #[26, 26] })
    (base g n cap : Nat) (xs : List Nt) (hs : a.eval s = .slice (some ⟨g, 0, none⟩) n cap) (hown : Own w base 37 (.slice (some ⟨g, 0, none⟩) n cap) xs)
    (A : Option Addr) (m c : Nat) (news : List Nt) (hx : a.eval x = .slice A m c) (hl : news.length = m) (hA : A = none → c = 0)
    (hnews : RA w A news) (hroom : n + m ≤ cap)
    (h : ∀ w', Own w' base 37 (.slice (some ⟨g, 0, none⟩) (n + m) cap) (xs ++ news) → w.grownBy w' (some g) → wpList Tryd.prog ops Q rest (a.put o.dst (.slice (some ⟨g, 0, none⟩) (n + m) cap)) w') : wpList Tryd.prog ops Q (o :: rest) a w :=
  wpList_plain hgd fun _ hK => wp_roomHole w s x ho base g n cap xs hs hown A m c news hx hl hA hnews hroom fun w' h2 h3 => hK _ _ (h w' h2 h3)

theorem run_clearHole (w : World) (base g n cap : Nat) (xs : List Nt) (hown : Own w base 37 (.slice (some ⟨g, 0, none⟩) n cap) xs) (A : Option Addr) (m c ty : Nat) (hA : 0 < m → A = some ⟨g, n * 3, none⟩) (hfit : n + m ≤ cap) :
    ∃ w', (Builtin.clear_ #[26] ty #[.slice A m c]).run Tryd.prog w = .ok (.tuple #[]) w' ∧ Own w' base 37 (.slice (some ⟨g, 0, none⟩) n cap) xs ∧ w.grownBy w' (some g) := by
  rcases Nat.eq_zero_or_pos m with h0 | h0
  · subst h0
    have hr : (Builtin.clear_ #[26] ty #[.slice A 0 c]).run Tryd.prog w = .ok (.tuple #[]) w := by
      cases A <;> simp [Builtin.clear_, run_underlying Tryd.underlying26]
    exact ⟨w, hr, hown, World.grownBy.refl w _⟩
  · obtain rfl := hA h0
    obtain ⟨hnx, hnc, hcm, hbg, hgs⟩ := hown.room
    rcases hown.2 with ⟨h', _⟩ | ⟨g', cap', cur, h', hb, hg, hnc', hcm', hcs, ht⟩
    · cases h'
    · simp only [Value.slice.injEq, Option.some.injEq, Addr.mk.injEq, and_true, true_and] at h'
      obtain ⟨rfl, rfl, rfl⟩ := h'
      obtain ⟨m, rfl⟩ : ∃ m', m = m' + 1 := ⟨m - 1, by omega⟩
      have hz : (Builtin.zeroCells (Value.agg #[.int .i64 0, .int .i64 0, .int .i64 0]).cells (m + 1)).toList.length = (m + 1) * 3 := by simp [Builtin.zeroCells, Value.cells]
      have hone : ∀ v ∈ (Builtin.zeroCells (Value.agg #[.int .i64 0, .int .i64 0, .int .i64 0]).cells (m + 1)).toList, v.oneCell' = true := by
        intro v hv
        simp only [Builtin.zeroCells, Value.cells, Array.toList_map, List.mem_map] at hv
        obtain ⟨j, hj, rfl⟩ := hv
        have hlt : j % #[Value.int .i64 0, .int .i64 0, .int .i64 0].size < #[Value.int .i64 0, .int .i64 0, .int .i64 0].size := Nat.mod_lt _ (by simp)
        generalize j % #[Value.int .i64 0, .int .i64 0, .int .i64 0].size = q at hlt
        have : q = 0 ∨ q = 1 ∨ q = 2 := by simp at hlt; omega
        rcases this with rfl | rfl | rfl <;> rfl
      have hmul := Nat.mul_le_mul_right 3 hfit
      rw [Nat.add_mul] at hmul
      have hst := run_storeCells_at Tryd.prog g (xs.length * 3) 37 (Builtin.zeroCells (Value.agg #[.int .i64 0, .int .i64 0, .int .i64 0]).cells (m + 1)).toList 0 cur w hg (by rw [hz, hcs]; omega) hone
      have hr : (Builtin.clear_ #[26] ty #[.slice (some ⟨g, xs.length * 3, none⟩) (m + 1) c]).run Tryd.prog w = .ok (.tuple #[]) (w.setRow g (cur.toList.take (xs.length * 3 + 0) ++ (Builtin.zeroCells (Value.agg #[.int .i64 0, .int .i64 0, .int .i64 0]).cells (m + 1)).toList ++ cur.toList.drop (xs.length * 3 + 0 + (Builtin.zeroCells (Value.agg #[.int .i64 0, .int .i64 0, .int .i64 0]).cells (m + 1)).toList.length)).toArray) := by
        simp only [Builtin.clear_, List.getElem?_toArray, List.getElem?_cons_zero, Sem.run_bind, Sem.run_pure, run_underlying Tryd.underlying26, Result.andThen_ok, Tryd.zeroValue37, hst]
      refine ⟨_, hr, ⟨hown.1, .inr ⟨g, cap, _, rfl, hb, setRow_heap w g cur _ 37 _ hg, hnc, hcm, ?_, ?_⟩⟩, ⟨rfl, rfl, rfl, by simp, fun k _ hk => setRow_other w g k _ (fun e => hk (by simp [e]))⟩⟩
      · simp only [List.size_toArray, List.length_append, List.length_take, List.length_drop, Array.length_toList, hz]
        omega
      · have hle : xs.length * 3 ≤ cur.toList.length := by rw [Array.length_toList (xs := cur), hcs]; exact Nat.mul_le_mul_right _ hnc
        simp only [Nat.add_zero, List.append_assoc]
        rw [← ht]
        have hl2 : (cur.toList.take (xs.length * 3)).length = xs.length * 3 := by rw [List.length_take]; omega
        exact List.take_left' hl2

/-- Where the walk stands at a clear. -/
theorem clear_thenHole {w : World} {A : Option Addr} {m c ty : Nat} (base g n cap : Nat) (xs : List Nt) (hown : Own w base 37 (.slice (some ⟨g, 0, none⟩) n cap) xs) (hA : 0 < m → A = some ⟨g, n * 3, none⟩) (hfit : n + m ≤ cap)
    {β : Type} {f : Value → World → Result β} {C : Result β → Prop} (h : ∀ w', Own w' base 37 (.slice (some ⟨g, 0, none⟩) n cap) xs → w.grownBy w' (some g) → C (f (.tuple #[]) w')) :
    C ((Sem.run Tryd.prog (Builtin.clear_ #[26] ty #[.slice A m c]) w).andThen f) := by
  obtain ⟨w', hr, ho, hg⟩ := run_clearHole w base g n cap xs hown A m c ty hA hfit
  rw [hr]
  exact h w' ho hg
end Go.Proofs.YtfjcnomingbneaaDoor
