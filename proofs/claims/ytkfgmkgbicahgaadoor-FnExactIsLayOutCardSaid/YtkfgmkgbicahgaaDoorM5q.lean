/- Texts of the proof, run together: HHoleApp, HHoleOpen, HNtGood, HQuick, SrtP, HSrtP. -/
import Derived.Test.YtkfgmkgbicahgaaDoorM4q
import Derived.Test.YtkfgmkgbicahgaaDoorM1q
import Derived.OwnWalk
import Derived.Deep.AppendLies
import Derived.Deep.RegionLaw
import Derived.Deep.RegionHeld3
import Derived.Lib.SliceRun
import Derived.Deep.Slices
import Derived.Deep.Fields
import Derived.ChangeSame
import Derived.OpenShut
import Derived.Test.YtkfgmkgbicahgaaDoorM3q
import Derived.Lib.QuietBelow
import Derived.Test.YtkfgmkgbicahgaaDoorM2q
namespace Go.Proofs.YtkfgmkgbicahgaaDoor.H
open Go.RowKit
set_option linter.unusedVariables false
set_option linter.unusedSimpArgs false

theorem wp_appHole (w : World) {o : Oper} {a : Act} {K : Act → World → Prop} {Q : Exit → Act → World → Prop} (s x : Operand)
    (ho : o.op = .call { callee := .builtin .append, args := #[s, x], argTypes := #[47, 47] })
    (base : Nat) (v : Value) (xs : List Nt) (hs : a.eval s = v) (hown : Own w base 29 v xs)
    (A : Option Addr) (m c : Nat) (news : List Nt) (hx : a.eval x = .slice A m c) (hl : news.length = m) (hA : A = none → c = 0)
    (hnews : RA w A news) (hsz : xs.length + m ≤ 4000000) (hbase : base ≤ w.heap.size)
    (h : ∀ v' w', Own w' base 29 v' (xs ++ news) → w.grownBy w' v.ownBlock → K (a.put o.dst v') w') : o.wp Tryd.prog a w K Q := by
  obtain ⟨i, hi, hz, hs1, hb1⟩ := info_parts Tryd.info_Hole
  refine wp_app w s x 47 ho base 29 i _ 3 24 Tryd.underlying47 hi hz hs1 hb1 rfl (by decide) v xs.length (cl xs) hs hown A m c (cl news) hx (by rw [cl_length, hl]) hA (fun j u hu => hnews.cells j u hu) (cl_one news) (by unfold maxLen; omega) (by omega) hbase ?_
  intro v' w' h1 h2 h3
  refine h v' w' ?_ h2
  unfold Own
  rw [cl_append, List.length_append, hl]
  exact h1

theorem step_appHole {w : World} {ops : Array Oper} {o : Oper} {a : Act} {K : Act → World → Prop} {Q : Exit → Act → World → Prop} {E : Prop} (hgd : o.guard = none) (s x : Operand)
    (ho : o.op = .call { callee := .builtin .append, args := #[s, x], argTypes := #[47, 47] })
    (base : Nat) (v : Value) (xs : List Nt) (hs : a.eval s = v) (hown : Own w base 29 v xs)
    (A : Option Addr) (m c : Nat) (news : List Nt) (hx : a.eval x = .slice A m c) (hl : news.length = m) (hA : A = none → c = 0)
    (hnews : RA w A news) (hsz : xs.length + m ≤ 4000000) (hbase : base ≤ w.heap.size)
    (h : ∀ v' w', Own w' base 29 v' (xs ++ news) → w.grownBy w' v.ownBlock → K (a.put o.dst v') w') :
    if Region.wanted o (yielded ops a.tmps) = true then Oper.wp Tryd.prog o a w K Q else E := by
  have hw : Region.wanted o (yielded ops a.tmps) = true := by simp [Region.wanted, hgd]
  rw [if_pos hw]
  exact wp_appHole w s x ho base v xs hs hown A m c news hx hl hA hnews hsz hbase h

theorem wpList_appHole (w : World) {ops : Array Oper} {rest : List Oper} {o : Oper} {a : Act} {Q : Exit → Act → World → Prop} (hgd : o.guard = none) (s x : Operand)
    (ho : o.op = .call { callee := .builtin .append, args := #[s, x], argTypes := #[47, 47] })
    (base : Nat) (v : Value) (xs : List Nt) (hs : a.eval s = v) (hown : Own w base 29 v xs)
    (A : Option Addr) (m c : Nat) (news : List Nt) (hx : a.eval x = .slice A m c) (hl : news.length = m) (hA : A = none → c = 0)
    (hnews : RA w A news) (hsz : xs.length + m ≤ 4000000) (hbase : base ≤ w.heap.size)
    (h : ∀ v' w', Own w' base 29 v' (xs ++ news) → w.grownBy w' v.ownBlock → wpList Tryd.prog ops Q rest (a.put o.dst v') w') : wpList Tryd.prog ops Q (o :: rest) a w :=
  wpList_plain hgd fun _ hK => wp_appHole w s x ho base v xs hs hown A m c news hx hl hA hnews hsz hbase fun v' w' h2 h3 => hK _ _ (h v' w' h2 h3)

set_option maxRecDepth 10000 in
theorem wp_roomHole (w : World) {o : Oper} {a : Act} {K : Act → World → Prop} {Q : Exit → Act → World → Prop} (s x : Operand)
    (ho : o.op = .call { callee := .builtin .append, args := #[s, x], argTypes := #[47, 47] })
    (base g n cap : Nat) (xs : List Nt) (hs : a.eval s = .slice (some ⟨g, 0, none⟩) n cap) (hown : Own w base 29 (.slice (some ⟨g, 0, none⟩) n cap) xs)
    (A : Option Addr) (m c : Nat) (news : List Nt) (hx : a.eval x = .slice A m c) (hl : news.length = m) (hA : A = none → c = 0)
    (hnews : RA w A news) (hroom : n + m ≤ cap)
    (h : ∀ w', Own w' base 29 (.slice (some ⟨g, 0, none⟩) (n + m) cap) (xs ++ news) → w.grownBy w' (some g) → K (a.put o.dst (.slice (some ⟨g, 0, none⟩) (n + m) cap)) w') : o.wp Tryd.prog a w K Q := by
  obtain ⟨i, hi, hz, hs1, hb1⟩ := info_parts Tryd.info_Hole
  obtain ⟨hnx, hnc, hcm, hbg, hgs⟩ := hown.room
  have hO : w.ownsRow base 29 3 (.slice (some ⟨g, 0, none⟩) n cap) n (cl xs) := by rw [hnx]; unfold Own at hown; rw [hnx] at hown; exact hown
  cases A with
  | none =>
    have hn : news = [] := by
      cases news with
      | nil => rfl
      | cons u r => obtain ⟨g', o', e, _⟩ := hnews 0 u rfl; cases e
    subst hn
    obtain rfl : m = 0 := by simpa using hl.symm
    obtain rfl := hA rfl
    have hr := run_append_owned_none (P := Tryd.prog) w base 47 o.type 29 i 3 Tryd.underlying47 hi (.slice (some ⟨g, 0, none⟩) n cap) n (cl xs) hO
    unfold Oper.wp execOp
    simp only [ho, resolve, invoke, builtin, Sem.run_bind, Sem.run_pure, Result.andThen_ok, List.map_toArray, List.map_cons, List.map_nil, hs, hx, hr]
    exact h w (by simpa using hown) (World.grownBy.refl w _)
  | some ad =>
    obtain ⟨w', hr, h2, h3⟩ := run_append_fits (P := Tryd.prog) w base 47 o.type 29 i 3 Tryd.underlying47 hi hs1 g n cap (cl xs) hO ad m c (cl news) (by rw [cl_length, hl])
      (fun j u hu => by obtain ⟨ad', e, hc⟩ := hnews.cells j u hu; injection e with e; subst e; exact hc) (cl_one news) hroom
    unfold Oper.wp execOp
    simp only [ho, resolve, invoke, builtin, Sem.run_bind, Sem.run_pure, Result.andThen_ok, List.map_toArray, List.map_cons, List.map_nil, hs, hx, hr]
    refine h w' ?_ h3
    unfold Own
    rw [cl_append, List.length_append, hl, ← hnx]
    exact h2

theorem step_roomHole {w : World} {ops : Array Oper} {o : Oper} {a : Act} {K : Act → World → Prop} {Q : Exit → Act → World → Prop} {E : Prop} (hgd : o.guard = none) (s x : Operand)
    (ho : o.op = .call { callee := .builtin .append, args := #[s, x], argTypes := #[47, 47] })
    (base g n cap : Nat) (xs : List Nt) (hs : a.eval s = .slice (some ⟨g, 0, none⟩) n cap) (hown : Own w base 29 (.slice (some ⟨g, 0, none⟩) n cap) xs)
    (A : Option Addr) (m c : Nat) (news : List Nt) (hx : a.eval x = .slice A m c) (hl : news.length = m) (hA : A = none → c = 0)
    (hnews : RA w A news) (hroom : n + m ≤ cap)
    (h : ∀ w', Own w' base 29 (.slice (some ⟨g, 0, none⟩) (n + m) cap) (xs ++ news) → w.grownBy w' (some g) → K (a.put o.dst (.slice (some ⟨g, 0, none⟩) (n + m) cap)) w') :
    if Region.wanted o (yielded ops a.tmps) = true then Oper.wp Tryd.prog o a w K Q else E := by
  have hw : Region.wanted o (yielded ops a.tmps) = true := by simp [Region.wanted, hgd]
  rw [if_pos hw]
  exact wp_roomHole w s x ho base g n cap xs hs hown A m c news hx hl hA hnews hroom h

theorem wpList_roomHole (w : World) {ops : Array Oper} {rest : List Oper} {o : Oper} {a : Act} {Q : Exit → Act → World → Prop} (hgd : o.guard = none) (s x : Operand)
    (ho : o.op = .call { callee := .builtin .append, args := #[s, x], argTypes := #[47, 47] })
    (base g n cap : Nat) (xs : List Nt) (hs : a.eval s = .slice (some ⟨g, 0, none⟩) n cap) (hown : Own w base 29 (.slice (some ⟨g, 0, none⟩) n cap) xs)
    (A : Option Addr) (m c : Nat) (news : List Nt) (hx : a.eval x = .slice A m c) (hl : news.length = m) (hA : A = none → c = 0)
    (hnews : RA w A news) (hroom : n + m ≤ cap)
    (h : ∀ w', Own w' base 29 (.slice (some ⟨g, 0, none⟩) (n + m) cap) (xs ++ news) → w.grownBy w' (some g) → wpList Tryd.prog ops Q rest (a.put o.dst (.slice (some ⟨g, 0, none⟩) (n + m) cap)) w') : wpList Tryd.prog ops Q (o :: rest) a w :=
  wpList_plain hgd fun _ hK => wp_roomHole w s x ho base g n cap xs hs hown A m c news hx hl hA hnews hroom fun w' h2 h3 => hK _ _ (h w' h2 h3)

theorem run_clearHole (w : World) (base g n cap : Nat) (xs : List Nt) (hown : Own w base 29 (.slice (some ⟨g, 0, none⟩) n cap) xs) (A : Option Addr) (m c ty : Nat) (hA : 0 < m → A = some ⟨g, n * 3, none⟩) (hfit : n + m ≤ cap) :
    ∃ w', (Builtin.clear_ #[47] ty #[.slice A m c]).run Tryd.prog w = .ok (.tuple #[]) w' ∧ Own w' base 29 (.slice (some ⟨g, 0, none⟩) n cap) xs ∧ w.grownBy w' (some g) := by
  rcases Nat.eq_zero_or_pos m with h0 | h0
  · subst h0
    have hr : (Builtin.clear_ #[47] ty #[.slice A 0 c]).run Tryd.prog w = .ok (.tuple #[]) w := by
      cases A <;> simp [Builtin.clear_, run_underlying Tryd.underlying47]
    exact ⟨w, hr, hown, World.grownBy.refl w _⟩
  · obtain rfl := hA h0
    obtain ⟨hnx, hnc, hcm, hbg, hgs⟩ := hown.room
    rcases hown.2 with ⟨h', _⟩ | ⟨g', cap', cur, h', hb, hg, hnc', hcm', hcs, ht⟩
    · cases h'
    · simp only [Value.slice.injEq, Option.some.injEq, Addr.mk.injEq, and_true, true_and] at h'
      obtain ⟨rfl, rfl, rfl⟩ := h'
      obtain ⟨m, rfl⟩ : ∃ m', m = m' + 1 := ⟨m - 1, by omega⟩
      have hz : (Builtin.zeroCells (Value.agg #[.int .i64 0, .int .i64 0, .int .i64 0]).cells (m + 1)).toList.length = (m + 1) * 3 := by simp [Builtin.zeroCells, Value.cells]
      have hone : ∀ v ∈ (Builtin.zeroCells (Value.agg #[.int .i64 0, .int .i64 0, .int .i64 0]).cells (m + 1)).toList, v.oneCell' = true := by
        intro v hv
        simp only [Builtin.zeroCells, Value.cells, Array.toList_map, List.mem_map] at hv
        obtain ⟨j, hj, rfl⟩ := hv
        have hlt : j % #[Value.int .i64 0, .int .i64 0, .int .i64 0].size < #[Value.int .i64 0, .int .i64 0, .int .i64 0].size := Nat.mod_lt _ (by simp)
        generalize j % #[Value.int .i64 0, .int .i64 0, .int .i64 0].size = q at hlt
        have : q = 0 ∨ q = 1 ∨ q = 2 := by simp at hlt; omega
        rcases this with rfl | rfl | rfl <;> rfl
      have hmul := Nat.mul_le_mul_right 3 hfit
      rw [Nat.add_mul] at hmul
      have hst := run_storeCells_at Tryd.prog g (xs.length * 3) 29 (Builtin.zeroCells (Value.agg #[.int .i64 0, .int .i64 0, .int .i64 0]).cells (m + 1)).toList 0 cur w hg (by rw [hz, hcs]; omega) hone
      have hr : (Builtin.clear_ #[47] ty #[.slice (some ⟨g, xs.length * 3, none⟩) (m + 1) c]).run Tryd.prog w = .ok (.tuple #[]) (w.setRow g (cur.toList.take (xs.length * 3 + 0) ++ (Builtin.zeroCells (Value.agg #[.int .i64 0, .int .i64 0, .int .i64 0]).cells (m + 1)).toList ++ cur.toList.drop (xs.length * 3 + 0 + (Builtin.zeroCells (Value.agg #[.int .i64 0, .int .i64 0, .int .i64 0]).cells (m + 1)).toList.length)).toArray) := by
        simp only [Builtin.clear_, List.getElem?_toArray, List.getElem?_cons_zero, Sem.run_bind, Sem.run_pure, run_underlying Tryd.underlying47, Result.andThen_ok, Tryd.zeroValue29, hst]
      refine ⟨_, hr, ⟨hown.1, .inr ⟨g, cap, _, rfl, hb, setRow_heap w g cur _ 29 _ hg, hnc, hcm, ?_, ?_⟩⟩, ⟨rfl, rfl, rfl, by simp, fun k _ hk => setRow_other w g k _ (fun e => hk (by simp [e]))⟩⟩
      · simp only [List.size_toArray, List.length_append, List.length_take, List.length_drop, Array.length_toList, hz]
        omega
      · have hle : xs.length * 3 ≤ cur.toList.length := by rw [Array.length_toList (xs := cur), hcs]; exact Nat.mul_le_mul_right _ hnc
        simp only [Nat.add_zero, List.append_assoc]
        rw [← ht]
        have hl2 : (cur.toList.take (xs.length * 3)).length = xs.length * 3 := by rw [List.length_take]; omega
        exact List.take_left' hl2

/-- Where the walk stands at a clear. -/
theorem clear_thenHole {w : World} {A : Option Addr} {m c ty : Nat} (base g n cap : Nat) (xs : List Nt) (hown : Own w base 29 (.slice (some ⟨g, 0, none⟩) n cap) xs) (hA : 0 < m → A = some ⟨g, n * 3, none⟩) (hfit : n + m ≤ cap)
    {β : Type} {f : Value → World → Result β} {C : Result β → Prop} (h : ∀ w', Own w' base 29 (.slice (some ⟨g, 0, none⟩) n cap) xs → w.grownBy w' (some g) → C (f (.tuple #[]) w')) :
    C ((Sem.run Tryd.prog (Builtin.clear_ #[47] ty #[.slice A m c]) w).andThen f) := by
  obtain ⟨w', hr, ho, hg⟩ := run_clearHole w base g n cap xs hown A m c ty hA hfit
  rw [hr]
  exact h w' ho hg
end Go.Proofs.YtkfgmkgbicahgaaDoor.H

namespace Go.Proofs.YtkfgmkgbicahgaaDoor.H
open Go.ChangeShapes Go.WideShapes Go.RowKit Go.Deep
set_option linter.unusedVariables false

theorem Tryd.cellsHoleL : Tryd.prog.cellsOf 39 = 3 := by kernel_rfl
theorem of_3Hole {α : Type} {l : List α} (h : l.length = 3) : ∃ c0 c1 c2, l = [c0, c1, c2] := by
  match l, h with
  | [c0, c1, c2], _ => exact ⟨c0, c1, c2, rfl⟩

section
variable {H : Type} {enc : TypeId × Value → H} {w : World} {base : Nat} {spare : Nat → Bool} {held : Bool}

theorem Hole_cells {fuel : Nat} {cs : List Value} {x : DataW H × List MemPlace} (h : DataW.trod enc Tryd.prog w base spare held fuel 39 cs = some x) :
    ∃ p s t : Int, cs = [.int .i64 p, .int .i64 s, .int .i64 t] := by
  obtain ⟨ys, m, _, _, hlen, hyl, hf⟩ := DataW.trod_struct Tryd.underlying39 h
  rw [Tryd.cellsHoleL] at hlen
  obtain ⟨c0, c1, c2, rfl⟩ := of_3Hole hlen
  have f0 := hf 0 _ rfl
  have f1 := hf 1 _ rfl
  have f2 := hf 2 _ rfl
  simp [Tryd.cellsInt] at f0 f1 f2
  obtain ⟨y0, y1, y2, rfl⟩ := of_3Hole (l := ys) hyl
  obtain ⟨p, e0, _, _⟩ := DataW.trod_int Tryd.underlying3 (f0.trans rfl)
  obtain ⟨s, e1, _, _⟩ := DataW.trod_int Tryd.underlying3 (f1.trans rfl)
  obtain ⟨t, e2, _, _⟩ := DataW.trod_int Tryd.underlying3 (f2.trans rfl)
  simp at e0 e1 e2
  exact ⟨p, s, t, by rw [e0, e1, e2]⟩

theorem open_HoleS {v : Value} {d : DataW H} {ps : List MemPlace} (hv : ∃ a n c, v = .slice a n c) (h : DataW.Trod enc Tryd.prog w base spare held 58 v d ps) (hw : ∀ p ∈ ps, p.block < w.heap.size) :
    ∃ (A : Option Addr) (l : List Nt) (c : Nat), v = .slice A l.length c ∧ l.length ≤ c ∧ c ≤ maxLen ∧ RA w A l := by
  obtain ⟨a0, n0, c0, rfl⟩ := hv
  obtain ⟨fuel, hf⟩ := h
  rcases open_slice Tryd.underlying58 hf with ⟨hcs, hx⟩ | ⟨a, len, cap, m, n, D, Pl, hcs, hb, hl, hm, hmm, hx, hi⟩
  · simp [Value.cells] at hcs
    obtain ⟨rfl, rfl, rfl⟩ := hcs
    exact ⟨none, [], 0, rfl, Nat.le_refl _, Nat.zero_le _, fun k x hx => by simp at hx⟩
  · simp [Value.cells] at hcs
    obtain ⟨rfl, rfl, rfl⟩ := hcs
    rw [Tryd.cellsHoleL] at hi
    have hle : n0 ≤ m := by rw [hmm]; split <;> omega
    have hex : ∀ i, i < n0 → ∃ x : Nt, w.cell? (a.add (i * 3)) = some (.int .i64 x.1) ∧ w.cell? (a.add (i * 3 + 1)) = some (.int .i64 x.2.1) ∧ w.cell? (a.add (i * 3 + 2)) = some (.int .i64 x.2.2) := by
      intro i hin
      obtain ⟨cs', hc, ht⟩ := hi i (by omega)
      obtain ⟨p, s, t, rfl⟩ := Hole_cells ht
      obtain ⟨_, _, hat⟩ := World.cells?_some hc
      refine ⟨(p, s, t), ?_, ?_, ?_⟩
      · have := hat 0 (by omega); rw [Go.Deep.add_add] at this; simpa using this
      · have := hat 1 (by omega); rw [Go.Deep.add_add] at this; simpa using this
      · have := hat 2 (by omega); rw [Go.Deep.add_add] at this; simpa using this
    have hlist : ∀ k, k ≤ n0 → ∃ l : List Nt, l.length = k ∧ ∀ i x, l[i]? = some x → w.cell? (a.add (i * 3)) = some (.int .i64 x.1) ∧ w.cell? (a.add (i * 3 + 1)) = some (.int .i64 x.2.1) ∧ w.cell? (a.add (i * 3 + 2)) = some (.int .i64 x.2.2) := by
      intro k
      induction k with
      | zero => exact fun _ => ⟨[], rfl, fun i x hx => by simp at hx⟩
      | succ k ih =>
        intro hk
        obtain ⟨l, hll, hc⟩ := ih (by omega)
        obtain ⟨x, hx⟩ := hex k (by omega)
        refine ⟨l ++ [x], by simp [hll], fun i y hy => ?_⟩
        rcases Nat.lt_or_ge i l.length with hil | hil
        · rw [List.getElem?_append_left hil] at hy; exact hc i y hy
        · rw [List.getElem?_append_right hil] at hy
          have : i - l.length = 0 := by
            have := (List.getElem?_eq_some_iff.1 hy).1
            simp at this; omega
          rw [this] at hy
          simp at hy
          subst hy
          obtain rfl : i = k := by omega
          exact hx
    obtain ⟨l, hll, hc⟩ := hlist n0 (Nat.le_refl _)
    subst hll
    refine ⟨some a, l, c0, rfl, hl, hm, fun k x hkx => ?_⟩
    obtain ⟨h0, h1, h2⟩ := hc k x hkx
    obtain ⟨b, off, spot⟩ := a
    have hspot : spot = none := by
      have hk : 0 < l.length := by have := (List.getElem?_eq_some_iff.1 hkx).1; omega
      have hz : l[0]? = some l[0] := List.getElem?_eq_getElem hk
      simpa [Addr.add] using World.cell?_spot (hc 0 _ hz).1
    subst hspot
    rw [Go.WideShapes.add_plain] at h0 h1 h2
    exact ⟨b, off, rfl, World.block_lt_of_cell? w _ h0, h0, h1, h2⟩
end
end Go.Proofs.YtkfgmkgbicahgaaDoor.H

namespace Go.Proofs.YtkfgmkgbicahgaaDoor.H
open Go.RowKit Go.Sort
set_option linter.unusedVariables false

set_option maxRecDepth 100000 in
set_option maxHeartbeats 2000000 in
theorem ntGood_any (A : Option Addr) (l : List Nt) (c : Nat) (w : World) (hn : l.length ≤ 1048576) (hc : l.length ≤ c) (hc' : c ≤ 9223372036854775807) (hA : RA w A l) :
    Calls Tryd.prog 80 #[.slice A l.length c] w fun e w' => e = .returned (.bool (goodB l)) ∧ Below w.heap.size w w' := by
  go_enter Tryd.func80, Tryd.ntmps80
  go_wp2
  go_loopw [9] (fun i wr => ∃ k : Nat, k ≤ l.length ∧ i = .int .i64 k ∧ GoodTo l k ∧ Below w.heap.size w wr)
    (fun i _ => l.length - (intOf i).toNat)
  case atStart => exact ⟨0, Nat.zero_le _, rfl, GoodTo.zero l, Below.refl _ _⟩
  case round =>
    obtain ⟨k, hk, rfl, hgood, hb⟩ := hrel
    have HG := Lib.hid hgood
    clear hgood
    by_cases hlt : k < l.length
    · have hx : l[k]? = some l[k] := List.getElem?_eq_getElem hlt
      generalize l[k] = x at hx
      obtain ⟨p, s, n⟩ := x
      obtain ⟨g, o, rfl, hg, h0, h1, h2⟩ := (hA.below hb) k _ hx
      simp only at h0 h1 h2
      have HX := Lib.hid hx
      have i1 : (0 : Int) ≤ (k : Int) := by omega
      have i2 : (k : Int) < (l.length : Int) := by omega
      clear hx
      go_wp2_with fail
      have hRA : RA (wr.alloc (.cells #[.int .i64 p, .int .i64 s, .int .i64 n] 29)) (some ⟨g, o, none⟩) l := (hA.below hb).alloc _
      have hxc : ∀ j, (wr.alloc (.cells #[.int .i64 p, .int .i64 s, .int .i64 n] 29)).cell? ⟨wr.heap.size, j, none⟩ = #[Value.int .i64 p, .int .i64 s, .int .i64 n][j]? := fun j => World.cell?_alloc_new wr _ _ j
      have hbW : Below w.heap.size w (wr.alloc (.cells #[.int .i64 p, .int .i64 s, .int .i64 n] 29)) := hb.alloc hb.size _
      have hzW : wr.heap.size < (wr.alloc (.cells #[.int .i64 p, .int .i64 s, .int .i64 n] 29)).heap.size := by simp
      generalize wr.alloc (.cells #[.int .i64 p, .int .i64 s, .int .i64 n] 29) = W at *
      generalize wr.heap.size = xb at *
      have x0 := cell_regrown ((hxc 0).trans rfl)
      have x1 := cell_regrown ((hxc 1).trans rfl)
      have x2 := cell_regrown ((hxc 2).trans rfl)
      have cN : ∀ d os, Calls Tryd.prog 51 #[.agg #[.int .i64 p, .int .i64 s, .int .i64 n]] (grow (redrawn W d) os) fun e w'' => e = .returned (.bool (noteB p s n)) ∧ ∃ q : Regrown, w'' = grow (redrawn W q.d) q.os :=
        fun d os => Calls.regrown_of (ntNote_any p s n _)
      have hlt' : xb < W.heap.size := hzW
      clear h0 h1 h2 hA
      have HXC := Lib.hid hxc
      clear hxc
      cases hv : noteB p s n with
      | false =>
        have CN := Lib.hid cN
        clear cN
        refine wp_region_quiet_below (by kernel_rfl) (by kernel_rfl) ?_
        repeat (go_big_quiet_step (exact (CN.out _ _)))
        refine wpQuiet_nil ?_
        intro _ hw'
        obtain ⟨q, hw''⟩ := hw'
        subst hw''
        go_wp2
        go_ret
        refine ⟨ret_bool (goodB_false (Good.not_of HX.out fun h => ?_)).symm, hbW.trans ((below_regrown W q.d q.os).mono hbW.size)⟩
        have := h.1
        simp [noteN, hv] at this
      | true =>
        rcases Nat.eq_zero_or_pos k with hk0 | hk0
        · have hd : decide (0 < k) = false := by simp [hk0]
          have HK0 := Lib.hid hk0
          clear hk0
          refine wp_region_quiet_below (by kernel_rfl) (by kernel_rfl) ?_
          repeat (go_big_quiet_step (exact (cN _ _)))
          refine wpQuiet_nil ?_
          intro _ hw'
          obtain ⟨q, hw''⟩ := hw'
          subst hw''
          have HBEF := Lib.hid (show ∀ y, 0 < k → l[k - 1]? = some y → befN y (p, s, n) = true from fun y h => absurd h (by have := HK0.out; omega))
          have hxc := HXC.out
          go_wp2_with fail
          have hbV := hbW.trans ((below_regrown W q.d q.os).mono hbW.size)
          have hxV := fun j => ((below_regrown W q.d q.os).cell (p := ⟨xb, j, none⟩) hzW).trans (hxc j)
          have hRV := hRA.below (below_regrown W q.d q.os)
          have hzV : xb < (grow (redrawn W q.d) q.os).heap.size := Nat.lt_of_lt_of_le hzW (below_regrown W q.d q.os).size
          generalize grow (redrawn W q.d) q.os = V at *
          clear x0 x1 x2 hRA cN
          go_loopw [35] (fun i vr => ∃ j : Nat, j ≤ k ∧ i = .int .i64 j ∧ (∀ i' y, i' < j → l[i']? = some y → meetN (p, s, n) y = false) ∧ Below V.heap.size V vr)
            (fun i _ => k - (intOf i).toNat)
          case atStart => exact ⟨0, Nat.zero_le _, rfl, fun _ _ h => absurd h (by omega), Below.refl _ _⟩
          case round =>
            obtain ⟨j, hj, rfl, hmeet, hbr⟩ := hrel
            have HM := Lib.hid hmeet
            clear hmeet
            by_cases hjk : j < k
            · have hyj : l[j]? = some l[j] := List.getElem?_eq_getElem (by omega)
              generalize l[j] = yj at hyj
              have hvy := (noteN_iff yj).1 (HG.out j yj hjk hyj).1
              obtain ⟨pj, sj, nj⟩ := yj
              simp only at hvy
              have hvx := (noteN_iff (p, s, n)).1 hv
              simp only at hvx
              obtain ⟨g3, o3, hgo3, hg3, z0, z1, z2⟩ := (hRV.below hbr) j _ hyj
              simp only [Option.some.injEq, Addr.mk.injEq, and_true] at hgo3
              obtain ⟨rfl, rfl⟩ := hgo3
              simp only at z0 z1 z2
              have xr0 := (hbr.cell (p := ⟨xb, 0, none⟩) hzV).trans (hxV 0)
              have xr1 := (hbr.cell (p := ⟨xb, 1, none⟩) hzV).trans (hxV 1)
              have xr2 := (hbr.cell (p := ⟨xb, 2, none⟩) hzV).trans (hxV 2)
              have hzr : xb < _ := Nat.lt_of_lt_of_le hzV hbr.size
              have j1 : (0 : Int) ≤ (j : Int) := by omega
              have j2 : (j : Int) < (k : Int) := by omega
              have HYJ := Lib.hid hyj
              have HXV := Lib.hid hxV
              have HVC := Lib.hid hv
              clear hyj hxV hv
              by_cases hpp : p = pj
              · by_cases hss : s ≤ nj
                · have HMM := Lib.hid (show meetN (p, s, n) (pj, sj, nj) = true from (meetN_iff _ _).2 ⟨hpp, hss⟩)
                  go_wp2
                  go_ret
                  refine ⟨ret_bool (goodB_false (Good.not_of HX.out fun h => ?_)).symm, hbV.trans ((hbr.mono hbV.size).trans ((Below.refl _ _).alloc (Nat.le_trans hbV.size hbr.size) _))⟩
                  have := h.2.2 j _ hjk HYJ.out
                  rw [HMM.out] at this
                  cases this
                · have HMM := Lib.hid (show meetN (p, s, n) (pj, sj, nj) = false from by
                    cases hq : meetN (p, s, n) (pj, sj, nj) with
                    | false => rfl
                    | true => exact absurd ((meetN_iff _ _).1 hq).2 hss)
                  go_wp2
                  go_roundw
                  case rel =>
                    refine ⟨j + 1, by omega, by go_num, ?_, hbr.trans ((Below.refl _ _).alloc hbr.size _)⟩
                    intro i' y hi hy
                    rcases Nat.lt_or_ge i' j with h | h
                    · exact HM.out i' y h hy
                    · obtain rfl : i' = j := by omega
                      have e := HYJ.out.symm.trans hy
                      injection e with e
                      subst e
                      exact HMM.out
                  case measure => simp [intOf]; omega
              · have HMM := Lib.hid (show meetN (p, s, n) (pj, sj, nj) = false from by
                  cases hq : meetN (p, s, n) (pj, sj, nj) with
                  | false => rfl
                  | true => exact absurd ((meetN_iff _ _).1 hq).1 hpp)
                go_wp2
                go_roundw
                case rel =>
                  refine ⟨j + 1, by omega, by go_num, ?_, hbr.trans ((Below.refl _ _).alloc hbr.size _)⟩
                  intro i' y hi hy
                  rcases Nat.lt_or_ge i' j with h | h
                  · exact HM.out i' y h hy
                  · obtain rfl : i' = j := by omega
                    have e := HYJ.out.symm.trans hy
                    injection e with e
                    subst e
                    exact HMM.out
                case measure => simp [intOf]; omega
            · obtain rfl : j = k := by omega
              go_wp2
              go_roundw
              case rel => exact ⟨j + 1, by omega, by go_num, HG.out.succ HX.out ⟨hv, HBEF.out, HM.out⟩, hbV.trans (hbr.mono hbV.size)⟩
              case measure => simp [intOf]; omega
        · have hd : (0 : Int) < (k : Int) := by omega
          have hy : l[k - 1]? = some l[k - 1] := List.getElem?_eq_getElem (by omega)
          generalize l[k - 1] = y at hy
          obtain ⟨p', s', n'⟩ := y
          obtain ⟨g2, o2, hgo, hg2, y0, y1, y2⟩ := hRA (k - 1) _ hy
          simp only [Option.some.injEq, Addr.mk.injEq, and_true] at hgo
          obtain ⟨rfl, rfl⟩ := hgo
          simp only at y0 y1 y2
          have y0 := cell_regrown y0
          have y1 := cell_regrown y1
          have y2 := cell_regrown y2
          have HY := Lib.hid hy
          have i3 : (0 : Int) ≤ (k : Int) - 1 := by omega
          have i4 : (k : Int) - 1 < (l.length : Int) := by omega
          have cB : ∀ d os, Calls Tryd.prog 92 #[.agg #[.int .i64 p', .int .i64 s', .int .i64 n'], .agg #[.int .i64 p, .int .i64 s, .int .i64 n]] (grow (redrawn W d) os) fun e w'' => e = .returned (.bool (befB p' s' p s)) ∧ ∃ q : Regrown, w'' = grow (redrawn W q.d) q.os :=
            fun d os => Calls.regrown_of (ntBefore_any p' s' n' p s n _)
          clear hy
          cases hbf : befB p' s' p s with
          | false =>
            refine wp_region_quiet_below (by kernel_rfl) (by kernel_rfl) ?_
            repeat (go_big_quiet_step (first | exact (cN _ _) | exact (cB _ _)))
            refine wpQuiet_nil ?_
            intro _ hw'
            obtain ⟨q, hw''⟩ := hw'
            subst hw''
            go_wp2
            go_ret
            refine ⟨ret_bool (goodB_false (Good.not_of HX.out fun h => ?_)).symm, hbW.trans ((below_regrown W q.d q.os).mono hbW.size)⟩
            have := h.2.1 _ hk0 HY.out
            simp [befN, hbf] at this
          | true =>
            refine wp_region_quiet_below (by kernel_rfl) (by kernel_rfl) ?_
            repeat (go_big_quiet_step (first | exact (cN _ _) | exact (cB _ _)))
            refine wpQuiet_nil ?_
            intro _ hw'
            obtain ⟨q, hw''⟩ := hw'
            subst hw''
            have HBEF := Lib.hid (show ∀ y, 0 < k → l[k - 1]? = some y → befN y (p, s, n) = true from fun y _ hy => by have e := HY.out.symm.trans hy; injection e with e; subst e; exact hbf)
            have hxc := HXC.out
            go_wp2_with fail
            clear hbf
            go_wp2_with fail
            have hbV := hbW.trans ((below_regrown W q.d q.os).mono hbW.size)
            have hxV := fun j => ((below_regrown W q.d q.os).cell (p := ⟨xb, j, none⟩) hzW).trans (hxc j)
            have hRV := hRA.below (below_regrown W q.d q.os)
            have hzV : xb < (grow (redrawn W q.d) q.os).heap.size := Nat.lt_of_lt_of_le hzW (below_regrown W q.d q.os).size
            generalize grow (redrawn W q.d) q.os = V at *
            clear x0 x1 x2 hRA cN cB y0 y1 y2
            go_loopw [35] (fun i vr => ∃ j : Nat, j ≤ k ∧ i = .int .i64 j ∧ (∀ i' y, i' < j → l[i']? = some y → meetN (p, s, n) y = false) ∧ Below V.heap.size V vr)
              (fun i _ => k - (intOf i).toNat)
            case atStart => exact ⟨0, Nat.zero_le _, rfl, fun _ _ h => absurd h (by omega), Below.refl _ _⟩
            case round =>
              obtain ⟨j, hj, rfl, hmeet, hbr⟩ := hrel
              have HM := Lib.hid hmeet
              clear hmeet
              by_cases hjk : j < k
              · have hyj : l[j]? = some l[j] := List.getElem?_eq_getElem (by omega)
                generalize l[j] = yj at hyj
                have hvy := (noteN_iff yj).1 (HG.out j yj hjk hyj).1
                obtain ⟨pj, sj, nj⟩ := yj
                simp only at hvy
                have hvx := (noteN_iff (p, s, n)).1 hv
                simp only at hvx
                obtain ⟨g3, o3, hgo3, hg3, z0, z1, z2⟩ := (hRV.below hbr) j _ hyj
                simp only [Option.some.injEq, Addr.mk.injEq, and_true] at hgo3
                obtain ⟨rfl, rfl⟩ := hgo3
                simp only at z0 z1 z2
                have xr0 := (hbr.cell (p := ⟨xb, 0, none⟩) hzV).trans (hxV 0)
                have xr1 := (hbr.cell (p := ⟨xb, 1, none⟩) hzV).trans (hxV 1)
                have xr2 := (hbr.cell (p := ⟨xb, 2, none⟩) hzV).trans (hxV 2)
                have hzr : xb < _ := Nat.lt_of_lt_of_le hzV hbr.size
                have j1 : (0 : Int) ≤ (j : Int) := by omega
                have j2 : (j : Int) < (k : Int) := by omega
                have HYJ := Lib.hid hyj
                have HXV := Lib.hid hxV
                have HVC := Lib.hid hv
                clear hyj hxV hv
                by_cases hpp : p = pj
                · by_cases hss : s ≤ nj
                  · have HMM := Lib.hid (show meetN (p, s, n) (pj, sj, nj) = true from (meetN_iff _ _).2 ⟨hpp, hss⟩)
                    go_wp2
                    go_ret
                    refine ⟨ret_bool (goodB_false (Good.not_of HX.out fun h => ?_)).symm, hbV.trans ((hbr.mono hbV.size).trans ((Below.refl _ _).alloc (Nat.le_trans hbV.size hbr.size) _))⟩
                    have := h.2.2 j _ hjk HYJ.out
                    rw [HMM.out] at this
                    cases this
                  · have HMM := Lib.hid (show meetN (p, s, n) (pj, sj, nj) = false from by
                      cases hq : meetN (p, s, n) (pj, sj, nj) with
                      | false => rfl
                      | true => exact absurd ((meetN_iff _ _).1 hq).2 hss)
                    go_wp2
                    go_roundw
                    case rel =>
                      refine ⟨j + 1, by omega, by go_num, ?_, hbr.trans ((Below.refl _ _).alloc hbr.size _)⟩
                      intro i' y hi hy
                      rcases Nat.lt_or_ge i' j with h | h
                      · exact HM.out i' y h hy
                      · obtain rfl : i' = j := by omega
                        have e := HYJ.out.symm.trans hy
                        injection e with e
                        subst e
                        exact HMM.out
                    case measure => simp [intOf]; omega
                · have HMM := Lib.hid (show meetN (p, s, n) (pj, sj, nj) = false from by
                    cases hq : meetN (p, s, n) (pj, sj, nj) with
                    | false => rfl
                    | true => exact absurd ((meetN_iff _ _).1 hq).1 hpp)
                  go_wp2
                  go_roundw
                  case rel =>
                    refine ⟨j + 1, by omega, by go_num, ?_, hbr.trans ((Below.refl _ _).alloc hbr.size _)⟩
                    intro i' y hi hy
                    rcases Nat.lt_or_ge i' j with h | h
                    · exact HM.out i' y h hy
                    · obtain rfl : i' = j := by omega
                      have e := HYJ.out.symm.trans hy
                      injection e with e
                      subst e
                      exact HMM.out
                  case measure => simp [intOf]; omega
              · obtain rfl : j = k := by omega
                go_wp2
                go_roundw
                case rel => exact ⟨j + 1, by omega, by go_num, HG.out.succ HX.out ⟨hv, HBEF.out, HM.out⟩, hbV.trans (hbr.mono hbV.size)⟩
                case measure => simp [intOf]; omega
    · obtain rfl : k = l.length := by omega
      have hG := HG.out
      by_cases h60 : l.length ≤ 60
      · go_wp2
        go_ret
        refine ⟨ret_bool ?_, hb⟩
        rw [(goodB_iff l).2 ⟨hG, h60⟩]
        simp
        omega
      · go_wp2
        go_ret
        refine ⟨ret_bool ?_, hb⟩
        rw [goodB_false (fun h => h60 h.2)]
        simp
        omega
end Go.Proofs.YtkfgmkgbicahgaaDoor.H

namespace Go.Proofs.YtkfgmkgbicahgaaDoor.H
open Go.RowKit
theorem inR_iff {n lo hi : Int} : inR n lo hi = true ↔ lo ≤ n ∧ n ≤ hi := by simp [inR]
theorem isSheet_quick (A : Option Addr) (l : List Nt) (c : Nat) (b : Bool) (hn : l.length ≤ 1048576) (h : goodB l = b) :
    Hid (∀ (W : World), RA W A l → Calls Tryd.prog 60 #[.slice A l.length c] W fun e w' => e = .returned (.bool b) ∧ Below W.heap.size W w') := by
  subst h
  exact Lib.hid fun W hA => isScore_any A l c W hn hA
theorem shGood_quick (A : Option Addr) (l : List Nt) (c : Nat) (b : Bool) (hn : l.length ≤ 1048576) (hc : l.length ≤ c) (hc' : c ≤ 9223372036854775807) (h : goodB l = b) :
    Hid (∀ (W : World), RA W A l → Calls Tryd.prog 80 #[.slice A l.length c] W fun e w' => e = .returned (.bool b) ∧ Below W.heap.size W w') := by
  subst h
  exact Lib.hid fun W hA => ntGood_any A l c W hn hc hc' hA
end Go.Proofs.YtkfgmkgbicahgaaDoor.H

namespace Go.Proofs.YtkfgmkgbicahgaaDoor
set_option linter.unusedVariables false

/-- No later note comes before an earlier one. -/
def Srt (l : List Nt) : Prop := l.Pairwise fun a b => befN b a = false
def leN (a b : Nt) : Bool := !befN b a
def canon (l : List Nt) : List Nt := l.mergeSort leN

theorem befN_irr (a : Nt) : befN a a = false := by
  cases h : befN a a with
  | false => rfl
  | true => have := (befN_iff a a).1 h; omega
theorem befN_asym {a b : Nt} (h : befN a b = true) : befN b a = false := by
  cases h2 : befN b a with
  | false => rfl
  | true => have h1 := (befN_iff a b).1 h; have h2 := (befN_iff b a).1 h2; omega
theorem befN_false (a b : Nt) : befN a b = false ↔ ¬ (a.2.1 < b.2.1 ∨ a.2.1 = b.2.1 ∧ a.1 < b.1) := by
  rw [← befN_iff]; simp
theorem befN_trans {a b c : Nt} (h1 : befN a b = true) (h2 : befN b c = true) : befN a c = true := by
  rw [befN_iff] at *; omega
theorem befN_ntrans {a b c : Nt} (h1 : befN a b = false) (h2 : befN b c = false) : befN a c = false := by
  rw [befN_false] at *; omega
theorem canon_srt (l : List Nt) : Srt (canon l) := by
  have := List.pairwise_mergeSort (le := leN) (by intro a b c h1 h2; simp [leN] at *; exact befN_ntrans h2 h1) (by
    intro a b
    simp only [leN, Bool.or_eq_true, Bool.not_eq_true']
    cases h : befN b a with
    | false => exact .inl rfl
    | true => exact .inr (befN_asym h)) l
  exact this.imp (by intro a b h; simpa [leN] using h)
theorem canon_perm (l : List Nt) : (canon l).Perm l := List.mergeSort_perm _ _
theorem canon_length (l : List Nt) : (canon l).length = l.length := (canon_perm l).length_eq

theorem Good.bef {l : List Nt} (h : Good l) : ∀ (j i : Nat) (x y : Nt), i < j → l[i]? = some x → l[j]? = some y → befN x y = true := by
  intro j
  induction j with
  | zero => intro i x y h; omega
  | succ j ih =>
    intro i x y hij hx hy
    have hj := (List.getElem?_eq_some_iff.1 hy).1
    have hm : l[j]? = some l[j] := List.getElem?_eq_getElem (by omega)
    have h1 := (h.1 (j + 1) y hj hy).2.1 _ (by omega) hm
    rcases Nat.lt_or_ge i j with h2 | h2
    · exact befN_trans (ih i x _ h2 hx hm) h1
    · obtain rfl : i = j := by omega
      rw [hm] at hx; injection hx with hx; subst hx
      exact h1

theorem srt_uniq {zs ys : List Nt} (hp : zs.Perm ys) (hz : Srt zs) (hy : Srt ys) (hg : Good ys) : zs = ys := by
  refine List.Perm.eq_of_pairwise ?_ hz hy hp
  intro a b ha hb h1 h2
  obtain ⟨i, hi⟩ := List.mem_iff_getElem?.1 (hp.mem_iff.1 ha)
  obtain ⟨j, hj⟩ := List.mem_iff_getElem?.1 hb
  rcases Nat.lt_trichotomy i j with h | h | h
  · have := hg.bef j i a b h hi hj; rw [h2] at this; cases this
  · subst h; rw [hi] at hj; injection hj
  · have := hg.bef i j b a h hj hi; rw [h1] at this; cases this

theorem canon_good {ys l : List Nt} (hp : ys.Perm l) (hs : Srt ys) : goodB ys = goodB (canon l) ∧ (if goodB ys = true then ys else []) = (if goodB (canon l) = true then canon l else []) := by
  have hpc : ys.Perm (canon l) := hp.trans (canon_perm l).symm
  cases h1 : goodB ys with
  | true =>
    have e := srt_uniq hpc.symm (canon_srt l) hs ((goodB_iff ys).1 h1)
    rw [e, h1]
    exact ⟨rfl, rfl⟩
  | false =>
    cases h2 : goodB (canon l) with
    | false => exact ⟨rfl, rfl⟩
    | true =>
      have e := srt_uniq hpc hs (canon_srt l) ((goodB_iff _).1 h2)
      rw [e, h2] at h1
      cases h1

/-- x put in at place k. -/
theorem srt_ins {ys : List Nt} {x : Nt} {k : Nat} (hs : Srt ys) (hk : k ≤ ys.length) (hge : ∀ (j : Nat) (y : Nt), k ≤ j → ys[j]? = some y → befN x y = true) (hlt : ∀ y, 0 < k → ys[k - 1]? = some y → befN x y = false) :
    Srt (ys.take k ++ [x] ++ ys.drop k) := by
  have hs' := hs
  unfold Srt at hs
  rw [← List.take_append_drop k ys, List.pairwise_append] at hs
  unfold Srt
  rw [List.append_assoc, List.pairwise_append]
  refine ⟨hs.1, ?_, ?_⟩
  · rw [List.singleton_append, List.pairwise_cons]
    refine ⟨fun b hb => ?_, hs.2.1⟩
    obtain ⟨j, hj⟩ := List.mem_iff_getElem?.1 hb
    rw [List.getElem?_drop] at hj
    exact befN_asym (hge _ b (by omega) hj)
  · intro a ha b hb
    have hxa : befN x a = false := by
      obtain ⟨i, hi⟩ := List.mem_iff_getElem?.1 ha
      rw [List.getElem?_take] at hi
      split at hi
      · rename_i hik
        have hm : ys[k - 1]? = some (ys[k - 1]'(by omega)) := List.getElem?_eq_getElem (by omega)
        have h1 := hlt _ (by omega) hm
        rcases Nat.lt_or_ge i (k - 1) with h | h
        · have hia := List.getElem?_eq_some_iff.1 hi
          have h2 := List.pairwise_iff_getElem.1 hs' i (k - 1) hia.1 (by omega) h
          rw [hia.2] at h2
          exact befN_ntrans h1 h2
        · obtain rfl : i = k - 1 := by omega
          rw [hm] at hi; injection hi with hi; subst hi
          exact h1
      · cases hi
    rcases List.mem_cons.1 (by simpa using hb) with rfl | hb
    · exact hxa
    · exact hs.2.2 a ha b hb
theorem ins_perm (ys : List Nt) (x : Nt) (k : Nat) : (ys.take k ++ [x] ++ ys.drop k).Perm (ys ++ [x]) := by
  have h1 : (ys.take k ++ ([x] ++ ys.drop k)).Perm (ys.take k ++ (ys.drop k ++ [x])) := List.Perm.append_left _ List.perm_append_comm
  rw [← List.append_assoc, ← List.append_assoc, List.take_append_drop] at h1
  exact h1
end Go.Proofs.YtkfgmkgbicahgaaDoor

namespace Go.Proofs.YtkfgmkgbicahgaaDoor.H
set_option linter.unusedVariables false

theorem Good.bef {l : List Nt} (h : Good l) : ∀ (j i : Nat) (x y : Nt), i < j → l[i]? = some x → l[j]? = some y → befN x y = true := by
  intro j
  induction j with
  | zero => intro i x y h; omega
  | succ j ih =>
    intro i x y hij hx hy
    have hj := (List.getElem?_eq_some_iff.1 hy).1
    have hm : l[j]? = some l[j] := List.getElem?_eq_getElem (by omega)
    have h1 := (h.1 (j + 1) y hj hy).2.1 _ (by omega) hm
    rcases Nat.lt_or_ge i j with h2 | h2
    · exact befN_trans (ih i x _ h2 hx hm) h1
    · obtain rfl : i = j := by omega
      rw [hm] at hx; injection hx with hx; subst hx
      exact h1

theorem srt_uniq {zs ys : List Nt} (hp : zs.Perm ys) (hz : Srt zs) (hy : Srt ys) (hg : Good ys) : zs = ys := by
  refine List.Perm.eq_of_pairwise ?_ hz hy hp
  intro a b ha hb h1 h2
  obtain ⟨i, hi⟩ := List.mem_iff_getElem?.1 (hp.mem_iff.1 ha)
  obtain ⟨j, hj⟩ := List.mem_iff_getElem?.1 hb
  rcases Nat.lt_trichotomy i j with h | h | h
  · have := hg.bef j i a b h hi hj; rw [h2] at this; cases this
  · subst h; rw [hi] at hj; injection hj
  · have := hg.bef i j b a h hj hi; rw [h1] at this; cases this

theorem canon_good {ys l : List Nt} (hp : ys.Perm l) (hs : Srt ys) : goodB ys = goodB (canon l) ∧ (if goodB ys = true then ys else []) = (if goodB (canon l) = true then canon l else []) := by
  have hpc : ys.Perm (canon l) := hp.trans (canon_perm l).symm
  cases h1 : goodB ys with
  | true =>
    have e := srt_uniq hpc.symm (canon_srt l) hs ((goodB_iff ys).1 h1)
    rw [e, h1]
    exact ⟨rfl, rfl⟩
  | false =>
    cases h2 : goodB (canon l) with
    | false => exact ⟨rfl, rfl⟩
    | true =>
      have e := srt_uniq hpc hs (canon_srt l) ((goodB_iff _).1 h2)
      rw [e, h2] at h1
      cases h1

end Go.Proofs.YtkfgmkgbicahgaaDoor.H
