/- append onto a slice of the call's own of one struct, whatever the source; the same where there is room; clear of what lies behind it; slices.Clone. -/
import Derived.Test.YtakmlgkcinjecaaChangeSlc
import Derived.Test.YtakmlgkcinjecaaRows2
import Derived.Test.YtakmlgkcinjecaaApp
import Derived.OwnWalk
import Derived.Deep.AppendLies
import Derived.Deep.RegionLaw
import Derived.Deep.RegionHeld3
import Derived.Lib.SliceRun
namespace Go.Proofs.Ytakmlgkcinjecaa
open Go.RowKit
set_option linter.unusedVariables false
set_option linter.unusedSimpArgs false

theorem wp_appChange (w : World) {o : Oper} {a : Act} {K : Act → World → Prop} {Q : Exit → Act → World → Prop} (s x : Operand)
    (ho : o.op = .call { callee := .builtin .append, args := #[s, x], argTypes := #[23, 23] })
    (base : Nat) (v : Value) (xs : List Nt2) (hs : a.eval s = v) (hown : Own2 w base 32 v xs)
    (A : Option Addr) (m c : Nat) (news : List Nt2) (hx : a.eval x = .slice A m c) (hl : news.length = m) (hA : A = none → c = 0)
    (hnews : RA2 w A news) (hsz : xs.length + m ≤ 4000000) (hbase : base ≤ w.heap.size)
    (h : ∀ v' w', Own2 w' base 32 v' (xs ++ news) → w.grownBy w' v.ownBlock → K (a.put o.dst v') w') : o.wp Try.prog a w K Q := by
  obtain ⟨i, hi, hz, hs1, hb1⟩ := info_parts Try.info_Change
  refine wp_app w s x 23 ho base 32 i _ 2 16 Try.underlying23 hi hz hs1 hb1 rfl (by decide) v xs.length (cl2 xs) hs hown A m c (cl2 news) hx (by rw [cl2_length, hl]) hA (fun j u hu => hnews.cells j u hu) (cl2_one news) (by unfold maxLen; omega) (by omega) hbase ?_
  intro v' w' h1 h2 h3
  refine h v' w' ?_ h2
  unfold Own2
  rw [cl2_append, List.length_append, hl]
  exact h1

theorem step_appChange {w : World} {ops : Array Oper} {o : Oper} {a : Act} {K : Act → World → Prop} {Q : Exit → Act → World → Prop} {E : Prop} (hgd : o.guard = none) (s x : Operand)
    (ho : o.op = .call { callee := .builtin .append, args := #[s, x], argTypes := #[23, 23] })
    (base : Nat) (v : Value) (xs : List Nt2) (hs : a.eval s = v) (hown : Own2 w base 32 v xs)
    (A : Option Addr) (m c : Nat) (news : List Nt2) (hx : a.eval x = .slice A m c) (hl : news.length = m) (hA : A = none → c = 0)
    (hnews : RA2 w A news) (hsz : xs.length + m ≤ 4000000) (hbase : base ≤ w.heap.size)
    (h : ∀ v' w', Own2 w' base 32 v' (xs ++ news) → w.grownBy w' v.ownBlock → K (a.put o.dst v') w') :
    if Region.wanted o (yielded ops a.tmps) = true then Oper.wp Try.prog o a w K Q else E := by
  have hw : Region.wanted o (yielded ops a.tmps) = true := by simp [Region.wanted, hgd]
  rw [if_pos hw]
  exact wp_appChange w s x ho base v xs hs hown A m c news hx hl hA hnews hsz hbase h

theorem wpList_appChange (w : World) {ops : Array Oper} {rest : List Oper} {o : Oper} {a : Act} {Q : Exit → Act → World → Prop} (hgd : o.guard = none) (s x : Operand)
    (ho : o.op = .call { callee := .builtin .append, args := #[s, x], argTypes := #[23, 23] })
    (base : Nat) (v : Value) (xs : List Nt2) (hs : a.eval s = v) (hown : Own2 w base 32 v xs)
    (A : Option Addr) (m c : Nat) (news : List Nt2) (hx : a.eval x = .slice A m c) (hl : news.length = m) (hA : A = none → c = 0)
    (hnews : RA2 w A news) (hsz : xs.length + m ≤ 4000000) (hbase : base ≤ w.heap.size)
    (h : ∀ v' w', Own2 w' base 32 v' (xs ++ news) → w.grownBy w' v.ownBlock → wpList Try.prog ops Q rest (a.put o.dst v') w') : wpList Try.prog ops Q (o :: rest) a w :=
  wpList_plain hgd fun _ hK => wp_appChange w s x ho base v xs hs hown A m c news hx hl hA hnews hsz hbase fun v' w' h2 h3 => hK _ _ (h v' w' h2 h3)

theorem wp_roomChange (w : World) {o : Oper} {a : Act} {K : Act → World → Prop} {Q : Exit → Act → World → Prop} (s x : Operand)
    (ho : o.op = .call { callee := .builtin .append, args := #[s, x], argTypes := #[23, 23] })
    (base g n cap : Nat) (xs : List Nt2) (hs : a.eval s = .slice (some ⟨g, 0, none⟩) n cap) (hown : Own2 w base 32 (.slice (some ⟨g, 0, none⟩) n cap) xs)
    (A : Option Addr) (m c : Nat) (news : List Nt2) (hx : a.eval x = .slice A m c) (hl : news.length = m) (hA : A = none → c = 0)
    (hnews : RA2 w A news) (hroom : n + m ≤ cap)
    (h : ∀ w', Own2 w' base 32 (.slice (some ⟨g, 0, none⟩) (n + m) cap) (xs ++ news) → w.grownBy w' (some g) → K (a.put o.dst (.slice (some ⟨g, 0, none⟩) (n + m) cap)) w') : o.wp Try.prog a w K Q := by
  obtain ⟨i, hi, hz, hs1, hb1⟩ := info_parts Try.info_Change
  obtain ⟨hnx, hnc, hcm, hbg, hgs⟩ := hown.room
  have hO : w.ownsRow base 32 2 (.slice (some ⟨g, 0, none⟩) n cap) n (cl2 xs) := by rw [hnx]; unfold Own2 at hown; rw [hnx] at hown; exact hown
  cases A with
  | none =>
    have hn : news = [] := by
      cases news with
      | nil => rfl
      | cons u r => obtain ⟨g', o', e, _⟩ := hnews 0 u rfl; cases e
    subst hn
    obtain rfl : m = 0 := by simpa using hl.symm
    obtain rfl := hA rfl
    have hr := run_append_owned_none (P := Try.prog) w base 23 o.type 32 i 2 Try.underlying23 hi (.slice (some ⟨g, 0, none⟩) n cap) n (cl2 xs) hO
    unfold Oper.wp execOp
    simp only [ho, resolve, invoke, builtin, Sem.run_bind, Sem.run_pure, Result.andThen_ok, List.map_toArray, List.map_cons, List.map_nil, hs, hx, hr]
    exact h w (by simpa using hown) (World.grownBy.refl w _)
  | some ad =>
    obtain ⟨w', hr, h2, h3⟩ := run_append_fits (P := Try.prog) w base 23 o.type 32 i 2 Try.underlying23 hi hs1 g n cap (cl2 xs) hO ad m c (cl2 news) (by rw [cl2_length, hl])
      (fun j u hu => by obtain ⟨ad', e, hc⟩ := hnews.cells j u hu; injection e with e; subst e; exact hc) (cl2_one news) hroom
    unfold Oper.wp execOp
    simp only [ho, resolve, invoke, builtin, Sem.run_bind, Sem.run_pure, Result.andThen_ok, List.map_toArray, List.map_cons, List.map_nil, hs, hx, hr]
    refine h w' ?_ h3
    unfold Own2
    rw [cl2_append, List.length_append, hl, ← hnx]
    exact h2

theorem step_roomChange {w : World} {ops : Array Oper} {o : Oper} {a : Act} {K : Act → World → Prop} {Q : Exit → Act → World → Prop} {E : Prop} (hgd : o.guard = none) (s x : Operand)
    (ho : o.op = .call { callee := .builtin .append, args := #[s, x], argTypes := #[23, 23] })
    (base g n cap : Nat) (xs : List Nt2) (hs : a.eval s = .slice (some ⟨g, 0, none⟩) n cap) (hown : Own2 w base 32 (.slice (some ⟨g, 0, none⟩) n cap) xs)
    (A : Option Addr) (m c : Nat) (news : List Nt2) (hx : a.eval x = .slice A m c) (hl : news.length = m) (hA : A = none → c = 0)
    (hnews : RA2 w A news) (hroom : n + m ≤ cap)
    (h : ∀ w', Own2 w' base 32 (.slice (some ⟨g, 0, none⟩) (n + m) cap) (xs ++ news) → w.grownBy w' (some g) → K (a.put o.dst (.slice (some ⟨g, 0, none⟩) (n + m) cap)) w') :
    if Region.wanted o (yielded ops a.tmps) = true then Oper.wp Try.prog o a w K Q else E := by
  have hw : Region.wanted o (yielded ops a.tmps) = true := by simp [Region.wanted, hgd]
  rw [if_pos hw]
  exact wp_roomChange w s x ho base g n cap xs hs hown A m c news hx hl hA hnews hroom h

theorem wpList_roomChange (w : World) {ops : Array Oper} {rest : List Oper} {o : Oper} {a : Act} {Q : Exit → Act → World → Prop} (hgd : o.guard = none) (s x : Operand)
    (ho : o.op = .call { callee := .builtin .append, args := #[s, x], argTypes := #[23, 23] })
    (base g n cap : Nat) (xs : List Nt2) (hs : a.eval s = .slice (some ⟨g, 0, none⟩) n cap) (hown : Own2 w base 32 (.slice (some ⟨g, 0, none⟩) n cap) xs)
    (A : Option Addr) (m c : Nat) (news : List Nt2) (hx : a.eval x = .slice A m c) (hl : news.length = m) (hA : A = none → c = 0)
    (hnews : RA2 w A news) (hroom : n + m ≤ cap)
    (h : ∀ w', Own2 w' base 32 (.slice (some ⟨g, 0, none⟩) (n + m) cap) (xs ++ news) → w.grownBy w' (some g) → wpList Try.prog ops Q rest (a.put o.dst (.slice (some ⟨g, 0, none⟩) (n + m) cap)) w') : wpList Try.prog ops Q (o :: rest) a w :=
  wpList_plain hgd fun _ hK => wp_roomChange w s x ho base g n cap xs hs hown A m c news hx hl hA hnews hroom fun w' h2 h3 => hK _ _ (h w' h2 h3)

theorem run_clearChange (w : World) (base g n cap : Nat) (xs : List Nt2) (hown : Own2 w base 32 (.slice (some ⟨g, 0, none⟩) n cap) xs) (A : Option Addr) (m c ty : Nat) (hA : 0 < m → A = some ⟨g, n * 2, none⟩) (hfit : n + m ≤ cap) :
    ∃ w', (Builtin.clear_ #[23] ty #[.slice A m c]).run Try.prog w = .ok (.tuple #[]) w' ∧ Own2 w' base 32 (.slice (some ⟨g, 0, none⟩) n cap) xs ∧ w.grownBy w' (some g) := by
  rcases Nat.eq_zero_or_pos m with h0 | h0
  · subst h0
    have hr : (Builtin.clear_ #[23] ty #[.slice A 0 c]).run Try.prog w = .ok (.tuple #[]) w := by
      cases A <;> simp [Builtin.clear_, run_underlying Try.underlying23]
    exact ⟨w, hr, hown, World.grownBy.refl w _⟩
  · obtain rfl := hA h0
    obtain ⟨hnx, hnc, hcm, hbg, hgs⟩ := hown.room
    rcases hown.2 with ⟨h', _⟩ | ⟨g', cap', cur, h', hb, hg, hnc', hcm', hcs, ht⟩
    · cases h'
    · simp only [Value.slice.injEq, Option.some.injEq, Addr.mk.injEq, and_true, true_and] at h'
      obtain ⟨rfl, rfl, rfl⟩ := h'
      obtain ⟨m, rfl⟩ : ∃ m', m = m' + 1 := ⟨m - 1, by omega⟩
      have hz : (Builtin.zeroCells (Value.agg #[.int .i64 0, .int .i64 0]).cells (m + 1)).toList.length = (m + 1) * 2 := by simp [Builtin.zeroCells, Value.cells]
      have hone : ∀ v ∈ (Builtin.zeroCells (Value.agg #[.int .i64 0, .int .i64 0]).cells (m + 1)).toList, v.oneCell' = true := by
        intro v hv
        simp only [Builtin.zeroCells, Value.cells, Array.toList_map, List.mem_map] at hv
        obtain ⟨j, hj, rfl⟩ := hv
        have hlt : j % #[Value.int .i64 0, .int .i64 0].size < #[Value.int .i64 0, .int .i64 0].size := Nat.mod_lt _ (by simp)
        generalize j % #[Value.int .i64 0, .int .i64 0].size = q at hlt
        have : q = 0 ∨ q = 1 := by simp at hlt; omega
        rcases this with rfl | rfl <;> rfl
      have hmul := Nat.mul_le_mul_right 2 hfit
      rw [Nat.add_mul] at hmul
      have hst := run_storeCells_at Try.prog g (xs.length * 2) 32 (Builtin.zeroCells (Value.agg #[.int .i64 0, .int .i64 0]).cells (m + 1)).toList 0 cur w hg (by rw [hz, hcs]; omega) hone
      have hr : (Builtin.clear_ #[23] ty #[.slice (some ⟨g, xs.length * 2, none⟩) (m + 1) c]).run Try.prog w = .ok (.tuple #[]) (w.setRow g (cur.toList.take (xs.length * 2 + 0) ++ (Builtin.zeroCells (Value.agg #[.int .i64 0, .int .i64 0]).cells (m + 1)).toList ++ cur.toList.drop (xs.length * 2 + 0 + (Builtin.zeroCells (Value.agg #[.int .i64 0, .int .i64 0]).cells (m + 1)).toList.length)).toArray) := by
        simp only [Builtin.clear_, List.getElem?_toArray, List.getElem?_cons_zero, Sem.run_bind, Sem.run_pure, run_underlying Try.underlying23, Result.andThen_ok, Try.zeroValue32, hst]
      refine ⟨_, hr, ⟨hown.1, .inr ⟨g, cap, _, rfl, hb, setRow_heap w g cur _ 32 _ hg, hnc, hcm, ?_, ?_⟩⟩, ⟨rfl, rfl, rfl, by simp, fun k _ hk => setRow_other w g k _ (fun e => hk (by simp [e]))⟩⟩
      · simp only [List.size_toArray, List.length_append, List.length_take, List.length_drop, Array.length_toList, hz]
        omega
      · have hle : xs.length * 2 ≤ cur.toList.length := by rw [Array.length_toList (xs := cur), hcs]; exact Nat.mul_le_mul_right _ hnc
        simp only [Nat.add_zero, List.append_assoc]
        rw [← ht]
        have hl2 : (cur.toList.take (xs.length * 2)).length = xs.length * 2 := by rw [List.length_take]; omega
        exact List.take_left' hl2

/-- Where the walk stands at a clear. -/
theorem clear_thenChange {w : World} {A : Option Addr} {m c ty : Nat} (base g n cap : Nat) (xs : List Nt2) (hown : Own2 w base 32 (.slice (some ⟨g, 0, none⟩) n cap) xs) (hA : 0 < m → A = some ⟨g, n * 2, none⟩) (hfit : n + m ≤ cap)
    {β : Type} {f : Value → World → Result β} {C : Result β → Prop} (h : ∀ w', Own2 w' base 32 (.slice (some ⟨g, 0, none⟩) n cap) xs → w.grownBy w' (some g) → C (f (.tuple #[]) w')) :
    C ((Sem.run Try.prog (Builtin.clear_ #[23] ty #[.slice A m c]) w).andThen f) := by
  obtain ⟨w', hr, ho, hg⟩ := run_clearChange w base g n cap xs hown A m c ty hA hfit
  rw [hr]
  exact h w' ho hg
theorem cloneChange_any (A : Nat) (n : Nat) (l : List Nt2) (c : Nat) (w : World) (hnl : l.length = n) (hn : l.length ≤ 1048576) (hc' : c ≤ 9223372036854775807) (hA : RA2 w (some ⟨A, 0, none⟩) l) :
    Calls Try.prog 37 #[.slice (some ⟨A, 0, none⟩) n c] w fun e w' => ∃ v, e = .returned v ∧ Own2 w' w.heap.size 32 v l ∧ Below w.heap.size w w' := by
  have hO := Lib.hid (Own2.empty (t := 32) (heap_alloc_new w (.cells #[] 32)) (Nat.le_refl w.heap.size))
  have hB := Lib.hid (show Below w.heap.size w (w.alloc (.cells #[] 32)) from (Below.refl _ _).alloc (Nat.le_refl _) _)
  have HA := Lib.hid (hA.alloc (.cells #[] 32))
  clear hA
  subst hnl
  have hnil : (binOp .eql 23 (.slice (some ⟨A, 0, none⟩) l.length c) (.slice none 0 0)).run Try.prog w = .ok (.bool false) w := Lib.run_eql_slice_nil w _ _ _ _ _ _ _ Try.underlying23
  go_enter Try.func37, Try.ntmps37
  go_wp2_with (at_builtin; refine wpList_appChange _ rfl (.tmp 5) (.tmp 6) rfl w.heap.size _ [] rfl hO.out (some ⟨A, 0, none⟩) l.length c l rfl rfl (fun h => by cases h) HA.out (by simp; omega) hB.out.size ?_; intro v1 w1 ho1 hg1; have hB1 := Lib.hid (hB.out.grown hg1 hB.out.size (fun j hj => (hO.out.lt j hj).1)); have HO1 := Lib.hid ho1; clear ho1 hg1)
  go_ret
  exact ⟨_, rfl, by simpa using HO1.out, hB1.out⟩

end Go.Proofs.Ytakmlgkcinjecaa
