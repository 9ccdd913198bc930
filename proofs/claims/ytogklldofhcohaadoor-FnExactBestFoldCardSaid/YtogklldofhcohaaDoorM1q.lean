/- Texts of the proof, run together: App, Grow, IntP, LawV, OpenP, Plain, PutP, Rows3, Shl, Small, SortF, Abs. -/
import Derived.Below
import Derived.Maps.AppendAt
import Derived.OwnWalk
import Derived.Laws.OwnMore
import Derived.Shelf.SlGeneric
import Derived.Shelf.Spec.SlicesGrow
import Derived.Ground.Names8Prog
import Derived.Test.YtogklldofhcohaaDoorProg
import Derived.Laws.MakeOwn
import Derived.Test.YtogklldofhcohaaDoorRows
import Derived.ProofKit
import Derived.OpenVars
import Derived.Shelf.Slices.Turned
import Derived.WalkKit
import Derived.WalkSpells
import Derived.WalkLawsBesides
import Derived.Lib.Hide
import Derived.Deep.QuietTactic
import Derived.BigQuiet
import Derived.Shelf.SlSortCmp.WholeK
import Derived.Ground.SlsfProg
import Derived.LoopTactic
import Derived.IntWalk
namespace Go.Proofs.YtogklldofhcohaaDoor
open Go.RowKit
section
variable {P : Program} (w : World)

theorem append_src (base : Nat) (t ty e : TypeId) (i : TypeInfo) (z : Value) (size bytes : Nat) (ht : P.underlying t = some (.slice e)) (hi : P.info? e = some i) (hz : i.zero = some z)
    (hsize : i.size = size) (hby : i.bytes = bytes) (hzs : z.cells.size = size) (hsz : 0 < size)
    (v : Value) (n : Nat) (xs : List Value) (hown : w.ownsRow base e size v n xs)
    (A : Option Addr) (m c : Nat) (news : List Value) (hl : news.length = m * size) (hA : A = none → c = 0)
    (hnews : ∀ j u, news[j]? = some u → ∃ ad, A = some ad ∧ w.cell? (ad.add j) = some u) (h1 : ∀ u ∈ news, u.oneCell' = true)
    (h63 : n + m ≤ maxLen) (hbytes : (n + m) * bytes ≤ 140737488355328) (hbase : base ≤ w.heap.size) :
    ∃ v' w', (Builtin.append_ #[t, t] ty #[v, .slice A m c]).run P w = .ok v' w' ∧ w'.ownsRow base e size v' (n + m) (xs ++ news) ∧ w.grownBy w' v.ownBlock ∧
      (v'.ownBlock = v.ownBlock ∨ v'.ownBlock = some w.heap.size) := by
  cases A with
  | none =>
    have hn : news = [] := by
      cases news with
      | nil => rfl
      | cons u r => obtain ⟨ad, h, _⟩ := hnews 0 u rfl; cases h
    subst hn
    have hm : m = 0 := by
      rcases Nat.eq_zero_or_pos m with h | h
      · exact h
      · have := Nat.mul_pos h hsz
        simp at hl; omega
    subst hm
    rw [hA rfl]
    exact ⟨v, w, run_append_owned_none w base t ty e i size ht hi v n xs hown, by simpa using hown, World.grownBy.refl w _, .inl rfl⟩
  | some ad =>
    obtain ⟨v', w', h2, h3, h4, _, h5⟩ := run_append_own_at (P := P) w base t ty e i z size bytes ht hi hz hsize hby hzs hsz v n xs hown ad m c news hl
      (fun j u hu => by obtain ⟨ad', h, hc⟩ := hnews j u hu; injection h with h; subst h; exact hc) h1 h63 hbytes hbase
    exact ⟨v', w', h2, h3, h4, h5⟩

theorem wp_app {o : Oper} {a : Act} {K : Act → World → Prop} {Q : Exit → Act → World → Prop} (s x : Operand) (t : TypeId)
    (ho : o.op = .call { callee := .builtin .append, args := #[s, x], argTypes := #[t, t] })
    (base : Nat) (e : TypeId) (i : TypeInfo) (z : Value) (size bytes : Nat) (ht : P.underlying t = some (.slice e)) (hi : P.info? e = some i) (hz : i.zero = some z)
    (hsize : i.size = size) (hby : i.bytes = bytes) (hzs : z.cells.size = size) (hsz : 0 < size)
    (v : Value) (n : Nat) (xs : List Value) (hs : a.eval s = v) (hown : w.ownsRow base e size v n xs)
    (A : Option Addr) (m c : Nat) (news : List Value) (hx : a.eval x = .slice A m c) (hl : news.length = m * size) (hA : A = none → c = 0)
    (hnews : ∀ j u, news[j]? = some u → ∃ ad, A = some ad ∧ w.cell? (ad.add j) = some u) (h1 : ∀ u ∈ news, u.oneCell' = true)
    (h63 : n + m ≤ maxLen) (hbytes : (n + m) * bytes ≤ 140737488355328) (hbase : base ≤ w.heap.size)
    (h : ∀ v' w', w'.ownsRow base e size v' (n + m) (xs ++ news) → w.grownBy w' v.ownBlock → (v'.ownBlock = v.ownBlock ∨ v'.ownBlock = some w.heap.size) → K (a.put o.dst v') w') : o.wp P a w K Q := by
  obtain ⟨v', w', hr, h2, h3, h4⟩ := append_src (P := P) w base t o.type e i z size bytes ht hi hz hsize hby hzs hsz v n xs hown A m c news hl hA hnews h1 h63 hbytes hbase
  unfold Oper.wp execOp
  simp only [ho, resolve, invoke, builtin, Sem.run_bind, Sem.run_pure, Result.andThen_ok, List.map_toArray, List.map_cons, List.map_nil, hs, hx, hr]
  exact h v' w' h2 h3 h4

theorem wpList_app {ops : Array Oper} {rest : List Oper} {o : Oper} {a : Act} {Q : Exit → Act → World → Prop} (hgd : o.guard = none) (s x : Operand) (t : TypeId)
    (ho : o.op = .call { callee := .builtin .append, args := #[s, x], argTypes := #[t, t] })
    (base : Nat) (e : TypeId) (i : TypeInfo) (z : Value) (size bytes : Nat) (ht : P.underlying t = some (.slice e)) (hi : P.info? e = some i) (hz : i.zero = some z)
    (hsize : i.size = size) (hby : i.bytes = bytes) (hzs : z.cells.size = size) (hsz : 0 < size)
    (v : Value) (n : Nat) (xs : List Value) (hs : a.eval s = v) (hown : w.ownsRow base e size v n xs)
    (A : Option Addr) (m c : Nat) (news : List Value) (hx : a.eval x = .slice A m c) (hl : news.length = m * size) (hA : A = none → c = 0)
    (hnews : ∀ j u, news[j]? = some u → ∃ ad, A = some ad ∧ w.cell? (ad.add j) = some u) (h1 : ∀ u ∈ news, u.oneCell' = true)
    (h63 : n + m ≤ maxLen) (hbytes : (n + m) * bytes ≤ 140737488355328) (hbase : base ≤ w.heap.size)
    (h : ∀ v' w', w'.ownsRow base e size v' (n + m) (xs ++ news) → w.grownBy w' v.ownBlock → (v'.ownBlock = v.ownBlock ∨ v'.ownBlock = some w.heap.size) → wpList P ops Q rest (a.put o.dst v') w') : wpList P ops Q (o :: rest) a w :=
  wpList_plain hgd fun _ hK => wp_app w s x t ho base e i z size bytes ht hi hz hsize hby hzs hsz v n xs hs hown A m c news hx hl hA hnews h1 h63 hbytes hbase fun v' w' h2 h3 h4 => hK _ _ (h v' w' h2 h3 h4)
end
end Go.Proofs.YtogklldofhcohaaDoor

namespace Go.Proofs
open Go.Shelf
def Tryd.growN_ren : Go.Shelf.Ren := ⟨fun | 4 => 61 | n => n, fun | 22 => 28 | 25 => 47 | 3 => 3 | 4 => 4 | 9 => 9 | 20 => 20 | 0 => 0 | n => n, fun | n => n⟩
theorem Tryd.growN : Go.Proofs.Lays8.n4 Tryd.prog Tryd.growN_ren := {
  mixed := by kernel_rfl
  f4 := ⟨Tryd.f61.name, by decide, Tryd.func61.trans (congrArg some (by kernel_rfl))⟩
  t0 := Tryd.underlying0
  a0 := Tryd.isAgg0
  z0 := Tryd.sizeOf0
  v0 := Tryd.zeroValue0
  t3 := Tryd.underlying3
  a3 := Tryd.isAgg3
  z3 := Tryd.sizeOf3
  v3 := Tryd.zeroValue3
  t4 := Tryd.underlying4
  a4 := Tryd.isAgg4
  z4 := Tryd.sizeOf4
  v4 := Tryd.zeroValue4
  t9 := Tryd.underlying9
  a9 := Tryd.isAgg9
  z9 := Tryd.sizeOf9
  v9 := Tryd.zeroValue9
  t20 := Tryd.underlying20
  a20 := Tryd.isAgg20
  z20 := Tryd.sizeOf20
  v20 := Tryd.zeroValue20
  t22 := Tryd.underlying28
  a22 := Tryd.isAgg28
  z22 := Tryd.sizeOf28
  v22 := Tryd.zeroValue28 }
end Go.Proofs

namespace Go.Proofs.YtogklldofhcohaaDoor
open Go.RowKit

def ci (l : List Int) : List Value := l.map (Value.int .i64)
theorem ci_length (l : List Int) : (ci l).length = l.length := by simp [ci]
theorem ci_get (l : List Int) (k : Nat) (x : Int) (h : l[k]? = some x) : (ci l)[k]? = some (.int .i64 x) := by simp [ci, h]
theorem ci_append (l m : List Int) : ci (l ++ m) = ci l ++ ci m := by simp [ci]
/-- The marks K, K+1, .. -/
def mki (n : Nat) (K : Int) : List Int := (List.range n).map fun (j : Nat) => K + (j : Int)
theorem mki_length (n : Nat) (K : Int) : (mki n K).length = n := by simp [mki]
theorem mki_get (n : Nat) (K : Int) (k : Nat) (h : k < n) : (mki n K)[k]? = some (K + k) := by simp [mki, h]
theorem mki_succ (n : Nat) (K : Int) : mki (n + 1) K = mki n K ++ [K + n] := by simp [mki, List.range_succ]
theorem mki_set (l : List Int) (K : Int) (k : Nat) (h : k < l.length) : (mki k K ++ l.drop k).set k (K + k) = mki (k + 1) K ++ l.drop (k + 1) := by
  rw [List.set_append_right _ _ (by rw [mki_length]; omega), mki_length, Nat.sub_self, List.drop_eq_getElem_cons h, List.set_cons_zero, mki_succ]
  simp

def RI (w : World) (A : Option Addr) (l : List Int) : Prop :=
  ∀ (k : Nat) (x : Int), l[k]? = some x → ∃ g o, A = some ⟨g, o, none⟩ ∧ g < w.heap.size ∧ w.cell? ⟨g, o + k, none⟩ = some (.int .i64 x)
theorem RI.below {w w' : World} {A : Option Addr} {l : List Int} (h : RI w A l) (hb : Below w.heap.size w w') : RI w' A l := by
  intro k x hx
  obtain ⟨g, o, hA, hg, h0⟩ := h k x hx
  exact ⟨g, o, hA, Nat.lt_of_lt_of_le hg hb.size, (hb.cell hg).trans h0⟩
def OwnI (w : World) (base t : Nat) (v : Value) (l : List Int) : Prop := w.ownsRow base t 1 v l.length (ci l)
theorem OwnI.form {w : World} {base t : Nat} {v : Value} {l : List Int} (h : OwnI w base t v l) : ∃ A c, v = .slice A l.length c ∧ RI w A l ∧ l.length ≤ c ∧ c ≤ maxLen ∧ (A = none → c = 0) ∧ ∀ ad, A = some ad → ∃ g, ad = ⟨g, 0, none⟩ ∧ base ≤ g := by
  rcases h.2 with ⟨rfl, hn⟩ | ⟨g, cap, cur, rfl, hg, hh, hnc, hm, hs, ht⟩
  · refine ⟨none, 0, by rw [hn], ?_, by omega, Nat.zero_le _, fun _ => rfl, fun ad h => by cases h⟩
    intro k x hx
    have := (List.getElem?_eq_some_iff.1 hx).1
    omega
  · refine ⟨_, _, rfl, ?_, hnc, hm, fun h => (by cases h), fun ad h => ⟨g, (by injection h with h; exact h.symm), hg⟩⟩
    intro k x hx
    have hk := (List.getElem?_eq_some_iff.1 hx).1
    have hlt : g < w.heap.size := by
      rcases Nat.lt_or_ge g w.heap.size with h' | h'
      · exact h'
      · rw [Array.getElem?_eq_none h'] at hh; cases hh
    exact ⟨g, 0, rfl, hlt, by rw [Nat.zero_add, h.cellAt _ (by omega)]; exact ci_get l k x hx⟩
theorem OwnI.ra {w : World} {base t n c : Nat} {A : Option Addr} {l : List Int} (h : OwnI w base t (.slice A n c) l) : RI w A l := by
  obtain ⟨A', c', e, hr, _⟩ := h.form
  injection e with e1 e2 e3
  subst e1
  exact hr
theorem OwnI.below {w w' : World} {base t B : Nat} {v : Value} {l : List Int} (h : OwnI w base t v l) (hb : Below B w w') (hB : w.heap.size ≤ B) : OwnI w' base t v l := by
  unfold OwnI at *
  exact h.kept (row := none) ⟨hb.os, hb.tape, hb.output, hb.size, fun k hk _ => hb.block k (by omega)⟩ (by cases h' : v.ownBlock <;> simp)
theorem OwnI.nil (w : World) (base t : Nat) : OwnI w base t (.slice none 0 0) [] := World.ownsRow_nil w base t 1
theorem OwnI.lt {w : World} {base t : Nat} {v : Value} {l : List Int} (h : OwnI w base t v l) : ∀ k, v.ownBlock = some k → base ≤ k ∧ k < w.heap.size := World.ownsRow.lt h
theorem OwnI.grown {w w' : World} {base t : Nat} {v : Value} {l : List Int} {row : Option Nat} (h : OwnI w base t v l) (hg : w.grownBy w' row) (hne : v.ownBlock = none ∨ v.ownBlock ≠ row) : OwnI w' base t v l :=
  World.ownsRow.kept h hg hne
theorem OwnI.mono {w : World} {base base' t : Nat} {v : Value} {l : List Int} (h : OwnI w base t v l) (hb : base' ≤ base) : OwnI w base' t v l :=
  ⟨h.1, h.2.imp id fun ⟨g, cap, cur, a, b, c⟩ => ⟨g, cap, cur, a, Nat.le_trans hb b, c⟩⟩

/-- n put into an increasing list, unless it is there. -/
def putL (n : Int) : List Int → List Int
  | [] => [n]
  | x :: r => if x < n then x :: putL n r else if x = n then x :: r else n :: x :: r
theorem putL_at (n : Int) (l : List Int) (k : Nat) (hk : k ≤ l.length) (hlt : ∀ i x, i < k → l[i]? = some x → x < n) (hge : ∀ x, l[k]? = some x → n ≤ x) :
    putL n l = l.take k ++ (if l[k]? = some n then l.drop k else n :: l.drop k) := by
  induction l generalizing k with
  | nil => simp at hk; subst hk; simp [putL]
  | cons y l ih =>
    cases k with
    | zero =>
      have := hge y rfl
      simp only [putL, List.take_zero, List.nil_append, List.drop_zero, List.getElem?_cons_zero, Option.some.injEq]
      rw [if_neg (by omega)]
    | succ k =>
      have h0 := hlt 0 y (by omega) rfl
      simp only [putL, if_pos h0, List.take_succ_cons, List.drop_succ_cons, List.getElem?_cons_succ, List.cons_append]
      rw [ih k (by simpa using hk) (fun i x hi hx => hlt (i + 1) x (by omega) (by simpa using hx)) (fun x hx => hge x (by simpa using hx))]
theorem putL_length (n : Int) (l : List Int) : (putL n l).length ≤ l.length + 1 := by
  induction l with
  | nil => simp [putL]
  | cons x l ih =>
    unfold putL
    split
    · simpa using ih
    · split <;> simp
end Go.Proofs.YtogklldofhcohaaDoor

namespace Go.Proofs.YtogklldofhcohaaDoor
open Go.ChangeShapes Go.WideShapes Go.ChangeAt Go.RowKit

theorem Tryd.own : ownKnob Tryd.prog.godebug = none := by kernel_rfl
theorem Tryd.laidOut : laidOutB Tryd.prog = true := by kernel_rfl

section
variable {H : Type} {enc : TypeId × Value → H} {P : Program}

theorem below_all (hl : laidOutB P = true) {W W' : World} (hb : Below W.heap.size W W') :
    ∀ (ts : List TypeId) (vs : List Value) (ds : List (DataW H)) (ps : List MemPlace), (∀ t ∈ ts, P.readableRec t = true ∧ t < P.types.size) →
      DataW.TrodAll enc P W 0 (fun _ => true) true ts vs ds ps → (∀ x ∈ ps, x.block < W.heap.size) → DataW.TrodAll enc P W' 0 (fun b => decide (b < W.heap.size)) true ts vs ds ps
  | [], _, _, _, _, h, _ => by
    obtain ⟨rfl, rfl, rfl⟩ := trodAll_nil h
    rfl
  | t :: ts, _, _, _, hts, h, hp => by
    obtain ⟨v, vs, d, ds, p, q, rfl, rfl, rfl, h1, h2⟩ := trodAll_cons h
    refine ⟨p, q, Below.trod hl (hts t (by simp)).1 (hts t (by simp)).2 h1 hb (fun x hx => hp x (by simp [hx])), ?_, rfl⟩
    exact below_all hl hb ts vs ds q (fun t ht => hts t (by simp [ht])) h2 (fun x hx => hp x (by simp [hx]))

/-- A law's call, its variables with it: it returned true, and below the heap's old size nothing has turned. -/
theorem law_postV {s : ChangeSpec} {f : Func} {apart : Bool} {W W' : World} {args : Array Value} {ds gs : List (DataW H)} {before : List MemPlace}
    (hl : laidOutB P = true) (hts : ∀ t ∈ f.params.toList, P.readableRec t = true ∧ t < P.types.size) (hvr : varsRowed P s.vars = true)
    (hfn : s.fn H (ds ++ gs) = { results := [.lit (.bool true)], args := ds, vars := gs })
    {tb : TypeId} (hr : f.resultTypes = #[tb]) (hu : P.underlying tb = some .bool)
    (hW : DataW.Whole enc P f.params.toList s.vars apart W args.toList ds gs before) (hb : Below W.heap.size W W') :
    s.post enc P f apart true false false W args (.bool true) W' := by
  have hlt : ∀ p ∈ before, p.block < W.heap.size := fun p hp => hW.lt p hp
  have hW0 := hW
  obtain ⟨p, q, hA, hV, rfl, hz, hn⟩ := hW
  refine ⟨ds, gs, p ++ q, [], p, q, hW0, ?_, ?_, ?_, World.keptBut_mono (fun x hx => ⟨hx, ?_⟩) (hb.frame (· ∈ p ++ q)), fun h => by cases h⟩
  · rw [hfn, hr]
    exact trodAll_mk1 (shut_bool hu true)
  · rw [hfn]
    exact below_all hl hb _ _ _ _ hts hA (fun x hx => hlt x (by simp [hx]))
  · rw [hfn]
    exact Below.trodVars hl hb hvr hV
  · rcases List.mem_append.1 hx with h | h
    · exact .inr (.inl h)
    · exact .inr (.inr h)
end
end Go.Proofs.YtogklldofhcohaaDoor

namespace Go.Proofs.YtogklldofhcohaaDoor
open Go.RowKit
theorem Tryd.cellsInt : Tryd.prog.cellsOf 3 = 1 := by kernel_rfl
end Go.Proofs.YtogklldofhcohaaDoor

namespace Go.Proofs.YtogklldofhcohaaDoor
open Go.RowKit

/-- A note as plain numbers: pitch, start, length. -/
abbrev Nt := Int × Int × Int
def nc (x : Nt) : List Value := [.int .i64 x.1, .int .i64 x.2.1, .int .i64 x.2.2]
/-- The cells of notes, three for each. -/
def cl (l : List Nt) : List Value := l.flatMap nc
theorem cl_nil : cl [] = [] := rfl
theorem cl_cons (x : Nt) (l : List Nt) : cl (x :: l) = .int .i64 x.1 :: .int .i64 x.2.1 :: .int .i64 x.2.2 :: cl l := rfl
theorem cl_append (l m : List Nt) : cl (l ++ m) = cl l ++ cl m := by simp [cl, List.flatMap_append]
theorem cl_length (l : List Nt) : (cl l).length = l.length * 3 := by
  induction l with
  | nil => rfl
  | cons x l ih => rw [cl_cons]; simp [ih]; omega

theorem cl_get (l : List Nt) (k : Nat) (x : Nt) (h : l[k]? = some x) :
    (cl l)[k * 3]? = some (.int .i64 x.1) ∧ (cl l)[k * 3 + 1]? = some (.int .i64 x.2.1) ∧ (cl l)[k * 3 + 2]? = some (.int .i64 x.2.2) := by
  induction l generalizing k with
  | nil => simp at h
  | cons y l ih =>
    rw [cl_cons]
    cases k with
    | zero => simp at h; subst h; simp
    | succ k =>
      have h' : l[k]? = some x := by simpa using h
      obtain ⟨a, b, c⟩ := ih k h'
      rw [show (k + 1) * 3 = k * 3 + 1 + 1 + 1 from by omega, show k * 3 + 1 + 1 + 1 + 1 = (k * 3 + 1) + 1 + 1 + 1 from by omega, show k * 3 + 1 + 1 + 1 + 2 = (k * 3 + 2) + 1 + 1 + 1 from by omega]
      simp only [List.getElem?_cons_succ]
      exact ⟨a, b, c⟩

theorem cl_set (l : List Nt) (k : Nat) (x : Nt) (h : k < l.length) :
    (((cl l).set (k * 3) (.int .i64 x.1)).set (k * 3 + 1) (.int .i64 x.2.1)).set (k * 3 + 2) (.int .i64 x.2.2) = cl (l.set k x) := by
  induction l generalizing k with
  | nil => simp at h
  | cons y l ih =>
    cases k with
    | zero => simp [cl_cons]
    | succ k =>
      have h' : k < l.length := by simpa using h
      rw [List.set_cons_succ, cl_cons, cl_cons]
      rw [show (k + 1) * 3 = k * 3 + 1 + 1 + 1 from by omega, show k * 3 + 1 + 1 + 1 + 1 = (k * 3 + 1) + 1 + 1 + 1 from by omega, show k * 3 + 1 + 1 + 1 + 2 = (k * 3 + 2) + 1 + 1 + 1 from by omega]
      simp only [List.set_cons_succ]
      rw [ih k h']

theorem cl_inj : ∀ {l m : List Nt}, cl l = cl m → l = m
  | [], [], _ => rfl
  | [], y :: m, h => by simp [cl_nil, cl_cons] at h
  | x :: l, [], h => by simp [cl_nil, cl_cons] at h
  | x :: l, y :: m, h => by
    simp only [cl_cons, List.cons.injEq, Value.int.injEq, true_and] at h
    obtain ⟨a, b, c, d⟩ := h
    rw [cl_inj d, Prod.ext_iff.2 ⟨a, Prod.ext_iff.2 ⟨b, c⟩⟩]

/-- The marks K, K+1, .. in n notes. -/
def mk : Nat → Int → List Nt
  | 0, _ => []
  | n + 1, K => (K, K + 1, K + 2) :: mk n (K + 3)
theorem mk_length (n : Nat) (K : Int) : (mk n K).length = n := by
  induction n generalizing K with
  | zero => rfl
  | succ n ih => simp [mk, ih]
theorem mk_snoc (n : Nat) (K : Int) : mk (n + 1) K = mk n K ++ [(K + 3 * n, K + 3 * n + 1, K + 3 * n + 2)] := by
  induction n generalizing K with
  | zero => simp [mk]
  | succ n ih =>
    rw [mk, ih (K + 3), mk, List.cons_append]
    congr 2
    simp only [List.cons.injEq, and_true, Prod.mk.injEq]
    omega
theorem mk_get (n : Nat) (K : Int) (k : Nat) (h : k < n) : (mk n K)[k]? = some (K + 3 * k, K + 3 * k + 1, K + 3 * k + 2) := by
  induction n generalizing K k with
  | zero => omega
  | succ n ih =>
    cases k with
    | zero => simp [mk]
    | succ k =>
      simp only [mk, List.getElem?_cons_succ]
      rw [ih (K + 3) k (by omega)]
      simp only [Option.some.injEq, Prod.mk.injEq]
      omega

theorem take_set (l m : List Nt) (k : Nat) (x : Nt) (h : l[k]? = some x) (hm : k < m.length) : (l.take k ++ m.drop k).set k x = l.take (k + 1) ++ m.drop (k + 1) := by
  have hk : k < l.length := (List.getElem?_eq_some_iff.1 h).1
  rw [List.set_append_right _ _ (by simp; omega), List.length_take, Nat.min_eq_left (by omega), Nat.sub_self, List.drop_eq_getElem_cons hm, List.set_cons_zero, List.take_add_one, h]
  simp

theorem mk_set (l : List Nt) (K : Int) (k : Nat) (h : k < l.length) : (mk k K ++ l.drop k).set k (K + 3 * k, K + 3 * k + 1, K + 3 * k + 2) = mk (k + 1) K ++ l.drop (k + 1) := by
  rw [List.set_append_right _ _ (by rw [mk_length]; omega), mk_length, Nat.sub_self, List.drop_eq_getElem_cons h, List.set_cons_zero, mk_snoc]
  simp

/-- What a slice with the address A holds, read in a world: notes l, three cells each. -/
def RA (w : World) (A : Option Addr) (l : List Nt) : Prop :=
  ∀ (k : Nat) (x : Nt), l[k]? = some x → ∃ g o, A = some ⟨g, o, none⟩ ∧ g < w.heap.size ∧
    w.cell? ⟨g, o + k * 3, none⟩ = some (.int .i64 x.1) ∧ w.cell? ⟨g, o + k * 3 + 1, none⟩ = some (.int .i64 x.2.1) ∧ w.cell? ⟨g, o + k * 3 + 2, none⟩ = some (.int .i64 x.2.2)

theorem RA.below {w w' : World} {A : Option Addr} {l : List Nt} (h : RA w A l) (hb : Below w.heap.size w w') : RA w' A l := by
  intro k x hx
  obtain ⟨g, o, hA, hg, h0, h1, h2⟩ := h k x hx
  exact ⟨g, o, hA, Nat.lt_of_lt_of_le hg hb.size, (hb.cell hg).trans h0, (hb.cell hg).trans h1, (hb.cell hg).trans h2⟩
theorem RA.drew {w : World} {A : Option Addr} {l : List Nt} (h : RA w A l) : RA w.drew A l := h
theorem RA.alloc {w : World} {A : Option Addr} {l : List Nt} (h : RA w A l) (o : Obj) : RA (w.alloc o) A l := h.below ((Below.refl _ _).alloc (Nat.le_refl _) o)

/-- A slice of the call's own that holds notes. -/
def Own (w : World) (base t : Nat) (v : Value) (l : List Nt) : Prop := w.ownsRow base t 3 v l.length (cl l)

theorem Own.form {w : World} {base t : Nat} {v : Value} {l : List Nt} (h : Own w base t v l) : ∃ A c, v = .slice A l.length c ∧ RA w A l := by
  rcases h.2 with ⟨rfl, hn⟩ | ⟨g, cap, cur, rfl, hg, hh, hnc, hm, hs, ht⟩
  · refine ⟨none, 0, by rw [hn], ?_⟩
    intro k x hx
    have := (List.getElem?_eq_some_iff.1 hx).1
    omega
  · refine ⟨_, _, rfl, ?_⟩
    intro k x hx
    have hk := (List.getElem?_eq_some_iff.1 hx).1
    obtain ⟨a, b, c⟩ := cl_get l k x hx
    have hlt : g < w.heap.size := by
      rcases Nat.lt_or_ge g w.heap.size with h' | h'
      · exact h'
      · rw [Array.getElem?_eq_none h'] at hh; cases hh
    refine ⟨g, 0, rfl, hlt, ?_, ?_, ?_⟩
    · rw [Nat.zero_add, h.cellAt _ (by omega)]; exact a
    · rw [Nat.zero_add, h.cellAt _ (by omega)]; exact b
    · rw [Nat.zero_add, h.cellAt _ (by omega)]; exact c

theorem Own.form' {w : World} {base t : Nat} {v : Value} {l : List Nt} (h : Own w base t v l) : ∃ A c, v = .slice A l.length c ∧ RA w A l ∧ l.length ≤ c ∧ c ≤ maxLen := by
  have h0 := h
  rcases h.2 with ⟨rfl, hn⟩ | ⟨g, cap, cur, rfl, hg, hh, hnc, hm, hs, ht⟩
  · obtain ⟨A, c, e, hr⟩ := h0.form
    injection e with e1 e2 e3
    subst e1 e3
    exact ⟨none, 0, by rw [hn], hr, by omega, Nat.zero_le _⟩
  · obtain ⟨A, c, e, hr⟩ := h0.form
    injection e with e1 e2 e3
    subst e1 e3
    exact ⟨_, _, rfl, hr, hnc, hm⟩

theorem Own.ra {w : World} {base t n c : Nat} {A : Option Addr} {l : List Nt} (h : Own w base t (.slice A n c) l) : RA w A l := by
  obtain ⟨A', c', e, hr⟩ := h.form
  injection e with e1 e2 e3
  subst e1
  exact hr

theorem Own.below {w w' : World} {base t B : Nat} {v : Value} {l : List Nt} (h : Own w base t v l) (hb : Below B w w') (hB : w.heap.size ≤ B) : Own w' base t v l := by
  unfold Own at *
  exact h.kept (row := none) ⟨hb.os, hb.tape, hb.output, hb.size, fun k hk _ => hb.block k (by omega)⟩ (by cases h' : v.ownBlock <;> simp)
theorem Own.nil (w : World) (base t : Nat) : Own w base t (.slice none 0 0) [] := World.ownsRow_nil w base t 3
theorem Own.lt {w : World} {base t : Nat} {v : Value} {l : List Nt} (h : Own w base t v l) : ∀ k, v.ownBlock = some k → base ≤ k ∧ k < w.heap.size := World.ownsRow.lt h
theorem Own.grown {w w' : World} {base t : Nat} {v : Value} {l : List Nt} {row : Option Nat} (h : Own w base t v l) (hg : w.grownBy w' row) (hne : v.ownBlock = none ∨ v.ownBlock ≠ row) : Own w' base t v l :=
  World.ownsRow.kept h hg hne

theorem made_cl (n : Nat) : (madeCells #[.int .i64 0, .int .i64 0, .int .i64 0] (n * 3)).toList = cl (List.replicate n (0, 0, 0)) := by
  apply List.ext_getElem?
  intro i
  by_cases hi : i < n * 3
  · have hk : (List.replicate n ((0, 0, 0) : Nt))[i / 3]? = some (0, 0, 0) := by rw [List.getElem?_replicate, if_pos (by omega)]
    obtain ⟨a, b, c⟩ := cl_get _ _ _ hk
    have hl : (madeCells #[Value.int .i64 0, .int .i64 0, .int .i64 0] (n * 3)).toList[i]? = some (.int .i64 0) := by
      simp [madeCells, hi]
      have : i % 3 = 0 ∨ i % 3 = 1 ∨ i % 3 = 2 := by omega
      rcases this with h | h | h <;> rw [h] <;> rfl
    rw [hl]
    have : i = i / 3 * 3 ∨ i = i / 3 * 3 + 1 ∨ i = i / 3 * 3 + 2 := by omega
    rcases this with h | h | h
    · rw [h, a]
    · rw [h, b]
    · rw [h, c]
  · rw [List.getElem?_eq_none (by simp [size_madeCells]; omega), List.getElem?_eq_none (by rw [cl_length]; simp; omega)]

end Go.Proofs.YtogklldofhcohaaDoor

namespace Go.Proofs.YtogklldofhcohaaDoor
set_option linter.unusedVariables false

/-- Strictly increasing. -/
def Inc : List Int → Prop
  | [] => True
  | x :: r => (∀ y ∈ r, x < y) ∧ Inc r

theorem mem_putL (n : Int) (l : List Int) (y : Int) : y ∈ putL n l ↔ y = n ∨ y ∈ l := by
  induction l with
  | nil => simp [putL]
  | cons x l ih =>
    unfold putL
    split
    · simp only [List.mem_cons, ih]
      constructor
      · rintro (h | h | h) <;> simp [h]
      · rintro (h | h | h) <;> simp [h]
    · split
      · rename_i h1 h2
        simp only [List.mem_cons]
        constructor
        · intro h; exact .inr h
        · rintro (h | h)
          · exact .inl (h.trans h2.symm)
          · exact h
      · simp only [List.mem_cons]

theorem putL_inc (n : Int) (l : List Int) (h : Inc l) : Inc (putL n l) := by
  induction l with
  | nil => simp [putL, Inc]
  | cons x l ih =>
    unfold putL
    split
    · rename_i hx
      refine ⟨fun y hy => ?_, ih h.2⟩
      rcases (mem_putL n l y).1 hy with rfl | hy
      · exact hx
      · exact h.1 y hy
    · split
      · exact h
      · refine ⟨fun y hy => ?_, h⟩
        rcases List.mem_cons.1 hy with rfl | hy
        · omega
        · have := h.1 y hy; omega

theorem putL_perm (n : Int) (l : List Int) (h : n ∉ l) : (putL n l).Perm (n :: l) := by
  induction l with
  | nil => simp [putL]
  | cons x l ih =>
    simp only [List.mem_cons, not_or] at h
    unfold putL
    split
    · exact ((ih h.2).cons x).trans (List.Perm.swap n x l)
    · rw [if_neg (fun e => h.1 e.symm)]

/-- Increasing lists with the same members are one. -/
theorem Inc.pairwise {l : List Int} (h : Inc l) : l.Pairwise (fun a b => a ≤ b) := by
  induction l with
  | nil => exact List.Pairwise.nil
  | cons x l ih => exact List.Pairwise.cons (fun y hy => Int.le_of_lt (h.1 y hy)) (ih h.2)

theorem sorted_eq {l m : List Int} (hp : l.Perm m) (hl : l.Pairwise (fun a b => a ≤ b)) (hm : m.Pairwise (fun a b => a ≤ b)) : l = m :=
  List.Perm.eq_of_pairwise (fun a b _ _ h1 h2 => Int.le_antisymm h1 h2) hl hm hp

theorem merge_pairwise (zs : List Int) : (zs.mergeSort fun x y => decide (x ≤ y)).Pairwise (fun a b => a ≤ b) := by
  have := List.pairwise_mergeSort (le := fun x y : Int => decide (x ≤ y)) (by intro a b c; simp; omega) (by intro a b; simp; omega) zs
  exact this.imp (by intro a b h; simpa using h)

/-- An increasing list made of zs' members, put one by one: zs sorted. -/
theorem inc_merge {l zs : List Int} (hp : l.Perm zs) (hl : Inc l) : l = zs.mergeSort fun x y => decide (x ≤ y) :=
  sorted_eq (hp.trans (List.mergeSort_perm _ _).symm) hl.pairwise (merge_pairwise zs)

theorem Inc.get {l : List Int} (h : Inc l) : ∀ (i j : Nat) (x y : Int), i < j → l[i]? = some x → l[j]? = some y → x < y := by
  induction l with
  | nil => intro i j x y _ hx; simp at hx
  | cons a l ih =>
    intro i j x y hij hx hy
    cases j with
    | zero => omega
    | succ j =>
      rw [List.getElem?_cons_succ] at hy
      cases i with
      | zero =>
        rw [List.getElem?_cons_zero] at hx
        injection hx with hx
        subst hx
        exact h.1 y (List.mem_of_getElem? hy)
      | succ i => exact ih h.2 i j x y (by omega) hx hy
end Go.Proofs.YtogklldofhcohaaDoor

namespace Go.Proofs.YtogklldofhcohaaDoor
open Go.RowKit
set_option linter.unusedVariables false
set_option linter.unusedSimpArgs false

theorem RA.cells {w : World} {A : Option Addr} {l : List Nt} (h : RA w A l) (j : Nat) (u : Value) (hu : (cl l)[j]? = some u) : ∃ ad, A = some ad ∧ w.cell? (ad.add j) = some u := by
  have hj := (List.getElem?_eq_some_iff.1 hu).1
  rw [cl_length] at hj
  have hx : l[j / 3]? = some (l[j / 3]'(by omega)) := List.getElem?_eq_getElem _
  generalize l[j / 3]'(by omega) = x at hx
  obtain ⟨g, o, rfl, _, h0, h1, h2⟩ := h _ _ hx
  obtain ⟨c0, c1, c2⟩ := cl_get l _ x hx
  refine ⟨_, rfl, ?_⟩
  rw [Addr.add_lit]
  have hr : j % 3 = 0 ∨ j % 3 = 1 ∨ j % 3 = 2 := by omega
  rcases hr with hr | hr | hr
  · have e : j / 3 * 3 = j := by omega
    rw [e] at c0
    rw [c0] at hu
    rw [← hu]
    have e2 : o + j / 3 * 3 = o + j := by omega
    rw [e2] at h0
    exact h0
  · have e : j / 3 * 3 + 1 = j := by omega
    rw [e] at c1
    rw [c1] at hu
    rw [← hu]
    have e2 : o + j / 3 * 3 + 1 = o + j := by omega
    rw [e2] at h1
    exact h1
  · have e : j / 3 * 3 + 2 = j := by omega
    rw [e] at c2
    rw [c2] at hu
    rw [← hu]
    have e2 : o + j / 3 * 3 + 2 = o + j := by omega
    rw [e2] at h2
    exact h2

theorem RA.take {w : World} {A : Option Addr} {l : List Nt} (h : RA w A l) (k : Nat) : RA w A (l.take k) := by
  intro i x hx
  rw [List.getElem?_take] at hx
  split at hx
  · exact h i x hx
  · cases hx
theorem RA.at {w : World} {g o : Nat} {l : List Nt} (h : RA w (some ⟨g, o, none⟩) l) (k : Nat) (x : Nt) (hx : l[k]? = some x) : g < w.heap.size ∧ w.cell? ⟨g, o + k * 3, none⟩ = some (.int .i64 x.1) ∧ w.cell? ⟨g, o + k * 3 + 1, none⟩ = some (.int .i64 x.2.1) ∧ w.cell? ⟨g, o + k * 3 + 2, none⟩ = some (.int .i64 x.2.2) := by
  obtain ⟨g', o', hgo, hg, h0, h1, h2⟩ := h k x hx
  simp only [Option.some.injEq, Addr.mk.injEq, and_true] at hgo
  obtain ⟨rfl, rfl⟩ := hgo
  exact ⟨hg, h0, h1, h2⟩
theorem RA.dropO {w : World} {g o k c : Nat} {A : Option Addr} {l : List Nt} (h : RA w (some ⟨g, o, none⟩) l) (hlc : l.length ≤ c) (hA : ¬ c = k → A = some ⟨g, o + k * 3, none⟩) : RA w A (l.drop k) := by
  intro i x hx
  rw [List.getElem?_drop] at hx
  have := (List.getElem?_eq_some_iff.1 hx).1
  obtain ⟨hg, h0, h1, h2⟩ := h.at _ x hx
  refine ⟨g, _, hA (by omega), hg, ?_, ?_, ?_⟩
  · rw [show o + k * 3 + i * 3 = o + (k + i) * 3 from by omega]; exact h0
  · rw [show o + k * 3 + i * 3 + 1 = o + (k + i) * 3 + 1 from by omega]; exact h1
  · rw [show o + k * 3 + i * 3 + 2 = o + (k + i) * 3 + 2 from by omega]; exact h2
theorem RA.drop {w : World} {g k c : Nat} {A : Option Addr} {l : List Nt} (h : RA w (some ⟨g, 0, none⟩) l) (hlc : l.length ≤ c) (hA : ¬ c = k → A = some ⟨g, 0 + k * 3, none⟩) : RA w A (l.drop k) := RA.dropO h hlc hA
theorem RA.nil (w : World) (A : Option Addr) : RA w A [] := fun k x h => by simp at h
theorem RA.one {w : World} {b : Nat} {p s n : Int} {t : TypeId} {fr : Nat × Nat} (h : w.heap[b]? = some (.cells #[.int .i64 p, .int .i64 s, .int .i64 n] t fr)) : RA w (some ⟨b, 0, none⟩) [(p, s, n)] := by
  intro i x hx
  cases i with
  | succ i => simp at hx
  | zero =>
    simp at hx
    subst hx
    refine ⟨b, 0, rfl, (Array.getElem?_eq_some_iff.1 h).1, ?_, ?_, ?_⟩
    · rw [cell_of_row w b _ _ _ _ h]; rfl
    · rw [cell_of_row w b _ _ _ _ h]; rfl
    · rw [cell_of_row w b _ _ _ _ h]; rfl

theorem Own.empty {w : World} {base b : Nat} {t : TypeId} (h : w.heap[b]? = some (.cells #[] t (0, 0))) (hb : base ≤ b) : Own w base t (.slice (some ⟨b, 0, none⟩) 0 0) [] :=
  ⟨by simp [cl_nil], .inr ⟨b, 0, #[], rfl, hb, h, Nat.le_refl _, Nat.zero_le _, rfl, by simp [cl_nil]⟩⟩
theorem Own.mono {w : World} {base base' t : Nat} {v : Value} {l : List Nt} (h : Own w base t v l) (hb : base' ≤ base) : Own w base' t v l :=
  ⟨h.1, h.2.imp id fun ⟨g, cap, cur, a, b, c⟩ => ⟨g, cap, cur, a, Nat.le_trans hb b, c⟩⟩
theorem Own.alloc {w : World} {base t : Nat} {v : Value} {l : List Nt} (h : Own w base t v l) (o : Obj) : Own (w.alloc o) base t v l := h.below ((Below.refl _ _).alloc (Nat.le_refl _) o) (Nat.le_refl _)

theorem cl_one (l : List Nt) : ∀ u ∈ cl l, u.oneCell' = true := by
  induction l with
  | nil => simp [cl_nil]
  | cons x l ih =>
    intro u hu
    rw [cl_cons] at hu
    rcases List.mem_cons.1 hu with rfl | hu
    · rfl
    rcases List.mem_cons.1 hu with rfl | hu
    · rfl
    rcases List.mem_cons.1 hu with rfl | hu
    · rfl
    exact ih u hu
theorem cl_take (l : List Nt) (k : Nat) (hk : k ≤ l.length) : (cl l).take (k * 3) = cl (l.take k) := by
  have h : cl l = cl (l.take k) ++ cl (l.drop k) := by rw [← cl_append, List.take_append_drop]
  rw [h, List.take_left']
  rw [cl_length, List.length_take]
  omega
/-- A slice of the call's own, cut short: it holds the first k rows and keeps its room. -/
theorem Own.cut {w : World} {base t g n c : Nat} {l : List Nt} (h : Own w base t (.slice (some ⟨g, 0, none⟩) n c) l) (k : Nat) (hk : k ≤ l.length) : Own w base t (.slice (some ⟨g, 0, none⟩) k c) (l.take k) := by
  have hl : (l.take k).length = k := by rw [List.length_take]; omega
  rcases h.2 with ⟨h', _⟩ | ⟨g', cap, cur, h', hb, hg, hnc, hcm, hcs, ht⟩
  · cases h'
  · simp only [Value.slice.injEq, Option.some.injEq, Addr.mk.injEq, and_true, true_and] at h'
    obtain ⟨rfl, rfl, rfl⟩ := h'
    refine ⟨by rw [cl_length], .inr ⟨g, c, cur, by rw [hl], hb, hg, by omega, hcm, hcs, ?_⟩⟩
    rw [hl, ← cl_take l k hk, ← ht, List.take_take]
    congr 1
    have := Nat.mul_le_mul_right 3 hk
    omega
theorem Own.room {w : World} {base t g n c : Nat} {l : List Nt} (h : Own w base t (.slice (some ⟨g, 0, none⟩) n c) l) : n = l.length ∧ n ≤ c ∧ c ≤ maxLen ∧ base ≤ g ∧ g < w.heap.size := by
  have hlt := h.lt g rfl
  rcases h.2 with ⟨h', _⟩ | ⟨g', cap, cur, h', hb, hg, hnc, hcm, hcs, ht⟩
  · cases h'
  · simp only [Value.slice.injEq, Option.some.injEq, Addr.mk.injEq, and_true, true_and] at h'
    obtain ⟨rfl, rfl, rfl⟩ := h'
    exact ⟨rfl, hnc, hcm, hlt.1, hlt.2⟩
/-- A slice of the call's own that is not empty. -/
theorem Own.some {w : World} {base t : Nat} {v : Value} {l : List Nt} (h : Own w base t v l) (hl : 0 < l.length) : ∃ g c, v = .slice (some ⟨g, 0, none⟩) l.length c := by
  rcases h.2 with ⟨_, h'⟩ | ⟨g', cap, cur, h', _⟩
  · omega
  · exact ⟨g', cap, h'⟩

end Go.Proofs.YtogklldofhcohaaDoor

namespace Go.Proofs.YtogklldofhcohaaDoor
end Go.Proofs.YtogklldofhcohaaDoor

namespace Go.Proofs.YtogklldofhcohaaDoor
open Go.RowKit
set_option linter.unusedVariables false

/-- A number lies in a range. -/
def inR (n lo hi : Int) : Bool := decide (lo ≤ n) && decide (n ≤ hi)
/-- A note is valid. -/
def noteB (p s n : Int) : Bool := inR p 24 96 && (inR s 0 999 && inR n 1 99)
theorem inR_false {n lo hi : Int} (h : n < lo ∨ hi < n) : inR n lo hi = false := by
  unfold inR; rw [Bool.and_eq_false_iff]; simp; omega
theorem inR_true {n lo hi : Int} (h : lo ≤ n) (k : n ≤ hi) : inR n lo hi = true := by simp [inR, h, k]

theorem ret_bool {a b : Bool} (h : a = b) : Ending.returned (.bool a) = .returned (.bool b) := by rw [h]
theorem ret_int {k : IntKind} {a b : Int} (h : a = b) : Ending.returned (.int k a) = .returned (.int k b) := by rw [h]
theorem bcell {W w1 : World} (hb : Below W.heap.size W w1) : (∀ b o, b < W.heap.size → w1.cell? ⟨b, o, none⟩ = W.cell? ⟨b, o, none⟩) ∧ (∀ b o, b < W.heap.size → w1.frozen? ⟨b, o, none⟩ = W.frozen? ⟨b, o, none⟩) :=
  ⟨fun b o h => hb.cell (p := ⟨b, o, none⟩) h, fun b o h => hb.frozen (p := ⟨b, o, none⟩) h⟩

set_option maxHeartbeats 400000 in
theorem inRange_any (n lo hi : Int) (w : World) :
    Calls Tryd.prog 50 #[.int .i64 n, .int .i64 lo, .int .i64 hi] w fun e w' => e = .returned (.bool (inR n lo hi)) ∧ w = w' := by
  go_enter Tryd.func50, Tryd.ntmps50
  go_wp2
  · go_ret; exact ⟨ret_bool (by simp [inR, *]), rfl⟩
  · go_ret; exact ⟨ret_bool (by rw [inR_false (by omega)]), rfl⟩

set_option maxHeartbeats 400000 in
theorem l1In_any (n lo hi : Int) (w : World) :
    Calls Tryd.prog 44 #[.int .i64 n, .int .i64 lo, .int .i64 hi] w fun e w' => e = .returned (.bool (inR n lo hi)) ∧ w = w' := by
  go_enter Tryd.func44, Tryd.ntmps44
  go_wp2
  · go_ret; exact ⟨ret_bool (by simp [inR, *]), rfl⟩
  · go_ret; exact ⟨ret_bool (by rw [inR_false (by omega)]), rfl⟩

set_option maxHeartbeats 400000 in
theorem isPitch_any (n : Int) (w : World) :
    Calls Tryd.prog 38 #[.int .i64 n] w fun e w' => e = .returned (.bool (inR n 24 96)) ∧ w = w' := by
  go_enter Tryd.func38, Tryd.ntmps38
  go_wp2_with (go_at_call 50; refine (inRange_any _ _ _ _).mono ?_; rintro e w' ⟨rfl, rfl⟩)
  go_ret; exact ⟨rfl, rfl⟩

set_option maxHeartbeats 400000 in
theorem ntPitch_any (n : Int) (w : World) :
    Calls Tryd.prog 34 #[.int .i64 n] w fun e w' => e = .returned (.bool (inR n 24 96)) ∧ w = w' := by
  go_enter Tryd.func34, Tryd.ntmps34
  go_wp2_with (go_at_call 44; refine (l1In_any _ _ _ _).mono ?_; rintro e w' ⟨rfl, rfl⟩)
  go_ret; exact ⟨rfl, rfl⟩

set_option maxHeartbeats 400000 in
theorem implIsNote_any (p s n : Int) (w : World) :
    Calls Tryd.prog 39 #[.agg #[.int .i64 p, .int .i64 s, .int .i64 n]] w fun e w' => e = .returned (.bool (noteB p s n)) ∧ Below w.heap.size w w' := by
  go_enter Tryd.func39, Tryd.ntmps39
  go_wp2_with (first
    | (go_at_call 38; refine (isPitch_any _ _).mono ?_; rintro e w' ⟨rfl, rfl⟩)
    | (go_at_call 50; refine (inRange_any _ _ _ _).mono ?_; rintro e w' ⟨rfl, rfl⟩))
  go_ways
  all_goals (go_ret; exact ⟨ret_bool (by simp [noteB, *]), (Below.refl _ _).alloc (Nat.le_refl _) _⟩)

set_option maxHeartbeats 400000 in
theorem ntNote_any (p s n : Int) (w : World) :
    Calls Tryd.prog 46 #[.agg #[.int .i64 p, .int .i64 s, .int .i64 n]] w fun e w' => e = .returned (.bool (noteB p s n)) ∧ Below w.heap.size w w' := by
  go_enter Tryd.func46, Tryd.ntmps46
  go_wp2_with (first
    | (go_at_call 34; refine (ntPitch_any _ _).mono ?_; rintro e w' ⟨rfl, rfl⟩)
    | (go_at_call 44; refine (l1In_any _ _ _ _).mono ?_; rintro e w' ⟨rfl, rfl⟩))
  go_ways
  all_goals (go_ret; exact ⟨ret_bool (by simp [noteB, *]), (Below.refl _ _).alloc (Nat.le_refl _) _⟩)

end Go.Proofs.YtogklldofhcohaaDoor

namespace Go.Proofs
open Go.Shelf
def Tryd.sortNotesF_ren : Go.Shelf.Ren := ⟨fun | 6 => 59 | 15 => 63 | 14 => 62 | 28 => 72 | 29 => 73 | 20 => 64 | 21 => 65 | 22 => 66 | 23 => 67 | 24 => 68 | 25 => 69 | 26 => 70 | 27 => 71 | 46 => 74 | 47 => 75 | 48 => 76 | 49 => 77 | 50 => 78 | 57 => 79 | n => n, fun | 22 => 28 | 24 => 47 | 25 => 66 | 3 => 3 | 39 => 86 | 0 => 0 | 53 => 95 | 55 => 97 | 4 => 4 | 46 => 89 | 45 => 88 | 50 => 68 | 5 => 5 | 9 => 9 | 66 => 98 | 70 => 102 | 76 => 104 | 77 => 56 | n => n, fun | n => n⟩
theorem Tryd.sortNotesF : Go.Proofs.SlLaysF0.n6 Tryd.prog Tryd.sortNotesF_ren := {
  mixed := by kernel_rfl
  f6 := ⟨Tryd.f59.name, by decide, Tryd.func59.trans (congrArg some (by kernel_rfl))⟩
  f14 := ⟨Tryd.f62.name, by decide, Tryd.func62.trans (congrArg some (by kernel_rfl))⟩
  f15 := Tryd.func63.trans (congrArg some (by kernel_rfl))
  f20 := ⟨Tryd.f64.name, by decide, Tryd.func64.trans (congrArg some (by kernel_rfl))⟩
  f21 := ⟨Tryd.f65.name, by decide, Tryd.func65.trans (congrArg some (by kernel_rfl))⟩
  f22 := ⟨Tryd.f66.name, by decide, Tryd.func66.trans (congrArg some (by kernel_rfl))⟩
  f23 := ⟨Tryd.f67.name, by decide, Tryd.func67.trans (congrArg some (by kernel_rfl))⟩
  f24 := ⟨Tryd.f68.name, by decide, Tryd.func68.trans (congrArg some (by kernel_rfl))⟩
  f25 := ⟨Tryd.f69.name, by decide, Tryd.func69.trans (congrArg some (by kernel_rfl))⟩
  f26 := ⟨Tryd.f70.name, by decide, Tryd.func70.trans (congrArg some (by kernel_rfl))⟩
  f27 := ⟨Tryd.f71.name, by decide, Tryd.func71.trans (congrArg some (by kernel_rfl))⟩
  f28 := Tryd.func72.trans (congrArg some (by kernel_rfl))
  f29 := Tryd.func73.trans (congrArg some (by kernel_rfl))
  f46 := ⟨Tryd.f74.name, by decide, Tryd.func74.trans (congrArg some (by kernel_rfl))⟩
  f47 := Tryd.func75.trans (congrArg some (by kernel_rfl))
  f48 := Tryd.func76.trans (congrArg some (by kernel_rfl))
  f49 := ⟨Tryd.f77.name, by decide, Tryd.func77.trans (congrArg some (by kernel_rfl))⟩
  f50 := ⟨Tryd.f78.name, by decide, Tryd.func78.trans (congrArg some (by kernel_rfl))⟩
  f57 := ⟨Tryd.f79.name, by decide, Tryd.func79.trans (congrArg some (by kernel_rfl))⟩
  t0 := Tryd.underlying0
  a0 := Tryd.isAgg0
  z0 := Tryd.sizeOf0
  v0 := Tryd.zeroValue0
  t3 := Tryd.underlying3
  a3 := Tryd.isAgg3
  z3 := Tryd.sizeOf3
  v3 := Tryd.zeroValue3
  t4 := Tryd.underlying4
  a4 := Tryd.isAgg4
  z4 := Tryd.sizeOf4
  v4 := Tryd.zeroValue4
  t5 := Tryd.underlying5
  a5 := Tryd.isAgg5
  z5 := Tryd.sizeOf5
  v5 := Tryd.zeroValue5
  t9 := Tryd.underlying9
  a9 := Tryd.isAgg9
  z9 := Tryd.sizeOf9
  v9 := Tryd.zeroValue9
  t22 := Tryd.underlying28
  a22 := Tryd.isAgg28
  z22 := Tryd.sizeOf28
  v22 := Tryd.zeroValue28
  t25 := Tryd.underlying66
  a25 := Tryd.isAgg66
  z25 := Tryd.sizeOf66
  v25 := Tryd.zeroValue66
  t39 := Tryd.underlying86
  a39 := Tryd.isAgg86
  z39 := Tryd.sizeOf86
  v39 := Tryd.zeroValue86
  t45 := Tryd.underlying88
  a45 := Tryd.isAgg88
  z45 := Tryd.sizeOf88
  v45 := Tryd.zeroValue88
  t46 := Tryd.underlying89
  a46 := Tryd.isAgg89
  z46 := Tryd.sizeOf89
  v46 := Tryd.zeroValue89
  t50 := Tryd.underlying68
  a50 := Tryd.isAgg68
  z50 := Tryd.sizeOf68
  v50 := Tryd.zeroValue68
  t53 := Tryd.underlying95
  a53 := Tryd.isAgg95
  z53 := Tryd.sizeOf95
  v53 := Tryd.zeroValue95
  t55 := Tryd.underlying97
  a55 := Tryd.isAgg97
  z55 := Tryd.sizeOf97
  v55 := Tryd.zeroValue97
  t66 := Tryd.underlying98
  a66 := Tryd.isAgg98
  z66 := Tryd.sizeOf98
  v66 := Tryd.zeroValue98
  t70 := Tryd.underlying102
  a70 := Tryd.isAgg102
  z70 := Tryd.sizeOf102
  v70 := Tryd.zeroValue102
  t76 := Tryd.underlying104
  a76 := Tryd.isAgg104
  z76 := Tryd.sizeOf104
  v76 := Tryd.zeroValue104
  t77 := Tryd.underlying56
  a77 := Tryd.isAgg56
  z77 := Tryd.sizeOf56
  v77 := Tryd.zeroValue56 }
end Go.Proofs

namespace Go.Proofs.YtogklldofhcohaaDoor
open Go.RowKit
set_option linter.unusedVariables false
set_option linter.unusedSimpArgs false

set_option maxHeartbeats 400000 in
theorem l1Most_any (x y : Int) (w : World) :
    Calls Tryd.prog 56 #[.int .i64 x, .int .i64 y] w fun e w' => e = .returned (.int .i64 (if y < x then x else y)) ∧ w = w' := by
  go_enter Tryd.func56, Tryd.ntmps56
  go_wp2
  all_goals (go_ret; exact ⟨ret_int (by first | rfl | omega | (split <;> omega)), rfl⟩)

set_option maxHeartbeats 400000 in
theorem l1Abs_any (x : Int) (w : World) (h : -9223372036854775807 ≤ x) (h' : x ≤ 9223372036854775807) :
    Calls Tryd.prog 49 #[.int .i64 x] w fun e w' => e = .returned (.int .i64 (x.natAbs : Int)) ∧ w = w' := by
  go_enter Tryd.func49, Tryd.ntmps49
  go_wp2_with (go_at_call 56; refine (l1Most_any _ _ _).mono ?_; rintro e w' ⟨rfl, rfl⟩)
  all_goals (go_ret; exact ⟨ret_int (by first | omega | (split <;> omega)), rfl⟩)

set_option maxHeartbeats 400000 in
theorem apart_any (a b : Int) (w : World) (ha : -100000 ≤ a) (ha' : a ≤ 100000) (hb : -100000 ≤ b) (hb' : b ≤ 100000) :
    Calls Tryd.prog 58 #[.int .i64 a, .int .i64 b] w fun e w' => e = .returned (.int .i64 ((a - b).natAbs : Int)) ∧ w = w' := by
  go_enter Tryd.func58, Tryd.ntmps58
  go_wp2
  all_goals (go_ret; exact ⟨ret_int (by first | omega | (split <;> omega)), rfl⟩)
end Go.Proofs.YtogklldofhcohaaDoor
