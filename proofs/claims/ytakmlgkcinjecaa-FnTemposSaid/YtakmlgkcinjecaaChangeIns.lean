/- The library's slices.Insert of one struct into a slice of the call's own: at its end, in place, and into a new row. -/
import Derived.Test.YtakmlgkcinjecaaChangeApp
import Derived.Lib.Overlaps
import Derived.Lib.AppendZerosOnto
import Derived.Laws.Externs
import Derived.Laws.CopyRow
import Derived.IntWalk
namespace Go.Proofs.Ytakmlgkcinjecaa
open Go.RowKit
set_option linter.unusedVariables false
set_option linter.unusedSimpArgs false

theorem run_copyChange (w : World) (g o dl dc : Nat) (ad : Addr) (m sc q ty : Nat) (cur : Array Value) (news : List Value) (hq : Nat.min m dl = q) (hl : news.length = q * 2)
    (hg : w.heap[g]? = some (.cells cur 32 (0, 0))) (hsrc : ∀ j v, news[j]? = some v → w.cell? (ad.add j) = some v) (h1 : ∀ v ∈ news, v.oneCell' = true) (hfit : o + q * 2 ≤ cur.size) :
    (Builtin.copy_ #[23, 23] ty #[.slice (some ⟨g, o, none⟩) dl dc, .slice (some ad) m sc]).run Try.prog w = .ok (goInt q) (w.setRow g (cur.toList.take o ++ news ++ cur.toList.drop (o + q * 2)).toArray) := by
  obtain ⟨i, hi, hz, hs, hb⟩ := info_parts Try.info_Change
  have hf := run_firstCells_some (P := Try.prog) w i.size q ad m sc news (by rw [hs]; exact hl) hsrc
  have hst := run_storeCells_at Try.prog g o 32 news 0 cur w hg (by rw [hl]; omega) h1
  simp only [Nat.add_zero, hl] at hst
  have hq' : min m dl = q := hq
  simp [Builtin.copy_, run_underlying Try.underlying23, Builtin.lenOf, sizeOf, typeInfo, hi, hq, hq', hf, hst]

theorem wpList_copyChange (w : World) {ops : Array Oper} {rest : List Oper} {o : Oper} {a : Act} {Q : Exit → Act → World → Prop} (hgd : o.guard = none) (d s : Operand)
    (ho : o.op = .call { callee := .builtin .copy, args := #[d, s], argTypes := #[23, 23] })
    (g of dl dc : Nat) (ad : Addr) (m sc q : Nat) (hd : a.eval d = .slice (some ⟨g, of, none⟩) dl dc) (hs : a.eval s = .slice (some ad) m sc) (hq : Nat.min m dl = q)
    (cur : Array Value) (news : List Value) (hl : news.length = q * 2) (hg : w.heap[g]? = some (.cells cur 32 (0, 0))) (hsrc : ∀ j v, news[j]? = some v → w.cell? (ad.add j) = some v) (h1 : ∀ v ∈ news, v.oneCell' = true) (hfit : of + q * 2 ≤ cur.size)
    (h : ∀ w', Hid (w'.heap[g]? = some (.cells (cur.toList.take of ++ news ++ cur.toList.drop (of + q * 2)).toArray 32 (0, 0))) → w.grownBy w' (some g) → wpList Try.prog ops Q rest (a.put o.dst (goInt q)) w') : wpList Try.prog ops Q (o :: rest) a w := by
  refine wpList_plain hgd fun K hK => ?_
  have hrun := run_copyChange w g of dl dc ad m sc q o.type cur news hq hl hg hsrc h1 hfit
  unfold Oper.wp
  simp only [execOp, ho, resolve, invoke, builtin, Sem.run_bind, Sem.run_pure, Result.andThen_ok, List.map_toArray, List.map_cons, List.map_nil, hd, hs, hrun]
  exact hK _ _ (h _ (Lib.hid (setRow_heap w g cur _ 32 _ hg)) ⟨rfl, rfl, rfl, by simp, fun k _ hk => setRow_other w g k _ (fun e => hk (by simp [e]))⟩)

theorem rawOfChange {w : World} {base t g n c : Nat} {l : List Nt2} (h : Own2 w base t (.slice (some ⟨g, 0, none⟩) n c) l) : ∃ cur : Array Value, w.heap[g]? = some (.cells cur t (0, 0)) ∧ cur.size = c * 2 ∧ cur.toList.take (n * 2) = cl2 l ∧ base ≤ g ∧ n ≤ c ∧ c ≤ maxLen := by
  rcases h.2 with ⟨h', _⟩ | ⟨g', cap, cur, h', hb, hg, hnc, hcm, hcs, ht⟩
  · cases h'
  · simp only [Value.slice.injEq, Option.some.injEq, Addr.mk.injEq, and_true, true_and] at h'
    obtain ⟨rfl, rfl, rfl⟩ := h'
    exact ⟨cur, hg, hcs, ht, hb, hnc, hcm⟩
theorem own_rawChange {w : World} {base t g c : Nat} {l : List Nt2} {cur : List Value} (hg : w.heap[g]? = some (.cells cur.toArray t (0, 0))) (hs : cur.length = c * 2) (ht : cur.take (l.length * 2) = cl2 l) (hb : base ≤ g) (hnc : l.length ≤ c) (hcm : c ≤ maxLen) : Own2 w base t (.slice (some ⟨g, 0, none⟩) l.length c) l :=
  ⟨cl2_length l, .inr ⟨g, c, cur.toArray, rfl, hb, hg, hnc, hcm, by simpa using hs, by simpa using ht⟩⟩

/-- What the two copies leave, in place. -/
theorem ins_placeChange {cur : List Value} {l : List Nt2} {x : Nt2} {k c : Nat} (hc : cur.length = c * 2) (ht : cur.take (l.length * 2) = cl2 l) (hk : k ≤ l.length) (hn : l.length + 1 ≤ c) :
    let A1 := cur.take ((k + 1) * 2) ++ cl2 (l.drop k) ++ cur.drop ((k + 1) * 2 + (l.length - k) * 2)
    let A2 := A1.take (k * 2) ++ cl2 [x] ++ A1.drop (k * 2 + 1 * 2)
    A1.length = c * 2 ∧ A2.length = c * 2 ∧ A2.take ((l.length + 1) * 2) = cl2 (l.take k ++ x :: l.drop k) := by
  have hd : (cl2 (l.drop k)).length = (l.length - k) * 2 := by rw [cl2_length, List.length_drop]
  have h1 : (cl2 [x]).length = 1 * 2 := by rw [cl2_length]; rfl
  have htk : cur.take (k * 2) = cl2 (l.take k) := by
    rw [← cl2_take l k hk, ← ht, List.take_take]
    congr 1
    omega
  have hlk : (cl2 (l.take k)).length = k * 2 := by rw [cl2_length, List.length_take]; omega
  have hA1 : (cur.take ((k + 1) * 2) ++ cl2 (l.drop k) ++ cur.drop ((k + 1) * 2 + (l.length - k) * 2)).length = c * 2 := by
    simp only [List.length_append, List.length_take, List.length_drop, hd, hc]; omega
  have e1 : (cur.take ((k + 1) * 2) ++ cl2 (l.drop k) ++ cur.drop ((k + 1) * 2 + (l.length - k) * 2)).take (k * 2) = cl2 (l.take k) := by
    rw [List.append_assoc, List.take_append_of_le_length (by rw [List.length_take]; omega), List.take_take, ← htk]
    congr 1
    omega
  have e2 : (cur.take ((k + 1) * 2) ++ cl2 (l.drop k) ++ cur.drop ((k + 1) * 2 + (l.length - k) * 2)).drop (k * 2 + 1 * 2) = cl2 (l.drop k) ++ cur.drop ((k + 1) * 2 + (l.length - k) * 2) := by
    rw [List.append_assoc]
    refine List.drop_left' ?_
    rw [List.length_take]; omega
  refine ⟨hA1, ?_, ?_⟩
  · rw [e1, e2]
    simp only [List.length_append, List.length_drop, hd, h1, hlk, hc]; omega
  · rw [e1, e2]
    have : cl2 (l.take k) ++ cl2 [x] ++ (cl2 (l.drop k) ++ cur.drop ((k + 1) * 2 + (l.length - k) * 2)) = cl2 (l.take k ++ x :: l.drop k) ++ cur.drop ((k + 1) * 2 + (l.length - k) * 2) := by
      rw [cl2_append, show x :: l.drop k = [x] ++ l.drop k from rfl, cl2_append]
      simp only [List.append_assoc]
    rw [this]
    refine List.take_left' ?_
    rw [cl2_length]
    simp only [List.length_append, List.length_take, List.length_cons, List.length_drop]
    omega

/-- What the two copies leave in a new row. -/
theorem ins_freshChange {cur : List Value} {l : List Nt2} {x : Nt2} {k c : Nat} (hc : cur.length = c * 2) (ht : cur.take (k * 2) = cl2 (l.take k)) (hk : k ≤ l.length) (hn : l.length + 1 ≤ c) :
    let A1 := cur.take (k * 2) ++ cl2 [x] ++ cur.drop (k * 2 + 1 * 2)
    let A2 := A1.take ((k + 1) * 2) ++ cl2 (l.drop k) ++ A1.drop ((k + 1) * 2 + (l.length - k) * 2)
    A1.length = c * 2 ∧ A2.length = c * 2 ∧ A2.take ((l.length + 1) * 2) = cl2 (l.take k ++ x :: l.drop k) := by
  have hd : (cl2 (l.drop k)).length = (l.length - k) * 2 := by rw [cl2_length, List.length_drop]
  have h1 : (cl2 [x]).length = 1 * 2 := by rw [cl2_length]; rfl
  have hlk : (cl2 (l.take k)).length = k * 2 := by rw [cl2_length, List.length_take]; omega
  have hA1 : (cur.take (k * 2) ++ cl2 [x] ++ cur.drop (k * 2 + 1 * 2)).length = c * 2 := by
    simp only [List.length_append, List.length_take, List.length_drop, h1, hc]; omega
  have e1 : (cur.take (k * 2) ++ cl2 [x] ++ cur.drop (k * 2 + 1 * 2)).take ((k + 1) * 2) = cl2 (l.take k) ++ cl2 [x] := by
    rw [ht]
    refine List.take_left' ?_
    rw [List.length_append, hlk, h1]; omega
  refine ⟨hA1, ?_, ?_⟩
  · rw [e1]
    simp only [List.length_append, List.length_drop, hd, h1, hlk, hA1, hc]; omega
  · rw [e1]
    have : cl2 (l.take k) ++ cl2 [x] ++ cl2 (l.drop k) = cl2 (l.take k ++ x :: l.drop k) := by
      rw [cl2_append, show x :: l.drop k = [x] ++ l.drop k from rfl, cl2_append]
      simp only [List.append_assoc]
    rw [this]
    refine List.take_left' ?_
    rw [cl2_length]
    simp only [List.length_append, List.length_take, List.length_cons, List.length_drop]
    omega

theorem overlapsChange (w : World) (b g of lb cb : Nat) (cv cg : Array Value) (hv : w.heap[b]? = some (.cells cv 32 (0, 0))) (hg : w.heap[g]? = some (.cells cg 32 (0, 0))) (hne : b ≠ g) (h0 : cg.size ≠ 0) :
    (callFunc 48 #[.slice (some ⟨b, 0, none⟩) 1 1, .slice (some ⟨g, of, none⟩) lb cb]).run Try.prog w = .ok (.value (.bool false)) w := by
  rw [run_callFunc_extern Try.func48 (by kernel_rfl) (by kernel_rfl) (by kernel_rfl) (e := Extern.SlicesOverlaps.overlaps #[23, 23] #[4]) (by kernel_rfl),
    Lib.run_overlaps_apart w 23 4 32 Try.underlying23 2 Try.sizeOf32 ⟨b, 0, none⟩ ⟨g, of, none⟩ 1 1 lb cb hne 32 32 cv.size cg.size (by simp [World.shape?, hv]) (by simp [World.shape?, hg]) h0 (by simp [World.frozen?, hv]) (by simp [World.frozen?, hv])]
  rfl

end Go.Proofs.Ytakmlgkcinjecaa
