/- Contracts: anyTempos. -/
import Derived.Test.YtakmlgkcinjecaaTempE
namespace Go.Proofs.Ytakmlgkcinjecaa
open Go.RowKit
set_option linter.unusedVariables false
set_option linter.unusedSimpArgs false

theorem set_same {α : Type} {l : List α} {i : Nat} {x : α} (h : l[i]? = some x) : l.set i x = l := by
  apply List.ext_getElem?
  intro j
  rw [List.getElem?_set]
  by_cases e : i = j
  · subst e
    rw [if_pos rfl, if_pos (List.getElem?_eq_some_iff.1 h).1, h]
  · rw [if_neg e]
theorem own_set0 {w : World} {base t g c j : Nat} {l : List Nt2} {x : Nt2} (h : Own2 w base t (.slice (some ⟨g, 0, none⟩) l.length c) l) (hx : l[j]? = some x) (a : Int) :
    Own2 (w.setCell ⟨g, j * 2, none⟩ (.int .i64 a)) base t (.slice (some ⟨g, 0, none⟩) l.length c) (l.set j (a, x.2)) := by
  have hj := (List.getElem?_eq_some_iff.1 hx).1
  have h0 := h
  unfold Own2 at h0
  have k := (h0.stored (j * 2) (.int .i64 a)).1
  have e := cl2_set l j (a, x.2) hj
  rw [set_same (by rw [List.getElem?_set, if_neg (by omega)]; exact (cl2_get l j x hx).2)] at e
  rw [e] at k
  unfold Own2
  rw [List.length_set]
  exact k
theorem own_set1 {w : World} {base t g c j : Nat} {l : List Nt2} {x : Nt2} (h : Own2 w base t (.slice (some ⟨g, 0, none⟩) l.length c) l) (hx : l[j]? = some x) (a : Int) :
    Own2 (w.setCell ⟨g, j * 2 + 1, none⟩ (.int .i64 a)) base t (.slice (some ⟨g, 0, none⟩) l.length c) (l.set j (x.1, a)) := by
  have hj := (List.getElem?_eq_some_iff.1 hx).1
  have h0 := h
  unfold Own2 at h0
  have k := (h0.stored (j * 2 + 1) (.int .i64 a)).1
  have e := cl2_set l j (x.1, a) hj
  rw [set_same (cl2_get l j x hx).1] at e
  rw [e] at k
  unfold Own2
  rw [List.length_set]
  exact k
theorem cur_set {w : World} {base b k g o : Nat} (h : Cur w base b k) (hbase : base ≤ w.heap.size) (hg : base ≤ g) (hne : g ≠ b) (v : Value) : Cur (w.setCell ⟨g, o, none⟩ v) base b k :=
  cur_grown h hbase (grown_setCellC w ⟨g, o, none⟩ v) (fun j hj => by have hj2 : some g = some j := hj; obtain rfl : g = j := (by simpa using hj2); exact ⟨hg, hne⟩)
theorem grown_set {w w1 : World} {b g o : Nat} (h : w.grownBy w1 (some b)) (hg : w.heap.size ≤ g) (v : Value) : w.grownBy (w1.setCell ⟨g, o, none⟩ v) (some b) :=
  grown_own h (grown_setCellC w1 ⟨g, o, none⟩ v) (fun j hj => by have hj2 : some g = some j := hj; obtain rfl : g = j := (by simpa using hj2); exact hg)

theorem lit_at {w : World} {b n : Nat} {cs : Array Value} {t : TypeId} (hb : b < w.heap.size) (hc : ∀ j, j < n → ∃ x, cs[j]? = some (.int .i64 x)) :
    ∀ j, j < n → ∃ g o y, (some ⟨w.heap.size, 0, none⟩ : Option Addr) = some ⟨g, o, none⟩ ∧ g < (w.alloc (.cells cs t)).heap.size ∧ g ≠ b ∧ (w.alloc (.cells cs t)).cell? ⟨g, o + j, none⟩ = some (.int .i64 y) ∧ True := by
  intro j hj
  obtain ⟨x, hx⟩ := hc j hj
  exact ⟨w.heap.size, 0, x, rfl, by simp, fun h => by omega, by rw [Nat.zero_add, World.cell?_alloc_new]; exact hx, trivial⟩

set_option maxRecDepth 100000 in
set_option maxHeartbeats 4000000 in
theorem anyTempos_any (b k base : Nat) (w : World) (hC : Cur w base b k) (hk : k ≤ 600000000) (hbase : base ≤ w.heap.size) :
    Calls Try.prog 26 #[.pointer (some ⟨b, 0, none⟩)] w fun e w' => ∃ (v : Value) (L : List Nt2), e = .returned v ∧ Own2 w' w.heap.size 32 v L ∧ L.length ≤ 30 ∧ Cur w' base b (k + 1010) ∧ w.grownBy w' (some b) := by
  have HC := Lib.hid hC
  have hbw := hC.lt
  clear hC
  go_enter Try.func26, Try.ntmps26
  go_wp2_with fail
  refine (tempos_any b k base _ HC.out (by omega) hbase).mono ?_
  rintro e w1 ⟨v, L, rfl, hO1, hB1, hC1, hg1⟩
  have hL1 := hB1.1
  have hL2 := hB1.2.1
  obtain ⟨g, c, rfl⟩ := hO1.some hL1
  have hgb := hO1.lt g rfl
  have hgn : g ≠ b := by omega
  have HO1 := Lib.hid hO1
  have HC1 := Lib.hid hC1
  have HG1 := Lib.hid hg1
  clear hC1 hg1 hO1 hB1
  go_wp2_with fail
  refine (pick_any b (k + 1000) base _ _ HC1.out (by omega) (by omega)).mono ?_
  rintro e w2 ⟨j, hj0, hj1, rfl, hC2, hg2⟩
  obtain ⟨j, rfl⟩ : ∃ n : Nat, j = n := ⟨j.toNat, by omega⟩
  have j1 : (j : Int) < (L.length : Int) := by omega
  have hjl : j < L.length := by omega
  have hx : L[j]? = some L[j] := List.getElem?_eq_getElem hjl
  generalize L[j] = x at hx
  have HX := Lib.hid hx
  have HO2 := Lib.hid (HO1.out.grown hg2 (.inr (fun h => by have := (HO1.out.lt _ h).1; omega)))
  have HC2 := Lib.hid hC2
  have HG2 := Lib.hid (HG1.out.trans hg2)
  clear hC2 hg2 hx
  go_wp2_with fail
  refine (pick_any b (k + 1002) base _ _ HC2.out (by omega) (by omega)).mono ?_
  rintro e w3 ⟨q, hq0, hq1, rfl, hC3, hg3⟩
  have HO3 := Lib.hid (HO2.out.grown hg3 (.inr (fun h => by have := (HO2.out.lt _ h).1; omega)))
  have HC3 := Lib.hid hC3
  have HG3 := Lib.hid (HG2.out.trans hg3)
  have hz3 : w.heap.size ≤ w3.heap.size := HG3.out.size
  have hg3z : g < w3.heap.size := (HO3.out.lt g rfl).2
  have hb3 : base ≤ w3.heap.size := Nat.le_trans hbase hz3
  have hbl3 := HC3.out.lt
  clear hC3 hg3
  by_cases h0 : q = 0
  · subst h0
    have HCA := Lib.hid (fun o => cur_alloc HC3.out hb3 o)
    go_wp2_with fail
    refine (among_any b (k + 1004) base _ 5 5 _ (HCA.out _) (by omega) (by omega) (by omega) (fun _ => True) ?_).mono ?_
    · exact lit_at hbl3 (by
        intro j hj
        match j, hj with
        | 0, _ | 1, _ | 2, _ | 3, _ | 4, _ => exact ⟨_, rfl⟩)
    rintro e w4 ⟨y, _, rfl, hC4, hg4⟩
    have hg4 := alloc_un hg4
    have hO4 := HO3.out.grown hg4 (.inr (fun h => by have := (HO3.out.lt _ h).1; omega))
    have hfr : w4.frozen? ⟨g, j * 2, none⟩ = false := World.ownsRow.frozenAt hO4 _
    obtain ⟨_, z0, z1⟩ := hO4.ra.at j x HX.out
    simp only [Nat.zero_add] at z0 z1
    have HO5 := Lib.hid (own_set0 hO4 HX.out y)
    have hb4 := Nat.le_trans hb3 hg4.size
    have HC5 := Lib.hid (cur_set (o := j * 2) hC4 hb4 (Nat.le_trans hbase hgb.1) hgn (.int .i64 y))
    have HG5 := Lib.hid (grown_set (o := j * 2) (HG3.out.trans hg4) hgb.1 (.int .i64 y))
    clear hC4 hg4 hO4
    go_wp2
    go_ret
    exact ⟨_, L.set j (y, x.2), rfl, HO5.out, by rw [List.length_set]; omega, HC5.out.mono (by omega), HG5.out⟩
  · by_cases h1 : q = 1
    · subst h1
      have HCA := Lib.hid (fun o => cur_alloc HC3.out hb3 o)
      go_wp2_with fail
      refine (among_any b (k + 1004) base _ 4 4 _ (HCA.out _) (by omega) (by omega) (by omega) (fun _ => True) ?_).mono ?_
      · exact lit_at hbl3 (by
          intro j hj
          match j, hj with
          | 0, _ | 1, _ | 2, _ | 3, _ => exact ⟨_, rfl⟩)
      rintro e w4 ⟨y, _, rfl, hC4, hg4⟩
      have hg4 := alloc_un hg4
      have hO4 := HO3.out.grown hg4 (.inr (fun h => by have := (HO3.out.lt _ h).1; omega))
      have hfr : w4.frozen? ⟨g, j * 2 + 1, none⟩ = false := World.ownsRow.frozenAt hO4 _
      obtain ⟨_, z0, z1⟩ := hO4.ra.at j x HX.out
      simp only [Nat.zero_add] at z0 z1
      have HO5 := Lib.hid (own_set1 hO4 HX.out y)
      have hb4 := Nat.le_trans hb3 hg4.size
      have HC5 := Lib.hid (cur_set (o := j * 2 + 1) hC4 hb4 (Nat.le_trans hbase hgb.1) hgn (.int .i64 y))
      have HG5 := Lib.hid (grown_set (o := j * 2 + 1) (HG3.out.trans hg4) hgb.1 (.int .i64 y))
      clear hC4 hg4 hO4
      go_wp2
      go_ret
      exact ⟨_, L.set j (x.1, y), rfl, HO5.out, by rw [List.length_set]; omega, HC5.out.mono (by omega), HG5.out⟩
    · by_cases h2 : q = 2
      · subst h2
        go_wp2
        go_ret
        exact ⟨_, [], rfl, Own2.nil _ _ _, by simp, HC3.out.mono (by omega), HG3.out⟩
      · by_cases h3 : q = 3
        · subst h3
          go_wp2_with fail
          refine (pick_any b (k + 1004) base _ _ HC3.out (by omega) (by omega)).mono ?_
          rintro e w4 ⟨y, hy0, hy1, rfl, hC4, hg4⟩
          have HO4 := Lib.hid (HO3.out.grown hg4 (.inr (fun h => by have := (HO3.out.lt _ h).1; omega)))
          have HC4 := Lib.hid hC4
          have HG4 := Lib.hid (HG3.out.trans hg4)
          clear hC4 hg4
          have m1 : IntKind.i64.wrap (20 + y) = 20 + y := IntWalk.i64_in _ (by omega)
          go_wp2_with fail
          go_loopw [3] (fun v wr => ∃ L : List Nt2, Own2 wr w.heap.size 32 v L ∧ 1 ≤ L.length ∧ L.length ≤ 22 ∧ Cur wr base b (k + 1006) ∧ w.grownBy wr (some b))
            (fun v _ => 22 - lenV v)
          case atStart => exact ⟨L, HO4.out, hL1, by omega, HC4.out, HG4.out⟩
          case round =>
            obtain ⟨L, hO, hL1, hL2, hCr, hGr⟩ := hrel
            obtain ⟨g, c, rfl⟩ := hO.some hL1
            have hgb : w.heap.size ≤ g ∧ g < wr.heap.size := hO.lt g rfl
            have hbs : base ≤ wr.heap.size := Nat.le_trans hbase hGr.size
            have hwr : w.heap.size ≤ wr.heap.size := hGr.size
            have HO := Lib.hid hO
            have HCr := Lib.hid hCr
            have HGr := Lib.hid hGr
            clear hO hCr hGr
            by_cases hlt : (L.length : Int) < 20 + y
            · have m2 : IntKind.i64.wrap (1000 + (L.length : Int)) = 1000 + (L.length : Int) := IntWalk.i64_in _ (by omega)
              go_wp2_with (at_builtin; refine wpList_appChange _ rfl (.tmp 43) (.tmp 48) rfl w.heap.size _ _ rfl (HO.out.alloc _) (some ⟨wr.heap.size, 0, none⟩) 1 1 [(1000 + (L.length : Int), 5000)] rfl rfl (fun h => by cases h) (RA2.one (heap_alloc_new _ _)) (by omega) (Nat.le_trans hwr (by simp)) ?_; intro v8 w8 ho8 hg8; obtain ⟨A8, c8, e8, _⟩ := ho8.form; subst e8; have HO8 := Lib.hid ho8; have HC8 := Lib.hid (cur_grown (cur_alloc HCr.out hbs _) (Nat.le_trans hbs (by simp)) hg8 (fun j hj => by have hj2 : some g = some j := hj; obtain rfl : g = j := (by simpa using hj2); exact ⟨by omega, by omega⟩)); have HG9 := Lib.hid (grown_own (grown_alloc HGr.out _) hg8 (fun j hj => (HO.out.lt j hj).1)); clear ho8 hg8)
              have HE8 := Lib.hid (show (L ++ [(1000 + (L.length : Int), (5000 : Int))]).length = L.length + 1 from by simp)
              go_roundw
              case rel => exact ⟨L ++ [(1000 + (L.length : Int), 5000)], (by have h := HO8.out; first | exact h | (rw [HE8.out] at h; exact h)), by rw [HE8.out]; omega, by rw [HE8.out]; omega, HC8.out, HG9.out⟩
              case measure => have := HE8.out; simp only [lenV, List.length_append, List.length_cons, List.length_nil] at *; omega
            · go_wp2
              go_ret
              (first | exact ⟨_, L, rfl, HO.out, by omega, HCr.out.mono (by omega), HGr.out⟩ | exact ⟨_, rfl, L, HO.out, by omega, HCr.out.mono (by omega), HGr.out⟩)
        · go_wp2
          go_ret
          exact ⟨_, L, rfl, HO3.out, by omega, HC3.out.mono (by omega), HG3.out⟩
end Go.Proofs.Ytakmlgkcinjecaa
