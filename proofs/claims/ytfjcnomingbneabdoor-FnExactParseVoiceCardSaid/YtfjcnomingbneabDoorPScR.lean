/- Contracts: strings.Cut and strings.Split at one byte; the program's readNote. -/
import Derived.Test.YtfjcnomingbneabDoorPScP
import Derived.WalkSmall
namespace Go.Proofs.YtfjcnomingbneabDoor
open Go.RowKit Go.Sort
set_option linter.unusedVariables false
set_option linter.unusedSimpArgs false

theorem below_dr {B : Nat} {a w : World} (h : RowKit.Below B a w) (n : Nat) : RowKit.Below B a (w.drewN n) := h.trans ⟨rfl, rfl, rfl, Nat.le_refl _, fun _ _ => rfl⟩
/-- What the parsers ask of the world: tables, sentinels, and that bytealg.MaxLen is a number. -/
structure PW (w : World) : Prop where
  tabs : Tabs w
  errs : Errs w
  maxc : ∃ m : Int, w.cell? ⟨1, 0, none⟩ = some (.int .i64 m)
theorem PW.below {w w' : World} (h : PW w) (hb : Below w.heap.size w w') : PW w' := by
  obtain ⟨m, hm⟩ := h.maxc
  exact ⟨h.tabs.below hb, h.errs.below hb, m, (hb.cell (World.block_lt_of_cell? w _ hm)).trans hm⟩

theorem split_any (b : UInt8) (u : List UInt8) (w : World) (hu : u.length ≤ 2000000) (hP : PW w) :
    Calls Tryd.prog 24 #[.string (bs u), .string (bs [b])] w fun e w' => e = .returned (.slice (some ⟨w.heap.size, 0, none⟩) (splitB b u).length (splitB b u).length) ∧ w' = w.alloc (.cells ((splitB b u).map fun x => Value.string (bs x)).toArray 9) := by
  obtain ⟨m, hm⟩ := hP.maxc
  refine (Tryd.strings_Split (bs u) (bs [b]) m w (by rw [bs_size]; omega) hm (by rw [bs_size]; simp)).mono ?_
  rintro e w' ⟨rfl, rfl⟩
  rw [countB_lib, splitB_lib, List.map_map]
  exact ⟨rfl, rfl⟩
theorem cut_any (b : UInt8) (u : List UInt8) (w : World) (hu : u.length ≤ 2000000) (hP : PW w) :
    Calls Tryd.prog 40 #[.string (bs u), .string (bs [b])] w fun e w' => e = .returned (.tuple #[.string (bs (cutB b u).1), .string (bs (cutB b u).2.1), .bool (cutB b u).2.2]) ∧ Below w.heap.size w w' := by
  obtain ⟨m, hm⟩ := hP.maxc
  refine (Tryd.strings_Cut (bs u) (bs [b]) m w (by rw [bs_size]; omega) hm).mono ?_
  rintro e w' ⟨rfl, n, rfl⟩
  have hb : (bs [b]).data.toList = [b] := by simp [bs]
  have hs : (bs u).data.toList = u := by simp [bs]
  rw [hb, hs, cut_lib]
  exact ⟨rfl, below_dr (RowKit.Below.refl _ _) n⟩

def noteV (o : Option Nt) : Value := .agg #[.int .i64 (o.getD (0, 0, 0)).1, .int .i64 (o.getD (0, 0, 0)).2.1, .int .i64 (o.getD (0, 0, 0)).2.2]

/-- The result's cell and the words' cells. -/
theorem two_facts (w W1 : World) (a b c : List UInt8) (h : W1 = (w.alloc (.cells #[.int .i64 0, .int .i64 0, .int .i64 0] 35)).alloc (.cells ([a, b, c].map fun x => Value.string (bs x)).toArray 9)) :
    W1.cell? ⟨w.heap.size + 1, 0, none⟩ = some (.string (bs a)) ∧ W1.cell? ⟨w.heap.size + 1, 1, none⟩ = some (.string (bs b)) ∧ W1.cell? ⟨w.heap.size + 1, 2, none⟩ = some (.string (bs c)) ∧
    W1.cell? ⟨w.heap.size, 0, none⟩ = some (.int .i64 0) ∧ W1.cell? ⟨w.heap.size, 1, none⟩ = some (.int .i64 0) ∧ W1.cell? ⟨w.heap.size, 2, none⟩ = some (.int .i64 0) ∧
    W1.frozen? ⟨w.heap.size, 0, none⟩ = false ∧ W1.frozen? ⟨w.heap.size, 1, none⟩ = false ∧ W1.frozen? ⟨w.heap.size, 2, none⟩ = false ∧
    W1.heap.size = w.heap.size + 2 ∧ Below w.heap.size w W1 := by
  subst h
  have hz : (w.alloc (.cells #[.int .i64 0, .int .i64 0, .int .i64 0] 35)).heap.size = w.heap.size + 1 := by simp
  have hb : Below (w.alloc (.cells #[.int .i64 0, .int .i64 0, .int .i64 0] 35)).heap.size (w.alloc (.cells #[.int .i64 0, .int .i64 0, .int .i64 0] 35)) ((w.alloc (.cells #[.int .i64 0, .int .i64 0, .int .i64 0] 35)).alloc (.cells ([a, b, c].map fun x => Value.string (bs x)).toArray 9)) := (Below.refl _ _).alloc (Nat.le_refl _) _
  have hr := fun j => ((bcell hb).1 w.heap.size j (by omega)).trans (World.cell?_alloc_new w #[.int .i64 0, .int .i64 0, .int .i64 0] 35 j)
  have hf := fun j => ((bcell hb).2 w.heap.size j (by omega)).trans (World.frozen?_alloc_at (w := w) #[.int .i64 0, .int .i64 0, .int .i64 0] 35 w.heap.size j rfl)
  have hw : ∀ j, _ := fun j => World.cell?_alloc_new (w.alloc (.cells #[.int .i64 0, .int .i64 0, .int .i64 0] 35)) ([a, b, c].map fun x => Value.string (bs x)).toArray 9 j
  rw [hz] at hw
  exact ⟨(hw 0).trans rfl, (hw 1).trans rfl, (hw 2).trans rfl, (hr 0).trans rfl, (hr 1).trans rfl, (hr 2).trans rfl, hf 0, hf 1, hf 2, by simp, ((Below.refl _ _).alloc (Nat.le_refl _) _).alloc (by omega) _⟩

theorem res_facts (w W1 : World) (o : Obj) (h : W1 = (w.alloc (.cells #[.int .i64 0, .int .i64 0, .int .i64 0] 35)).alloc o) :
    W1.cell? ⟨w.heap.size, 0, none⟩ = some (.int .i64 0) ∧ W1.cell? ⟨w.heap.size, 1, none⟩ = some (.int .i64 0) ∧ W1.cell? ⟨w.heap.size, 2, none⟩ = some (.int .i64 0) ∧
    W1.frozen? ⟨w.heap.size, 0, none⟩ = false ∧ W1.frozen? ⟨w.heap.size, 1, none⟩ = false ∧ W1.frozen? ⟨w.heap.size, 2, none⟩ = false ∧ Below w.heap.size w W1 := by
  subst h
  have hz : (w.alloc (.cells #[.int .i64 0, .int .i64 0, .int .i64 0] 35)).heap.size = w.heap.size + 1 := by simp
  have hb : Below (w.alloc (.cells #[.int .i64 0, .int .i64 0, .int .i64 0] 35)).heap.size (w.alloc (.cells #[.int .i64 0, .int .i64 0, .int .i64 0] 35)) ((w.alloc (.cells #[.int .i64 0, .int .i64 0, .int .i64 0] 35)).alloc o) := (Below.refl _ _).alloc (Nat.le_refl _) _
  have hr := fun j => ((bcell hb).1 w.heap.size j (by omega)).trans (World.cell?_alloc_new w #[.int .i64 0, .int .i64 0, .int .i64 0] 35 j)
  have hf := fun j => ((bcell hb).2 w.heap.size j (by omega)).trans (World.frozen?_alloc_at (w := w) #[.int .i64 0, .int .i64 0, .int .i64 0] 35 w.heap.size j rfl)
  exact ⟨(hr 0).trans rfl, (hr 1).trans rfl, (hr 2).trans rfl, hf 0, hf 1, hf 2, ((Below.refl _ _).alloc (Nat.le_refl _) _).alloc (by omega) _⟩

set_option maxRecDepth 100000 in
set_option maxHeartbeats 2000000 in
theorem readNote_any (u : List UInt8) (w : World) (hu : u.length ≤ 2000000) (hP : PW w) :
    Calls Tryd.prog 17 #[.string (bs u)] w fun e w' => e = .returned (.tuple #[noteV (ntL u), .bool (ntL u).isSome]) ∧ Below w.heap.size w w' := by
  have HSP := Lib.hid fun (W : World) (hP : PW W) => split_any 32 u W hu hP
  by_cases h3 : (splitB 32 u).length = 3
  · obtain ⟨a, b, c, habc⟩ : ∃ a b c, splitB 32 u = [a, b, c] := by
      match hh : splitB 32 u, h3 with
      | [a, b, c], _ => exact ⟨a, b, c, rfl⟩
    have hj := splitB_join 32 u
    rw [habc] at hj
    have hlen := congrArg List.length hj
    simp [Lib.join_cons, Lib.joinTail] at hlen
    have HN : Hid (ntL u = if 0 ≤ ntRd a ∧ numOk b = true ∧ numOk c = true then some (ntRd a, (valL b : Int), (valL c : Int)) else none) := Lib.hid (by unfold ntL; rw [habc])
    have hra := fun (W : World) (hP : PW W) => readPitch_any a W (by omega) hP.tabs hP.errs
    have hrb := fun (W : World) (hP : PW W) => readNumber_any b W (by omega) hP.tabs hP.errs
    have hrc := fun (W : World) (hP : PW W) => readNumber_any c W (by omega) hP.tabs hP.errs
    rw [habc] at HSP
    generalize ntL u = o at *
    clear habc hj hlen h3
    have hB0 : Below w.heap.size w (w.alloc (.cells #[.int .i64 0, .int .i64 0, .int .i64 0] 35)) := (Below.refl _ _).alloc (Nat.le_refl _) _
    by_cases h1 : 0 ≤ ntRd a <;> cases h2 : numOk b <;> cases h4 : numOk c
    all_goals
      simp only [h1, h2, h4, pitR, numR, if_true, if_false, and_true, and_false, and_self, true_and, false_and, Bool.false_eq_true] at hra hrb hrc HN
      have HRA := Lib.hid hra
      have HRB := Lib.hid hrb
      have HRC := Lib.hid hrc
      have HO := HN.out
      subst HO
      clear hra hrb hrc HN h2 h4
      go_enter Tryd.func17, Tryd.ntmps17
      go_wp2_with fail
      refine (HSP.out _ (hP.below hB0)).mono ?_
      rintro e w1 ⟨rfl, rfl⟩
      obtain ⟨W1, hW1⟩ : ∃ W1, W1 = (w.alloc (.cells #[.int .i64 0, .int .i64 0, .int .i64 0] 35)).alloc (.cells ([a, b, c].map fun x => Value.string (bs x)).toArray 9) := ⟨_, rfl⟩
      rw [← hW1]
      obtain ⟨k0, k1, k2, r0, r1, r2, g0, g1, g2, hsz, hB1⟩ := two_facts w W1 a b c hW1
      have HSZ := Lib.hid hsz
      clear hW1 hsz
      have hP1 := hP.below hB1
      go_wp2_with fail
      refine (HRA.out _ hP1).mono ?_
      rintro e w2 ⟨rfl, hb2⟩
      have hP2 := hP1.below hb2
      have k1 := ((bcell hb2).1 (w.heap.size + 1) 1 (by rw [HSZ.out]; omega)).trans k1
      have k2 := ((bcell hb2).1 (w.heap.size + 1) 2 (by rw [HSZ.out]; omega)).trans k2
      go_wp2_with fail
      refine (HRB.out _ hP2).mono ?_
      rintro e w3 ⟨rfl, hb3⟩
      have hP3 := hP2.below hb3
      have hb13 := hb2.trans (hb3.mono hb2.size)
      have k2 := ((bcell hb3).1 (w.heap.size + 1) 2 (by have := hb2.size; rw [HSZ.out] at this; omega)).trans k2
      clear k0 k1
      go_wp2_with fail
      refine (HRC.out _ hP3).mono ?_
      rintro e w4 ⟨rfl, hb4⟩
      have hb14 := hb13.trans (hb4.mono hb13.size)
      have r0 := ((bcell hb14).1 w.heap.size 0 (by rw [HSZ.out]; omega)).trans r0
      have r1 := ((bcell hb14).1 w.heap.size 1 (by rw [HSZ.out]; omega)).trans r1
      have r2 := ((bcell hb14).1 w.heap.size 2 (by rw [HSZ.out]; omega)).trans r2
      have g0 := ((bcell hb14).2 w.heap.size 0 (by rw [HSZ.out]; omega)).trans g0
      have g1 := ((bcell hb14).2 w.heap.size 1 (by rw [HSZ.out]; omega)).trans g1
      have g2 := ((bcell hb14).2 w.heap.size 2 (by rw [HSZ.out]; omega)).trans g2
      have hB4 := hB1.trans (hb14.mono hB1.size)
      clear k2 hb2 hb3 hb4 hb13 hb14
      go_wp2
      first
        | exact bodyPost_ret (v := .tuple #[.agg #[.int .i64 0, .int .i64 0, .int .i64 0], .bool false]) (by simp [results, Tryd.results17, go_sem, *]) rfl ⟨rfl, ((hB4.setCell (Nat.le_refl _) _).setCell (Nat.le_refl _) _).setCell (Nat.le_refl _) _⟩
        | exact bodyPost_ret (v := .tuple #[.agg #[.int .i64 (ntRd a), .int .i64 (valL b : Int), .int .i64 (valL c : Int)], .bool true]) (by simp [results, Tryd.results17, go_sem, *]) rfl ⟨rfl, ((hB4.setCell (Nat.le_refl _) _).setCell (Nat.le_refl _) _).setCell (Nat.le_refl _) _⟩
  · have HN : Hid (ntL u = none) := Lib.hid (by
      unfold ntL
      split
      · rename_i a b c hs
        rw [hs] at h3
        exact absurd rfl h3
      · rfl)
    have hB0 : Below w.heap.size w (w.alloc (.cells #[.int .i64 0, .int .i64 0, .int .i64 0] 35)) := (Below.refl _ _).alloc (Nat.le_refl _) _
    have hne : (((splitB 32 u).length : Int) != 3) = true := by simp; omega
    rw [HN.out]
    go_enter Tryd.func17, Tryd.ntmps17
    go_wp2_with fail
    refine (HSP.out _ (hP.below hB0)).mono ?_
    rintro e w1 ⟨rfl, rfl⟩
    obtain ⟨W1, hW1⟩ : ∃ W1, W1 = (w.alloc (.cells #[.int .i64 0, .int .i64 0, .int .i64 0] 35)).alloc (.cells ((splitB 32 u).map fun x => Value.string (bs x)).toArray 9) := ⟨_, rfl⟩
    rw [← hW1]
    obtain ⟨r0, r1, r2, g0, g1, g2, hB1⟩ := res_facts w W1 _ hW1
    clear hW1
    go_wp2
    exact bodyPost_ret (v := .tuple #[.agg #[.int .i64 0, .int .i64 0, .int .i64 0], .bool false]) (by simp [results, Tryd.results17, go_sem, *]) rfl ⟨rfl, ((hB1.setCell (Nat.le_refl _) _).setCell (Nat.le_refl _) _).setCell (Nat.le_refl _) _⟩

/-- The strings that a slice at A reads. -/
def RSs (w : World) (A : Option Addr) (l : List (List UInt8)) : Prop :=
  ∀ (k : Nat) (x : List UInt8), l[k]? = some x → ∃ g o, A = some ⟨g, o, none⟩ ∧ g < w.heap.size ∧ w.cell? ⟨g, o + k, none⟩ = some (.string (bs x))
theorem RSs.below {w w' : World} {A : Option Addr} {l : List (List UInt8)} (h : RSs w A l) (hb : Below w.heap.size w w') : RSs w' A l := by
  intro k x hx
  obtain ⟨g, o, hA, hg, h0⟩ := h k x hx
  exact ⟨g, o, hA, Nat.lt_of_lt_of_le hg hb.size, (hb.cell hg).trans h0⟩
theorem RSs.take {w : World} {A : Option Addr} {l : List (List UInt8)} (h : RSs w A l) (n : Nat) : RSs w A (l.take n) := by
  intro k x hx
  rw [List.getElem?_take] at hx
  split at hx
  · exact h k x hx
  · cases hx
theorem OwnS.form {w : World} {base : Nat} {v : Value} {l : List (List UInt8)} (h : OwnS w base v l) : ∃ A c, v = .slice A l.length c ∧ RSs w A l ∧ l.length ≤ c ∧ c ≤ maxLen ∧ (A = none → c = 0) ∧ (l ≠ [] → ∃ g, A = some ⟨g, 0, none⟩) := by
  rcases h.2 with ⟨rfl, hn⟩ | ⟨g, cap, cur, rfl, hg, hh, hnc, hm, hs, ht⟩
  · refine ⟨none, 0, by rw [hn], ?_, by omega, Nat.zero_le _, fun _ => rfl, fun h => absurd (List.length_eq_zero_iff.1 hn) h⟩
    intro k x hx
    have := (List.getElem?_eq_some_iff.1 hx).1
    omega
  · refine ⟨_, _, rfl, ?_, hnc, hm, fun h => (by cases h), fun _ => ⟨g, rfl⟩⟩
    intro k x hx
    have hk := (List.getElem?_eq_some_iff.1 hx).1
    have hlt : g < w.heap.size := (Array.getElem?_eq_some_iff.1 hh).1
    exact ⟨g, 0, rfl, hlt, by rw [Nat.zero_add, h.cellAt _ (by omega)]; simp [cS, hx]⟩

theorem splitB_mem_len (b : UInt8) (s : List UInt8) : ∀ x ∈ splitB b s, x.length ≤ s.length := by
  induction s with
  | nil => intro x hx; simp [splitB] at hx; subst hx; simp
  | cons y s ih =>
    intro x hx
    unfold splitB at hx
    split at hx
    · rcases List.mem_cons.1 hx with rfl | hx
      · simp
      · have := ih x hx; simp only [List.length_cons]; omega
    · cases hc : splitB b s with
      | nil => exact absurd hc (splitB_ne _ _)
      | cons h t =>
        rw [hc] at hx ih
        simp only at hx
        rcases List.mem_cons.1 hx with rfl | hx
        · have := ih h (by simp); simp only [List.length_cons]; omega
        · have := ih x (by simp [hx]); simp only [List.length_cons]; omega

theorem keep_app {w w4 : World} {v : Value} {o : Obj} (hg : (w.alloc o).grownBy w4 v.ownBlock) (g k : Nat) {x : Value} (hlt : g < w.heap.size) (hne : some g ≠ v.ownBlock) (h : w.cell? ⟨g, k, none⟩ = some x) : w4.cell? ⟨g, k, none⟩ = some x := by
  have hblk : w4.heap[g]? = w.heap[g]? := (hg.block g (by simp; omega) hne).trans (Lib.alloc_old w o g hlt)
  rw [World.cell?_of_block (a := ⟨g, k, none⟩) hblk]
  exact h

theorem readAll_snoc {us : List (List UInt8)} {k : Nat} {u : List UInt8} {l : List Nt} (hu : us[k]? = some u) (h : readAll (us.take k) = some l) : readAll (us.take (k + 1)) = (ntL u).map (fun x => l ++ [x]) := by
  have key : ∀ (vs : List (List UInt8)) (l : List Nt), readAll vs = some l → readAll (vs ++ [u]) = (ntL u).map (fun x => l ++ [x]) := by
    intro vs
    induction vs with
    | nil => intro l h; simp [readAll] at h; subst h; simp only [List.nil_append, readAll]; cases ntL u <;> rfl
    | cons v vs ih =>
      intro l h
      unfold readAll at h
      split at h
      · rename_i x hx
        obtain ⟨m, hm, rfl⟩ := Option.map_eq_some_iff.1 h
        rw [List.cons_append, readAll, hx]
        simp only
        rw [ih m hm]
        cases ntL u <;> rfl
      · cases h
  rw [List.take_add_one, hu]
  exact key _ _ h
theorem readAll_none {us : List (List UInt8)} {k : Nat} {u : List UInt8} (hu : us[k]? = some u) (h : ntL u = none) : readAll us = none := by
  induction us generalizing k with
  | nil => simp at hu
  | cons v vs ih =>
    unfold readAll
    cases k with
    | zero => simp at hu; subst hu; rw [h]
    | succ k =>
      split
      · rw [ih (by simpa using hu)]; rfl
      · rfl

theorem words_rs (W : World) (ws : List (List UInt8)) (t : TypeId) : RSs (W.alloc (.cells (ws.map fun x => Value.string (bs x)).toArray t)) (some ⟨W.heap.size, 0, none⟩) ws := by
  intro k x hx
  exact ⟨W.heap.size, 0, rfl, by simp, by rw [Nat.zero_add, World.cell?_alloc_new]; simp [hx]⟩
theorem egNote (args : Array Value) (w : World) : (callFunc 17 args).run Tryd.prog w = .ok (.enter 17 args) w := enters_of Tryd.func17 (by kernel_rfl) rfl args w

end Go.Proofs.YtfjcnomingbneabDoor
