/- Contracts: the program's readEvent and voiceOnly. -/
import Derived.Test.YtfjcnomingbneabDoorPScR
import Derived.Test.YtfjcnomingbneabDoorPScI
import Derived.Test.YtfjcnomingbneabDoorPVoP
namespace Go.Proofs.YtfjcnomingbneabDoor
open Go.RowKit Go.Sort
set_option linter.unusedVariables false
set_option linter.unusedSimpArgs false

def pvR (a : List UInt8) : Array Value := if 0 ≤ pvE a then #[.int .i64 (pvE a), .bool true] else #[.int .i64 0, .bool false]

set_option maxHeartbeats 1000000 in
theorem readPitchOrRest_any (a : List UInt8) (w : World) (ha : a.length ≤ 2000000) (hP : PW w) :
    Calls Tryd.prog 41 #[.string (bs a)] w fun e w' => e = .returned (.tuple (pvR a)) ∧ RowKit.Below w.heap.size w w' := by
  by_cases h0 : a = [114]
  · subst h0
    have e1 : bs [114] = ⟨#[114]⟩ := rfl
    have e2 : pvR [114] = #[.int .i64 0, .bool true] := rfl
    rw [e1, e2]
    go_enter Tryd.func41, Tryd.ntmps41
    go_wp2
    go_ret2
    exact ⟨rfl, RowKit.Below.refl _ _⟩
  · have hp : pvR a = pitR a := by unfold pvR pitR pvE; rw [if_neg h0]
    rw [hp]
    have hb1 : ((bs a).toList == ([114] : List UInt8)) = false := by rw [bs_toList]; simpa using h0
    have HR := Lib.hid (readPitch_any a w ha hP.tabs hP.errs)
    clear h0 hp
    go_enter Tryd.func41, Tryd.ntmps41
    go_wp2_with fail
    refine HR.out.mono ?_
    rintro e w1 ⟨rfl, hB⟩
    by_cases h : 0 ≤ ntRd a
    all_goals
      have hp : pitR a = if 0 ≤ ntRd a then #[.int .i64 (ntRd a), .bool true] else #[.int .i64 0, .bool false] := rfl
      simp only [h, if_true, if_false] at hp
      rw [hp]
      have HP := Lib.hid hp
      clear hp
      go_wp2
      go_ret2
      exact ⟨by rw [HP.out]; rfl, hB⟩

/-- The result's cell. -/
theorem box_facts (w W1 : World) (t : TypeId) (h : W1 = w.alloc (.cells #[.int .i64 0, .int .i64 0, .int .i64 0] t)) :
    W1.cell? ⟨w.heap.size, 0, none⟩ = some (.int .i64 0) ∧ W1.cell? ⟨w.heap.size, 1, none⟩ = some (.int .i64 0) ∧ W1.cell? ⟨w.heap.size, 2, none⟩ = some (.int .i64 0) ∧
    W1.frozen? ⟨w.heap.size, 0, none⟩ = false ∧ W1.frozen? ⟨w.heap.size, 1, none⟩ = false ∧ W1.frozen? ⟨w.heap.size, 2, none⟩ = false ∧ W1.heap.size = w.heap.size + 1 ∧ RowKit.Below w.heap.size w W1 := by
  subst h
  have hr := fun j => World.cell?_alloc_new w #[.int .i64 0, .int .i64 0, .int .i64 0] t j
  have hf := fun j => World.frozen?_alloc_at (w := w) #[.int .i64 0, .int .i64 0, .int .i64 0] t w.heap.size j rfl
  exact ⟨(hr 0).trans rfl, (hr 1).trans rfl, (hr 2).trans rfl, hf 0, hf 1, hf 2, by simp, (RowKit.Below.refl _ _).alloc (Nat.le_refl _) _⟩

set_option maxRecDepth 100000 in
set_option maxHeartbeats 2000000 in
theorem readEvent_any (u : List UInt8) (w : World) (hu : u.length ≤ 2000000) (hP : PW w) :
    Calls Tryd.prog 25 #[.string (bs u)] w fun e w' => e = .returned (.tuple #[noteV (evL u), .bool (evL u).isSome]) ∧ RowKit.Below w.heap.size w w' := by
  have hs1 := cutB_spec 42 u
  have hs2 := cutB_spec 47 (cutB 42 u).2.1
  have HC1 := Lib.hid fun (W : World) (hP : PW W) => cut_any 42 u W hu hP
  have hl1 : (cutB 42 u).1.length ≤ 2000000 ∧ (cutB 42 u).2.1.length ≤ 2000000 := by
    cases h : (cutB 42 u).2.2 with
    | true => have := congrArg List.length (hs1.2.1 h); rw [List.length_append, List.length_cons] at this; omega
    | false => rw [(hs1.2.2 h).1, (hs1.2.2 h).2]; simpa using hu
  have hl2 : (cutB 47 (cutB 42 u).2.1).1.length ≤ 2000000 ∧ (cutB 47 (cutB 42 u).2.1).2.1.length ≤ 2000000 := by
    cases h : (cutB 47 (cutB 42 u).2.1).2.2 with
    | true => have := congrArg List.length (hs2.2.1 h); rw [List.length_append, List.length_cons] at this; omega
    | false => rw [(hs2.2.2 h).1, (hs2.2.2 h).2]; simpa using hl1.2
  have HC2 := Lib.hid fun (W : World) (hP : PW W) => cut_any 47 (cutB 42 u).2.1 W hl1.2 hP
  have hra := fun (W : World) (hP : PW W) => readPitchOrRest_any (cutB 42 u).1 W hl1.1 hP
  have hrb := fun (W : World) (hP : PW W) => readNumber_any (cutB 47 (cutB 42 u).2.1).1 W hl2.1 hP.tabs hP.errs
  have hrc := fun (W : World) (hP : PW W) => readNumber_any (cutB 47 (cutB 42 u).2.1).2.1 W hl2.2 hP.tabs hP.errs
  have hN : evL u = if (cutB 42 u).2.2 = true ∧ (cutB 47 (cutB 42 u).2.1).2.2 = true ∧ 0 ≤ pvE (cutB 42 u).1 ∧ numOk (cutB 47 (cutB 42 u).2.1).1 = true ∧ numOk (cutB 47 (cutB 42 u).2.1).2.1 = true
    then some (pvE (cutB 42 u).1, (valL (cutB 47 (cutB 42 u).2.1).1 : Int), (valL (cutB 47 (cutB 42 u).2.1).2.1 : Int)) else none := rfl
  clear hs1 hs2 hl1 hl2
  generalize evL u = o at *
  generalize (cutB 47 (cutB 42 u).2.1).1 = n at *
  generalize (cutB 47 (cutB 42 u).2.1).2.2 = b2 at *
  generalize (cutB 47 (cutB 42 u).2.1).2.1 = d at *
  generalize (cutB 42 u).1 = a at *
  generalize (cutB 42 u).2.2 = b1 at *
  generalize (cutB 42 u).2.1 = r at *
  obtain ⟨W0, hW0⟩ : ∃ W0, W0 = w.alloc (.cells #[.int .i64 0, .int .i64 0, .int .i64 0] 42) := ⟨_, rfl⟩
  have hbf := box_facts w W0 _ hW0
  have HBF := Lib.hid hbf
  have HW0 := Lib.hid hW0
  clear hbf hW0
  by_cases hb : b1 = true ∧ b2 = true
  · obtain ⟨rfl, rfl⟩ := hb
    by_cases h1 : 0 ≤ pvE a <;> cases h2 : numOk n <;> cases h4 : numOk d
    all_goals
      simp only [h1, h2, h4, pvR, numR, if_true, if_false, and_true, and_false, and_self, true_and, false_and, Bool.false_eq_true] at hra hrb hrc hN
      subst hN
      have HRA := Lib.hid hra
      have HRB := Lib.hid hrb
      have HRC := Lib.hid hrc
      clear hra hrb hrc h1 h2 h4
      go_enter Tryd.func25, Tryd.ntmps25
      go_wp2_with fail
      rw [← HW0.out]
      obtain ⟨r0, r1, r2, g0, g1, g2, hsz, hB1⟩ := HBF.out
      have HSZ := Lib.hid hsz
      clear hsz
      have hP1 := hP.below hB1
      refine (HC1.out _ hP1).mono ?_
      rintro e w2 ⟨rfl, hb2⟩
      have hP2 := hP1.below hb2
      go_wp2_with fail
      refine (HC2.out _ hP2).mono ?_
      rintro e w3 ⟨rfl, hb3⟩
      have hP3 := hP2.below hb3
      have hb3 := hb2.trans (hb3.mono hb2.size)
      go_wp2_with fail
      refine (HRA.out _ hP3).mono ?_
      rintro e w4 ⟨rfl, hb4⟩
      have hP4 := hP3.below hb4
      have hb4 := hb3.trans (hb4.mono hb3.size)
      clear hb2 hb3
      go_wp2_with fail
      refine (HRB.out _ hP4).mono ?_
      rintro e w5 ⟨rfl, hb5⟩
      have hP5 := hP4.below hb5
      have hb5 := hb4.trans (hb5.mono hb4.size)
      clear hb4
      go_wp2_with fail
      refine (HRC.out _ hP5).mono ?_
      rintro e w6 ⟨rfl, hb6⟩
      have hb14 := hb5.trans (hb6.mono hb5.size)
      have r0 := ((bcell hb14).1 w.heap.size 0 (by rw [HSZ.out]; omega)).trans r0
      have r1 := ((bcell hb14).1 w.heap.size 1 (by rw [HSZ.out]; omega)).trans r1
      have r2 := ((bcell hb14).1 w.heap.size 2 (by rw [HSZ.out]; omega)).trans r2
      have g0 := ((bcell hb14).2 w.heap.size 0 (by rw [HSZ.out]; omega)).trans g0
      have g1 := ((bcell hb14).2 w.heap.size 1 (by rw [HSZ.out]; omega)).trans g1
      have g2 := ((bcell hb14).2 w.heap.size 2 (by rw [HSZ.out]; omega)).trans g2
      have hB4 := hB1.trans (hb14.mono hB1.size)
      clear hb5 hb6 hb14 hP1 hP2 hP3 hP4 hP5
      go_wp2
      first
        | exact bodyPost_ret (v := .tuple #[.agg #[.int .i64 0, .int .i64 0, .int .i64 0], .bool false]) (by simp [results, Tryd.results25, go_sem, *]) rfl ⟨rfl, ((hB4.setCell (Nat.le_refl _) _).setCell (Nat.le_refl _) _).setCell (Nat.le_refl _) _⟩
        | exact bodyPost_ret (v := .tuple #[.agg #[.int .i64 (pvE a), .int .i64 (valL n : Int), .int .i64 (valL d : Int)], .bool true]) (by simp [results, Tryd.results25, go_sem, *]) rfl ⟨rfl, ((hB4.setCell (Nat.le_refl _) _).setCell (Nat.le_refl _) _).setCell (Nat.le_refl _) _⟩
  · have hN2 : o = none := by rw [hN, if_neg (fun h => hb ⟨h.1, h.2.1⟩)]
    subst hN2
    clear hN hra hrb hrc
    cases b1 <;> cases b2
    case true.true => exact absurd ⟨rfl, rfl⟩ hb
    all_goals
      clear hb
      go_enter Tryd.func25, Tryd.ntmps25
      go_wp2_with fail
      rw [← HW0.out]
      obtain ⟨r0, r1, r2, g0, g1, g2, hsz, hB1⟩ := HBF.out
      have HSZ := Lib.hid hsz
      clear hsz
      have hP1 := hP.below hB1
      refine (HC1.out _ hP1).mono ?_
      rintro e w2 ⟨rfl, hb2⟩
      have hP2 := hP1.below hb2
      go_wp2_with fail
      refine (HC2.out _ hP2).mono ?_
      rintro e w3 ⟨rfl, hb3⟩
      have hb14 := hb2.trans (hb3.mono hb2.size)
      have r0 := ((bcell hb14).1 w.heap.size 0 (by rw [HSZ.out]; omega)).trans r0
      have r1 := ((bcell hb14).1 w.heap.size 1 (by rw [HSZ.out]; omega)).trans r1
      have r2 := ((bcell hb14).1 w.heap.size 2 (by rw [HSZ.out]; omega)).trans r2
      have g0 := ((bcell hb14).2 w.heap.size 0 (by rw [HSZ.out]; omega)).trans g0
      have g1 := ((bcell hb14).2 w.heap.size 1 (by rw [HSZ.out]; omega)).trans g1
      have g2 := ((bcell hb14).2 w.heap.size 2 (by rw [HSZ.out]; omega)).trans g2
      have hB4 := hB1.trans (hb14.mono hB1.size)
      clear hb2 hb3 hb14 hP1 hP2
      go_wp2
      exact bodyPost_ret (v := .tuple #[.agg #[.int .i64 0, .int .i64 0, .int .i64 0], .bool false]) (by simp [results, Tryd.results25, go_sem, *]) rfl ⟨rfl, ((hB4.setCell (Nat.le_refl _) _).setCell (Nat.le_refl _) _).setCell (Nat.le_refl _) _⟩

def OnlyV (base : Nat) (l : List Nt) (v : Value) (w' : World) (e : Ending) : Prop := (goodV l = true ∧ e = .returned (.tuple #[v, .bool true]) ∧ Own w' base 42 v l) ∨ (goodV l = false ∧ e = .returned (.tuple #[.slice none 0 0, .bool false]))

set_option maxHeartbeats 1000000 in
theorem voiceOnly_any (v : Value) (l : List Nt) (base B : Nat) (w0 w : World) (hn : l.length ≤ 1048576) (hv : Own w base 42 v l) (hB : RowKit.Below B w0 w) (hB0 : B ≤ w0.heap.size) :
    Calls Tryd.prog 26 #[v] w fun e w' => OnlyV base l v w' e ∧ RowKit.Below B w0 w' := by
  have hv0 := hv
  obtain ⟨A, c, rfl, hA⟩ := hv.form
  clear hv
  cases hgb : goodV l with
  | false =>
    have HGB := Lib.hid hgb
    go_enter Tryd.func26, Tryd.ntmps26
    go_wp2_with fail
    refine (implIsVoice_any' _ _ _ _ hn hA).mono ?_
    rintro e w1 ⟨rfl, hb1⟩
    go_wp2
    go_ret2
    exact ⟨.inr ⟨HGB.out, rfl⟩, hB.trans (hb1.mono (Nat.le_trans hB0 hB.size))⟩
  | true =>
    have HGB := Lib.hid hgb
    go_enter Tryd.func26, Tryd.ntmps26
    go_wp2_with fail
    refine (implIsVoice_any' _ _ _ _ hn hA).mono ?_
    rintro e w1 ⟨rfl, hb1⟩
    have ho := hv0.below hb1 (Nat.le_refl _)
    go_wp2
    go_ret2
    exact ⟨.inl ⟨HGB.out, rfl, ho⟩, hB.trans (hb1.mono (Nat.le_trans hB0 hB.size))⟩
end Go.Proofs.YtfjcnomingbneabDoor
