/- JoinScores: the program's function. -/
import Derived.Test.YtkgnkdebognneaaJoin2
namespace Go.Proofs.Ytkgnkdebognneaa
open Go.RowKit Go.Sort
set_option linter.unusedVariables false
set_option linter.unusedSimpArgs false

theorem wpList_copyNil (w : World) {ops : Array Oper} {rest : List Oper} {o : Oper} {a : Act} {Q : Exit → Act → World → Prop} (hgd : o.guard = none) (d s : Operand)
    (ho : o.op = .call { callee := .builtin .copy, args := #[d, s], argTypes := #[31, 31] })
    (ad : Addr) (n c1 : Nat) (hd : a.eval d = .slice (some ad) n c1) (hs : a.eval s = .slice none 0 0)
    (h : wpList Try.prog ops Q rest (a.put o.dst (goInt 0)) w) : wpList Try.prog ops Q (o :: rest) a w := by
  refine wpList_plain hgd fun K hK => ?_
  have hrun := run_copy_nil Try.prog w 31 31 o.type 25 ad n c1 Try.underlying31 (by kernel_rfl)
  unfold Oper.wp
  simp [execOp, ho, resolve, invoke, builtin, hd, hs, hrun, Result.andThen]
  exact hK _ _ h

set_option maxRecDepth 100000 in
set_option maxHeartbeats 2000000 in
theorem implSort_nil (w : World) :
    Calls Try.prog 21 #[.slice none 0 0] w fun e w' => RetScore w (canon []) (goodB (canon [])) e w' := by
  have hmk : ∀ W : World, (Instr.makeSlice 31 (.int .i64 0) (.int .i64 0)).run Try.prog W = .ok (.slice (some ⟨W.heap.size, 0, none⟩) 0 0) (W.alloc (.cells #[] 25)) := by
    intro W
    have h := make_notes 0 (by omega) W
    have e : madeCells #[Value.int .i64 0, .int .i64 0, .int .i64 0] (0 * 3) = #[] := by
      apply Array.eq_empty_of_size_eq_zero
      rw [size_madeCells]
    rw [e] at h
    simpa using h
  have ho2 : Own (w.alloc (.cells #[] 25)) w.heap.size 25 (.slice (some ⟨w.heap.size, 0, none⟩) 0 0) [] := Own.empty (heap_alloc_new _ _) (Nat.le_refl _)
  have HO2 := Lib.hid ho2
  have HB2 := Lib.hid (show Below w.heap.size w (w.alloc (.cells #[] 25)) from (Below.refl _ _).alloc (Nat.le_refl _) _)
  clear ho2
  go_enter Try.func21, Try.ntmps21
  go_wp2_with (first
    | (with_reducible (refine wpList_copyNil _ rfl (.tmp 11) (.tmp 12) rfl ⟨w.heap.size, 0, none⟩ 0 0 rfl rfl ?_))
    | (go_at_call 47; refine (sortN_any w.heap.size 0 [] w.heap.size _ (by simp) HO2.out).mono ?_; rintro e w3 ⟨rfl, ys, hp, hs, ho3, hg3⟩; have HP := Lib.hid hp; have HS := Lib.hid hs; have HO3 := Lib.hid ho3; have HB3 := Lib.hid (HB2.out.grown hg3 HB2.out.size (fun j hj => Nat.le_of_eq (Option.some.inj hj))); clear hp hs ho3 hg3)
    | (go_at_call 48; refine (scoreOnly_any _ ys w.heap.size _ (by rw [HP.out.length_eq]; simp) HO3.out).mono ?_; rintro e w4 ⟨u, rfl, ho4, hb4⟩))
  go_ret2
  obtain ⟨h1, h2⟩ := canon_good HP.out HS.out
  unfold RetScore
  rw [← h2, ← h1]
  exact ⟨_, rfl, ho4, HB3.out.trans (hb4.mono HB3.out.size)⟩

theorem implSort_n (A : Option Addr) (l : List Nt) (n c : Nat) (w : World) (h : l.length = n) (hn : l.length ≤ 1048576) (hc : l.length ≤ c) (hA : RA w A l) (hA0 : A = none → c = 0) :
    Calls Try.prog 21 #[.slice A n c] w fun e w' => RetScore w (canon l) (goodB (canon l)) e w' := by
  subst h
  cases A with
  | some ad => exact implSort_any ad l c w hn hA
  | none =>
    obtain rfl := hA0 rfl
    obtain rfl : l = [] := List.eq_nil_of_length_eq_zero (by omega)
    exact implSort_nil w

set_option maxRecDepth 100000 in
set_option maxHeartbeats 2000000 in
theorem implJoin_any (A B : Option Addr) (l m : List Nt) (c d : Nat) (w : World) (hl : l.length ≤ 1048576) (hm : m.length ≤ 1048576) (hA : RA w A l) (hB : RA w B m) (hA0 : A = none → c = 0) (hB0 : B = none → d = 0) :
    Calls Try.prog 29 #[.slice A l.length c, .slice B m.length d] w fun e w' => RetScore w (canon (l ++ m)) (goodB l && (goodB m && goodB (canon (l ++ m)))) e w' := by
  cases hgl : goodB l with
  | false =>
    go_enter Try.func29, Try.ntmps29
    go_wp2_with fail
    refine (isScore_any _ _ _ _ hl hA).mono ?_
    rintro e w1 ⟨rfl, hb1⟩
    go_wp2
    go_ret2
    exact ⟨_, rfl, by simpa using Own.nil _ _ _, hb1⟩
  | true =>
    have h30 := ((goodB_iff l).1 hgl).2
    cases hgm : goodB m with
    | false =>
      go_enter Try.func29, Try.ntmps29
      go_wp2_with fail
      refine (isScore_any _ _ _ _ hl hA).mono ?_
      rintro e w1 ⟨rfl, hb1⟩
      go_wp2_with (go_at_call 18; refine (isScore_any _ _ _ _ hm (hB.below hb1)).mono ?_; rintro e w2 ⟨rfl, hb2⟩)
      go_ret2
      exact ⟨_, rfl, by simpa using Own.nil _ _ _, hb1.trans (hb2.mono hb1.size)⟩
    | true =>
      have h30' := ((goodB_iff m).1 hgm).2
      go_enter Try.func29, Try.ntmps29
      go_wp2_with fail
      refine (isScore_any _ _ _ _ hl hA).mono ?_
      rintro e w1 ⟨rfl, hb1⟩
      have HA1 := Lib.hid (hA.below hb1)
      have HB1 := Lib.hid (hB.below hb1)
      have hb1' := hb1
      go_wp2_with (first
        | (go_at_call 18; refine (isScore_any _ _ _ _ hm HB1.out).mono ?_; rintro e w2 ⟨rfl, hb2⟩; have hb12 := Lib.hid (hb1'.trans (hb2.mono hb1'.size)); have HA2 := Lib.hid (HA1.out.below hb2); have HB2 := Lib.hid (HB1.out.below hb2); clear hb2)
        | (go_at_call 54; refine (concat2_any _ A B l m c d _ h30 h30' (by simp) (by rw [World.cell?_alloc_new]; rfl) (by rw [World.cell?_alloc_new]; rfl) (HA2.out.alloc _) (HB2.out.alloc _) hA0 hB0).mono ?_; rintro e w3 ⟨v3, rfl, ho3, hb3⟩; have HBL3 := Lib.hid ((hb12.out.alloc hb12.out.size _).trans (hb3.mono (hb12.out.alloc hb12.out.size _).size)); obtain ⟨A4, c4, rfl, hA4, hc4, hc5⟩ := ho3.form'; have HF := Lib.hid ho3.form3.1; have HA4 := Lib.hid hA4; have HC4 := Lib.hid hc4; clear ho3 hb3 hA4 hc4 hc5)
        | (go_at_call 21; refine (implSort_n A4 (l ++ m) _ c4 _ (by simp) (by simp; omega) HC4.out HA4.out HF.out).mono ?_; rintro e w5 ⟨v5, rfl, ho5, hb6⟩))
      go_ret2
      have hB3 := HBL3.out
      have hO5 := ho5.mono hB3.size
      have hB6 := hB3.trans (hb6.mono hB3.size)
      simp only [Bool.true_and]
      exact RetScore.mk rfl hO5 hB6
end Go.Proofs.Ytkgnkdebognneaa
