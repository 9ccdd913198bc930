/- JoinScores: the model's and the program's functions have one answer, in memory of their own. -/
import Derived.Test.YtkgnkdebognneaaSrt
import Derived.Test.YtkgnkdebognneaaGrow
namespace Go.Proofs.Ytkgnkdebognneaa
open Go.RowKit Go.Sort
set_option linter.unusedVariables false
set_option linter.unusedSimpArgs false

/-- slices.Grow of nil. -/
theorem growN_any (n : Nat) (w : World) (hn : n ≤ 1000000) :
    Calls Try.prog 67 #[.slice none 0 0, .int .i64 (n : Int)] w fun e w' => ∃ v, e = .returned v ∧ Own w' w.heap.size 25 v [] ∧ Below w.heap.size w w' ∧ (n = 0 → v = .slice none 0 0) ∧ (0 < n → v.ownBlock = some w.heap.size) := by
  obtain ⟨i, hi, hz, hs, hb⟩ := info_parts Try.info_Note
  rcases Nat.eq_zero_or_pos n with h0 | h0
  · subst h0
    have h := Go.Proofs.Any8.slices_Grow_room Try.growN none 0 0 0 w (Nat.le_refl _) (by omega) (by omega) (Nat.le_refl _)
    change Calls Try.prog 67 _ _ _ at h
    refine h.mono ?_
    rintro e w' ⟨rfl, rfl⟩
    exact ⟨_, rfl, Own.nil _ _ _, Below.refl _ _, fun _ => rfl, fun h => absurd h (by omega)⟩
  · have h := Go.Proofs.Any8.slices_Grow_grow Try.growN i _ hi hz (by omega) none 0 0 n [] w (Nat.le_refl _) (by omega) (by rw [hb]; omega) (by omega) (by simp) (fun _ => rfl) (fun a h => by cases h)
    change Calls Try.prog 67 _ _ _ at h
    refine h.mono ?_
    rintro e w' ⟨rfl, rfl⟩
    refine ⟨_, rfl, ⟨by simp [cl_nil], .inr ⟨w.heap.size, _, _, rfl, Nat.le_refl _, heap_alloc_new w.drew _, Nat.zero_le _, grownCap_le_maxLen w _ _ _ (by unfold maxLen; omega), ?_, by simp [cl_nil]⟩⟩, bel1 w _, fun h => absurd h (by omega), fun _ => rfl⟩
    simp only [Array.size_append, size_zeroCells, List.size_toArray, List.length_nil]
    have := grownCap_ge w (0 + n) 0 (Try.growN_ren.t 25)
    have e3 : (Value.agg #[Value.int .i64 0, .int .i64 0, .int .i64 0]).cells.size = 3 := rfl
    rw [e3]
    omega

theorem ntSorted_n (A : Option Addr) (l : List Nt) (n c : Nat) (w : World) (h : l.length = n) (hn : l.length ≤ 100000) (hA : RA w A l) :
    Calls Try.prog 46 #[.slice A n c] w fun e w' => RetScore w (canon l) (goodB (canon l)) e w' := by
  subst h
  exact ntSorted_any A l c w hn hA
theorem RetScore.mk {B : World} {l : List Nt} {ok : Bool} {e : Ending} {w' : World} {v : Value} (he : e = .returned (.tuple #[v, .bool ok])) (ho : Own w' B.heap.size 25 v (if ok = true then l else [])) (hb : Below B.heap.size B w') : RetScore B l ok e w' := ⟨v, he, ho, hb⟩

set_option maxRecDepth 100000 in
set_option maxHeartbeats 2000000 in
theorem specJoin_any (A B : Option Addr) (l m : List Nt) (c d : Nat) (w : World) (hl : l.length ≤ 1048576) (hm : m.length ≤ 1048576) (hc : l.length ≤ c) (hc' : c ≤ 9223372036854775807) (hd : m.length ≤ d) (hd' : d ≤ 9223372036854775807) (hA : RA w A l) (hB : RA w B m) (hA0 : A = none → c = 0) (hB0 : B = none → d = 0) :
    Calls Try.prog 28 #[.slice A l.length c, .slice B m.length d] w fun e w' => RetScore w (canon (l ++ m)) (goodB l && (goodB m && goodB (canon (l ++ m)))) e w' := by
  cases hgl : goodB l with
  | false =>
    go_enter Try.func28, Try.ntmps28
    go_wp2_with fail
    refine (ntGood_any _ _ _ _ hl hc hc' hA).mono ?_
    rintro e w1 ⟨rfl, hb1⟩
    go_wp2
    go_ret2
    exact ⟨_, rfl, by simpa using Own.nil _ _ _, hb1⟩
  | true =>
    have h30 := ((goodB_iff l).1 hgl).2
    cases hgm : goodB m with
    | false =>
      go_enter Try.func28, Try.ntmps28
      go_wp2_with fail
      refine (ntGood_any _ _ _ _ hl hc hc' hA).mono ?_
      rintro e w1 ⟨rfl, hb1⟩
      go_wp2_with (go_at_call 42; refine (ntGood_any _ _ _ _ hm hd hd' (hB.below hb1)).mono ?_; rintro e w2 ⟨rfl, hb2⟩)
      go_ret2
      exact ⟨_, rfl, by simpa using Own.nil _ _ _, hb1.trans (hb2.mono hb1.size)⟩
    | true =>
      have h30' := ((goodB_iff m).1 hgm).2
      go_enter Try.func28, Try.ntmps28
      go_wp2_with fail
      refine (ntGood_any _ _ _ _ hl hc hc' hA).mono ?_
      rintro e w1 ⟨rfl, hb1⟩
      have HA1 := Lib.hid (hA.below hb1)
      have HB1 := Lib.hid (hB.below hb1)
      have hb1' := hb1
      go_wp2_with (first
        | (go_at_call 42; refine (ntGood_any _ _ _ _ hm hd hd' HB1.out).mono ?_; rintro e w2 ⟨rfl, hb2⟩; have hb12 := Lib.hid (hb1'.trans (hb2.mono hb1'.size)); have HA2 := Lib.hid ((HA1.out.below hb2).alloc (.cells #[] 25)); have HB2 := Lib.hid (HB1.out.below hb2); have ho2 := Lib.hid (Own.empty (heap_alloc_new w2 (.cells #[] 25)) (Nat.le_refl w2.heap.size)); have hb3 := Lib.hid (show Below w2.heap.size w2 (w2.alloc (.cells #[] 25)) from (Below.refl _ _).alloc (Nat.le_refl _) _); clear hb2)
        | (at_builtin; (refine wpList_appN _ rfl (.tmp 14) (.tmp 15) rfl w2.heap.size _ [] rfl ho2.out A l.length c l rfl rfl hA0 HA2.out (by simp; omega) hb3.out.size ?_); intro v3 w3 ho3 hg3; have hb4 := Lib.hid (hb3.out.grown hg3 hb3.out.size (fun j hj => (ho2.out.lt j hj).1)); have HB3 := Lib.hid (HB2.out.below hb4.out); have HO3 := Lib.hid ho3; clear ho3 hg3)
        | (at_builtin; (refine wpList_appN _ rfl (.tmp 16) (.tmp 17) rfl w2.heap.size _ _ rfl HO3.out B m.length d m rfl rfl hB0 HB3.out (by simp; omega) hb4.out.size ?_); intro v4 w4 ho4 hg4; have hb5 := Lib.hid (hb4.out.grown hg4 hb4.out.size (fun j hj => (HO3.out.lt j hj).1)); obtain ⟨A4, c4, rfl, hA4⟩ := ho4.form; have HA4 := Lib.hid (show RA w4 A4 (l ++ m) by simpa using hA4); clear ho4 hg4 hA4)
        | (go_at_call 46; refine (ntSorted_n A4 (l ++ m) _ c4 w4 (by simp) (by simp; omega) HA4.out).mono ?_; rintro e w5 ⟨v5, rfl, ho5, hb6⟩))
      go_ret2
      have hB5 := hb12.out.trans (hb5.out.mono hb12.out.size)
      have hO5 := ho5.mono hB5.size
      have hB6 := hB5.trans (hb6.mono hB5.size)
      clear ho5 HO3 HA4 ho2 HA2 HB2 HB3 HA1 HB1
      simp only [Bool.true_and]
      exact RetScore.mk rfl hO5 hB6
end Go.Proofs.Ytkgnkdebognneaa
