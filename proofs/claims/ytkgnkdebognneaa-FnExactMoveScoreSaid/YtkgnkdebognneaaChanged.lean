/- The model's changed scores. -/
import Derived.Test.YtkgnkdebognneaaChg
namespace Go.Proofs.Ytkgnkdebognneaa
open Go.RowKit Go.Sort
set_option linter.unusedVariables false

set_option maxRecDepth 100000 in
set_option maxHeartbeats 2000000 in
theorem ntChanged_any (A : Option Addr) (l : List Nt) (c : Nat) (dp ds : Int) (w : World) (hn : l.length ≤ 1048576) (hA : RA w A l) (hG : Good l) (h1 : -999 ≤ dp) (h2 : dp ≤ 999) (h3 : -999 ≤ ds) (h4 : ds ≤ 999) :
    Calls Try.prog 50 #[.slice A l.length c, .int .i64 dp, .int .i64 ds] w fun e w' => RetScore w (chg dp ds l) (goodB (chg dp ds l)) e w' := by
  obtain ⟨i0, hi0, hz0, hz1, hz2⟩ := info_parts Try.info_Note
  go_enter Try.func50, Try.ntmps50
  go_wp2
  have hG' := Lib.hid hG
  clear hG
  go_loopw [8, 13] (fun out i wr => ∃ (k : Nat) (v : Value), k ≤ l.length ∧ i = .int .i64 k ∧ out = v ∧ Own wr w.heap.size 25 v ((chg dp ds l).take k) ∧ Below w.heap.size w wr)
    (fun _ i _ => l.length - (intOf i).toNat)
  case atStart => exact ⟨0, _, Nat.zero_le _, rfl, rfl, by simpa using Own.nil _ _ _, Below.refl _ _⟩
  case round =>
    obtain ⟨k, v, hk, rfl, hvv, hown, hb⟩ := hrel
    replace hvv := hvv.symm
    subst hvv
    by_cases hkl : k < l.length
    · have hx : l[k]? = some l[k] := List.getElem?_eq_getElem hkl
      generalize l[k] = x at hx
      have hv := (noteN_iff x).1 (hG'.out.1 k x hkl hx).1
      obtain ⟨p, s, n⟩ := x
      have hx' : (chg dp ds l)[k]? = some (p + dp, s + ds, n) := chg_get dp ds l k _ hx
      simp only at hv
      obtain ⟨g, o, rfl, hgb, h0, h1', h2'⟩ := (hA.below hb) k _ hx
      simp only at h0 h1' h2'
      have i1 : (0 : Int) ≤ (k : Int) := by omega
      have i2 : (k : Int) < (l.length : Int) := by omega
      have hlt : ∀ j, v.ownBlock = some j → w.heap.size ≤ j := fun j hj => (hown.lt j hj).1
      unfold Own at hown
      have hL : ((chg dp ds l).take k).length = k := by simp [chg_length]; omega
      rw [hL] at hown
      have HX := Lib.hid hx'
      have HO := Lib.hid hown
      have HLT := Lib.hid hlt
      clear hx hx' hown hL hlt
      go_wp2_with (first | (at_builtin; refine wpList_append_lies _ (by rfl) _ _ _ (by rfl) w.heap.size 25 i0 _ 3 24 Try.underlying31 hi0 hz0 hz1 hz2 rfl (by omega) v k (cl ((chg dp ds l).take k)) (by rfl) ((HO.out.alloc _).alloc _) ⟨wr.heap.size + 1, 0, none⟩ 1 1 [.int .i64 (p + dp), .int .i64 (s + ds), .int .i64 n] (by rfl) rfl (World.news_of_block (cs := #[.int .i64 (p + dp), .int .i64 (s + ds), .int .i64 n]) (t := 25) (fr := (0, 0)) (heap_alloc2_new _ _ _)) (by simp [Value.oneCell']) (by omega) (by unfold maxLen; omega) (by omega) (by have := hb.size; simp; omega) (wr.heap.size + 1 + 1) (by simp) ?_; intro gg cap w1 hown1 hgrow hat hlt1))
      go_roundw
      case rel =>
        refine ⟨k + 1, _, by omega, by go_num, rfl, ?_, ((hb.alloc hb.size _).alloc (by simp; have := hb.size; omega) _).grown hgrow (by simp; have := hb.size; omega) HLT.out⟩
        have e : (chg dp ds l).take (k + 1) = (chg dp ds l).take k ++ [(p + dp, s + ds, n)] := by rw [List.take_add_one, HX.out]; rfl
        have hL' : ((chg dp ds l).take (k + 1)).length = k + 1 := by simp [chg_length]; omega
        unfold Own
        rw [hL', e, cl_append]
        exact hown1
      case measure => simp [intOf]; omega
    · obtain rfl : k = l.length := by omega
      rw [List.take_of_length_le (by rw [chg_length]; exact Nat.le_refl _)] at hown
      have hown2 := hown
      obtain ⟨A', c', rfl, hA', hc1, hc2⟩ := hown.form'
      unfold maxLen at hc2
      cases hgb : goodB (chg dp ds l) with
      | false =>
        go_wp2_with fail
        refine (ntGood_any _ _ _ _ (by rw [chg_length]; exact hn) hc1 (by omega) hA').mono ?_
        rintro e w1 ⟨rfl, hb1⟩
        go_wp2
        go_ret2
        exact ⟨.slice none 0 0, by rw [hgb]; rfl, by rw [hgb]; simpa using Own.nil _ _ _, hb.trans (hb1.mono hb.size)⟩
      | true =>
        go_wp2_with fail
        refine (ntGood_any _ _ _ _ (by rw [chg_length]; exact hn) hc1 (by omega) hA').mono ?_
        rintro e w1 ⟨rfl, hb1⟩
        go_wp2
        go_ret2
        exact ⟨.slice A' (chg dp ds l).length c', by rw [hgb]; rfl, by rw [hgb]; simpa using hown2.below hb1 (Nat.le_refl _), hb.trans (hb1.mono hb.size)⟩

set_option maxRecDepth 100000 in
set_option maxHeartbeats 1000000 in
theorem specTrans_any (A : Option Addr) (l : List Nt) (c : Nat) (by_ : Int) (w : World) (hn : l.length ≤ 1048576) (hc : l.length ≤ c) (hc' : c ≤ 9223372036854775807) (hA : RA w A l) :
    Calls Try.prog 24 #[.slice A l.length c, .int .i64 by_] w fun e w' => RetScore w (chg by_ 0 l) (inR by_ (-72) 72 && (goodB l && goodB (chg by_ 0 l))) e w' := by
  cases hgb : goodB l with
  | false =>
    rw [show (inR by_ (-72) 72 && (false && goodB (chg by_ 0 l))) = false from by simp]
    go_enter Try.func24, Try.ntmps24
    go_wp2_with fail
    refine (ntGood_any _ _ _ _ hn hc hc' hA).mono ?_
    rintro e w1 ⟨rfl, hb1⟩
    go_wp2
    go_ret2
    exact ⟨_, rfl, by simpa using Own.nil _ _ _, hb1⟩
  | true =>
    have hg := (goodB_iff l).1 hgb
    cases hin : inR by_ (-72) 72 with
    | false =>
      go_enter Try.func24, Try.ntmps24
      go_wp2_with fail
      refine (ntGood_any _ _ _ _ hn hc hc' hA).mono ?_
      rintro e w1 ⟨rfl, hb1⟩
      go_wp2_with fail
      refine (l1In_any _ _ _ _).mono ?_
      rintro e w2 ⟨rfl, rfl⟩
      go_wp2
      go_ret2
      exact ⟨_, rfl, by simpa using Own.nil _ _ _, hb1⟩
    | true =>
      have hby : -72 ≤ by_ ∧ by_ ≤ 72 := by simpa [inR] using hin
      go_enter Try.func24, Try.ntmps24
      go_wp2_with fail
      refine (ntGood_any _ _ _ _ hn hc hc' hA).mono ?_
      rintro e w1 ⟨rfl, hb1⟩
      go_wp2_with fail
      refine (l1In_any _ _ _ _).mono ?_
      rintro e w2 ⟨rfl, rfl⟩
      go_wp2_with fail
      refine (ntChanged_any A l c by_ 0 _ hn (hA.below hb1) hg (by omega) (by omega) (by omega) (by omega)).mono ?_
      rintro e w2 ⟨v, rfl, ho, hb⟩
      go_wp2
      go_ret2
      exact RetScore.mono (B' := w1) ⟨v, rfl, by simpa using ho, hb⟩ hb1

set_option maxRecDepth 100000 in
set_option maxHeartbeats 1000000 in
theorem specMove_any (A : Option Addr) (l : List Nt) (c : Nat) (by_ : Int) (w : World) (hn : l.length ≤ 1048576) (hc : l.length ≤ c) (hc' : c ≤ 9223372036854775807) (hA : RA w A l) :
    Calls Try.prog 26 #[.slice A l.length c, .int .i64 by_] w fun e w' => RetScore w (chg 0 by_ l) (inR by_ (-999) 999 && (goodB l && goodB (chg 0 by_ l))) e w' := by
  cases hgb : goodB l with
  | false =>
    rw [show (inR by_ (-999) 999 && (false && goodB (chg 0 by_ l))) = false from by simp]
    go_enter Try.func26, Try.ntmps26
    go_wp2_with fail
    refine (ntGood_any _ _ _ _ hn hc hc' hA).mono ?_
    rintro e w1 ⟨rfl, hb1⟩
    go_wp2
    go_ret2
    exact ⟨_, rfl, by simpa using Own.nil _ _ _, hb1⟩
  | true =>
    have hg := (goodB_iff l).1 hgb
    cases hin : inR by_ (-999) 999 with
    | false =>
      go_enter Try.func26, Try.ntmps26
      go_wp2_with fail
      refine (ntGood_any _ _ _ _ hn hc hc' hA).mono ?_
      rintro e w1 ⟨rfl, hb1⟩
      go_wp2_with fail
      refine (l1In_any _ _ _ _).mono ?_
      rintro e w2 ⟨rfl, rfl⟩
      go_wp2
      go_ret2
      exact ⟨_, rfl, by simpa using Own.nil _ _ _, hb1⟩
    | true =>
      have hby : -999 ≤ by_ ∧ by_ ≤ 999 := by simpa [inR] using hin
      go_enter Try.func26, Try.ntmps26
      go_wp2_with fail
      refine (ntGood_any _ _ _ _ hn hc hc' hA).mono ?_
      rintro e w1 ⟨rfl, hb1⟩
      go_wp2_with fail
      refine (l1In_any _ _ _ _).mono ?_
      rintro e w2 ⟨rfl, rfl⟩
      go_wp2_with fail
      refine (ntChanged_any A l c 0 by_ _ hn (hA.below hb1) hg (by omega) (by omega) (by omega) (by omega)).mono ?_
      rintro e w2 ⟨v, rfl, ho, hb⟩
      go_wp2
      go_ret2
      exact RetScore.mono (B' := w1) ⟨v, rfl, by simpa using ho, hb⟩ hb1

end Go.Proofs.Ytkgnkdebognneaa
