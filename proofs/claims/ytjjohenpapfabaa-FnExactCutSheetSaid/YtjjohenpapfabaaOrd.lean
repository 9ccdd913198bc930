/- Contracts: holes put in order and checked, the program's orderedSheet. -/
import Derived.Test.YtjjohenpapfabaaSortN
import Derived.Test.YtjjohenpapfabaaQuick
import Derived.Test.YtjjohenpapfabaaShP
import Derived.Shelf.SlSortCmp.NoneTotal
namespace Go.Proofs.Ytjjohenpapfabaa
open Go.RowKit Go.Sort Go.Shelf
set_option linter.unusedVariables false
set_option linter.unusedSimpArgs false

theorem sortN_none (p : Option Addr) (cap : Nat) (fv : Value) (w : World) :
    Calls Try.prog 87 #[.slice p 0 cap, fv] w fun e w' => e = .returned (.tuple #[]) ∧ w' = w :=
  AnyF.slices_SortFunc_none Try.sortNotesF p cap fv w
theorem canon_nil : canon [] = [] := List.eq_nil_of_length_eq_zero (by rw [canon_length]; rfl)
theorem goodB_nil : goodB [] = true := rfl

set_option maxRecDepth 100000 in
set_option maxHeartbeats 2000000 in
theorem ordered_any (v : Value) (zs : List Nt) (base : Nat) (w : World) (hn : zs.length ≤ 1000000) (hv : Own w base 34 v zs) (hbase : base ≤ w.heap.size) :
    Calls Try.prog 68 #[v] w fun e w' => ∃ u, e = .returned (.tuple #[u, .bool (goodB (canon zs))]) ∧ Own w' base 34 u (if goodB (canon zs) = true then canon zs else []) ∧ Below base w w' := by
  have hv0 := hv
  rcases hv.2 with ⟨rfl, h0⟩ | ⟨g, cap, cur, rfl, hg, hh, hnc, hm, hs, ht⟩
  · obtain rfl : zs = [] := List.eq_nil_of_length_eq_zero h0
    rw [canon_nil, goodB_nil]
    have HQ := isSheet_quick none [] 0 true (by simp) goodB_nil
    have HR : Hid (∀ W, RA W none []) := Lib.hid fun W => RA.nil W none
    go_enter Try.func68, Try.ntmps68
    go_wp2_with (first
      | (go_at_call 87; refine (sortN_none _ _ _ _).mono ?_; rintro e w1 ⟨rfl, rfl⟩)
      | (go_at_call 28; refine (HQ.out _ (HR.out _)).mono ?_; rintro e w2 ⟨rfl, hb2⟩))
    go_ret2
    exact ⟨_, rfl, by simpa using Own.nil _ _ _, hb2.mono hbase⟩
  · clear hh hnc hm hs ht
    have HV := Lib.hid hv0
    have HN := Lib.hid hn
    clear hv hv0
    cases hgb : goodB (canon zs) with
    | false =>
      go_enter Try.func68, Try.ntmps68
      go_wp2_with (first
        | (go_at_call 87; refine (sortN_any _ _ zs base _ hn HV.out).mono ?_; rintro e w1 ⟨rfl, ys, hp, hs, ho1, hg1⟩; obtain ⟨hc1, hc2⟩ := canon_good hp hs; rw [hgb] at hc1; have HQ := isSheet_quick (some ⟨g, 0, none⟩) ys cap false (by rw [hp.length_eq]; omega) hc1; have HLE := hp.length_eq; rw [← HLE]; have HO1 := Lib.hid ho1; have HB1 := Lib.hid ((Below.refl base w).grown hg1 hbase (fun j hj => by have := Option.some.inj hj; omega)); clear HLE hc1 hc2 hp hs ho1 hg1)
        | (go_at_call 28; refine (HQ.out _ HO1.out.ra).mono ?_; rintro e w2 ⟨rfl, hb2⟩))
      go_ret2
      exact ⟨_, rfl, by simpa using Own.nil _ _ _, HB1.out.trans (hb2.mono (Nat.le_trans hbase HB1.out.size))⟩
    | true =>
      go_enter Try.func68, Try.ntmps68
      go_wp2_with (first
        | (go_at_call 87; refine (sortN_any _ _ zs base _ hn HV.out).mono ?_; rintro e w1 ⟨rfl, ys, hp, hs, ho1, hg1⟩; obtain ⟨hc1, hc2⟩ := canon_good hp hs; rw [hgb] at hc1 hc2; rw [hc1, if_pos rfl, if_pos rfl] at hc2; have HC2 := Lib.hid hc2; have HQ := isSheet_quick (some ⟨g, 0, none⟩) ys cap true (by rw [hp.length_eq]; omega) hc1; have HLE := hp.length_eq; rw [← HLE] at ho1 ⊢; have HO1 := Lib.hid ho1; have HB1 := Lib.hid ((Below.refl base w).grown hg1 hbase (fun j hj => by have := Option.some.inj hj; omega)); clear hc2 HLE hc1 hp hs ho1 hg1)
        | (go_at_call 28; refine (HQ.out _ HO1.out.ra).mono ?_; rintro e w2 ⟨rfl, hb2⟩))
      go_ret2
      refine ⟨_, rfl, by simpa [← HC2.out] using HO1.out.below hb2 (Nat.le_refl _), HB1.out.trans (hb2.mono (Nat.le_trans hbase HB1.out.size))⟩
end Go.Proofs.Ytjjohenpapfabaa
