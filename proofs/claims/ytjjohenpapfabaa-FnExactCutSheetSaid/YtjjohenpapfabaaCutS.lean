/- Contracts: the model's CutSheet. -/
import Derived.Test.YtjjohenpapfabaaMoveS
import Derived.Deep.RegionWith
namespace Go.Proofs.Ytjjohenpapfabaa
open Go.RowKit Go.Sort
set_option linter.unusedVariables false
set_option linter.unusedSimpArgs false

set_option maxRecDepth 100000 in
set_option maxHeartbeats 4000000 in
theorem shCut_any (A : Option Addr) (l : List Nt) (c : Nat) (f t : Int) (w2 : World) (hA2 : RA w2 A l) (hGd : Good l) (f1 : 0 ≤ f) (f2 : f ≤ 1999) (t1 : f < t) (t2 : t ≤ 2000) :
    Calls Try.prog 81 #[.slice A l.length c, .int .i64 f, .int .i64 t] w2 fun e w' => ∃ v, e = .returned v ∧ Own w' w2.heap.size 34 v (canon (chgL (cutN f t) l)) ∧ Below w2.heap.size w2 w' := by
  have h60 := hGd.2
  have hG := Lib.hid hGd
  have HCG := Lib.hid (cut_good f t hGd f1 t2)
  clear hGd
  go_enter Try.func81, Try.ntmps81
  go_wp2
  go_loopw [7, 16] (fun a i wr => ∃ (k : Nat) (v : Value), k ≤ l.length ∧ i = .int .i64 k ∧ a = v ∧ Own wr w2.heap.size 34 v (chgL (cutN f t) (l.take k)) ∧ Below w2.heap.size w2 wr)
    (fun _ i _ => l.length - (intOf i).toNat)
  case atStart => exact ⟨0, _, Nat.zero_le _, rfl, rfl, by simpa [chgL] using Own.nil _ _ _, Below.refl _ _⟩
  case round =>
    obtain ⟨k, v, hk, rfl, hvv, hown, hb⟩ := hrel
    replace hvv := hvv.symm
    subst hvv
    by_cases hkl : k < l.length
    · have hx : l[k]? = some l[k] := List.getElem?_eq_getElem hkl
      generalize l[k] = x at hx
      have hsn := chgL_snoc (cutN f t) l k x hx
      have hv := (noteN_iff x).1 (hG.out.valid x (List.mem_iff_getElem?.2 ⟨k, hx⟩))
      have hlen : (chgL (cutN f t) (l.take k)).length ≤ 60 := by have := chgL_length (cutN f t) (l.take k); simp at this; omega
      obtain ⟨g1, o, rfl, hgb, h0, h1, h2⟩ := (hA2.below hb) k _ hx
      obtain ⟨p, s, n⟩ := x
      simp only at h0 h1 h2 hv
      have i1 : (0 : Int) ≤ (k : Int) := by omega
      have i2 : (k : Int) < (l.length : Int) := by omega
      have hu := mxI_spec s f
      have hw := mnI_spec n t
      have u1 : 0 ≤ mxI s f ∧ mxI s f ≤ 2000 := by omega
      have v1 : 0 ≤ mnI n t ∧ mnI n t ≤ 2000 := by omega
      clear hu hw
      obtain ⟨u1, u2⟩ := u1
      obtain ⟨v1, v2⟩ := v1
      have HO := Lib.hid hown
      have HLEN := Lib.hid hlen
      by_cases hlt : mxI s f < mnI n t
      · have HSN := Lib.hid (hsn.trans (by rw [if_pos (show (cutN f t (p, s, n)).2.1 < (cutN f t (p, s, n)).2.2 from by simp only [cutN]; omega)]))
        clear hsn hx hown hlen
        go_wp2_with fail
        go_region_with (first
          | (go_at_call 91; refine (l1Most_any _ _ _).mono ?_; rintro e w' ⟨rfl, rfl⟩)
          | (go_at_call 93; refine (l1Least_any _ _ _).mono ?_; rintro e w' ⟨rfl, rfl⟩))
        all_goals
          go_wp2_with (at_builtin; refine wpList_appHole _ rfl (.tmp 31) (.tmp 41) rfl w2.heap.size v _ rfl ((HO.out.alloc _).alloc _) (some ⟨wr.heap.size + 1, 0, none⟩) 1 1 [cutN f t (p, s, n)] rfl rfl (fun h => by cases h) (RA.one (heap_two _ _ _)) (by have := HLEN.out; omega) (by simp; have := hb.size; omega) ?_; intro v4 w4 ho4 hg4; have HO4 := Lib.hid ho4; have HB4 := Lib.hid ((((hb.alloc hb.size (.cells #[.int .i64 p, .int .i64 s, .int .i64 n] 34)).drew).alloc (by simp; have := hb.size; omega) _).grown hg4 (by simp; have := hb.size; omega) (fun j hj => (HO.out.lt j hj).1)); clear ho4 hg4)
          go_roundw
          case rel => exact ⟨k + 1, _, by omega, by go_num, rfl, by rw [HSN.out]; exact HO4.out, HB4.out⟩
          case measure => simp [intOf]; omega
      · have HSN := Lib.hid (hsn.trans (by rw [if_neg (show ¬ (cutN f t (p, s, n)).2.1 < (cutN f t (p, s, n)).2.2 from by simp only [cutN]; omega), List.append_nil]))
        clear hsn hx hown hlen
        go_wp2_with fail
        go_region_with (first
          | (go_at_call 91; refine (l1Most_any _ _ _).mono ?_; rintro e w' ⟨rfl, rfl⟩)
          | (go_at_call 93; refine (l1Least_any _ _ _).mono ?_; rintro e w' ⟨rfl, rfl⟩))
        all_goals
          go_wp2
          go_roundw
          case rel => exact ⟨k + 1, _, by omega, by go_num, rfl, by rw [HSN.out]; exact HO.out.alloc _, (hb.alloc hb.size (.cells #[.int .i64 p, .int .i64 s, .int .i64 n] 34)).drew⟩
          case measure => simp [intOf]; omega
    · obtain rfl : k = l.length := by omega
      rw [List.take_length] at hown
      have hlen := chgL_length (cutN f t) l
      have hbs := hb.size
      obtain ⟨n0, hn0⟩ : ∃ n0, (chgL (cutN f t) l).length = n0 := ⟨_, rfl⟩
      obtain ⟨A', c', hvf, hA', hc1, hc2⟩ := hown.form_n hn0
      subst hvf
      go_wp2_with fail
      refine (shSorted_n A' (chgL (cutN f t) l) n0 c' _ hn0 (by omega) hA').mono ?_
      rintro e w3 ⟨u, rfl, ho3, hb3⟩
      have HO3 := Lib.hid ho3
      go_wp2
      go_ret
      refine ⟨_, rfl, ?_, hb.trans (hb3.mono hb.size)⟩
      have h := HO3.out.mono hbs
      rw [HCG.out] at h
      simpa using h

set_option maxRecDepth 100000 in
set_option maxHeartbeats 2000000 in
theorem specCut_any (A : Option Addr) (l : List Nt) (c : Nat) (f t : Int) (w : World) (hn : l.length ≤ 1048576) (hc : l.length ≤ c) (hc' : c ≤ 9223372036854775807) (hA : RA w A l) :
    Calls Try.prog 51 #[.slice A l.length c, .int .i64 f, .int .i64 t] w fun e w' => RetScore w (canon (chgL (cutN f t) l)) (goodB l && ((inR f 0 1999 && inR t (f + 1) 2000) && goodB (canon (chgL (cutN f t) l)))) e w' := by
  cases hgb : goodB l with
  | false =>
    have HG := shGood_quick A l c false hn hc hc' hgb
    clear hgb
    go_enter Try.func51, Try.ntmps51
    go_wp2_with (go_at_call 64; refine (HG.out _ hA).mono ?_; rintro e w1 ⟨rfl, hb1⟩)
    go_ret2
    exact ⟨_, rfl, by simpa using Own.nil _ _ _, hb1⟩
  | true =>
    have hG := Lib.hid ((goodB_iff l).1 hgb)
    have HG := shGood_quick A l c true hn hc hc' hgb
    clear hgb
    cases hf : inR f 0 1999 with
    | false =>
      go_enter Try.func51, Try.ntmps51
      go_wp2_with (first
        | (go_at_call 64; refine (HG.out _ hA).mono ?_; rintro e w1 ⟨rfl, hb1⟩)
        | (go_at_call 72; refine (shStep_any _ _).mono ?_; rintro e w' ⟨rfl, rfl⟩))
      go_ret2
      exact ⟨_, rfl, by simpa using Own.nil _ _ _, hb1⟩
    | true =>
      obtain ⟨f1, f2⟩ := inR_iff.1 hf
      cases ht : inR t (f + 1) 2000 with
      | false =>
        go_enter Try.func51, Try.ntmps51
        go_wp2_with (first
          | (go_at_call 64; refine (HG.out _ hA).mono ?_; rintro e w1 ⟨rfl, hb1⟩)
          | (go_at_call 72; refine (shStep_any _ _).mono ?_; rintro e w' ⟨rfl, rfl⟩)
          | (go_at_call 54; refine (l1In_any _ _ _ _).mono ?_; rintro e w' ⟨rfl, rfl⟩))
        go_ret2
        exact ⟨_, rfl, by simpa using Own.nil _ _ _, hb1⟩
      | true =>
        obtain ⟨t1, t2⟩ := inR_iff.1 ht
        have HCG := cut_good f t hG.out f1 t2
        rw [HCG]
        clear HCG
        go_enter Try.func51, Try.ntmps51
        go_wp2_with (first
          | (go_at_call 64; refine (HG.out _ hA).mono ?_; rintro e w1 ⟨rfl, hb1⟩)
          | (go_at_call 72; refine (shStep_any _ _).mono ?_; rintro e w' ⟨rfl, rfl⟩)
          | (go_at_call 54; refine (l1In_any _ _ _ _).mono ?_; rintro e w' ⟨rfl, rfl⟩)
          | (go_at_call 81; refine (shCut_any A l c f t _ (hA.below hb1) hG.out f1 f2 (by omega) t2).mono ?_; rintro e w3 ⟨v3, rfl, ho3, hb3⟩))
        go_ret2
        exact ⟨_, rfl, by simpa using ho3.mono hb1.size, hb1.trans (hb3.mono hb1.size)⟩
end Go.Proofs.Ytjjohenpapfabaa
