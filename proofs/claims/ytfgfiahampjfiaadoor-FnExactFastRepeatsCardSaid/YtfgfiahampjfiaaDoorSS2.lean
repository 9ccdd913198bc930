/- The contract of markIntSS. -/
import Derived.Test.YtfgfiahampjfiaaDoorSS
namespace Go.Proofs.YtfgfiahampjfiaaDoor
open Go.RowKit Go.Sort Go.Maps
set_option linter.unusedVariables false
set_option linter.unusedSimpArgs false

theorem mkp_snoc (n : Nat) (K : Int) : mkp (n + 1) K = mkp n K ++ [(K + 2 * n, K + 2 * n + 1)] := by
  induction n generalizing K with
  | zero => simp [mkp]
  | succ n ih =>
    rw [mkp, ih (K + 2), mkp, List.cons_append]
    congr 2
    simp only [List.cons.injEq, and_true, Prod.mk.injEq]
    omega

set_option maxRecDepth 100000 in
set_option maxHeartbeats 2000000 in
theorem markSS_any (v : Value) (ps : List (Int × Int)) (gs : List Nat) (base : Nat) (K : Int) (w : World) (hn : ps.length ≤ 1000) (hK : 0 ≤ K) (hK' : K ≤ 1000000) (hv : OwnG w base v ps gs) (I : World → Prop) (hI0 : I w) (hI : ∀ (W W' : World) (g : Nat), g ∈ gs → W.grownBy W' (some g) → I W → I W') :
    Calls Tryd.prog 38 #[v, .int .i64 K] w fun e w' => e = .returned (.int .i64 (K + 2 * ps.length)) ∧ OwnG w' base v (mkp ps.length K) gs ∧ I w' := by
  obtain ⟨A, c, hf, hr⟩ := hv.form
  subst hf
  generalize hN : ps.length = n at *
  have HN := Lib.hid hN
  have HV := Lib.hid hv
  clear hN hv hr
  have HI := Lib.hid hI
  clear hI
  go_enter Tryd.func38, Tryd.ntmps38
  go_wp2
  go_loopw [1, 5] (fun q i wr => ∃ k : Nat, k ≤ n ∧ i = .int .i64 k ∧ q = .int .i64 (K + 2 * k) ∧ OwnG wr base (.slice A n c) (mkp k K ++ ps.drop k) gs ∧ I wr)
    (fun _ i _ => n - (intOf i).toNat)
  case atStart => exact ⟨0, Nat.zero_le _, rfl, by simp, by simpa [mkp] using HV.out, hI0⟩
  case round =>
    obtain ⟨k, hk, rfl, rfl, hown, hIw⟩ := hrel
    have HO := Lib.hid hown
    clear hown
    by_cases hlt : k < n
    · have hL : (mkp k K ++ ps.drop k).length = n := by rw [List.length_append, mkp_length, List.length_drop, HN.out]; omega
      have hq : ps[k]? = some (ps[k]'(by rw [HN.out]; exact hlt)) := List.getElem?_eq_getElem _
      generalize ps[k]'(by rw [HN.out]; exact hlt) = q at hq
      have hqk : (mkp k K ++ ps.drop k)[k]? = some q := by rw [List.getElem?_append_right (by rw [mkp_length]; exact Nat.le_refl _), mkp_length, Nat.sub_self, List.getElem?_drop, Nat.add_zero]; exact hq
      have hg1 : gs[k]? = some (gs[k]'(by rw [HO.out.1, hL]; exact hlt)) := List.getElem?_eq_getElem _
      generalize gs[k]'(by rw [HO.out.1, hL]; exact hlt) = g at hg1
      obtain ⟨A', c', hf', hr'⟩ := HO.out.form
      injection hf' with e1 e2 e3
      subst e1 e3
      obtain ⟨gv, rfl, hgv, cv⟩ := hr' k g hg1
      have hin := HO.out.2.2.2.2 k g q hg1 hqk
      have i1 : (0 : Int) ≤ (k : Int) := by omega
      have i2 : (k : Int) < (n : Int) := by omega
      have HL := Lib.hid hL
      have HQ := Lib.hid hq
      have HG1 := Lib.hid hg1
      have HIN := Lib.hid hin
      have HI0 := Lib.hid hIw
      clear hL hq hqk hg1 hin hr' e2 hIw
      go_wp2_with (go_at_call 33; refine (markIntS_any _ [q.1, q.2] (K + 2 * k) base _ (by simp) (by omega) (by omega) HIN.out).mono ?_; rintro e w1 ⟨rfl, hm1, hgr⟩)
      go_roundw
      case rel =>
        refine ⟨k + 1, by omega, by go_num, by congr 1; simp; omega, ?_, HI.out _ _ g (List.mem_of_getElem? HG1.out) hgr HI0.out⟩
        have ho := HO.out
        have hgm := List.mem_of_getElem? HG1.out
        have hL' : (mkp (k + 1) K ++ ps.drop (k + 1)).length = n := by rw [List.length_append, mkp_length, List.length_drop, HN.out]; omega
        refine ⟨by rw [hL', ← HL.out]; exact ho.1, ho.2.1, ?_, ho.2.2.2.1, fun j g' q' hj hq' => ?_⟩
        · have hr2 := World.ownsRow.kept ho.2.2.1 hgr (.inr (ho.2.2.2.1 g hgm))
          rw [HL.out] at hr2
          rw [hL']
          exact hr2
        · by_cases hjk : j = k
          · subst hjk
            have e4 : g' = g := by have := hj.symm.trans HG1.out; injection this
            subst e4
            have e5 : q' = (K + 2 * (j : Int), K + 2 * (j : Int) + 1) := by
              rw [mkp_snoc, List.append_assoc, List.getElem?_append_right (by rw [mkp_length]; exact Nat.le_refl _), mkp_length, Nat.sub_self] at hq'
              simpa using hq'.symm
            subst e5
            have := hm1
            simp only [List.length_cons, List.length_nil] at this
            rw [show (0 + 1 + 1 : Nat) = 2 from rfl, mki2] at this
            exact this
          · have hq2 : (mkp k K ++ ps.drop k)[j]? = some q' := by
              rw [mkp_snoc, List.append_assoc] at hq'
              rcases Nat.lt_or_ge j k with h | h
              · rw [List.getElem?_append_left (by rw [mkp_length]; exact h)] at hq' ⊢
                exact hq'
              · rw [List.getElem?_append_right (by rw [mkp_length]; omega), mkp_length] at hq' ⊢
                rw [List.getElem?_append_right (by simp; omega)] at hq'
                simp only [List.length_singleton] at hq'
                rw [List.getElem?_drop] at hq' ⊢
                rw [show k + (j - k) = k + 1 + (j - k - 1) by omega]
                exact hq'
            refine (ho.2.2.2.2 j g' q' hj hq2).grown hgr (.inr fun e => ?_)
            have e6 : g' = g := by simpa [Value.ownBlock] using e
            subst e6
            exact hjk ((List.getElem?_inj (List.getElem?_eq_some_iff.1 hj).1 ho.2.1).1 (hj.trans HG1.out.symm))
      case measure => simp [intOf]; omega
    · obtain rfl : k = n := by omega
      go_wp2
      go_ret
      have ho := HO.out
      rw [List.drop_of_length_le (by rw [HN.out]; exact Nat.le_refl _), List.append_nil] at ho
      exact ⟨rfl, ho, hIw⟩
end Go.Proofs.YtfgfiahampjfiaaDoor
