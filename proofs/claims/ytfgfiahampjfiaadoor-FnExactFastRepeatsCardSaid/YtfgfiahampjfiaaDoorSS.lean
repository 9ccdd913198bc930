/- Contracts of the laws' own functions on slices of pairs: equality of equal ones, marks. -/
import Derived.Test.YtfgfiahampjfiaaDoorFast2
import Derived.Deep.DeepCutAuto
namespace Go.Proofs.YtfgfiahampjfiaaDoor
open Go.RowKit Go.Sort Go.Maps
set_option linter.unusedVariables false
set_option linter.unusedSimpArgs false

theorem OwnG.grown {w w' : World} {base b : Nat} {v : Value} {ps : List (Int × Int)} {gs : List Nat} (h : OwnG w base v ps gs) (hg : w.grownBy w' (some b)) (hv : v.ownBlock ≠ some b) (hb : b ∉ gs) : OwnG w' base v ps gs := by
  obtain ⟨h1, h2, hr, h4, h5⟩ := h
  refine ⟨h1, h2, World.ownsRow.kept hr hg (.inr hv), h4, fun j g q hj hq => ?_⟩
  exact (h5 j g q hj hq).grown hg (.inr fun e => by injection e with e; exact hb (e ▸ List.mem_of_getElem? hj))
/-- Marks K, K+1, .. in n pairs. -/
def mkp : Nat → Int → List (Int × Int)
  | 0, _ => []
  | n + 1, K => (K, K + 1) :: mkp n (K + 2)
theorem mkp_length (n : Nat) (K : Int) : (mkp n K).length = n := by
  induction n generalizing K with
  | zero => rfl
  | succ n ih => simp [mkp, ih]
theorem mkp_get (n : Nat) (K : Int) (k : Nat) (h : k < n) : (mkp n K)[k]? = some (K + 2 * k, K + 2 * k + 1) := by
  induction n generalizing K k with
  | zero => omega
  | succ n ih =>
    cases k with
    | zero => simp [mkp]
    | succ k =>
      simp only [mkp, List.getElem?_cons_succ]
      rw [ih (K + 2) k (by omega)]
      simp only [Option.some.injEq, Prod.mk.injEq]
      omega
theorem mki2 (K : Int) : mki 2 K = [K, K + 1] := by simp [mki, List.range_succ]

set_option maxRecDepth 100000 in
set_option maxHeartbeats 1000000 in
theorem heldSS_any (v : Value) (K : Int) (n : Nat) (gs : List Nat) (base : Nat) (w : World) (hn : n ≤ 1000) (hK : 0 ≤ K) (hK' : K ≤ 1000000) (hv : OwnG w base v (mkp n K) gs) :
    Calls Tryd.prog 39 #[v, .int .i64 K] w fun e w' => e = .returned (.int .i64 (K + 2 * n)) ∧ w = w' := by
  obtain ⟨A, c, hf, hr⟩ := hv.form
  rw [mkp_length] at hf
  subst hf
  have HV := Lib.hid hv
  have HR := Lib.hid hr
  clear hv hr
  go_enter Tryd.func39, Tryd.ntmps39
  go_wp2
  go_loop [1, 5] (fun q i => ∃ k : Nat, k ≤ n ∧ i = .int .i64 k ∧ q = .int .i64 (K + 2 * k))
    (fun _ i => n - (intOf i).toNat)
  case atStart => exact ⟨0, Nat.zero_le _, rfl, by simp⟩
  case round =>
    obtain ⟨k, hk, rfl, rfl⟩ := hrel
    by_cases hlt : k < n
    · have hlen : gs.length = n := HV.out.1.trans (mkp_length n K)
      have hgl : gs[k]? = some (gs[k]'(by omega)) := List.getElem?_eq_getElem _
      generalize gs[k]'(by omega) = g at hgl
      obtain ⟨gv, rfl, hgv, cv⟩ := HR.out k g hgl
      have hin := HV.out.2.2.2.2 k g _ hgl (mkp_get n K k hlt)
      have hin2 : RI w (some ⟨g, 0, none⟩) (mki 2 (K + 2 * k)) := by rw [mki2]; exact hin.ra
      have i1 : (0 : Int) ≤ (k : Int) := by omega
      have i2 : (k : Int) < (n : Int) := by omega
      have hpos : ¬ (K + 2 * (k : Int) + 2 < 0) := by omega
      clear hin hgl hlen
      go_wp2_with (go_at_call 34; refine (heldIntS_any _ (K + 2 * k) 2 _ _ (by omega) (by omega) (by omega) hin2).mono ?_; rintro e w1 ⟨rfl, rfl⟩)
      go_round
      case rel => exact ⟨k + 1, by omega, by go_num, by congr 1; push_cast; omega⟩
      case measure => simp [intOf]; omega
    · obtain rfl : k = n := by omega
      go_wp2
      go_ret
      exact ⟨rfl, rfl⟩

set_option maxRecDepth 100000 in
set_option maxHeartbeats 2000000 in
theorem eqSS_same (v1 v2 : Value) (ps : List (Int × Int)) (gs1 gs2 : List Nat) (b1 b2 : Nat) (w : World) (hn : ps.length ≤ 1000) (h1 : OwnG w b1 v1 ps gs1) (h2 : OwnG w b2 v2 ps gs2) :
    Calls Tryd.prog 37 #[v1, v2] w fun e w' => e = .returned (.bool true) ∧ Below w.heap.size w w' := by
  obtain ⟨A, c, hf, hr1⟩ := h1.form
  obtain ⟨B, d, hf2, hr2⟩ := h2.form
  subst hf hf2
  have H1 := Lib.hid h1
  have H2 := Lib.hid h2
  have HR1 := Lib.hid hr1
  have HR2 := Lib.hid hr2
  clear h1 h2 hr1 hr2
  generalize hN : ps.length = n at *
  have HN := Lib.hid hN
  clear hN
  go_enter Tryd.func37, Tryd.ntmps37
  have hne : ((n : Int) != (n : Int)) = false := by simp
  go_wp2
  go_loopw [5] (fun i wr => ∃ k : Nat, k ≤ n ∧ i = .int .i64 k ∧ Below w.heap.size w wr)
    (fun i _ => n - (intOf i).toNat)
  case atStart => exact ⟨0, Nat.zero_le _, rfl, Below.refl _ _⟩
  case round =>
    obtain ⟨k, hk, rfl, hb⟩ := hrel
    by_cases hlt : k < n
    · have hq : ps[k]? = some (ps[k]'(by rw [HN.out]; exact hlt)) := List.getElem?_eq_getElem _
      generalize ps[k]'(by rw [HN.out]; exact hlt) = q at hq
      have hg1 : gs1[k]? = some (gs1[k]'(by rw [H1.out.1, HN.out]; exact hlt)) := List.getElem?_eq_getElem _
      generalize gs1[k]'(by rw [H1.out.1, HN.out]; exact hlt) = ga at hg1
      have hg2 : gs2[k]? = some (gs2[k]'(by rw [H2.out.1, HN.out]; exact hlt)) := List.getElem?_eq_getElem _
      generalize gs2[k]'(by rw [H2.out.1, HN.out]; exact hlt) = gb at hg2
      obtain ⟨va, rfl, hva, ca⟩ := HR1.out k ga hg1
      obtain ⟨vb, rfl, hvb, cb⟩ := HR2.out k gb hg2
      have ia := ((H1.out.2.2.2.2 k ga q hg1 hq).below hb (Nat.le_refl _)).ra
      have ib := ((H2.out.2.2.2.2 k gb q hg2 hq).below hb (Nat.le_refl _)).ra
      have car := (hb.cell (p := ⟨va, k, none⟩) hva).trans ca
      have cbr := (hb.cell (p := ⟨vb, k, none⟩) hvb).trans cb
      have i1 : (0 : Int) ≤ (k : Int) := by omega
      have i2 : (k : Int) < (n : Int) := by omega
      have EQ := Lib.hid (fun (W : World) (h : Below wr.heap.size wr W) => eqIntS_any (some ⟨ga, 0, none⟩) (some ⟨gb, 0, none⟩) [q.1, q.2] [q.1, q.2] 2 2 W (by simp) (by simp) (ia.below h) (ib.below h))
      clear ia ib hq hg1 hg2 ca cb
      go_upto_region 6 with fail
      have hdr : Below wr.heap.size wr wr.drew := (Below.refl _ _).drew
      go_region_with (go_at_call 29; refine (EQ.out _ hdr).mono ?_; rintro e w1 ⟨rfl, hb1⟩)
      all_goals
        go_wp2
        go_roundw
        case rel => exact ⟨k + 1, by omega, by go_num, hb.trans ((hdr.trans (hb1.mono hdr.size)).mono hb.size)⟩
        case measure => simp [intOf]; omega
    · obtain rfl : k = n := by omega
      go_wp2
      go_ret
      exact ⟨rfl, hb⟩
end Go.Proofs.YtfgfiahampjfiaaDoor
