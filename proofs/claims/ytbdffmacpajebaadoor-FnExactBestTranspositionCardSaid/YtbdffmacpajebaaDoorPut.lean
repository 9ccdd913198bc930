/- The contract of the model's l1Put. -/
import Derived.Test.YtbdffmacpajebaaDoorPutP
import Derived.Test.YtbdffmacpajebaaDoorIntS
import Derived.Test.YtbdffmacpajebaaDoorApp
import Derived.OwnWalk
namespace Go.Proofs.YtbdffmacpajebaaDoor
open Go.RowKit
set_option linter.unusedVariables false
set_option linter.unusedSimpArgs false

theorem Tryd.info_int : (Tryd.prog.info? 3).map (fun i => (i.zero, i.size, i.bytes)) = some (some (.int .i64 0), 1, 8) := by kernel_rfl

theorem RI.at {w : World} {g : Nat} {l : List Int} {j : Nat} {x : Int} (h : RI w (some ⟨g, 0, none⟩) l) (hx : l[j]? = some x) : w.cell? ⟨g, j, none⟩ = some (.int .i64 x) := by
  obtain ⟨g', o', hgo, _, h0⟩ := h j x hx
  simp only [Option.some.injEq, Addr.mk.injEq, and_true] at hgo
  obtain ⟨rfl, rfl⟩ := hgo
  simpa using h0

theorem wpList_appI (w : World) {ops : Array Oper} {rest : List Oper} {o : Oper} {a : Act} {Q : Exit → Act → World → Prop} (hgd : o.guard = none) (s x : Operand)
    (ho : o.op = .call { callee := .builtin .append, args := #[s, x], argTypes := #[22, 22] })
    (base : Nat) (v : Value) (xs : List Int) (hs : a.eval s = v) (hown : OwnI w base 3 v xs)
    (A : Option Addr) (m c : Nat) (news : List Int) (hx : a.eval x = .slice A m c) (hl : news.length = m) (hA : A = none → c = 0)
    (hnews : ∀ j y, news[j]? = some y → ∃ ad, A = some ad ∧ w.cell? (ad.add j) = some (.int .i64 y)) (hsz : xs.length + m ≤ 4000000) (hbase : base ≤ w.heap.size)
    (h : ∀ v' w', OwnI w' base 3 v' (xs ++ news) → w.grownBy w' v.ownBlock → (v'.ownBlock = v.ownBlock ∨ v'.ownBlock = some w.heap.size) → wpList Tryd.prog ops Q rest (a.put o.dst v') w') :
    wpList Tryd.prog ops Q (o :: rest) a w := by
  obtain ⟨i, hi, hz, hs1, hb1⟩ := info_parts Tryd.info_int
  refine wpList_app w hgd s x 22 ho base 3 i (.int .i64 0) 1 8 Tryd.underlying22 hi hz hs1 hb1 rfl (by decide) v xs.length (ci xs) hs hown A m c (ci news) hx (by rw [ci_length, hl, Nat.mul_one]) hA ?_ ?_ (by unfold maxLen; omega) (by omega) hbase ?_
  · intro j u hu
    simp only [ci, List.getElem?_map, Option.map_eq_some_iff] at hu
    obtain ⟨y, hy, rfl⟩ := hu
    exact hnews j y hy
  · intro u hu
    simp only [ci, List.mem_map] at hu
    obtain ⟨y, _, rfl⟩ := hu
    rfl
  · intro v' w' h1 h2 h3
    refine h v' w' ?_ h2 h3
    unfold OwnI
    rw [ci_append, List.length_append, hl]
    exact h1

theorem get_of_take {l : List Int} {k j : Nat} {y : Int} (h : (l.take k)[j]? = some y) : l[j]? = some y := by
  rw [List.getElem?_take] at h
  split at h
  · exact h
  · cases h
theorem RI.takeAt {w : World} {g : Nat} {l : List Int} {k j : Nat} {y : Int} (h : RI w (some ⟨g, 0, none⟩) l) (hx : (l.take k)[j]? = some y) : w.cell? ((⟨g, 0, none⟩ : Addr).add j) = some (.int .i64 y) := by
  rw [Addr.add_lit, Nat.zero_add]
  exact h.at (get_of_take hx)
theorem one_at {w : World} {b : Nat} {n : Int} (h : w.cell? ⟨b, 0, none⟩ = some (.int .i64 n)) {j : Nat} {y : Int} (hy : [n][j]? = some y) : ∃ ad, (some ⟨b, 0, none⟩ : Option Addr) = some ad ∧ w.cell? (ad.add j) = some (.int .i64 y) := by
  cases j with
  | zero => simp at hy; subst hy; exact ⟨_, rfl, by rw [Addr.add_lit]; exact h⟩
  | succ j => simp at hy

theorem one_new (w1 : World) (n : Int) : (w1.alloc (.cells #[.int .i64 n] 3)).cell? ⟨w1.heap.size, 0, none⟩ = some (.int .i64 n) := by rw [World.cell?_alloc_new]; rfl
theorem RI.dropAt {w : World} {g : Nat} {l : List Int} {k c : Nat} {A : Option Addr} (h : RI w (some ⟨g, 0, none⟩) l) (hlc : l.length ≤ c) (hA : ¬ c = k → A = some ⟨g, 0 + k, none⟩) (j : Nat) (y : Int) (hx : (l.drop k)[j]? = some y) : ∃ ad, A = some ad ∧ w.cell? (ad.add j) = some (.int .i64 y) := by
  rw [List.getElem?_drop] at hx
  have := (List.getElem?_eq_some_iff.1 hx).1
  refine ⟨_, hA (by omega), ?_⟩
  rw [Addr.add_lit, Nat.zero_add]
  exact h.at hx

theorem OwnI.lit (w : World) (base : Nat) (xs : List Int) (cs : Array Value) (hcs : cs.toList = ci xs) (hl : xs.length ≤ 1000) (hb : base ≤ w.heap.size) : OwnI (w.alloc (.cells cs 3)) base 3 (.slice (some ⟨w.heap.size, 0, none⟩) xs.length xs.length) xs := by
  have h := World.ownsRow_lit (base := base) (e := 3) (size := 1) w cs xs.length hb (by unfold maxLen; omega) (by rw [← Array.length_toList, hcs, ci_length, Nat.mul_one])
  rw [hcs] at h
  exact h

set_option maxRecDepth 100000 in
set_option maxHeartbeats 2000000 in
theorem l1Put_some (g : Nat) (l : List Int) (c : Nat) (n : Int) (base : Nat) (w : World) (hl : l.length ≤ 1000000) (hb0 : base ≤ w.heap.size) (hv : OwnI w base 3 (.slice (some ⟨g, 0, none⟩) l.length c) l) (hinc : Inc l) :
    Calls Tryd.prog 54 #[.slice (some ⟨g, 0, none⟩) l.length c, .int .i64 n] w fun e w' => ∃ v, e = .returned v ∧ OwnI w' base 3 v (putL n l) ∧ Below w.heap.size w w' := by
  obtain ⟨A', c', hf, hr, hlc, hcm, hA0, hA1⟩ := hv.form
  injection hf with e1 e2 e3
  subst e1 e3
  clear e2 hA0 hA1
  unfold maxLen at hcm
  have HV := Lib.hid hv
  have HI := Lib.hid hinc
  clear hv hinc
  have HR := Lib.hid hr
  go_enter Tryd.func54, Tryd.ntmps54
  go_wp2
  go_loop [5] (fun i => ∃ k : Nat, k ≤ l.length ∧ i = .int .i64 k ∧ (∀ i x, i < k → l[i]? = some x → x < n))
    (fun i => l.length - (intOf i).toNat)
  case atStart => exact ⟨0, Nat.zero_le _, rfl, fun _ _ h => absurd h (by omega)⟩
  case round =>
    obtain ⟨k, hk, rfl, hlt⟩ := hrel
    have HL := Lib.hid hlt
    clear hlt
    by_cases hkl : k < l.length
    · have hx : l[k]? = some l[k] := List.getElem?_eq_getElem hkl
      generalize l[k] = x at hx
      have h0 := hr.at hx
      have i1 : (0 : Int) ≤ (k : Int) := by omega
      have i2 : (k : Int) < (l.length : Int) := by omega
      have HX := Lib.hid hx
      clear hx hr
      by_cases hxn : x < n
      · go_wp2
        go_round
        case rel =>
          refine ⟨k + 1, by omega, by go_num, ?_⟩
          intro i y hi hy
          rcases Nat.lt_or_ge i k with h | h
          · exact HL.out i y h hy
          · obtain rfl : i = k := by omega
            have := HX.out.symm.trans hy
            injection this with this
            omega
        case measure => simp [intOf]; omega
      · by_cases hxe : x = n
        · subst hxe
          go_wp2
          go_ret
          refine ⟨_, rfl, ?_, Below.refl _ _⟩
          rw [putL_at x l k hk HL.out (fun y hy => by have := HX.out.symm.trans hy; injection this with this; omega), if_pos HX.out, List.take_append_drop]
          exact HV.out
        · have hne : (x == n) = false := by simp [hxe]
          have ho0 := Lib.hid (OwnI.lit w w.heap.size [] #[] rfl (by simp) (Nat.le_refl _))
          have hB0 := Lib.hid (show Below w.heap.size w (w.alloc (.cells #[] 3)) from (Below.refl _ _).alloc (Nat.le_refl _) _)
          go_wp2_with (first
            | (at_builtin; (refine wpList_appI _ rfl (.tmp 34) (.tmp 37) rfl w.heap.size _ [] rfl ho0.out (some ⟨g, 0, none⟩) k c (l.take k) rfl (by simp; try omega) (fun h => by cases h) (fun j y hy => ⟨_, rfl, (HR.out.below hB0.out).takeAt hy⟩) (by simp; try omega) hB0.out.size ?_); intro v1 w1 ho1 hg1 hv1; have hB1 := hB0.out.grown hg1 hB0.out.size (fun j hj => (ho0.out.lt j hj).1); have ho2 := Lib.hid (ho1.alloc (.cells #[.int .i64 n] 3)); have hB2 := Lib.hid (hB1.alloc hB1.size (.cells #[.int .i64 n] 3)); have hc2 := Lib.hid (one_new w1 n); clear ho1 hB1 hg1 hv1 ho0 hB0)
            | (at_builtin; (refine wpList_appI _ rfl (.tmp 39) (.tmp 41) rfl w.heap.size _ _ rfl ho2.out (some ⟨w1.heap.size, 0, none⟩) 1 1 [n] rfl rfl (fun h => by cases h) (fun j y hy => one_at hc2.out hy) (by simp; try omega) hB2.out.size ?_); intro v2 w2 ho3 hg2 hv2; have hB3 := Lib.hid (hB2.out.grown hg2 hB2.out.size (fun j hj => (ho2.out.lt j hj).1)); have ho3 := Lib.hid ho3; clear ho2 hB2 hg2 hv2 hc2)
            | (at_builtin; go_loud (refine wpList_appI _ rfl (.tmp 43) (.tmp 46) rfl w.heap.size _ _ rfl ho3.out _ (l.length - k) _ (l.drop k) rfl (by simp) (by intro h; first | (cases h; done) | (split at h <;> cases h)) ((HR.out.below hB3.out).dropAt hlc (by intro h; first | rfl | simp [h])) (by simp; try omega) hB3.out.size ?_); intro v3 w3 ho4 hg3 hv3; have hB4 := Lib.hid (hB3.out.grown hg3 hB3.out.size (fun j hj => (ho3.out.lt j hj).1)); have ho4 := Lib.hid ho4; clear ho3 hB3 hg3 hv3))
          all_goals
            go_ret
            refine ⟨_, rfl, ?_, hB4.out⟩
            have e := putL_at n l k hk HL.out (fun y hy => by have := HX.out.symm.trans hy; injection this with this; omega)
            rw [e, if_neg (fun hy => by have := HX.out.symm.trans hy; injection this with this; exact hxe this)]
            have := ho4.out.mono hb0
            simpa using this
    · obtain rfl : k = l.length := by omega
      have ho0 := Lib.hid (OwnI.lit w w.heap.size [] #[] rfl (by simp) (Nat.le_refl _))
      have hB0 := Lib.hid (show Below w.heap.size w (w.alloc (.cells #[] 3)) from (Below.refl _ _).alloc (Nat.le_refl _) _)
      go_wp2_with (first
        | (at_builtin; (refine wpList_appI _ rfl (.tmp 34) (.tmp 37) rfl w.heap.size _ [] rfl ho0.out (some ⟨g, 0, none⟩) l.length c (l.take l.length) rfl (by simp; try omega) (fun h => by cases h) (fun j y hy => ⟨_, rfl, (HR.out.below hB0.out).takeAt hy⟩) (by simp; try omega) hB0.out.size ?_); intro v1 w1 ho1 hg1 hv1; have hB1 := hB0.out.grown hg1 hB0.out.size (fun j hj => (ho0.out.lt j hj).1); have ho2 := Lib.hid (ho1.alloc (.cells #[.int .i64 n] 3)); have hB2 := Lib.hid (hB1.alloc hB1.size (.cells #[.int .i64 n] 3)); have hc2 := Lib.hid (one_new w1 n); clear ho1 hB1 hg1 hv1 ho0 hB0)
        | (at_builtin; (refine wpList_appI _ rfl (.tmp 39) (.tmp 41) rfl w.heap.size _ _ rfl ho2.out (some ⟨w1.heap.size, 0, none⟩) 1 1 [n] rfl rfl (fun h => by cases h) (fun j y hy => one_at hc2.out hy) (by simp; try omega) hB2.out.size ?_); intro v2 w2 ho3 hg2 hv2; have hB3 := Lib.hid (hB2.out.grown hg2 hB2.out.size (fun j hj => (ho2.out.lt j hj).1)); have ho3 := Lib.hid ho3; clear ho2 hB2 hg2 hv2 hc2)
        | (at_builtin; go_loud (refine wpList_appI _ rfl (.tmp 43) (.tmp 46) rfl w.heap.size _ _ rfl ho3.out _ 0 _ [] rfl (by simp) (by intro h; first | (cases h; done) | (split at h <;> cases h)) (fun j y hy => by simp at hy) (by simp; try omega) hB3.out.size ?_); intro v3 w3 ho4 hg3 hv3; have hB4 := Lib.hid (hB3.out.grown hg3 hB3.out.size (fun j hj => (ho3.out.lt j hj).1)); have ho4 := Lib.hid ho4; clear ho3 hB3 hg3 hv3))
      all_goals
        go_ret
        refine ⟨_, rfl, ?_, hB4.out⟩
        have e := putL_at n l l.length hk HL.out (fun y hy => by simp at hy)
        rw [e, if_neg (by simp)]
        have := ho4.out.mono hb0
        simpa using this

set_option maxRecDepth 100000 in
set_option maxHeartbeats 2000000 in
theorem l1Put_none (n : Int) (base : Nat) (w : World) (hb0 : base ≤ w.heap.size) :
    Calls Tryd.prog 54 #[.slice none 0 0, .int .i64 n] w fun e w' => ∃ v, e = .returned v ∧ OwnI w' base 3 v (putL n []) ∧ Below w.heap.size w w' := by
  go_enter Tryd.func54, Tryd.ntmps54
  have ho0 := Lib.hid (OwnI.lit w w.heap.size [] #[] rfl (by simp) (Nat.le_refl _))
  have hB0 := Lib.hid (show Below w.heap.size w (w.alloc (.cells #[] 3)) from (Below.refl _ _).alloc (Nat.le_refl _) _)
  go_wp2_with fail
  refine wp_loop_rounds 1 ?_
  rw [rounds_succ]
  go_wp2_with (first
    | (at_builtin; (refine wpList_appI _ rfl (.tmp 34) (.tmp 37) rfl w.heap.size _ [] rfl ho0.out none 0 0 [] rfl rfl (fun _ => rfl) (fun j y hy => by simp at hy) (by simp) hB0.out.size ?_); intro v1 w1 ho1 hg1 hv1; have hB1 := hB0.out.grown hg1 hB0.out.size (fun j hj => (ho0.out.lt j hj).1); have ho2 := Lib.hid (ho1.alloc (.cells #[.int .i64 n] 3)); have hB2 := Lib.hid (hB1.alloc hB1.size (.cells #[.int .i64 n] 3)); have hc2 := Lib.hid (one_new w1 n); clear ho1 hB1 hg1 hv1 ho0 hB0)
    | (at_builtin; (refine wpList_appI _ rfl (.tmp 39) (.tmp 41) rfl w.heap.size _ _ rfl ho2.out (some ⟨w1.heap.size, 0, none⟩) 1 1 [n] rfl rfl (fun h => by cases h) (fun j y hy => one_at hc2.out hy) (by simp) hB2.out.size ?_); intro v2 w2 ho3 hg2 hv2; have hB3 := Lib.hid (hB2.out.grown hg2 hB2.out.size (fun j hj => (ho2.out.lt j hj).1)); have ho3 := Lib.hid ho3; clear ho2 hB2 hg2 hv2 hc2)
    | (at_builtin; (refine wpList_appI _ rfl (.tmp 43) (.tmp 46) rfl w.heap.size _ _ rfl ho3.out none 0 0 [] rfl rfl (fun _ => rfl) (fun j y hy => by simp at hy) (by simp) hB3.out.size ?_); intro v3 w3 ho4 hg3 hv3; have hB4 := Lib.hid (hB3.out.grown hg3 hB3.out.size (fun j hj => (ho3.out.lt j hj).1)); have ho4 := Lib.hid ho4; clear ho3 hB3 hg3 hv3))
  go_ret
  refine ⟨_, rfl, ?_, hB4.out⟩
  have := ho4.out.mono hb0
  simpa [putL] using this

theorem l1Put_any (v : Value) (l : List Int) (n : Int) (base : Nat) (w : World) (hl : l.length ≤ 1000000) (hb0 : base ≤ w.heap.size) (hv : OwnI w base 3 v l) (hinc : Inc l) :
    Calls Tryd.prog 54 #[v, .int .i64 n] w fun e w' => ∃ v, e = .returned v ∧ OwnI w' base 3 v (putL n l) ∧ Below w.heap.size w w' := by
  obtain ⟨A, c, hf, hr, hlc, hcm, hA0, hA1⟩ := hv.form
  subst hf
  cases A with
  | none =>
    obtain rfl := hA0 rfl
    obtain rfl : l = [] := List.eq_nil_of_length_eq_zero (by omega)
    exact l1Put_none n base w hb0
  | some ad =>
    obtain ⟨g, rfl, _⟩ := hA1 ad rfl
    exact l1Put_some g l c n base w hl hb0 hv hinc
end Go.Proofs.YtbdffmacpajebaaDoor
