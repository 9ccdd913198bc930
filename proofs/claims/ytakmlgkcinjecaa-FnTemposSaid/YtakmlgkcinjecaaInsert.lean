/- The contract of the library's slices.Insert of one change. -/
import Derived.Test.YtakmlgkcinjecaaChangeIns
import Derived.Test.YtakmlgkcinjecaaStepAt
namespace Go.Proofs.Ytakmlgkcinjecaa
open Go.RowKit
set_option linter.unusedVariables false
set_option linter.unusedSimpArgs false

/-- In place. -/
theorem insertIn_any (g k r c b : Nat) (l : List Nt2) (x : Nt2) (base B : Nat) (w0 w : World) (hl : l.length = k + 1 + r) (hn : l.length ≤ 1000000) (hown : Own2 w base 32 (.slice (some ⟨g, 0, none⟩) (k + 1 + r) c) l)
    (hroom : k + 1 + r + 1 ≤ c) (hv : w.heap[b]? = some (.cells #[.int .i64 x.1, .int .i64 x.2] 32 (0, 0))) (hbg : b ≠ g) (hB : Below B w0 w) (hBg : B ≤ g) (hB0 : B ≤ w0.heap.size) :
    Calls Try.prog 39 #[.slice (some ⟨g, 0, none⟩) (k + 1 + r : Nat) c, .int .i64 (k : Int), .slice (some ⟨b, 0, none⟩) 1 1] w fun e w' => ∃ v, e = .returned v ∧ Own2 w' base 32 v (l.take k ++ x :: l.drop k) ∧ Below B w0 w' := by
  obtain ⟨cur, hg, hcs, hct, hbase, hnc, hcm⟩ := rawOfChange hown
  have hra := hown.ra
  have hov : ∀ of lb cb, (callFunc 48 #[.slice (some ⟨b, 0, none⟩) 1 1, .slice (some ⟨g, of, none⟩) lb cb]).run Try.prog w = .ok (.value (.bool false)) w := fun of lb cb => overlapsChange w b g of lb cb _ cur hv hg hbg (by omega)
  have hpl := (ins_placeChange (cur := cur.toList) (l := l) (x := x) (k := k) (c := c) (by simpa using hcs) (by rw [hl]; exact hct) (by omega) (by rw [hl]; omega))
  rw [show l.length - k = r + 1 by omega] at hpl
  obtain ⟨A1, hA1⟩ : ∃ A1, A1 = cur.toList.take ((k + 1) * 2) ++ cl2 (l.drop k) ++ cur.toList.drop ((k + 1) * 2 + (r + 1) * 2) := ⟨_, rfl⟩
  rw [← hA1] at hpl
  have HA1 := Lib.hid hA1
  have HPL := Lib.hid hpl
  clear hpl hA1
  have HCS := Lib.hid hcs
  have HL := Lib.hid hl
  have HG := Lib.hid hg
  have HR := Lib.hid hra
  have hbs : b < w.heap.size := by
    rcases Nat.lt_or_ge b w.heap.size with h | h
    · exact h
    · rw [Array.getElem?_eq_none h] at hv; cases hv
  have HV := Lib.hid hv
  unfold maxLen at hcm
  have HCM := Lib.hid hcm
  have hc1 : (k : Int) + 1 + (r : Int) + 1 ≤ (c : Int) := by omega
  have hk1 : (k : Int) ≤ (k : Int) + 1 + (r : Int) + 1 := by omega
  have hk2 : (k : Int) ≤ (k : Int) + 1 + (r : Int) := by omega
  have hw1 : IntKind.i64.wrap ((k : Int) + 1) = (k : Int) + 1 := IntWalk.i64_in _ (by omega)
  have hb1 : (0 : Int) ≤ (k : Int) + 1 := by omega
  have hk3 : (k : Int) + 1 ≤ (k : Int) + 1 + (r : Int) + 1 := by omega
  have htn : ((k : Int) + 1).toNat = k + 1 := by omega
  have hc2 : ¬ (c = k + 1) := by omega
  have hc3 : ¬ (c = k) := by omega
  have hne : ((k : Int) == (k : Int) + 1 + (r : Int)) = false := by simp; omega
  have HB := Lib.hid hB.drew
  clear hown hcs hct hl hg hra hv
  go_enter Try.func39, Try.ntmps39
  go_wp2_with (simp only [hov])
  refine wp_region_still_tail 8 (by kernel_rfl) (by kernel_rfl) ?_
  change wpStill _ _ (World.drew _) (fun a' => wpList _ _ _ _ a' (World.drew _)) _ _
  simp only [List.take_succ_cons, List.take_zero, List.drop_succ_cons, List.drop_zero]
  repeat still_step
  try refine wpStill_nil ?_
  refine wpList_copyChange _ rfl (.tmp 73) (.tmp 76) rfl g ((k + 1) * 2) _ _ ⟨g, k * 2, none⟩ _ _ (r + 1) rfl rfl (by simp only [Nat.min_def]; split <;> omega) cur (cl2 (l.drop k)) (by rw [cl2_length, List.length_drop, HL.out]; omega) HG.out ?_ (cl2_one _) (by rw [HCS.out]; omega) ?_
  · intro j v hv
    obtain ⟨ad', e, h⟩ := (RA2.dropO (A := some ⟨g, 0 + k * 2, none⟩) HR.out (c := c) (by rw [HL.out]; omega) (fun _ => rfl)).cells j v hv
    simp only [Nat.zero_add, Option.some.injEq] at e
    subst e
    exact h
  intro w1 HG1 hg1
  have HB1 := Lib.hid (HB.out.grown hg1 (Nat.le_trans hB0 HB.out.size) (fun j hj => by simp at hj; omega))
  have HV1 : Hid (w1.heap[b]? = some (.cells #[.int .i64 x.1, .int .i64 x.2] 32 (0, 0))) := Lib.hid ((hg1.block b (by simpa using hbs) (by simp; omega)).trans HV.out)
  rw [← HA1.out] at HG1
  clear hg1 hov
  go_wp2_with (refine wpList_copyChange _ rfl (.tmp 80) (.tmp 81) rfl g (k * 2) _ _ ⟨b, 0, none⟩ 1 1 1 rfl rfl (by simp only [Nat.min_def]; split <;> omega) A1.toArray (cl2 [x]) rfl HG1.out (fun j v hv => by obtain ⟨ad', e, h⟩ := (RA2.one HV1.out).cells j v hv; injection e with e; subst e; exact h) (cl2_one _) (by have := HPL.out.1; simp only [List.size_toArray]; omega) ?_; intro w2 HG2 hg2; have HB2 := Lib.hid (HB1.out.grown hg2 (Nat.le_trans hB0 HB1.out.size) (fun j hj => by simp at hj; omega)); clear hg2)
  go_ret
  refine ⟨_, rfl, ?_, HB2.out⟩
  have hlen : (l.take k ++ x :: l.drop k).length = k + 1 + r + 1 := by simp [HL.out]; omega
  have h := own_rawChange (c := c) (l := l.take k ++ x :: l.drop k) HG2.out HPL.out.2.1 (by rw [hlen]; have := HPL.out.2.2; rw [HL.out] at this; exact this) hbase (by omega) (by unfold maxLen; exact HCM.out)
  rw [hlen] at h
  exact h
theorem ra_grown {w w' : World} {g : Nat} {l : List Nt2} {row : Option Nat} (h : RA2 w (some ⟨g, 0, none⟩) l) (hg : w.grownBy w' row) (hne : some g ≠ row) : RA2 w' (some ⟨g, 0, none⟩) l := by
  intro k x hx
  obtain ⟨hlt, h0, h1⟩ := h.at k x hx
  have hb := hg.block g hlt hne
  exact ⟨g, 0, rfl, Nat.lt_of_lt_of_le hlt hg.size, (World.cell?_of_block hb).trans h0, (World.cell?_of_block hb).trans h1⟩

/-- Into a new row, where there is no room. -/
theorem insertNew_any (g k r c b : Nat) (l : List Nt2) (x : Nt2) (base B : Nat) (w0 w : World) (hl : l.length = k + 1 + r) (hn : l.length ≤ 1000000) (hown : Own2 w base 32 (.slice (some ⟨g, 0, none⟩) (k + 1 + r) c) l)
    (hfull : c < k + 1 + r + 1) (hv : w.heap[b]? = some (.cells #[.int .i64 x.1, .int .i64 x.2] 32 (0, 0))) (hB : Below B w0 w) (hBg : B ≤ g) (hB0 : B ≤ w0.heap.size) :
    Calls Try.prog 39 #[.slice (some ⟨g, 0, none⟩) (k + 1 + r : Nat) c, .int .i64 (k : Int), .slice (some ⟨b, 0, none⟩) 1 1] w fun e w' => ∃ v, e = .returned v ∧ Own2 w' base 32 v (l.take k ++ x :: l.drop k) ∧ Below B w0 w' := by
  obtain ⟨i0, hi0, hz0, hzs, hzb⟩ := info_parts Try.info_Change
  obtain ⟨cur, hg, hcs, hct, hbase, hnc, hcm⟩ := rawOfChange hown
  have hra := hown.ra
  have hgs : g < w.heap.size := hown.room.2.2.2.2
  have hold : (Builtin.firstCells i0.size k (.slice (some ⟨g, 0, none⟩) k c)).run Try.prog w.drew = .ok (cl2 (l.take k)).toArray w.drew := by
    rw [hzs]
    refine run_firstCells_some (P := Try.prog) w.drew 2 k ⟨g, 0, none⟩ k c (cl2 (l.take k)) (by rw [cl2_length, List.length_take]; omega) (fun j u hj => ?_)
    obtain ⟨ad', e, h⟩ := (hra.take k).cells j u hj
    injection e with e
    subst e
    exact h
  obtain ⟨G, hG⟩ : ∃ G, G = grownCap w (k + (r + 2)) c 32 := ⟨_, rfl⟩
  obtain ⟨ROW, hROW⟩ : ∃ ROW : Array Value, ROW = (cl2 (l.take k)).toArray ++ Builtin.zeroCells (Value.agg #[.int .i64 0, .int .i64 0]).cells (r + 2) ++ Builtin.zeroCells (Value.agg #[.int .i64 0, .int .i64 0]).cells (G - (k + (r + 2))) := ⟨_, rfl⟩
  have hrz : ∀ (ty : Nat) (z : Int), z = (r : Int) + 2 → (Builtin.append_ #[23, 3] ty #[.slice (some ⟨g, 0, none⟩) k c, .int .i64 z]).run Try.prog w =
      .ok (.slice (some ⟨w.heap.size, 0, none⟩) (k + (r + 2)) G) (w.drew.alloc (.cells ROW 32)) := fun ty z hz => by
    have h := Lib.run_append_grow_zeros w 23 3 ty 32 i0 _ .i64 .i64 Try.underlying23 Try.underlying3 hi0 hz0 (some ⟨g, 0, none⟩) k c (cl2 (l.take k)) hold (r + 2) (by omega) (by omega) (by omega) (by omega) (by rw [hzb]; omega) (by rw [hzb]; exact growslice_fits (by omega) (by omega))
    rw [hz, hROW, hG]
    exact h
  have hGn : k + (r + 2) ≤ G := by rw [hG]; exact grownCap_ge w _ _ _
  have hG63 : G ≤ maxLen := by rw [hG]; exact grownCap_le_maxLen w _ _ _ (by unfold maxLen; omega)
  have hlk : (cl2 (l.take k)).length = k * 2 := by rw [cl2_length, List.length_take]; omega
  have e2 : (Value.agg #[Value.int .i64 0, .int .i64 0]).cells.size = 2 := rfl
  have hRs : ROW.size = G * 2 := by
    rw [hROW]
    simp only [Array.size_append, size_zeroCells, List.size_toArray, hlk, e2]
    omega
  have hRt : ROW.toList.take (k * 2) = cl2 (l.take k) := by
    rw [hROW, Array.toList_append, Array.toList_append, List.append_assoc]
    exact List.take_left' hlk
  have hpl := ins_freshChange (cur := ROW.toList) (l := l) (x := x) (k := k) (c := G) (by simpa using hRs) hRt (by omega) (by omega)
  rw [show l.length - k = r + 1 by omega] at hpl
  obtain ⟨A1, hA1⟩ : ∃ A1, A1 = ROW.toList.take (k * 2) ++ cl2 [x] ++ ROW.toList.drop (k * 2 + 1 * 2) := ⟨_, rfl⟩
  simp only [← hA1] at hpl
  have HA1 := Lib.hid hA1
  have HPL := Lib.hid hpl
  have HL := Lib.hid hl
  have hbs : b < w.heap.size := by
    rcases Nat.lt_or_ge b w.heap.size with h | h
    · exact h
    · rw [Array.getElem?_eq_none h] at hv; cases hv
  have HB1 : Hid (Below B w0 (w.drew.alloc (.cells ROW 32))) := Lib.hid (hB.drew.alloc (Nat.le_trans hB0 hB.drew.size) _)
  have HG1 : Hid ((w.drew.alloc (.cells ROW 32)).heap[w.heap.size]? = some (.cells ROW 32 (0, 0))) := Lib.hid (heap_alloc_new w.drew _)
  have HV1 : Hid ((w.drew.alloc (.cells ROW 32)).heap[b]? = some (.cells #[.int .i64 x.1, .int .i64 x.2] 32 (0, 0))) := Lib.hid ((((Below.refl _ w.drew).alloc (Nat.le_refl _) _).block b hbs).trans hv)
  have HR1 : Hid (RA2 (w.drew.alloc (.cells ROW 32)) (some ⟨g, 0, none⟩) l) := Lib.hid (hra.drew.alloc _)
  have HRs := Lib.hid hRs
  have HG63 := Lib.hid hG63
  unfold maxLen at hG63
  have hc1 : (c : Int) < (k : Int) + 1 + (r : Int) + 1 := by omega
  have hkc : (k : Int) ≤ (c : Int) := by omega
  have hk2 : (k : Int) ≤ (k : Int) + 1 + (r : Int) := by omega
  have hk4 : (k : Int) ≤ (k : Int) + ((r : Int) + 2) := by omega
  have hw1 : IntKind.i64.wrap ((k : Int) + 1) = (k : Int) + 1 := IntWalk.i64_in _ (by omega)
  have hb1 : (0 : Int) ≤ (k : Int) + 1 := by omega
  have hk3 : (k : Int) + 1 ≤ (k : Int) + ((r : Int) + 2) := by omega
  have htn : ((k : Int) + 1).toNat = k + 1 := by omega
  have hc2 : ¬ (G = k + 1) := by omega
  have hc3 : ¬ (G = k) := by omega
  have hc4 : ¬ (c = k) := by omega
  have hne : ((k : Int) == (k : Int) + 1 + (r : Int)) = false := by simp; omega
  have hgw : g ≠ w.heap.size := by omega
  have hbw : b ≠ w.heap.size := by omega
  clear hown hcs hct hl hg hra hv hold hROW hG hpl hA1 hlk hRt hRs hi0 hz0 hzs hzb e2
  go_enter Try.func39, Try.ntmps39
  go_wp2_with (first
    | (at_builtin; refine Lib.wpList_append_run _ rfl _ _ _ _ rfl _ _ rfl rfl _ _ (hrz _ _ (by omega)) ?_)
    | (refine wpList_copyChange _ rfl (.tmp 43) (.tmp 44) rfl w.heap.size (k * 2) _ _ ⟨b, 0, none⟩ 1 1 1 rfl rfl (by simp only [Nat.min_def]; split <;> omega) ROW (cl2 [x]) rfl HG1.out (fun j v hv => by obtain ⟨ad', e, h⟩ := (RA2.one HV1.out).cells j v hv; injection e with e; subst e; exact h) (cl2_one _) (by rw [HRs.out]; omega) ?_; intro w2 HG2 hg2; have HB2 := Lib.hid (HB1.out.grown hg2 (Nat.le_trans hB0 HB1.out.size) (fun j hj => by simp at hj; omega)); have hz2 := hg2.size; have HR2 : Hid (RA2 w2 (some ⟨g, 0, none⟩) _) := Lib.hid (ra_grown HR1.out hg2 (by simp; omega)); rw [← HA1.out] at HG2; clear hg2))
  refine wp_region_still_tail 8 (by kernel_rfl) (by kernel_rfl) ?_
  change wpStill _ _ (World.drew _) (fun a' => wpList _ _ _ _ a' (World.drew _)) _ _
  simp only [List.take_succ_cons, List.take_zero, List.drop_succ_cons, List.drop_zero]
  repeat still_step
  try refine wpStill_nil ?_
  refine wpList_copyChange _ rfl (.tmp 50) (.tmp 53) rfl w.heap.size ((k + 1) * 2) _ _ ⟨g, k * 2, none⟩ _ _ (r + 1) rfl rfl (by simp only [Nat.min_def]; split <;> omega) A1.toArray (cl2 (l.drop k)) (by rw [cl2_length, List.length_drop, HL.out]; omega) HG2.out ?_ (cl2_one _) (by have := HPL.out.1; simp only [List.size_toArray]; omega) ?_
  · intro j v hv
    obtain ⟨ad', e, h⟩ := (RA2.dropO (A := some ⟨g, 0 + k * 2, none⟩) HR2.out (c := k + 1 + r) (by rw [HL.out]; omega) (fun _ => rfl)).cells j v hv
    simp only [Nat.zero_add, Option.some.injEq] at e
    subst e
    exact h
  intro w3 HG3 hg3
  have HB3 := Lib.hid (HB2.out.drew.grown hg3 (Nat.le_trans hB0 HB2.out.size) (fun j hj => by simp at hj; omega))
  clear hg3
  go_wp2
  go_ret
  refine ⟨_, rfl, ?_, HB3.out⟩
  have hlen : (l.take k ++ x :: l.drop k).length = k + (r + 2) := by simp [HL.out]; omega
  have h := own_rawChange (base := base) (c := G) (l := l.take k ++ x :: l.drop k) HG3.out HPL.out.2.1 (by rw [hlen]; have := HPL.out.2.2; rw [HL.out, show k + 1 + r + 1 = k + (r + 2) by omega] at this; exact this) (by omega) (by omega) HG63.out
  rw [hlen] at h
  exact h

/-- At the end. -/
theorem insertEnd_any (g n c b : Nat) (l : List Nt2) (x : Nt2) (base B : Nat) (w0 w : World) (hl : l.length = n) (hn : l.length ≤ 1000000) (hown : Own2 w base 32 (.slice (some ⟨g, 0, none⟩) n c) l) (hbase : base ≤ w.heap.size)
    (hv : w.heap[b]? = some (.cells #[.int .i64 x.1, .int .i64 x.2] 32 (0, 0))) (hB : Below B w0 w) (hBg : B ≤ g) (hB0 : B ≤ w0.heap.size) :
    Calls Try.prog 39 #[.slice (some ⟨g, 0, none⟩) n c, .int .i64 (n : Int), .slice (some ⟨b, 0, none⟩) 1 1] w fun e w' => ∃ v, e = .returned v ∧ Own2 w' base 32 v (l ++ [x]) ∧ Below B w0 w' := by
  obtain ⟨hrx, hnc, hcm, hbg, hgs⟩ := hown.room
  clear hrx
  unfold maxLen at hcm
  have hnc' : (n : Int) ≤ (c : Int) := by omega
  have HL := Lib.hid hl
  have HO := Lib.hid hown
  have HV := Lib.hid (RA2.one hv)
  clear hl hown hv
  go_enter Try.func39, Try.ntmps39
  go_wp2_with (at_builtin; refine wpList_appChange _ rfl (.tmp 23) (.tmp 24) rfl base _ _ rfl HO.out (some ⟨b, 0, none⟩) 1 1 [x] rfl rfl (fun h => by cases h) HV.out (by omega) hbase ?_; intro v1 w1 ho1 hg1; have HO1 := Lib.hid ho1; have HB1 := Lib.hid (hB.grown hg1 (Nat.le_trans hB0 hB.size) (fun j hj => by have e : some g = some j := hj; injection e with e; omega)); clear ho1 hg1)
  all_goals
    go_ret
    exact ⟨_, rfl, HO1.out, HB1.out⟩
end Go.Proofs.Ytakmlgkcinjecaa
