/- AddPitch: both functions. -/
import Derived.Test.YtfgfiahampjfiaaDoorAdd
import Derived.Lib.BufferWrite
namespace Go.Proofs.YtfgfiahampjfiaaDoor
open Go.RowKit Go.Sort
set_option linter.unusedVariables false
set_option linter.unusedSimpArgs false

def onlyA (A : Option Addr) (n c : Nat) (r : Int) : Bool → Array Value
  | true => #[.agg #[.slice A n c, .int .i64 r], .bool true]
  | false => #[.agg #[.slice none 0 0, .int .i64 0], .bool false]
theorem onlyR_add (l : List Int) (r p : Int) (zs : List Int) (A : Option Addr) (c : Nat) (hg : gdI l r = true) (hz : (l ++ [p]).mergeSort (fun x y => decide (x ≤ y)) = zs) : onlyR A zs c r = onlyA A zs.length c r (addOk l r p) := by
  unfold onlyR onlyA
  rw [← hz, add_gd l r p hg]
  cases addOk l r p <;> rfl
theorem OwnI.ne {w : World} {base t b : Nat} {v : Value} {l : List Int} (h : OwnI w base t v l) (hb : b < base) : v.ownBlock = none ∨ v.ownBlock ≠ some b := by
  cases hv : v.ownBlock with
  | none => exact .inl rfl
  | some j => exact .inr fun e => by injection e with e; have := (h.lt j hv).1; omega

set_option maxRecDepth 100000 in
set_option maxHeartbeats 2000000 in
theorem specAdd_any (g : Nat) (l : List Int) (c : Nat) (r p : Int) (w : World) (hn : l.length ≤ 1048576) (hlc : l.length ≤ c) (hA : RI w (some ⟨g, 0, none⟩) l) :
    Calls Tryd.prog 45 #[.agg #[.slice (some ⟨g, 0, none⟩) l.length c, .int .i64 r], .int .i64 p] w fun e w' => RetN w (putL p l) r (addOk l r p) e w' := by
  have hb2 : Below w.heap.size w ((w.alloc (.cells #[.slice (some ⟨g, 0, none⟩) l.length c, .int .i64 r] 27)).alloc (.cells #[.slice none 0 0, .int .i64 0] 27)) := ((Below.refl _ _).alloc (Nat.le_refl _) _).alloc (by simp) _
  have a0 : ((w.alloc (.cells #[.slice (some ⟨g, 0, none⟩) l.length c, .int .i64 r] 27)).alloc (.cells #[.slice none 0 0, .int .i64 0] 27)).cell? ⟨w.heap.size, 0, none⟩ = some (.slice (some ⟨g, 0, none⟩) l.length c) := by go_simp
  have a1 : ((w.alloc (.cells #[.slice (some ⟨g, 0, none⟩) l.length c, .int .i64 r] 27)).alloc (.cells #[.slice none 0 0, .int .i64 0] 27)).cell? ⟨w.heap.size, 1, none⟩ = some (.int .i64 r) := by go_simp
  have d0 : ((w.alloc (.cells #[.slice (some ⟨g, 0, none⟩) l.length c, .int .i64 r] 27)).alloc (.cells #[.slice none 0 0, .int .i64 0] 27)).cell? ⟨w.heap.size + 1, 0, none⟩ = some (.slice none 0 0) := by go_simp
  have d1 : ((w.alloc (.cells #[.slice (some ⟨g, 0, none⟩) l.length c, .int .i64 r] 27)).alloc (.cells #[.slice none 0 0, .int .i64 0] 27)).cell? ⟨w.heap.size + 1, 1, none⟩ = some (.int .i64 0) := by go_simp
  have f0 : ((w.alloc (.cells #[.slice (some ⟨g, 0, none⟩) l.length c, .int .i64 r] 27)).alloc (.cells #[.slice none 0 0, .int .i64 0] 27)).frozen? ⟨w.heap.size + 1, 0, none⟩ = false := by go_simp
  have f1 : ((w.alloc (.cells #[.slice (some ⟨g, 0, none⟩) l.length c, .int .i64 r] 27)).alloc (.cells #[.slice none 0 0, .int .i64 0] 27)).frozen? ⟨w.heap.size + 1, 1, none⟩ = false := by go_simp
  have hz1 : w.heap.size + 1 < ((w.alloc (.cells #[.slice (some ⟨g, 0, none⟩) l.length c, .int .i64 r] 27)).alloc (.cells #[.slice none 0 0, .int .i64 0] 27)).heap.size := by simp
  have hA := hA.below hb2
  go_enter Tryd.func45, Tryd.ntmps45
  go_wp2_with fail
  generalize ((w.alloc (.cells #[.slice (some ⟨g, 0, none⟩) l.length c, .int .i64 r] 27)).alloc (.cells #[.slice none 0 0, .int .i64 0] 27)) = W at *
  have hz0 : w.heap.size < W.heap.size := by omega
  have m1 : w.heap.size ≤ w.heap.size + 1 := by omega
  have n1 : w.heap.size + 1 ≠ w.heap.size := by omega
  have hB := hb2
  refine (inGood_any _ _ _ _ _ hn hA).mono ?_
  rintro e w1 ⟨rfl, hb⟩
  have hA := hA.below hb
  have a0 := (hb.cell (p := ⟨w.heap.size, 0, none⟩) hz0).trans a0
  have a1 := (hb.cell (p := ⟨w.heap.size, 1, none⟩) hz0).trans a1
  have d0 := (hb.cell (p := ⟨w.heap.size + 1, 0, none⟩) hz1).trans d0
  have d1 := (hb.cell (p := ⟨w.heap.size + 1, 1, none⟩) hz1).trans d1
  have f0 := (hb.frozen (p := ⟨w.heap.size + 1, 0, none⟩) hz1).trans f0
  have f1 := (hb.frozen (p := ⟨w.heap.size + 1, 1, none⟩) hz1).trans f1
  have hz0 := Nat.lt_of_lt_of_le hz0 hb.size
  have hz1 := Nat.lt_of_lt_of_le hz1 hb.size
  have hB := hB.trans (hb.mono hB.size)
  clear hb hb2
  cases hg : gdI l r with
  | false =>
    have HB := Lib.hid hB
    clear hB hA
    go_wp2
    refine bodyPost_ret (v := .tuple #[.agg #[.slice none 0 0, .int .i64 0], .bool false]) (by simp [results, Tryd.results45, go_sem, *]) rfl ?_
    have e0 : addOk l r p = false := by simp [addOk, hg]
    unfold RetN
    rw [e0]
    exact ⟨_, rfl, by simpa using OwnI.nil _ w.heap.size 3, (HB.out.setCell m1 _).setCell m1 _⟩
  | true =>
    cases hpr : inR p 24 96 with
    | false =>
      have HB := Lib.hid hB
      clear hB hA
      go_wp2_with (go_at_call 63; refine (ntPitch_any _ _).mono ?_; rintro e w2 ⟨rfl, rfl⟩)
      go_wp2
      refine bodyPost_ret (v := .tuple #[.agg #[.slice none 0 0, .int .i64 0], .bool false]) (by simp [results, Tryd.results45, go_sem, *]) rfl ?_
      have e0 : addOk l r p = false := by simp [addOk, hpr]
      unfold RetN
      rw [e0]
      exact ⟨_, rfl, by simpa using OwnI.nil _ w.heap.size 3, (HB.out.setCell m1 _).setCell m1 _⟩
    | true =>
      have hh : hasB l p = decide (0 ≤ trk p l) := hasB_trk l p
      have HH := Lib.hid hh
      clear hh
      go_wp2_with (go_at_call 63; refine (ntPitch_any _ _).mono ?_; rintro e w2 ⟨rfl, rfl⟩)
      refine (inTrack_any _ _ _ _ _ _ hn hA).mono ?_
      rintro e w3 ⟨rfl, hb⟩
      have hA := hA.below hb
      have a0 := (hb.cell (p := ⟨w.heap.size, 0, none⟩) hz0).trans a0
      have a1 := (hb.cell (p := ⟨w.heap.size, 1, none⟩) hz0).trans a1
      have d0 := (hb.cell (p := ⟨w.heap.size + 1, 0, none⟩) hz1).trans d0
      have d1 := (hb.cell (p := ⟨w.heap.size + 1, 1, none⟩) hz1).trans d1
      have f0 := (hb.frozen (p := ⟨w.heap.size + 1, 0, none⟩) hz1).trans f0
      have f1 := (hb.frozen (p := ⟨w.heap.size + 1, 1, none⟩) hz1).trans f1
      have hz0 := Nat.lt_of_lt_of_le hz0 hb.size
      have hz1 := Nat.lt_of_lt_of_le hz1 hb.size
      have hB := hB.trans (hb.mono hB.size)
      clear hb
      by_cases ht : (0 : Int) ≤ trk p l
      · have HB := Lib.hid hB
        have hhp : hasB l p = true := by rw [HH.out]; simp [ht]
        have HP := Lib.hid hhp
        clear hB hA hhp
        go_wp2
        refine bodyPost_ret (v := .tuple #[.agg #[.slice none 0 0, .int .i64 0], .bool false]) (by simp [results, Tryd.results45, go_sem, *]) rfl ?_
        have e0 : addOk l r p = false := by simp [addOk, HP.out]
        unfold RetN
        rw [e0]
        exact ⟨_, rfl, by simpa using OwnI.nil _ w.heap.size 3, (HB.out.setCell m1 _).setCell m1 _⟩
      · have hhp : hasB l p = false := by rw [HH.out]; simp [ht]
        have HP := Lib.hid hhp
        clear hhp
        by_cases h20 : l.length = 20
        · have HB := Lib.hid hB
          have h20' : ((l.length : Int) == 20) = true := by simp [h20]
          have H20 := Lib.hid h20
          clear hB hA h20
          go_wp2
          refine bodyPost_ret (v := .tuple #[.agg #[.slice none 0 0, .int .i64 0], .bool false]) (by simp [results, Tryd.results45, go_sem, *]) rfl ?_
          have e0 : addOk l r p = false := by simp [addOk, H20.out]
          unfold RetN
          rw [e0]
          exact ⟨_, rfl, by simpa using OwnI.nil _ w.heap.size 3, (HB.out.setCell m1 _).setCell m1 _⟩
        · have h20' : ((l.length : Int) == 20) = false := by simp; omega
          have hinc : Inc l := inc_of_lt ((gdI_iff l r).1 hg).2.1.inc
          have HI := Lib.hid hinc
          have HG := Lib.hid hg
          have HPR := Lib.hid hpr
          have hsz := hB.size
          have hl20 := ((gdI_iff l r).1 hg).1.2
          clear hinc hg hpr
          go_upto_region 3 with fail
          have hAd : RI w3.drew (some ⟨g, 0, none⟩) l := hA
          have a0d : w3.drew.cell? ⟨w.heap.size, 0, none⟩ = some (.slice (some ⟨g, 0, none⟩) l.length c) := a0
          have a1d : w3.drew.cell? ⟨w.heap.size, 1, none⟩ = some (.int .i64 r) := a1
          have d0d : w3.drew.cell? ⟨w.heap.size + 1, 0, none⟩ = some (.slice none 0 0) := d0
          have d1d : w3.drew.cell? ⟨w.heap.size + 1, 1, none⟩ = some (.int .i64 0) := d1
          have f0d : w3.drew.frozen? ⟨w.heap.size + 1, 0, none⟩ = false := f0
          have f1d : w3.drew.frozen? ⟨w.heap.size + 1, 1, none⟩ = false := f1
          have z0d : w.heap.size < w3.drew.heap.size := hz0
          have z1d : w.heap.size + 1 < w3.drew.heap.size := hz1
          go_region_with (first
            | (go_at_call 82; refine (l1Own_any g l c _ hn hlc hAd).mono ?_; rintro e wo ⟨vo, rfl, hoo, hbo⟩; have a0o := (hbo.cell (p := ⟨w.heap.size, 0, none⟩) z0d).trans a0d; have a1o := (hbo.cell (p := ⟨w.heap.size, 1, none⟩) z0d).trans a1d; have d0o := (hbo.cell (p := ⟨w.heap.size + 1, 0, none⟩) z1d).trans d0d; have d1o := (hbo.cell (p := ⟨w.heap.size + 1, 1, none⟩) z1d).trans d1d; have f0o := (hbo.frozen (p := ⟨w.heap.size + 1, 0, none⟩) z1d).trans f0d; have f1o := (hbo.frozen (p := ⟨w.heap.size + 1, 1, none⟩) z1d).trans f1d; have z0o := Nat.lt_of_lt_of_le z0d hbo.size; have z1o := Nat.lt_of_lt_of_le z1d hbo.size)
            | (go_at_call 81; refine (l1Put_any vo l p w3.drew.heap.size _ (by omega) hbo.size hoo HI.out).mono ?_; rintro e wq ⟨vp, rfl, hop, hbp⟩; obtain ⟨A6, c6, hf6, _⟩ := hop.form; subst hf6; have a0q := (hbp.cell (p := ⟨w.heap.size, 0, none⟩) z0o).trans a0o; have a1q := (hbp.cell (p := ⟨w.heap.size, 1, none⟩) z0o).trans a1o; have d0q := (hbp.cell (p := ⟨w.heap.size + 1, 0, none⟩) z1o).trans d0o; have d1q := (hbp.cell (p := ⟨w.heap.size + 1, 1, none⟩) z1o).trans d1o; have f0q := (hbp.frozen (p := ⟨w.heap.size + 1, 0, none⟩) z1o).trans f0o; have f1q := (hbp.frozen (p := ⟨w.heap.size + 1, 1, none⟩) z1o).trans f1o))
          all_goals
            go_wp2
            refine bodyPost_ret (v := .tuple #[.agg #[.slice A6 (putL p l).length c6, .int .i64 r], .bool true]) (by simp [results, Tryd.results45, go_sem, *]) rfl ?_
            have e1 : addOk l r p = true := by simp [addOk, HG.out, HPR.out, HP.out, h20]
            unfold RetN
            rw [e1]
            have hB3 := (hB.drew.trans (hbo.mono hB.size)).trans (hbp.mono (Nat.le_trans hB.size hbo.size))
            have ho1 := hop.grown (Lib.grownBy_setCell wq (w.heap.size + 1) 0 (.slice A6 (putL p l).length c6)) (hop.ne z1d)
            have ho2 := ho1.grown (Lib.grownBy_setCell _ (w.heap.size + 1) 1 (.int .i64 r)) (hop.ne z1d)
            exact ⟨_, rfl, by simpa using ho2.mono hsz, (hB3.setCell m1 _).setCell m1 _⟩

set_option maxRecDepth 100000 in
set_option maxHeartbeats 2000000 in
theorem implAdd_any (g : Nat) (l : List Int) (c : Nat) (r p : Int) (w : World) (hn : l.length ≤ 1048576) (hlc : l.length ≤ c) (hA : RI w (some ⟨g, 0, none⟩) l) (hL : Lim w) :
    Calls Tryd.prog 46 #[.agg #[.slice (some ⟨g, 0, none⟩) l.length c, .int .i64 r], .int .i64 p] w fun e w' => RetN w (putL p l) r (addOk l r p) e w' := by
  have hb2 : Below w.heap.size w ((w.alloc (.cells #[.slice (some ⟨g, 0, none⟩) l.length c, .int .i64 r] 27)).alloc (.cells #[.slice none 0 0, .int .i64 0] 27)) := ((Below.refl _ _).alloc (Nat.le_refl _) _).alloc (by simp) _
  have a0 : ((w.alloc (.cells #[.slice (some ⟨g, 0, none⟩) l.length c, .int .i64 r] 27)).alloc (.cells #[.slice none 0 0, .int .i64 0] 27)).cell? ⟨w.heap.size, 0, none⟩ = some (.slice (some ⟨g, 0, none⟩) l.length c) := by go_simp
  have a1 : ((w.alloc (.cells #[.slice (some ⟨g, 0, none⟩) l.length c, .int .i64 r] 27)).alloc (.cells #[.slice none 0 0, .int .i64 0] 27)).cell? ⟨w.heap.size, 1, none⟩ = some (.int .i64 r) := by go_simp
  have d0 : ((w.alloc (.cells #[.slice (some ⟨g, 0, none⟩) l.length c, .int .i64 r] 27)).alloc (.cells #[.slice none 0 0, .int .i64 0] 27)).cell? ⟨w.heap.size + 1, 0, none⟩ = some (.slice none 0 0) := by go_simp
  have d1 : ((w.alloc (.cells #[.slice (some ⟨g, 0, none⟩) l.length c, .int .i64 r] 27)).alloc (.cells #[.slice none 0 0, .int .i64 0] 27)).cell? ⟨w.heap.size + 1, 1, none⟩ = some (.int .i64 0) := by go_simp
  have f0 : ((w.alloc (.cells #[.slice (some ⟨g, 0, none⟩) l.length c, .int .i64 r] 27)).alloc (.cells #[.slice none 0 0, .int .i64 0] 27)).frozen? ⟨w.heap.size + 1, 0, none⟩ = false := by go_simp
  have f1 : ((w.alloc (.cells #[.slice (some ⟨g, 0, none⟩) l.length c, .int .i64 r] 27)).alloc (.cells #[.slice none 0 0, .int .i64 0] 27)).frozen? ⟨w.heap.size + 1, 1, none⟩ = false := by go_simp
  have hz1 : w.heap.size + 1 < ((w.alloc (.cells #[.slice (some ⟨g, 0, none⟩) l.length c, .int .i64 r] 27)).alloc (.cells #[.slice none 0 0, .int .i64 0] 27)).heap.size := by simp
  have hA := hA.below hb2
  have hL := hL.below hb2
  go_enter Tryd.func46, Tryd.ntmps46
  go_wp2_with fail
  generalize ((w.alloc (.cells #[.slice (some ⟨g, 0, none⟩) l.length c, .int .i64 r] 27)).alloc (.cells #[.slice none 0 0, .int .i64 0] 27)) = W at *
  have hz0 : w.heap.size < W.heap.size := by omega
  have m1 : w.heap.size ≤ w.heap.size + 1 := by omega
  have n1 : w.heap.size + 1 ≠ w.heap.size := by omega
  have hB := hb2
  refine (isIns_any _ _ _ _ _ hn hA hL).mono ?_
  rintro e w1 ⟨rfl, hb⟩
  have hA := hA.below hb
  have hL := hL.below hb
  have a0 := (hb.cell (p := ⟨w.heap.size, 0, none⟩) hz0).trans a0
  have a1 := (hb.cell (p := ⟨w.heap.size, 1, none⟩) hz0).trans a1
  have d0 := (hb.cell (p := ⟨w.heap.size + 1, 0, none⟩) hz1).trans d0
  have d1 := (hb.cell (p := ⟨w.heap.size + 1, 1, none⟩) hz1).trans d1
  have f0 := (hb.frozen (p := ⟨w.heap.size + 1, 0, none⟩) hz1).trans f0
  have f1 := (hb.frozen (p := ⟨w.heap.size + 1, 1, none⟩) hz1).trans f1
  have hz0 := Nat.lt_of_lt_of_le hz0 hb.size
  have hz1 := Nat.lt_of_lt_of_le hz1 hb.size
  have hB := hB.trans (hb.mono hB.size)
  clear hb hb2
  cases hg : gdI l r with
  | false =>
    have HB := Lib.hid hB
    clear hB hA hL
    go_wp2
    refine bodyPost_ret (v := .tuple #[.agg #[.slice none 0 0, .int .i64 0], .bool false]) (by simp [results, Tryd.results46, go_sem, *]) rfl ?_
    have e0 : addOk l r p = false := by simp [addOk, hg]
    unfold RetN
    rw [e0]
    exact ⟨_, rfl, by simpa using OwnI.nil _ w.heap.size 3, (HB.out.setCell m1 _).setCell m1 _⟩
  | true =>
    have HG := Lib.hid hg
    have h20 := ((gdI_iff l r).1 hg).1.2
    clear hg
    have HB := Lib.hid hB
    have hszB := hB.size
    clear hB
    cases hok : addOk l r p with
    | false =>
      have HOK := Lib.hid hok
      clear hok
      go_wp2_with fail
      refine (Tryd.slices_Clone_int g 0 l.length c l _ (Nat.le_refl _) (by omega) hA.getD).mono ?_
      rintro e w2 ⟨v2, rfl, ho2, _, hb⟩
      have ho2 : OwnI w2 w1.heap.size 3 v2 l := by rw [List.take_length] at ho2; exact ho2
      have hbr := Lib.hid (show Below w1.heap.size w1 (w2.alloc (.cells #[.int .i64 p] 3)) from hb.alloc hb.size _)
      have ho3 := Lib.hid (ho2.below ((Below.refl w2.heap.size w2).alloc (Nat.le_refl _) (.cells #[.int .i64 p] 3)) (Nat.le_refl _))
      have hc3 := Lib.hid (one_new w2 p)
      clear ho2 hA hb
      go_wp2_with (first
        | (at_builtin; (refine wpList_appI _ rfl (.tmp 13) (.tmp 15) rfl w1.heap.size _ _ rfl ho3.out (some ⟨w2.heap.size, 0, none⟩) 1 1 [p] rfl rfl (fun h => by cases h) (fun j y hy => one_at hc3.out hy) (by simp; omega) hbr.out.size ?_); intro v4 w4 ho4 hg4 hv4; have hb4 := hbr.out.grown hg4 hbr.out.size (fun j hj => (ho3.out.lt j hj).1); clear hg4 hv4)
        | (go_at_call 73; go_loud (refine (sortI_any v4 _ w1.heap.size _ (by rw [List.length_append, List.length_singleton]; omega) ho4).mono ?_; rintro e w5 ⟨rfl, ho5, hg5⟩; generalize hzs : (l ++ [p]).mergeSort (fun x y => decide (x ≤ y)) = zs at ho5; have HZ := Lib.hid hzs; have hzl : zs.length = l.length + 1 := (by rw [← hzs, List.length_mergeSort, List.length_append, List.length_singleton]); have HZL := Lib.hid hzl; clear hzs hzl; have hb5 := hb4.grown hg5 hb4.size (fun j hj => (ho4.lt j hj).1); obtain ⟨A5, c5, hf5, hr5, _⟩ := ho5.form; subst hf5; have a05 := (hb5.cell (p := ⟨w.heap.size, 0, none⟩) hz0).trans a0; have a15 := (hb5.cell (p := ⟨w.heap.size, 1, none⟩) hz0).trans a1; clear ho4 hb4 hg5))
        | (go_at_call 84; go_loud (refine (insOnly_any A5 zs c5 r _ (by have := HZL.out; omega) hr5 (hL.below hb5)).mono ?_; rintro e w6 ⟨rfl, hb6⟩; rw [onlyR_add l r p zs A5 c5 HG.out HZ.out, HOK.out, onlyA]; have d06 := (hb6.cell (p := ⟨w.heap.size + 1, 0, none⟩) (Nat.lt_of_lt_of_le hz1 hb5.size)).trans ((hb5.cell (p := ⟨w.heap.size + 1, 0, none⟩) hz1).trans d0); have d16 := (hb6.cell (p := ⟨w.heap.size + 1, 1, none⟩) (Nat.lt_of_lt_of_le hz1 hb5.size)).trans ((hb5.cell (p := ⟨w.heap.size + 1, 1, none⟩) hz1).trans d1); have f06 := (hb6.frozen (p := ⟨w.heap.size + 1, 0, none⟩) (Nat.lt_of_lt_of_le hz1 hb5.size)).trans ((hb5.frozen (p := ⟨w.heap.size + 1, 0, none⟩) hz1).trans f0); have f16 := (hb6.frozen (p := ⟨w.heap.size + 1, 1, none⟩) (Nat.lt_of_lt_of_le hz1 hb5.size)).trans ((hb5.frozen (p := ⟨w.heap.size + 1, 1, none⟩) hz1).trans f1))))
      have hb6' := hb5.trans (hb6.mono hb5.size)
      have hB6 := HB.out.trans (hb6'.mono hszB)
      refine bodyPost_ret (v := .tuple #[.agg #[.slice none 0 0, .int .i64 0], .bool false]) (by simp [results, Tryd.results46, go_sem, *]) rfl ?_
      unfold RetN
      rw [HOK.out]
      exact ⟨_, rfl, by simpa using OwnI.nil _ w.heap.size 3, (hB6.setCell m1 _).setCell m1 _⟩
    | true =>
      have HOK := Lib.hid hok
      clear hok
      go_wp2_with fail
      refine (Tryd.slices_Clone_int g 0 l.length c l _ (Nat.le_refl _) (by omega) hA.getD).mono ?_
      rintro e w2 ⟨v2, rfl, ho2, _, hb⟩
      have ho2 : OwnI w2 w1.heap.size 3 v2 l := by rw [List.take_length] at ho2; exact ho2
      have hbr := Lib.hid (show Below w1.heap.size w1 (w2.alloc (.cells #[.int .i64 p] 3)) from hb.alloc hb.size _)
      have ho3 := Lib.hid (ho2.below ((Below.refl w2.heap.size w2).alloc (Nat.le_refl _) (.cells #[.int .i64 p] 3)) (Nat.le_refl _))
      have hc3 := Lib.hid (one_new w2 p)
      clear ho2 hA hb
      go_wp2_with (first
        | (at_builtin; (refine wpList_appI _ rfl (.tmp 13) (.tmp 15) rfl w1.heap.size _ _ rfl ho3.out (some ⟨w2.heap.size, 0, none⟩) 1 1 [p] rfl rfl (fun h => by cases h) (fun j y hy => one_at hc3.out hy) (by simp; omega) hbr.out.size ?_); intro v4 w4 ho4 hg4 hv4; have hb4 := hbr.out.grown hg4 hbr.out.size (fun j hj => (ho3.out.lt j hj).1); clear hg4 hv4)
        | (go_at_call 73; go_loud (refine (sortI_any v4 _ w1.heap.size _ (by rw [List.length_append, List.length_singleton]; omega) ho4).mono ?_; rintro e w5 ⟨rfl, ho5, hg5⟩; generalize hzs : (l ++ [p]).mergeSort (fun x y => decide (x ≤ y)) = zs at ho5; have HZ := Lib.hid hzs; have hzl : zs.length = l.length + 1 := (by rw [← hzs, List.length_mergeSort, List.length_append, List.length_singleton]); have HZL := Lib.hid hzl; clear hzs hzl; have hb5 := hb4.grown hg5 hb4.size (fun j hj => (ho4.lt j hj).1); obtain ⟨A5, c5, hf5, hr5, _⟩ := ho5.form; subst hf5; have a05 := (hb5.cell (p := ⟨w.heap.size, 0, none⟩) hz0).trans a0; have a15 := (hb5.cell (p := ⟨w.heap.size, 1, none⟩) hz0).trans a1; clear ho4 hb4 hg5))
        | (go_at_call 84; go_loud (refine (insOnly_any A5 zs c5 r _ (by have := HZL.out; omega) hr5 (hL.below hb5)).mono ?_; rintro e w6 ⟨rfl, hb6⟩; rw [onlyR_add l r p zs A5 c5 HG.out HZ.out, HOK.out, onlyA]; have d06 := (hb6.cell (p := ⟨w.heap.size + 1, 0, none⟩) (Nat.lt_of_lt_of_le hz1 hb5.size)).trans ((hb5.cell (p := ⟨w.heap.size + 1, 0, none⟩) hz1).trans d0); have d16 := (hb6.cell (p := ⟨w.heap.size + 1, 1, none⟩) (Nat.lt_of_lt_of_le hz1 hb5.size)).trans ((hb5.cell (p := ⟨w.heap.size + 1, 1, none⟩) hz1).trans d1); have f06 := (hb6.frozen (p := ⟨w.heap.size + 1, 0, none⟩) (Nat.lt_of_lt_of_le hz1 hb5.size)).trans ((hb5.frozen (p := ⟨w.heap.size + 1, 0, none⟩) hz1).trans f0); have f16 := (hb6.frozen (p := ⟨w.heap.size + 1, 1, none⟩) (Nat.lt_of_lt_of_le hz1 hb5.size)).trans ((hb5.frozen (p := ⟨w.heap.size + 1, 1, none⟩) hz1).trans f1))))
      have hb6' := hb5.trans (hb6.mono hb5.size)
      have hB6 := HB.out.trans (hb6'.mono hszB)
      refine bodyPost_ret (v := .tuple #[.agg #[.slice A5 zs.length c5, .int .i64 r], .bool true]) (by simp [results, Tryd.results46, go_sem, *]) rfl ?_
      unfold RetN
      rw [HOK.out]
      have hp : p ∉ l := by have := HOK.out; simp [addOk, hasB] at this; exact this.2.2.1
      have ez : zs = putL p l := HZ.out.symm.trans (add_sorted l r p HG.out hp)
      have ho6 := ho5.below hb6 (Nat.le_refl _)
      have ho7 := ho6.grown (Lib.grownBy_setCell w6 (w.heap.size + 1) 0 (.slice A5 zs.length c5)) (ho5.ne hz1)
      have ho8 := ho7.grown (Lib.grownBy_setCell _ (w.heap.size + 1) 1 (.int .i64 r)) (ho5.ne hz1)
      rw [← ez]
      exact ⟨_, rfl, by simpa using ho8.mono hszB, (hB6.setCell m1 _).setCell m1 _⟩
end Go.Proofs.YtfgfiahampjfiaaDoor
