/- Contracts: ParseScore of the model. -/
import Derived.Test.YtfjcnomingbneabDoorPScI
import Derived.Test.YtfjcnomingbneabDoorNtGood
import Derived.Deep.RegionHeld3
import Derived.Test.YtfjcnomingbneabDoorText
import Derived.Test.YtfjcnomingbneabDoorNtR
namespace Go.Proofs.YtfjcnomingbneabDoor
open Go.RowKit Go.Sort
set_option linter.unusedVariables false
set_option linter.unusedSimpArgs false

set_option maxRecDepth 100000 in
set_option maxHeartbeats 4000000 in
theorem ntParse_any (s : List UInt8) (w : World) (hs : s.length ≤ 1048576) :
    Calls Tryd.prog 15 #[.string (bs s)] w fun e w' => ScOf s w.heap.size w' e ∧ RowKit.Below w.heap.size w w' := by
  go_enter Tryd.func15, Tryd.ntmps15
  go_wp2_with fail
  refine (l1Split_any s 10 w (by omega)).mono ?_
  rintro e w1 ⟨v1, rfl, hO1, hb1⟩
  have hml := splitB_mem_len 10 s
  have hne1 := splitB_ne 10 s
  have HM := Lib.hid fun m (hm : goodB m = true) (ht : textOf m = s) => model_lines hm ht
  generalize splitB 10 s = ls at *
  obtain ⟨A1, c1, rfl, hRS1, hnc1, hcm1, _, hg1⟩ := hO1.form
  obtain ⟨g1, rfl⟩ := hg1 hne1
  obtain ⟨m, hm⟩ : ∃ m, ls.length = m + 1 := ⟨ls.length - 1, by have := List.length_pos_iff.2 hne1; omega⟩
  have HLM := Lib.hid hm
  unfold maxLen at hcm1
  rw [hm] at hnc1 ⊢
  clear hm hO1 hg1 hne1
  by_cases h30 : 30 < m
  · have HNO : Hid (∀ l, goodB l = true → textOf l ≠ s) := Lib.hid fun l hl ht => by have := (HM.out l hl ht).1; rw [HLM.out] at this; omega
    have i1 : (31 : Int) < (m : Int) + 1 := by omega
    go_wp2
    go_ret2
    exact ⟨.inr ⟨HNO.out, rfl⟩, hb1⟩
  · have i1 : ¬ ((31 : Int) < (m : Int) + 1) := by omega
    have i2 : (0 : Int) ≤ (m : Int) := by omega
    have i3 : (m : Int) ≤ (c1 : Int) := by omega
    have HRS := Lib.hid hRS1
    have HB1 := Lib.hid hb1
    clear hRS1 hb1
    go_wp2
    go_loopw [5, 20] (fun out i wr => ∃ (k : Nat) (v : Value), k ≤ m ∧ i = .int .i64 k ∧ out = v ∧ Hid (Own wr w1.heap.size 35 v ((ls.take k).map rdM)) ∧ Hid (RowKit.Below w1.heap.size w1 wr))
      (fun _ i _ => m - (intOf i).toNat)
    case atStart => exact ⟨0, _, Nat.zero_le _, rfl, rfl, Lib.hid (Own.nil _ _ _), Lib.hid (RowKit.Below.refl _ _)⟩
    case round =>
      obtain ⟨k, v, hk, rfl, hvv, HO, HB⟩ := hrel
      replace hvv := hvv.symm
      subst hvv
      by_cases hlt : k < m
      · obtain ⟨u, hu⟩ : ∃ u, ls[k]? = some u := ⟨ls[k]'(by rw [HLM.out]; omega), List.getElem?_eq_getElem _⟩
        have hul : u.length ≤ 1048576 := by have := hml u (List.mem_of_getElem? hu); omega
        obtain ⟨ga, oa, hga, hgl, hcu⟩ := (HRS.out.below HB.out) k u hu
        simp only [Option.some.injEq, Addr.mk.injEq, and_true] at hga
        obtain ⟨rfl, rfl⟩ := hga
        rw [Nat.zero_add] at hcu
        have j1 : (0 : Int) ≤ (k : Int) := by omega
        have j2 : (k : Int) < (m : Int) := by omega
        have HU := Lib.hid hu
        clear hu
        go_wp2_with fail
        refine (l1Split_any u 32 wr (by omega)).mono ?_
        rintro e w2 ⟨v2, rfl, hO2, hb2⟩
        have hwm := splitB_mem_len 32 u
        have HRD : Hid (rdM u = (ntRd ((splitB 32 u).getD 0 []), readL ((splitB 32 u).getD 1 []), readL ((splitB 32 u).getD 2 []))) := Lib.hid rfl
        have HM3 := Lib.hid fun m' (hm : goodB m' = true) (ht : textOf m' = s) => (HM.out m' hm ht).2.1 k u (by rw [HLM.out]; omega) HU.out
        generalize splitB 32 u = ws at *
        obtain ⟨A2, c2, rfl, hRS2, hnc2, hcm2, _, hg2⟩ := hO2.form
        by_cases h3 : ws.length = 3
        · obtain ⟨a, b, c, rfl⟩ : ∃ a b c, ws = [a, b, c] := by
            match ws, h3 with
            | [a, b, c], _ => exact ⟨a, b, c, rfl⟩
          obtain ⟨g2, rfl⟩ := hg2 (by simp)
          have hz2 := hO2.lt g2 rfl
          obtain ⟨_, _, e0, hl0, k0⟩ := hRS2 0 a rfl
          obtain ⟨_, _, e1, hl1, k1⟩ := hRS2 1 b rfl
          obtain ⟨_, _, e2, hl2, k2⟩ := hRS2 2 c rfl
          simp only [Option.some.injEq, Addr.mk.injEq, and_true] at e0 e1 e2
          obtain ⟨rfl, rfl⟩ := e0
          obtain ⟨rfl, rfl⟩ := e1
          obtain ⟨rfl, rfl⟩ := e2
          rw [Nat.zero_add] at k0 k1 k2
          have hwb := hwm b (by simp)
          have hwc := hwm c (by simp)
          have CN := Lib.hid (fun W => ntRead_any a W)
          have CB := Lib.hid (fun W => l1Read_any b W (by omega))
          have CC := Lib.hid (fun W => l1Read_any c W (by omega))
          have hts : (ls.take (k + 1)).map rdM = (ls.take k).map rdM ++ [(ntRd a, readL b, readL c)] := by
            rw [List.take_add_one, HU.out, List.map_append]
            congr 1
            show [rdM u] = _
            rw [HRD.out]; rfl
          have HTS := Lib.hid hts
          have HHB := Lib.hid ((HB.out.trans (hb2.mono HB.out.size)))
          have HHO := Lib.hid (HO.out.below hb2 (Nat.le_refl _))
          have hown : ∀ j, v.ownBlock = some j → j < wr.heap.size := fun j hj => (HO.out.lt j hj).2
          have HNE := Lib.hid (show some g2 ≠ v.ownBlock from fun h => by have := hown g2 h.symm; omega)
          have hll : ((ls.take k).map rdM).length = k := by rw [List.length_map, List.length_take, HLM.out]; omega
          generalize (ls.take k).map rdM = L0 at *
          have HZ2 := Lib.hid hz2.2
          clear hRS2 hO2 hb2 hwm hml hts hown hz2 hcu hgl hwb hwc hl0 hl1 hl2 HM3 HRD
          have hh : (((([a, b, c] : List (List UInt8)).length : Nat) : Int) != 3) = false := rfl
          rw [show ([a, b, c] : List (List UInt8)).length = 3 from rfl] at *
          go_upto_region 11 with fail
          have HHB := Lib.hid (HHB.out.trans ((RowKit.Below.refl _ w2).drew.mono HHB.out.size))
          have HHO : Hid (Own w2.drew w1.heap.size 35 v L0) := Lib.hid HHO.out
          have HZ2 : Hid (g2 < w2.drew.heap.size) := Lib.hid HZ2.out
          have k0 : w2.drew.cell? ⟨g2, 0, none⟩ = some (.string (bs a)) := k0
          have k1 : w2.drew.cell? ⟨g2, 1, none⟩ = some (.string (bs b)) := k1
          have k2 : w2.drew.cell? ⟨g2, 2, none⟩ = some (.string (bs c)) := k2
          go_region_held3 (fun w' => w'.cell? ⟨g2, 0, none⟩ = some (.string (bs a)) ∧ w'.cell? ⟨g2, 1, none⟩ = some (.string (bs b)) ∧ w'.cell? ⟨g2, 2, none⟩ = some (.string (bs c)))
            (first | go_keep | exact ⟨k0, k1, k2⟩)
            (first
              | (go_at_call 28; refine (CN.out _).mono ?_; rintro e w3 ⟨rfl, hb3⟩; have k0 := (hb3.cell (p := ⟨g2, 0, none⟩) HZ2.out).trans k0; have k1 := (hb3.cell (p := ⟨g2, 1, none⟩) HZ2.out).trans k1; have k2 := (hb3.cell (p := ⟨g2, 2, none⟩) HZ2.out).trans k2; have HHO := Lib.hid (HHO.out.below hb3 (Nat.le_refl _)); have HHB := Lib.hid (HHB.out.trans (hb3.mono HHB.out.size)); have HZ2 := Lib.hid (Nat.lt_of_lt_of_le HZ2.out hb3.size); clear hb3)
              | (go_at_call 29; (first | with_reducible refine (CB.out _).mono ?_ | with_reducible refine (CC.out _).mono ?_); rintro e w5 ⟨rfl, hw5⟩; replace hw5 := hw5.symm; subst hw5)
              | (refine step_appN rfl (.tmp 29) (.tmp 43) rfl w1.heap.size _ _ rfl (HHO.out.below ((RowKit.Below.refl _ _).alloc (Nat.le_refl _) _) (Nat.le_refl _)) _ 1 1 [(ntRd a, readL b, readL c)] rfl rfl (fun h => by cases h) (RA.one (heap_alloc_new _ _)) (by omega) (HHB.out.alloc HHB.out.size _).size ?_; intro v4 w4 ho4 hg4; have k0 := keep_app hg4 g2 0 HZ2.out HNE.out k0; have k1 := keep_app hg4 g2 1 HZ2.out HNE.out k1; have k2 := keep_app hg4 g2 2 HZ2.out HNE.out k2; have HO4 := Lib.hid ho4; have HB4 := Lib.hid ((HHB.out.alloc HHB.out.size _).grown hg4 (HHB.out.alloc HHB.out.size _).size (fun j hj => (HHO.out.lt j hj).1)); clear ho4 hg4))
          all_goals
            go_wp2
            go_roundw
            case rel => exact ⟨k + 1, _, by omega, by go_num, rfl, by rw [HTS.out]; exact HO4, HB4⟩
            case measure => simp [intOf]; omega
        · have hne : ((ws.length : Int) != 3) = true := by simp; omega
          have HNO : Hid (∀ l, goodB l = true → textOf l ≠ s) := Lib.hid fun l hl ht => h3 (HM3.out l hl ht)
          have HB2 := Lib.hid ((HB1.out.trans (HB.out.mono HB1.out.size)).trans (hb2.mono (Nat.le_trans HB1.out.size HB.out.size)))
          clear hRS2 hO2 hb2
          go_wp2
          go_ret2
          exact ⟨.inr ⟨HNO.out, rfl⟩, HB2.out⟩
      · obtain rfl : k = m := by omega
        have HWI := Lib.hid fun l (hg : goodB l = true) (ht : textOf l = s) => by
          have h1 := (HM.out l hg ht).2.2
          rw [HLM.out] at h1
          exact h1.symm
        have hll : ((ls.take k).map rdM).length = k := by rw [List.length_map, List.length_take, HLM.out]; omega
        replace HWI : Hid (∀ l, goodB l = true → textOf l = s → l = (ls.take k).map rdM) := HWI
        generalize (ls.take k).map rdM = L at *
        have HBW := Lib.hid (HB1.out.trans (HB.out.mono HB1.out.size))
        obtain ⟨A, c, rfl, hA, hlc, hcm⟩ := HO.out.form'
        unfold maxLen at hcm
        have CG := Lib.hid (ntGood_any A L c wr (by omega) hlc (by omega) hA)
        have CT := Lib.hid fun (hg : goodB L = true) (W : World) (hW : RA W A L) => ntText_any A L c W hW ((goodB_iff L).1 hg)
        have HLL := Lib.hid hll
        clear hll hlc hml
        cases hgd : goodB L with
        | false =>
          have HNO : Hid (∀ l, goodB l = true → textOf l ≠ s) := Lib.hid fun l hl ht => by
            have := HWI.out l hl ht
            rw [← this, hl] at hgd
            cases hgd
          rw [hgd] at CG
          clear hgd
          go_wp2_with fail
          refine CG.out.mono ?_
          rintro e w5 ⟨rfl, hb5⟩
          have HB5 := Lib.hid (HBW.out.trans (hb5.mono HBW.out.size))
          clear hb5
          go_wp2
          go_ret2
          exact ⟨.inr ⟨HNO.out, rfl⟩, HB5.out⟩
        | true =>
          have HG := Lib.hid hgd
          replace CT := Lib.hid (CT.out hgd)
          rw [hgd] at CG
          clear hgd
          by_cases he : textOf L = s
          · have HE := Lib.hid he
            have hbe : ((bs (textOf L)).toList == (bs s).toList) = true := by rw [bs_beq]; simpa using he
            clear he
            generalize bs (textOf L) = TT at *
            go_wp2_with fail
            refine CG.out.mono ?_
            rintro e w5 ⟨rfl, hb5⟩
            have hA5 := hA.below hb5
            have HO5 := Lib.hid (HO.out.below hb5 (Nat.le_refl _))
            have HB5 := Lib.hid (HBW.out.trans (hb5.mono HBW.out.size))
            clear hb5
            go_wp2_with fail
            refine (CT.out _ hA5).mono ?_
            rintro e w6 ⟨rfl, hb6⟩
            have HO6 := Lib.hid (HO5.out.below hb6 (Nat.le_refl _))
            have HB6 := Lib.hid (HB5.out.trans (hb6.mono HB5.out.size))
            clear hb6
            go_wp2
            go_ret2
            exact ⟨.inl ⟨L, _, HG.out, HE.out, rfl, HO6.out.mono HB1.out.size⟩, HB6.out⟩
          · have HNO : Hid (∀ l, goodB l = true → textOf l ≠ s) := Lib.hid fun l hl ht => by
              have := HWI.out l hl ht
              rw [← this] at he
              exact he ht
            have hbe : ((bs (textOf L)).toList == (bs s).toList) = false := by rw [bs_beq]; simpa using he
            clear he
            generalize bs (textOf L) = TT at *
            go_wp2_with fail
            refine CG.out.mono ?_
            rintro e w5 ⟨rfl, hb5⟩
            have hA5 := hA.below hb5
            have HB5 := Lib.hid (HBW.out.trans (hb5.mono HBW.out.size))
            clear hb5
            go_wp2_with fail
            refine (CT.out _ hA5).mono ?_
            rintro e w6 ⟨rfl, hb6⟩
            have HB6 := Lib.hid (HB5.out.trans (hb6.mono HB5.out.size))
            clear hb6
            go_wp2
            go_ret2
            exact ⟨.inr ⟨HNO.out, rfl⟩, HB6.out⟩

end Go.Proofs.YtfjcnomingbneabDoor
