/- Contracts: ParseVoice of the model. -/
import Derived.Test.YtfjcnomingbneabDoorPVoN
import Derived.Test.YtfjcnomingbneabDoorEApp
namespace Go.Proofs.YtfjcnomingbneabDoor
open Go.RowKit Go.Sort
set_option linter.unusedVariables false
set_option linter.unusedSimpArgs false

set_option maxRecDepth 100000 in
set_option maxHeartbeats 4000000 in
theorem specParseV_any (s : List UInt8) (w : World) (hs : s.length ≤ 1048576) :
    Calls Tryd.prog 10 #[.string (bs s)] w fun e w' => VcOf s w.heap.size w' e ∧ RowKit.Below w.heap.size w w' := by
  by_cases h0 : s = []
  · subst h0
    have he : (bs ([] : List UInt8)) = ⟨#[]⟩ := rfl
    rw [he]
    go_enter Tryd.func10, Tryd.ntmps10
    go_wp2
    go_ret2
    exact ⟨.inl ⟨[], _, rfl, rfl, rfl, Own.nil _ _ _⟩, RowKit.Below.refl _ _⟩
  · have hne : ((bs s).toList == ([] : List UInt8)) = false := by rw [bs_toList]; simpa using h0
    have hne2 : (bs s).toList.isEmpty = false := by rw [bs_toList]; simpa using h0
    have HML := Lib.hid (splitB_mem_len 32 s)
    have HEND := Lib.hid fun (m : List Nt) (hm : goodV m = true) (ht : vT m = s) => mo_end h0 hm ht
    have HSTOP := Lib.hid fun (k : Nat) (u : List UInt8) (hu : (splitB 32 s)[k]? = some u) (h : evN (evM u) = false) => mo_stop h0 hu h
    have HLONG := Lib.hid fun (h : 20 < (splitB 32 s).length) => mo_long h0 h
    have HSP := Lib.hid (l1Split_any s 32 w (by omega))
    clear h0
    generalize splitB 32 s = ws at *
    go_enter Tryd.func10, Tryd.ntmps10
    go_wp2_with fail
    refine HSP.out.mono ?_
    rintro e w1 ⟨v1, rfl, hO1, hb1⟩
    obtain ⟨A1, c1, rfl, hRS1, hnc1, hcm1, -, -⟩ := hO1.form
    have HB1 := Lib.hid hb1
    have HRS := Lib.hid hRS1
    clear hb1 hO1 hRS1 hcm1 hnc1
    by_cases h20 : 20 < ws.length
    · have HL := Lib.hid (HLONG.out h20)
      have i1 : (20 : Int) < (ws.length : Int) := by omega
      clear h20
      go_wp2
      go_ret2
      exact ⟨.inr ⟨HL.out, rfl⟩, HB1.out⟩
    · have i1 : ¬ ((20 : Int) < (ws.length : Int)) := by omega
      go_wp2
      go_loopw [4, 20] (fun lv i wr => ∃ (k : Nat) (v : Value), k ≤ ws.length ∧ i = .int .i64 k ∧ lv = v ∧ Hid (Own wr w1.heap.size 42 v ((ws.take k).map evM)) ∧ Hid (∀ x ∈ (ws.take k).map evM, evN x = true) ∧ Hid (RowKit.Below w1.heap.size w1 wr))
        (fun _ i _ => ws.length - (intOf i).toNat)
      case atStart => exact ⟨0, _, Nat.zero_le _, rfl, rfl, Lib.hid (Own.nil _ _ _), Lib.hid (by simp), Lib.hid (RowKit.Below.refl _ _)⟩
      case round =>
        obtain ⟨k, v, hk, rfl, hvv, HO, HG, HB⟩ := hrel
        replace hvv := hvv.symm
        subst hvv
        by_cases hlt : k < ws.length
        · obtain ⟨u, hu⟩ : ∃ u, ws[k]? = some u := ⟨ws[k], List.getElem?_eq_getElem hlt⟩
          have hul : u.length ≤ 2000000 := by have := HML.out u (List.mem_of_getElem? hu); omega
          obtain ⟨ga, oa, rfl, hgl, hcu⟩ := (HRS.out.below HB.out) k u hu
          have HST := Lib.hid (HSTOP.out k u hu)
          have hRN := noRead_any u wr hul
          have HTS := Lib.hid (show (ws.take (k + 1)).map evM = (ws.take k).map evM ++ [evM u] by rw [List.take_add_one, hu, List.map_append]; rfl)
          have hll : ((ws.take k).map evM).length = k := by rw [List.length_map, List.length_take]; omega
          have HK4 := Lib.hid (show ((ws.take k).map evM).length + 1 ≤ 4000000 by omega)
          have j1 : (0 : Int) ≤ (k : Int) := by omega
          have j2 : (k : Int) < (ws.length : Int) := by omega
          clear hu hul hll
          generalize (ws.take k).map evM = L0 at *
          generalize evM u = x at *
          obtain ⟨p, a, n⟩ := x
          cases hx : evN (p, a, n) with
          | false =>
            have HX := Lib.hid hx
            rw [hx] at hRN
            have HRN := Lib.hid hRN
            clear hx hRN
            go_wp2_with fail
            refine HRN.out.mono ?_
            rintro e w2 ⟨rfl, hb2⟩
            simp only [evV]
            have HB2 := Lib.hid ((HB1.out.trans (HB.out.mono HB1.out.size)).trans (hb2.mono (Nat.le_trans HB1.out.size HB.out.size)))
            clear hb2 hcu
            go_wp2
            go_ret2
            exact ⟨.inr ⟨HST.out HX.out, rfl⟩, HB2.out.alloc HB2.out.size _⟩
          | true =>
            have HX := Lib.hid hx
            rw [hx] at hRN
            have HRN := Lib.hid hRN
            clear hx hRN
            go_wp2_with (first
              | (go_at_call 21; refine HRN.out.mono ?_; rintro e w2 ⟨rfl, hb2⟩; simp only [evV]; have HB2 := Lib.hid (HB.out.trans (hb2.mono HB.out.size)); have HO2 := Lib.hid (HO.out.below hb2 (Nat.le_refl _)); clear hb2 hcu)
              | (at_builtin; refine wpList_appE _ rfl (.tmp 31) (.tmp 33) rfl w1.heap.size _ _ rfl (own_2a HO2.out _ _) (some ⟨w2.heap.size + 1, 0, none⟩) 1 1 [(p, a, n)] rfl rfl (fun h => by cases h) (RA.one (new_2a _ _ _ _)) HK4.out (below_2a HB2.out HB2.out.size _ _).size ?_; intro v3 w3 ho3 hg3; have HO3 := Lib.hid ho3; have HB3 := Lib.hid ((below_2a HB2.out HB2.out.size _ _).grown hg3 (below_2a HB2.out HB2.out.size _ _).size (fun j hj => (HO2.out.lt j hj).1)); clear ho3 hg3))
            go_roundw
            case rel =>
              exact ⟨k + 1, _, by omega, by go_num, rfl, by rw [HTS.out]; exact HO3, Lib.hid (by rw [HTS.out]; intro y hy; rcases List.mem_append.1 hy with hy | hy; exact HG.out y hy; obtain rfl := List.mem_singleton.1 hy; exact HX.out), HB3⟩
            case measure => simp [intOf]; omega
        · obtain rfl : k = ws.length := by omega
          rw [List.take_length] at HO HG
          have hll : (ws.map evM).length = ws.length := List.length_map _
          have h20' : (ws.map evM).length ≤ 20 := by omega
          clear hll
          generalize ws.map evM = L at *
          have HBW := Lib.hid (HB1.out.trans (HB.out.mono HB1.out.size))
          have HGV := Lib.hid ((goodV_iff L).2 ⟨HG.out, h20'⟩)
          obtain ⟨A, c, rfl, hA⟩ := HO.out.form
          have CT := Lib.hid (noText_any A L c wr hA HG.out h20')
          clear h20' hA
          by_cases he : vT L = s
          · have HE := Lib.hid he
            have hbe : ((bs (vT L)).toList == (bs s).toList) = true := by rw [bs_beq]; simpa using he
            clear he
            generalize bs (vT L) = TT at *
            go_wp2_with fail
            refine CT.out.mono ?_
            rintro e w6 ⟨rfl, hb6⟩
            have HO6 := Lib.hid (HO.out.below hb6 (Nat.le_refl _))
            have HB6 := Lib.hid (HBW.out.trans (hb6.mono HBW.out.size))
            clear hb6
            go_wp2
            go_ret2
            exact ⟨.inl ⟨L, _, HGV.out, HE.out, rfl, HO6.out.mono HB1.out.size⟩, HB6.out⟩
          · have HNO : Hid (∀ l, goodV l = true → vT l ≠ s) := Lib.hid fun l hl ht => by
              have := HEND.out l hl ht
              rw [this] at he
              exact he ht
            have hbe : ((bs (vT L)).toList == (bs s).toList) = false := by rw [bs_beq]; simpa using he
            clear he
            generalize bs (vT L) = TT at *
            go_wp2_with fail
            refine CT.out.mono ?_
            rintro e w6 ⟨rfl, hb6⟩
            have HB6 := Lib.hid (HBW.out.trans (hb6.mono HBW.out.size))
            clear hb6
            go_wp2
            go_ret2
            exact ⟨.inr ⟨HNO.out, rfl⟩, HB6.out⟩
end Go.Proofs.YtfjcnomingbneabDoor
