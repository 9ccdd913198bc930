/- Contracts: ParseVoice of the program. -/
import Derived.Test.YtgkekgdpenpldaaDoorPVoR
import Derived.Test.YtgkekgdpenpldaaDoorPScM
import Derived.Test.YtgkekgdpenpldaaDoorEApp
namespace Go.Proofs.YtgkekgdpenpldaaDoor
open Go.RowKit Go.Sort
set_option linter.unusedVariables false
set_option linter.unusedSimpArgs false

theorem RSs.made (w : World) (ws : List (List UInt8)) : RSs (w.alloc (.cells (ws.map fun x => Value.string (bs x)).toArray 9)) (some ⟨w.heap.size, 0, none⟩) ws := by
  intro k x hx
  refine ⟨w.heap.size, 0, rfl, by simp, ?_⟩
  rw [Nat.zero_add]
  refine (World.cell?_alloc_new w _ _ k).trans ?_
  simp [hx]

set_option maxRecDepth 100000 in
set_option maxHeartbeats 4000000 in
theorem implParseV_any (s : List UInt8) (w : World) (hs : s.length ≤ 2000000) (hP : PW w) :
    Calls Tryd.prog 11 #[.string (bs s)] w fun e w' => VcOf s w.heap.size w' e ∧ RowKit.Below w.heap.size w w' := by
  by_cases h0 : s = []
  · subst h0
    have he : (bs ([] : List UInt8)) = ⟨#[]⟩ := rfl
    rw [he]
    go_enter Tryd.func11, Tryd.ntmps11
    go_wp2
    go_ret2
    exact ⟨.inl ⟨[], _, rfl, rfl, rfl, Own.nil _ _ _⟩, RowKit.Below.refl _ _⟩
  · have hne : ((bs s).toList == ([] : List UInt8)) = false := by rw [bs_toList]; simpa using h0
    have hne2 : (bs s).toList.isEmpty = false := by rw [bs_toList]; simpa using h0
    have HS0 := Lib.hid h0
    have HSP := Lib.hid (split_any 32 s w hs hP)
    have HML := Lib.hid (splitB_mem_len 32 s)
    have HLN := Lib.hid (splitB_length 32 s)
    have hln2 : (splitB 32 s).length ≤ 2000001 := by have := splitB_length 32 s; omega
    have HEND := Lib.hid fun (l : List Nt) (h : l.map some = (splitB 32 s).map evL) => vo_end h0 h
    have HSTOP := Lib.hid fun (k : Nat) (u : List UInt8) (hu : (splitB 32 s)[k]? = some u) (h : evL u = none) => vo_stop h0 hu h
    have hmade := RSs.made w (splitB 32 s)
    have hbm : RowKit.Below w.heap.size w (w.alloc (.cells ((splitB 32 s).map fun x => Value.string (bs x)).toArray 9)) := (RowKit.Below.refl _ _).alloc (Nat.le_refl _) _
    have hzm : (w.alloc (.cells ((splitB 32 s).map fun x => Value.string (bs x)).toArray 9)).heap.size = w.heap.size + 1 := by simp
    generalize splitB 32 s = ws at *
    generalize hW1 : w.alloc (.cells (ws.map fun x => Value.string (bs x)).toArray 9) = W1 at *
    clear h0 hW1
    have HMADE := Lib.hid hmade
    have HBM := Lib.hid hbm
    have HZM := Lib.hid hzm
    clear hmade hbm hzm
    go_enter Tryd.func11, Tryd.ntmps11
    go_wp2_with fail
    refine HSP.out.mono ?_
    rintro e w1 ⟨rfl, rfl⟩
    go_wp2
    go_loopw [4, 14] (fun lv i wr => ∃ (k : Nat) (l : List Nt) (v : Value), k ≤ ws.length ∧ i = .int .i64 k ∧ lv = v ∧ Hid (Own wr w1.heap.size 44 v l) ∧ Hid (l.map some = (ws.take k).map evL) ∧ RowKit.Below w1.heap.size w1 wr)
      (fun _ i _ => ws.length - (intOf i).toNat)
    case atStart => exact ⟨0, [], _, Nat.zero_le _, rfl, rfl, Lib.hid (Own.nil _ _ _), Lib.hid (by simp), RowKit.Below.refl _ _⟩
    case round =>
      obtain ⟨k, l, v, hk, rfl, hvv, HO, HL, hb⟩ := hrel
      replace hvv := hvv.symm
      subst hvv
      have hPr := (hP.below HBM.out).below hb
      have hll : l.length = k := by have := congrArg List.length HL.out; simpa [Nat.min_eq_left hk] using this
      have HLL := Lib.hid hll
      clear hll
      by_cases hlt : k < ws.length
      · obtain ⟨u, hu⟩ : ∃ u, ws[k]? = some u := ⟨ws[k], List.getElem?_eq_getElem hlt⟩
        have hul : u.length ≤ 2000000 := by have := HML.out u (List.mem_of_getElem? hu); omega
        have hk4 : l.length + 1 ≤ 4000000 := by have := HLN.out; have := HLL.out; omega
        have HK4 := Lib.hid hk4
        clear hk4
        obtain ⟨ga, oa, hga, hgl, hcu⟩ := (HMADE.out.below hb) k u hu
        simp only [Option.some.injEq, Addr.mk.injEq, and_true] at hga
        obtain ⟨rfl, rfl⟩ := hga
        rw [Nat.zero_add] at hcu
        have HU := Lib.hid hu
        have hRN := readEvent_any u wr hul hPr
        have HTS := Lib.hid (show (ws.take (k + 1)).map evL = (ws.take k).map evL ++ [evL u] by rw [List.take_add_one, hu, List.map_append]; rfl)
        have j1 : (0 : Int) ≤ (k : Int) := by omega
        have j2 : (k : Int) < (ws.length : Int) := by omega
        clear hu hul
        cases hx : evL u with
        | none =>
          have HX := Lib.hid hx
          rw [hx] at hRN
          have HRN := Lib.hid hRN
          clear hx hRN
          go_wp2_with fail
          refine HRN.out.mono ?_
          rintro e w2 ⟨rfl, hb2⟩
          simp only [noteV, Option.getD_none, Option.isSome_none]
          have HB2 := Lib.hid ((HBM.out.trans (hb.mono HBM.out.size)).trans (hb2.mono (Nat.le_trans HBM.out.size hb.size)))
          clear hb2 hcu
          go_wp2
          go_ret2
          exact ⟨.inr ⟨HSTOP.out k u HU.out HX.out, rfl⟩, HB2.out.alloc HB2.out.size _⟩
        | some x =>
          obtain ⟨p, a, n⟩ := x
          have HX := Lib.hid hx
          rw [hx] at hRN
          have HRN := Lib.hid hRN
          clear hx hRN
          go_wp2_with (first
            | (go_at_call 24; refine HRN.out.mono ?_; rintro e w2 ⟨rfl, hb2⟩; simp only [noteV, Option.getD_some, Option.isSome_some]; have HB2 := Lib.hid (hb.trans (hb2.mono hb.size)); have HO2 := Lib.hid (HO.out.below hb2 (Nat.le_refl _)); clear hb2 hcu)
            | (at_builtin; refine wpList_appE _ rfl (.tmp 25) (.tmp 27) rfl w1.heap.size _ _ rfl (own_2a HO2.out _ _) (some ⟨w2.heap.size + 1, 0, none⟩) 1 1 [(p, a, n)] rfl rfl (fun h => by cases h) (RA.one (new_2a _ _ _ _)) HK4.out (below_2a HB2.out HB2.out.size _ _).size ?_; intro v3 w3 ho3 hg3; have HO3 := Lib.hid ho3; have HB3 := Lib.hid ((below_2a HB2.out HB2.out.size _ _).grown hg3 (below_2a HB2.out HB2.out.size _ _).size (fun j hj => (HO2.out.lt j hj).1)); clear ho3 hg3))
          go_roundw
          case rel =>
            exact ⟨k + 1, l ++ [(p, a, n)], _, by omega, by go_num, rfl, HO3, Lib.hid (by rw [HTS.out, List.map_append, HL.out, HX.out]; rfl), HB3.out⟩
          case measure => simp [intOf]; omega
      · obtain rfl : k = ws.length := by omega
        have hall : l.map some = ws.map evL := by have := HL.out; rwa [List.take_length] at this
        have HE := Lib.hid (HEND.out l hall)
        have hln : l.length ≤ 1048576 := by have := vT_long l; rw [HE.out.1] at this; omega
        have HSO := Lib.hid fun (W : World) (hO : Own W w1.heap.size 44 v l) (hB : RowKit.Below w1.heap.size w1 W) => voiceOnly_any v l w1.heap.size w1.heap.size w1 W hln hO hB (Nat.le_refl _)
        clear hall hln
        go_wp2_with fail
        refine (HSO.out _ HO.out hb).mono ?_
        rintro e w2 ⟨hcase, hb1⟩
        have HB1 := Lib.hid (HBM.out.trans (hb1.mono HBM.out.size))
        rcases hcase with ⟨hg, rfl, hO1⟩ | ⟨hg, rfl⟩
        · have HG := Lib.hid hg
          have HO1 := Lib.hid hO1
          clear hg hO1
          go_wp2
          go_ret2
          exact ⟨.inl ⟨l, v, HG.out, HE.out.1, rfl, HO1.out.mono HBM.out.size⟩, HB1.out⟩
        · have HG := Lib.hid hg
          clear hg
          go_wp2
          go_ret2
          exact ⟨.inr ⟨(fun m hm ht => by have := HE.out.2 m hm ht; subst this; have := HG.out; rw [hm] at this; cases this), rfl⟩, HB1.out⟩
end Go.Proofs.YtgkekgdpenpldaaDoor
