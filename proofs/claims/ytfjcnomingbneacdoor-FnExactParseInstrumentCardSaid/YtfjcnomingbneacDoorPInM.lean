/- The model reads an instrument. -/
import Derived.Test.YtfjcnomingbneacDoorPInI
import Derived.Deep.RegionLaw
import Derived.Deep.DeepCutAuto
namespace Go.Proofs.YtfjcnomingbneacDoor
open Go.RowKit Go.Sort
set_option linter.unusedVariables false
set_option linter.unusedSimpArgs false

/-- The box of the instrument that is being read. -/
structure Bx (w : World) (b base : Nat) (v : Value) (l : List Int) (r : Int) : Prop where
  c0 : w.cell? ⟨b, 0, none⟩ = some v
  c1 : w.cell? ⟨b, 1, none⟩ = some (.int .i64 r)
  f0 : w.frozen? ⟨b, 0, none⟩ = false
  lt : b < w.heap.size
  own : OwnI w base 3 v l
theorem Bx.below {w w' : World} {b base : Nat} {v : Value} {l : List Int} {r : Int} (h : Bx w b base v l r) (hb : Below w.heap.size w w') : Bx w' b base v l r where
  c0 := (hb.cell (p := ⟨b, 0, none⟩) h.lt).trans h.c0
  c1 := (hb.cell (p := ⟨b, 1, none⟩) h.lt).trans h.c1
  f0 := (hb.frozen (p := ⟨b, 0, none⟩) h.lt).trans h.f0
  lt := Nat.lt_of_lt_of_le h.lt hb.size
  own := h.own.below hb (Nat.le_refl _)

theorem Bx.app {W w4 : World} {b base : Nat} {v v4 : Value} {l : List Int} {r z : Int} {o : Obj} (S : Bx W b base v l r) (hb : b < base) (hg : (W.alloc o).grownBy w4 v.ownBlock) :
    w4.cell? ⟨b, 0, none⟩ = some v ∧ w4.cell? ⟨b, 1, none⟩ = some (.int .i64 r) ∧ w4.frozen? ⟨b, 0, none⟩ = false ∧ b < w4.heap.size := by
  have hne : some b ≠ v.ownBlock := by
    intro e
    have := (S.own.lt b e.symm).1
    omega
  have hlt := S.lt
  have hblk : w4.heap[b]? = W.heap[b]? := (hg.block b (by simp; omega) hne).trans (Lib.alloc_old W o b hlt)
  refine ⟨?_, ?_, ?_, ?_⟩
  · rw [World.cell?_of_block (a := ⟨b, 0, none⟩) hblk]; exact S.c0
  · rw [World.cell?_of_block (a := ⟨b, 1, none⟩) hblk]; exact S.c1
  · rw [World.frozen?_of_block (a := ⟨b, 0, none⟩) hblk]; exact S.f0
  · have := hg.size; simp at this; omega
theorem Bx.put {w4 : World} {b base : Nat} {v v4 : Value} {l : List Int} {r : Int} (c0 : w4.cell? ⟨b, 0, none⟩ = some v) (c1 : w4.cell? ⟨b, 1, none⟩ = some (.int .i64 r)) (f0 : w4.frozen? ⟨b, 0, none⟩ = false) (lt : b < w4.heap.size) (hb : b < base) (ho : OwnI w4 base 3 v4 l) : Bx (w4.setCell ⟨b, 0, none⟩ v4) b base v4 l r where
  c0 := World.cell?_setCell_same' w4 _ v4 (by rw [c0]; rfl)
  c1 := by first | exact (World.cell?_setCell_other _ _ _ _ (by simp)).trans c1 | exact (World.cell?_setCell_other _ _ _ (by simp)).trans c1 | exact (World.cell?_setCell_other _ _ (by simp)).trans c1 | go_simp
  f0 := by simpa using f0
  lt := by simpa using lt
  own := ho.grown (Lib.grownBy_setCell w4 b 0 v4) (ho.ne hb)

set_option maxRecDepth 100000 in
set_option maxHeartbeats 4000000 in
theorem inParse_any (s : List UInt8) (w : World) (hs : s.length ≤ 1048576) :
    Calls Tryd.prog 24 #[.string (bs s)] w fun e w' => InsOf s w.heap.size w' e ∧ Below w.heap.size w w' := by
  have hb0 : Below w.heap.size w (w.alloc (.cells #[.slice none 0 0, .int .i64 0] 28)) := (Below.refl _ _).alloc (Nat.le_refl _) _
  have hR0 := Rz.new w
  have m0 : w.heap.size ≤ w.heap.size := Nat.le_refl _
  go_enter Tryd.func24, Tryd.ntmps24
  go_wp2_with fail
  generalize (w.alloc (.cells #[.slice none 0 0, .int .i64 0] 28)) = W at *
  refine (l1Split_any s 10 W (by omega)).mono ?_
  rintro e w1 ⟨v1, rfl, hO1, hb1⟩
  have hR1 := hR0.below hb1
  have HB1 := Lib.hid (hb0.trans (hb1.mono hb0.size))
  have hzW := hR0.lt
  have hml := splitB_mem_len 10 s
  have hiT : ∀ l r, gdI l r = true → iT l r = s → splitB 10 s = (preI l ++ dec r) :: [[]] := by
    intro l r hg e
    rw [← e]
    show splitB 10 (preI l ++ dec r ++ [10]) = _
    rw [splitB_at 10 _ _ (no10_pre l r (gdI_facts hg).2.1)]
    rfl
  obtain ⟨A1, c1, rfl, hRS1, hnc1, hcm1, _, hne1⟩ := hO1.form
  obtain ⟨g1, rfl⟩ := hne1 (splitB_ne 10 s)
  obtain ⟨u, hu⟩ : ∃ u, (splitB 10 s)[0]? = some u := ⟨(splitB 10 s)[0]'(List.length_pos_iff.2 (splitB_ne 10 s)), List.getElem?_eq_getElem _⟩
  have hul : u.length ≤ 1048576 := by have := hml u (List.mem_of_getElem? hu); omega
  have hn1 := List.length_pos_iff.2 (splitB_ne 10 s)
  have hU : ∀ l r, gdI l r = true → iT l r = s → u = preI l ++ dec r := by
    intro l r hg e
    rw [hiT l r hg e] at hu
    simpa using hu.symm
  obtain ⟨ga, oa, hga, hgl, hcu⟩ := hRS1 0 u hu
  simp only [Option.some.injEq, Addr.mk.injEq, and_true] at hga
  obtain ⟨rfl, rfl⟩ := hga
  rw [Nat.zero_add] at hcu
  have i0 : (0 : Int) < ((splitB 10 s).length : Int) := by omega
  have HU := Lib.hid hU
  clear hU hiT hml hu hRS1 hne1
  go_wp2_with fail
  refine (l1Split_any u 32 w1 (by omega)).mono ?_
  rintro e w2 ⟨v2, rfl, hO2, hb2⟩
  have hR2 := hR1.below hb2
  have HB2 := Lib.hid (HB1.out.trans (hb2.mono HB1.out.size))
  have hwl := splitB_length 32 u
  have hwm := splitB_mem_len 32 u
  have hne0 := splitB_ne 32 u
  have hW : ∀ l r, gdI l r = true → iT l r = s → splitB 32 u = l.map nm ++ [dec r] := by
    intro l r hg e
    rw [HU.out l r hg e, split_pre l r (gdI_facts hg).2.1]
  generalize splitB 32 u = ws at *
  obtain ⟨A, c, rfl, hRS, hnc, hcm, _, hne⟩ := hO2.form
  obtain ⟨g, rfl⟩ := hne hne0
  obtain ⟨m, hm⟩ : ∃ m, ws.length = m + 1 := ⟨ws.length - 1, by have := List.length_pos_iff.2 hne0; omega⟩
  obtain ⟨y, hy⟩ : ∃ y, ws[m]? = some y := ⟨ws[m], List.getElem?_eq_getElem (by omega)⟩
  have hwt : ws = ws.take m ++ [y] := by
    have h1 : ws.take (m + 1) = ws := List.take_of_length_le (by omega)
    rw [List.take_add_one, hy] at h1
    exact h1.symm
  have HWH : Hid (∀ l r, gdI l r = true → iT l r = s → l.length = m ∧ ws.take m = l.map nm ∧ y = dec r) := Lib.hid (fun l r hg e => by
    have h1 := hW l r hg e
    rw [hwt] at h1
    have h2 := List.append_inj' h1 rfl
    refine ⟨?_, h2.1, by simpa using h2.2⟩
    have := congrArg List.length h2.1
    rw [List.length_take, List.length_map] at this
    omega)
  clear hW hwt hne0 hne hO1 hcu
  unfold maxLen at hcm
  rw [hm] at hnc ⊢
  by_cases h21 : 20 < m
  · have HNO : Hid (∀ l r, gdI l r = true → iT l r ≠ s) := Lib.hid (fun l r hg e => by
      have h1 := (HWH.out l r hg e).1
      have := (gdI_facts hg).1
      omega)
    have i1 : (21 : Int) < (m : Int) + 1 := by omega
    obtain ⟨d0, d1, f0, f1, hlt⟩ := hR2
    go_wp2
    exact bodyPost_ret (v := .tuple #[.agg #[.slice none 0 0, .int .i64 0], .bool false]) (by simp [results, Tryd.results24, go_sem, *]) rfl ⟨.inr ⟨HNO.out, rfl⟩, (HB2.out.setCell m0 _).setCell m0 _⟩
  · have i1 : ¬ ((21 : Int) < (m : Int) + 1) := by omega
    have i2 : (0 : Int) ≤ (m : Int) := by omega
    have i3 : (m : Int) < (m : Int) + 1 := by omega
    have i4 : (m : Int) ≤ (c : Int) := by omega
    obtain ⟨gb, ob, hgb, hgl2, hcy⟩ := hRS m y hy
    simp only [Option.some.injEq, Addr.mk.injEq, and_true] at hgb
    obtain ⟨rfl, rfl⟩ := hgb
    rw [Nat.zero_add] at hcy
    have hyl : y.length ≤ 2000000 := by have := hwm y (List.mem_of_getElem? hy); omega
    go_wp2_with fail
    refine (l1Read_any y w2 hyl).mono ?_
    rintro e w2' ⟨rfl, rfl⟩
    have hbI : Below w2'.heap.size w2' (w2'.alloc (.cells #[.slice none 0 0, .int .i64 (readL y)] 28)) := (Below.refl _ _).alloc (Nat.le_refl _) _
    have hR3 := hR2.below hbI
    have hRS3 := hRS.below hbI
    have HB3 := Lib.hid (HB2.out.trans (hbI.mono HB2.out.size))
    have hX3 : Bx (w2'.alloc (.cells #[.slice none 0 0, .int .i64 (readL y)] 28)) w2'.heap.size (w2'.heap.size + 1) (.slice none 0 0) [] (readL y) := ⟨(World.cell?_alloc_new w2' _ _ 0).trans rfl, (World.cell?_alloc_new w2' _ _ 1).trans rfl, by go_simp, by simp, OwnI.nil _ _ _⟩
    go_wp2
    generalize hV0 : w2'.alloc (.cells #[.slice none 0 0, .int .i64 (readL y)] 28) = V0 at *
    clear hV0
    generalize hI : w2'.heap.size = I at *
    have hzI := hbI.size
    have hIR : w.heap.size < I := by rw [← hI]; exact hR2.lt
    go_loopw [31] (fun i wr => ∃ (k : Nat) (v : Value), k ≤ m ∧ i = .int .i64 k ∧ Bx wr I (I + 1) v ((ws.take k).map ntRd) (readL y) ∧ Below I w2' wr ∧ I + 1 ≤ wr.heap.size)
      (fun i _ => m - (intOf i).toNat)
    case atStart => exact ⟨0, .slice none 0 0, Nat.zero_le _, rfl, hX3, hbI, hX3.lt⟩
    case round =>
      obtain ⟨k, v, hk, rfl, hX, hb, hz⟩ := hrel
      by_cases hlt : k < m
      · obtain ⟨x, hx⟩ : ∃ x, ws[k]? = some x := ⟨ws[k], List.getElem?_eq_getElem (by omega)⟩
        have hts : (ws.take (k + 1)).map ntRd = (ws.take k).map ntRd ++ [ntRd x] := by rw [List.take_add_one, hx]; simp
        have hll : ((ws.take k).map ntRd).length = k := by rw [List.length_map, List.length_take]; omega
        obtain ⟨gc, oc, hgc, hgl3, hcx⟩ := hRS k x hx
        simp only [Option.some.injEq, Addr.mk.injEq, and_true] at hgc
        obtain ⟨rfl, rfl⟩ := hgc
        rw [Nat.zero_add] at hcx
        rw [hI] at hgl3
        have hcx1 := (hb.cell (p := ⟨g, k, none⟩) hgl3).trans hcx
        have j1 : (0 : Int) ≤ (k : Int) := by omega
        have j2 : (k : Int) < (m : Int) := by omega
        have HTS := Lib.hid hts
        have CN := Lib.hid (fun W => ntRead_any x W)
        clear hts hx hcx hX3 hRS hRS3 hR3 hbI
        go_upto_region 8 with fail
        have HS := Lib.hid (hX.below ((Below.refl _ wr).drew))
        have HB := Lib.hid (hb.trans ((Below.refl I wr).drew))
        have HZ := Lib.hid (show I + 1 ≤ wr.drew.heap.size from hz)
        have q0 := HS.out.c0
        have qf := HS.out.f0
        clear hX hb hcx1
        generalize hL0 : (ws.take k).map ntRd = L0 at *
        clear hL0
        go_region_law (first
          | (go_simp; go_at_call 42; refine (CN.out _).mono ?_; rintro e w3 ⟨rfl, hb3⟩; have HB := Lib.hid (HB.out.trans (hb3.mono (Nat.le_of_succ_le HZ.out))); have HZ := Lib.hid (Nat.le_trans HZ.out hb3.size); have HS := Lib.hid (HS.out.below hb3); have q0 := HS.out.c0; have qf := HS.out.f0; have qn := (HS.out.below ((Below.refl w3.heap.size w3).alloc (Nat.le_refl _) (.cells #[.int .i64 (ntRd x)] 3))).c0; clear hb3; dsimp only)
          | (refine step_appI rfl (.tmp 36) (.tmp 39) rfl (I + 1) _ _ rfl (HS.out.own.below ((Below.refl _ _).alloc (Nat.le_refl _) _) (Nat.le_refl _)) _ 1 1 [ntRd x] rfl rfl (fun h => by cases h) (fun j y hy => one_at (one_new _ _) hy) (by omega) (Nat.le_trans HZ.out (by simp)) ?_; intro v4 w4 ho4 hg4; have hap := HS.out.app (z := ntRd x) (v4 := v4) (Nat.lt_succ_self I) hg4; obtain ⟨A4, c4, rfl, -, -, -, -, -⟩ := ho4.form; have p0 := hap.1; have p1 := hap.2.1; have pf := hap.2.2.1; have pz := hap.2.2.2; have HBA := Lib.hid ((HB.out.alloc (Nat.le_of_succ_le HZ.out) _).grown hg4 (Nat.le_trans (Nat.le_of_succ_le HZ.out) (by simp)) (fun j hj => Nat.le_of_succ_le (HS.out.own.lt j hj).1)); clear hap))
        all_goals
          go_wp2
          go_roundw
          case rel => exact ⟨k + 1, _, by omega, by go_num, by rw [HTS.out]; have h9 := ho4; rw [show (L0 ++ [ntRd x]).length = k + 1 by rw [List.length_append, hll]; rfl] at h9; exact Bx.put p0 p1 pf pz (Nat.lt_succ_self I) h9, HBA.out.setCell (Nat.le_refl _) _, by simp; exact pz⟩
          case measure => simp [intOf]; omega
      · obtain rfl : k = m := by omega
        have HWI : Hid (∀ l r, gdI l r = true → iT l r = s → l = (ws.take k).map ntRd ∧ r = readL y) := Lib.hid (fun l r hg e => by
          have h1 := HWH.out l r hg e
          have hr := (gdI_facts hg).2.2
          refine ⟨by rw [h1.2.1, map_ntRd_nm l (gdI_facts hg).2.1], ?_⟩
          rw [h1.2.2]
          have := readL_dec r.toNat (by omega)
          show r = readL (Lib.decDigits r.toNat)
          rw [this]
          omega)
        have hll : ((ws.take k).map ntRd).length = k := by rw [List.length_map, List.length_take]; omega
        generalize hLL : (ws.take k).map ntRd = L at *
        generalize hrd : readL y = rd at *
        clear hLL hrd
        have hRw := hR2.below (hb.mono (by rw [hI]; exact Nat.le_refl _))
        have HBW := Lib.hid (HB2.out.trans (hb.mono (Nat.le_of_lt (by omega : w.heap.size < I))))
        obtain ⟨A', c', rfl, hRI, hlc, hcm', _, _⟩ := hX.own.form
        have CG := Lib.hid (show Calls Tryd.prog 15 #[.agg #[.slice A' k c', .int .i64 rd]] wr fun e w' => e = .returned (.bool (gdI L rd)) ∧ Below wr.heap.size wr w' by have h9 := inGood_any A' L c' rd wr (by omega) hRI; rwa [hll] at h9)
        obtain ⟨x0, x1, xf, xlt, xown⟩ := hX
        cases hgd : gdI L rd with
        | false =>
          have HNO : Hid (∀ l r, gdI l r = true → iT l r ≠ s) := Lib.hid (fun l r hg e => by
            have h1 := HWI.out l r hg e
            rw [← h1.1, ← h1.2, hg] at hgd
            exact absurd hgd (by simp))
          rw [hgd] at CG
          clear hgd hX3 hRS hRS3 hR3 hbI hcy
          go_wp2_with fail
          refine CG.out.mono ?_
          rintro e w5 ⟨rfl, hb5⟩
          obtain ⟨d0, d1, f0, f1, hlt5⟩ := hRw.below hb5
          have HBX := Lib.hid (HBW.out.trans (hb5.mono HBW.out.size))
          go_wp2
          exact bodyPost_ret (v := .tuple #[.agg #[.slice none 0 0, .int .i64 0], .bool false]) (by simp [results, Tryd.results24, go_sem, *]) rfl ⟨.inr ⟨HNO.out, rfl⟩, (HBX.out.setCell m0 _).setCell m0 _⟩
        | true =>
          obtain ⟨g20, gok, grr⟩ := gdI_facts hgd
          have HG := Lib.hid hgd
          rw [hgd] at CG
          clear hgd hX3 hRS hRS3 hR3 hbI hcy
          have CT := Lib.hid (show ∀ W : World, RI W A' L → Calls Tryd.prog 16 #[.agg #[.slice A' k c', .int .i64 rd]] W fun e w' => e = .returned (.string (bs (iT L rd))) ∧ Below W.heap.size W w' from fun W hW => by have h9 := inText_any A' L c' rd W hW g20 gok grr; rwa [hll] at h9)
          rw [hll] at x0 xown
          have HLL := Lib.hid hll
          clear hll
          go_wp2_with fail
          refine CG.out.mono ?_
          rintro e w5 ⟨rfl, hb5⟩
          have y0 := (hb5.cell (p := ⟨I, 0, none⟩) xlt).trans x0
          have y1 := (hb5.cell (p := ⟨I, 1, none⟩) xlt).trans x1
          have hRI5 := hRI.below hb5
          have hR5 := hRw.below hb5
          have HB5 := Lib.hid (HBW.out.trans (hb5.mono HBW.out.size))
          have xown5 := xown.below hb5 (Nat.le_refl _)
          have xlt5 := Nat.lt_of_lt_of_le xlt hb5.size
          by_cases he : iT L rd = s
          · have HE := Lib.hid he
            have hbe : ((bs (iT L rd)).toList == (bs s).toList) = true := by rw [bs_beq]; simpa using he
            clear he
            generalize bs (iT L rd) = TT at *
            go_wp2_with fail
            refine (CT.out _ hRI5).mono ?_
            rintro e w6 ⟨rfl, hb6⟩
            have y0 := (hb6.cell (p := ⟨I, 0, none⟩) xlt5).trans y0
            have y1 := (hb6.cell (p := ⟨I, 1, none⟩) xlt5).trans y1
            obtain ⟨d0, d1, f0, f1, hlt6⟩ := hR5.below hb6
            have HBX := Lib.hid (HB5.out.trans (hb6.mono HB5.out.size))
            have xo6 := xown5.below hb6 (Nat.le_refl _)
            have HO7 := Lib.hid ((xo6.grown (Lib.grownBy_setCell w6 w.heap.size 0 (.slice A' k c')) (xown.ne (by omega : w.heap.size < I + 1))).grown (Lib.grownBy_setCell _ w.heap.size 1 (.int .i64 rd)) (xown.ne (by omega : w.heap.size < I + 1)))
            go_wp2
            exact bodyPost_ret (v := .tuple #[.agg #[.slice A' k c', .int .i64 rd], .bool true]) (by simp [results, Tryd.results24, go_sem, *]) rfl ⟨.inl ⟨L, _, _, HG.out, HE.out, rfl, HO7.out.mono (by omega)⟩, (HBX.out.setCell m0 _).setCell m0 _⟩
          · have HNO : Hid (∀ l r, gdI l r = true → iT l r ≠ s) := Lib.hid (fun l r hg e => by
              have h1 := HWI.out l r hg e
              rw [← h1.1, ← h1.2] at he
              exact he e)
            have hbe : ((bs (iT L rd)).toList == (bs s).toList) = false := by rw [bs_beq]; simpa using he
            clear he
            generalize bs (iT L rd) = TT at *
            go_wp2_with fail
            refine (CT.out _ hRI5).mono ?_
            rintro e w6 ⟨rfl, hb6⟩
            obtain ⟨d0, d1, f0, f1, hlt6⟩ := hR5.below hb6
            have HBX := Lib.hid (HB5.out.trans (hb6.mono HB5.out.size))
            go_wp2
            exact bodyPost_ret (v := .tuple #[.agg #[.slice none 0 0, .int .i64 0], .bool false]) (by simp [results, Tryd.results24, go_sem, *]) rfl ⟨.inr ⟨HNO.out, rfl⟩, (HBX.out.setCell m0 _).setCell m0 _⟩
end Go.Proofs.YtfjcnomingbneacDoor
