/- The program reads an instrument. -/
import Derived.Test.YtfjcnomingbneacDoorPInP
import Derived.Test.YtfjcnomingbneacDoorWds
import Derived.Test.YtfjcnomingbneacDoorRdPs
import Derived.Test.YtfjcnomingbneacDoorInO
import Derived.Lib.BufferWrite
namespace Go.Proofs.YtfjcnomingbneacDoor
open Go.RowKit Go.Sort
set_option linter.unusedVariables false
set_option linter.unusedSimpArgs false

theorem splitB_mem_len (b : UInt8) (s : List UInt8) : ∀ x ∈ splitB b s, x.length ≤ s.length := by
  induction s with
  | nil => intro x hx; simp [splitB] at hx; subst hx; simp
  | cons y s ih =>
    intro x hx
    unfold splitB at hx
    split at hx
    · rcases List.mem_cons.1 hx with rfl | hx
      · simp
      · have := ih x hx; simp only [List.length_cons]; omega
    · cases hc : splitB b s with
      | nil => exact absurd hc (splitB_ne _ _)
      | cons h t =>
        rw [hc] at hx ih
        simp only at hx
        rcases List.mem_cons.1 hx with rfl | hx
        · have := ih h (by simp); simp only [List.length_cons]; omega
        · have := ih x (by simp [hx]); simp only [List.length_cons]; omega
theorem OwnI.ne {w : World} {base t b : Nat} {v : Value} {l : List Int} (h : OwnI w base t v l) (hb : b < base) : v.ownBlock = none ∨ v.ownBlock ≠ some b := by
  cases hv : v.ownBlock with
  | none => exact .inl rfl
  | some j => exact .inr fun e => by injection e with e; have := (h.lt j hv).1; omega

/-- The result's box, as it was laid. -/
structure Rz (w : World) (b : Nat) : Prop where
  d0 : w.cell? ⟨b, 0, none⟩ = some (.slice none 0 0)
  d1 : w.cell? ⟨b, 1, none⟩ = some (.int .i64 0)
  f0 : w.frozen? ⟨b, 0, none⟩ = false
  f1 : w.frozen? ⟨b, 1, none⟩ = false
  lt : b < w.heap.size
theorem Rz.below {w w' : World} {b : Nat} (h : Rz w b) (hb : Below w.heap.size w w') : Rz w' b where
  d0 := (hb.cell (p := ⟨b, 0, none⟩) h.lt).trans h.d0
  d1 := (hb.cell (p := ⟨b, 1, none⟩) h.lt).trans h.d1
  f0 := (hb.frozen (p := ⟨b, 0, none⟩) h.lt).trans h.f0
  f1 := (hb.frozen (p := ⟨b, 1, none⟩) h.lt).trans h.f1
  lt := Nat.lt_of_lt_of_le h.lt hb.size
theorem Rz.new (w : World) : Rz (w.alloc (.cells #[.slice none 0 0, .int .i64 0] 28)) w.heap.size where
  d0 := (World.cell?_alloc_new w _ _ 0).trans rfl
  d1 := (World.cell?_alloc_new w _ _ 1).trans rfl
  f0 := by go_simp
  f1 := by go_simp
  lt := by simp

set_option maxRecDepth 100000 in
set_option maxHeartbeats 4000000 in
theorem implParseI_any (s : List UInt8) (w : World) (hs : s.length ≤ 1048576) (hT : Tabs w) (hE : Errs w) (hL : Lim w) :
    Calls Tryd.prog 11 #[.string (bs s)] w fun e w' => InsOf s w.heap.size w' e ∧ Below w.heap.size w w' := by
  have hb0 : Below w.heap.size w (w.alloc (.cells #[.slice none 0 0, .int .i64 0] 28)) := (Below.refl _ _).alloc (Nat.le_refl _) _
  have hR0 := Rz.new w
  have hT0 := hT.below hb0
  have hE0 := hE.below hb0
  have hL0 := hL.below hb0
  have m0 : w.heap.size ≤ w.heap.size := Nat.le_refl _
  go_enter Tryd.func11, Tryd.ntmps11
  go_wp2_with fail
  generalize (w.alloc (.cells #[.slice none 0 0, .int .i64 0] 28)) = W at *
  refine (wordsOfLine_any s W (by omega)).mono ?_
  rintro e w1 ⟨hwd, hb1⟩
  have hR1 := hR0.below hb1
  have hT1 := hT0.below hb1
  have hE1 := hE0.below hb1
  have hL1 := hL0.below hb1
  have HB := Lib.hid (hb0.trans (hb1.mono hb0.size))
  have hzW := hR0.lt
  clear hb0 hR0 hT0 hE0 hL0 hT hE hL
  rcases hwd with ⟨h10, rfl⟩ | ⟨k, v, hk, hno, hO, rfl⟩
  · have HNO := Lib.hid (fun l r (_ : gdI l r = true) (e : iT l r = s) => h10 (iT_has10 e))
    obtain ⟨d0, d1, f0, f1, hlt⟩ := hR1
    clear hT1 hE1 hL1 h10
    go_wp2
    exact bodyPost_ret (v := .tuple #[.agg #[.slice none 0 0, .int .i64 0], .bool false]) (by simp [results, Tryd.results11, go_sem, *]) rfl ⟨.inr ⟨HNO.out, rfl⟩, (HB.out.setCell m0 _).setCell m0 _⟩
  · by_cases hend : k + 1 = s.length
    · have hline := (iT_first (l := []) (r := 0) (s := s) (k := k))
      have hsu : s = s.take k ++ [10] := by
        conv => lhs; rw [← List.take_append_drop k s, List.drop_eq_getElem_cons (by omega), List.drop_eq_nil_of_le (by omega)]
        have : s[k]'(by omega) = 10 := (List.getElem?_eq_some_iff.1 hk).2
        rw [this]
      clear hline
      rw [show decide (k + 1 = s.length) = true by simpa using hend]
      have hmem := splitB_mem_len 32 (s.take k)
      have hwl := splitB_length 32 (s.take k)
      have hul : (s.take k).length = k := by rw [List.length_take]; omega
      have hne0 := splitB_ne 32 (s.take k)
      generalize hu : s.take k = u at *
      generalize hws : splitB 32 u = ws at *
      obtain ⟨A, c, rfl, hRS, hnc, hcm, _, hne⟩ := hO.form
      obtain ⟨g, rfl⟩ := hne hne0
      obtain ⟨m, hm⟩ : ∃ m, ws.length = m + 1 := ⟨ws.length - 1, by have := List.length_pos_iff.2 hne0; omega⟩
      obtain ⟨y, hy⟩ : ∃ y, ws[m]? = some y := ⟨ws[m], List.getElem?_eq_getElem (by omega)⟩
      have hwm : ws = ws.take m ++ [y] := by
        have h1 : ws.take (m + 1) = ws := List.take_of_length_le (by omega)
        rw [List.take_add_one, hy] at h1
        exact h1.symm
      have hm2 : m ≤ 1048576 := by omega
      have hyl : y.length ≤ 2000000 := by have := hmem y (List.mem_of_getElem? hy); omega
      have htl : (ws.take m).length = m := by rw [List.length_take]; omega
      have hxl : ∀ x ∈ ws.take m, x.length ≤ 2000000 := fun x hx => by have := hmem x (List.mem_of_mem_take hx); omega
      have hwhat : ∀ l r, gdI l r = true → iT l r = s → ws.take m = l.map nm ∧ y = dec r := by
        intro l r hg e
        have h1 := iT_words (gdI_facts hg).2.1 (e.trans hsu)
        rw [hws, hwm] at h1
        have h2 := List.append_inj' h1 rfl
        exact ⟨h2.1, by simpa using h2.2⟩
      have HWH := Lib.hid hwhat
      have HWM := Lib.hid hwm
      have HSU := Lib.hid hsu
      have HWS := Lib.hid hws
      have i1 : (0 : Int) ≤ (m : Int) := by omega
      have i2 : m ≤ c := by omega
      have i3 : (m : Int) ≤ (c : Int) := by omega
      rw [hm] at hnc ⊢
      clear hwhat hwm hsu hws hu hmem hwl hne0 hne hO hno hk hm
      unfold maxLen at hcm
      go_wp2_with fail
      refine (readPitches_any (some ⟨g, 0, none⟩) (ws.take m) m c w1 htl (by omega) hxl (hRS.take m) hT1 hE1).mono ?_
      rintro e w2 ⟨hp, hb2⟩
      have hR2 := hR1.below hb2
      have hT2 := hT1.below hb2
      have hE2 := hE1.below hb2
      have hL2 := hL1.below hb2
      have HB2 := Lib.hid (HB.out.trans (hb2.mono HB.out.size))
      obtain ⟨g', o', hgo, hgl, hcy⟩ := (hRS.below hb2) m y hy
      simp only [Option.some.injEq, Addr.mk.injEq, and_true] at hgo
      obtain ⟨rfl, rfl⟩ := hgo
      rw [Nat.zero_add] at hcy
      have CR := Lib.hid (readNumber_any y w2 hyl hT2 hE2)
      have m1 : ∀ z : Bool, z = z := fun _ => rfl
      clear m1 hRS hcm
      rcases hp with ⟨hok, v, rfl, hOv⟩ | ⟨⟨x, hx, hxn⟩, rfl⟩
      · by_cases hnum : numOk y = true
        · have HNUM := Lib.hid hnum
          have HMP := Lib.hid (map_nm_ntRd (ws.take m) hok)
          have HYR := Lib.hid (show numR y = #[.int .i64 (valL y : Int), .bool true] by unfold numR; rw [if_pos hnum])
          have hLl : ((ws.take m).map ntRd).length = m := by rw [List.length_map, htl]
          clear hnum hok hxl
          go_wp2_with fail
          refine CR.out.mono ?_
          rintro e w3 ⟨rfl, hb3⟩
          rw [HYR.out]
          have hR3 := hR2.below hb3
          have HB3 := Lib.hid (HB2.out.trans (hb3.mono HB2.out.size))
          have hOv3 := hOv.below hb3 (Nat.le_refl _)
          have hL3 := hL2.below hb3
          generalize hLL : (ws.take m).map ntRd = L at *
          obtain ⟨A', c', rfl, hRI, hlc, hcm', _, _⟩ := hOv3.form
          have CI := Lib.hid (insOnly_any A' L c' (valL y : Int) w3 (by omega) hRI hL3)
          obtain ⟨d0, d1, f0, f1, hlt⟩ := hR3
          cases hgd : gdI L (valL y : Int) with
          | true =>
            have HT := Lib.hid (show iT L (valL y : Int) = s by
              have h1 : splitB 32 u = L.map nm ++ [dec (valL y : Int)] := by rw [HMP.out.1, dec_of_numOk HNUM.out, HWS.out]; exact HWM.out
              rw [iT_line h1]; exact HSU.out.symm)
            have HG := Lib.hid hgd
            have HRR := Lib.hid (show onlyR A' L c' (valL y : Int) = #[.agg #[.slice A' L.length c', .int .i64 (valL y : Int)], .bool true] by unfold onlyR; rw [if_pos hgd])
            clear hgd hOv hRI hR2 hT2 hE2 hL2 hR1 hT1 hE1 hL1 hL3 hlc hcm' hy hcy hLL hLl
            go_wp2_with fail
            refine CI.out.mono ?_
            rintro e w4 ⟨rfl, hb4⟩
            rw [HRR.out]
            have d0 := (hb4.cell (p := ⟨w.heap.size, 0, none⟩) hlt).trans d0
            have d1 := (hb4.cell (p := ⟨w.heap.size, 1, none⟩) hlt).trans d1
            have f0 := (hb4.frozen (p := ⟨w.heap.size, 0, none⟩) hlt).trans f0
            have f1 := (hb4.frozen (p := ⟨w.heap.size, 1, none⟩) hlt).trans f1
            have HB4 := Lib.hid (HB3.out.trans (hb4.mono HB3.out.size))
            have ho4 := hOv3.below hb4 (Nat.le_refl _)
            have hlt1 : w.heap.size < w1.heap.size := by have := hb1.size; omega
            have HO5 := Lib.hid ((ho4.grown (Lib.grownBy_setCell w4 w.heap.size 0 (.slice A' L.length c')) (hOv3.ne hlt1)).grown (Lib.grownBy_setCell _ w.heap.size 1 (.int .i64 (valL y : Int))) (hOv3.ne hlt1))
            go_wp2
            exact bodyPost_ret (v := .tuple #[.agg #[.slice A' L.length c', .int .i64 (valL y : Int)], .bool true]) (by simp [results, Tryd.results11, go_sem, *]) rfl ⟨.inl ⟨L, _, _, HG.out, HT.out, rfl, HO5.out.mono (by omega)⟩, (HB4.out.setCell m0 _).setCell m0 _⟩
          | false =>
            have HNO : Hid (∀ l r, gdI l r = true → iT l r ≠ s) := Lib.hid (fun l r hg e => by
              have h1 := HWH.out l r hg e
              have h2 : L = l := by rw [← hLL, h1.1]; exact map_ntRd_nm l (gdI_facts hg).2.1
              have h3 : (valL y : Int) = r := by
                have hr := (gdI_facts hg).2.2
                rw [h1.2]
                simp only [dec, dec_val]
                omega
              rw [h2, h3, hg] at hgd
              exact absurd hgd (by simp))
            have HRR := Lib.hid (show onlyR A' L c' (valL y : Int) = #[.agg #[.slice none 0 0, .int .i64 0], .bool false] by unfold onlyR; rw [if_neg (by simp [hgd])])
            clear hgd hOv hRI hR2 hT2 hE2 hL2 hR1 hT1 hE1 hL1 hL3 hlc hcm' hy hcy hLL hLl hOv3
            go_wp2_with fail
            refine CI.out.mono ?_
            rintro e w4 ⟨rfl, hb4⟩
            rw [HRR.out]
            have d0 := (hb4.cell (p := ⟨w.heap.size, 0, none⟩) hlt).trans d0
            have d1 := (hb4.cell (p := ⟨w.heap.size, 1, none⟩) hlt).trans d1
            have f0 := (hb4.frozen (p := ⟨w.heap.size, 0, none⟩) hlt).trans f0
            have f1 := (hb4.frozen (p := ⟨w.heap.size, 1, none⟩) hlt).trans f1
            have HB4 := Lib.hid (HB3.out.trans (hb4.mono HB3.out.size))
            go_wp2
            exact bodyPost_ret (v := .tuple #[.agg #[.slice none 0 0, .int .i64 0], .bool false]) (by simp [results, Tryd.results11, go_sem, *]) rfl ⟨.inr ⟨HNO.out, rfl⟩, (HB4.out.setCell m0 _).setCell m0 _⟩
        · have HNO : Hid (∀ l r, gdI l r = true → iT l r ≠ s) := Lib.hid (fun l r hg e => by
            have h1 := HWH.out l r hg e
            have hr := (gdI_facts hg).2.2
            exact hnum (numOk_dec (v := r) (by omega) (by omega) h1.2.symm).1)
          have HYR := Lib.hid (show numR y = #[.int .i64 0, .bool false] by unfold numR; rw [if_neg hnum])
          clear hnum hok hxl hOv
          go_wp2_with fail
          refine CR.out.mono ?_
          rintro e w3 ⟨rfl, hb3⟩
          rw [HYR.out]
          have hR3 := hR2.below hb3
          have HB3 := Lib.hid (HB2.out.trans (hb3.mono HB2.out.size))
          obtain ⟨d0, d1, f0, f1, hlt⟩ := hR3
          clear hR2 hT2 hE2 hL2 hR1 hT1 hE1 hL1 hy hcy
          go_wp2
          exact bodyPost_ret (v := .tuple #[.agg #[.slice none 0 0, .int .i64 0], .bool false]) (by simp [results, Tryd.results11, go_sem, *]) rfl ⟨.inr ⟨HNO.out, rfl⟩, (HB3.out.setCell m0 _).setCell m0 _⟩
      · have HNO : Hid (∀ l r, gdI l r = true → iT l r ≠ s) := Lib.hid (fun l r hg e => by
          have h1 := HWH.out l r hg e
          rw [h1.1] at hx
          obtain ⟨p, hp, rfl⟩ := List.mem_map.1 hx
          have hp2 := (gdI_facts hg).2.1 p hp
          rw [ntRd_nm p hp2.1 hp2.2] at hxn
          omega)
        clear hx hxn hxl
        by_cases hnum : numOk y = true
        · have HYR := Lib.hid (show numR y = #[.int .i64 (valL y : Int), .bool true] by unfold numR; rw [if_pos hnum])
          clear hnum
          go_wp2_with fail
          refine CR.out.mono ?_
          rintro e w3 ⟨rfl, hb3⟩
          rw [HYR.out]
          have hR3 := hR2.below hb3
          have HB3 := Lib.hid (HB2.out.trans (hb3.mono HB2.out.size))
          obtain ⟨d0, d1, f0, f1, hlt⟩ := hR3
          clear hR2 hT2 hE2 hL2 hR1 hT1 hE1 hL1 hy hcy
          go_wp2
          exact bodyPost_ret (v := .tuple #[.agg #[.slice none 0 0, .int .i64 0], .bool false]) (by simp [results, Tryd.results11, go_sem, *]) rfl ⟨.inr ⟨HNO.out, rfl⟩, (HB3.out.setCell m0 _).setCell m0 _⟩
        · have HYR := Lib.hid (show numR y = #[.int .i64 0, .bool false] by unfold numR; rw [if_neg hnum])
          clear hnum
          go_wp2_with fail
          refine CR.out.mono ?_
          rintro e w3 ⟨rfl, hb3⟩
          rw [HYR.out]
          have hR3 := hR2.below hb3
          have HB3 := Lib.hid (HB2.out.trans (hb3.mono HB2.out.size))
          obtain ⟨d0, d1, f0, f1, hlt⟩ := hR3
          clear hR2 hT2 hE2 hL2 hR1 hT1 hE1 hL1 hy hcy
          go_wp2
          exact bodyPost_ret (v := .tuple #[.agg #[.slice none 0 0, .int .i64 0], .bool false]) (by simp [results, Tryd.results11, go_sem, *]) rfl ⟨.inr ⟨HNO.out, rfl⟩, (HB3.out.setCell m0 _).setCell m0 _⟩
    · have HNO := Lib.hid (fun l r (hg : gdI l r = true) (e : iT l r = s) => hend (iT_first (gdI_facts hg).2.1 e hk hno).1)
      rw [show decide (k + 1 = s.length) = false by simpa using hend]
      obtain ⟨d0, d1, f0, f1, hlt⟩ := hR1
      clear hT1 hE1 hL1 hk hno hO hend
      go_wp2
      exact bodyPost_ret (v := .tuple #[.agg #[.slice none 0 0, .int .i64 0], .bool false]) (by simp [results, Tryd.results11, go_sem, *]) rfl ⟨.inr ⟨HNO.out, rfl⟩, (HB.out.setCell m0 _).setCell m0 _⟩
end Go.Proofs.YtfjcnomingbneacDoor
