/- Proved: for every two slices of notes, JoinScores of the program answers as the model's, in memory of its own, and neither the arguments nor anything that was there before the call has turned. No condition. -/
import Derived.Test.YtkgnkdebognneaaJoin3
import Derived.Test.YtkgnkdebognneaaOpen
namespace Go.Proofs.Ytkgnkdebognneaa
open Go.ChangeShapes Go.WideShapes Go.ChangeAt Go.RowKit
set_option linter.unusedVariables false

set_option maxRecDepth 100000 in
set_option maxHeartbeats 1000000 in
theorem markNoteS_big (v : Value) (l : List Nt) (K : Int) (base : Nat) (w : World) (hn : l.length ≤ 1048576) (hK : 0 ≤ K) (hK' : K ≤ 10000000) (hv : Own w base 25 v l) :
    Calls Try.prog 22 #[v, .int .i64 K] w fun e w' => e = .returned (.int .i64 (K + 3 * l.length)) ∧ Own w' base 25 v (mk l.length K) ∧ w.grownBy w' v.ownBlock := by
  have hv0 := hv
  rcases hv.2 with ⟨rfl, h0⟩ | ⟨g, cap, cur, rfl, hg, hh, hnc, hm, hs, ht⟩
  · obtain rfl : l = [] := List.eq_nil_of_length_eq_zero h0
    go_enter Try.func22, Try.ntmps22
    go_wp2
    go_rounds 1
    go_ret
    exact ⟨ret_int (by simp), hv0, World.grownBy.refl w _⟩
  · have hlt : g < w.heap.size := (hv0.lt _ rfl).2
    clear hh hs ht cur
    go_enter Try.func22, Try.ntmps22
    go_wp2
    go_loopw [1, 5] (fun q i wr => ∃ k : Nat, k ≤ l.length ∧ i = .int .i64 k ∧ q = .int .i64 (K + 3 * k) ∧ Own wr base 25 (.slice (some ⟨g, 0, none⟩) l.length cap) (mk k K ++ l.drop k) ∧ w.grownBy wr (some g))
      (fun _ i _ => l.length - (intOf i).toNat)
    case atStart => exact ⟨0, Nat.zero_le _, rfl, by simp, by simpa [mk] using hv0, World.grownBy.refl w _⟩
    case round =>
      obtain ⟨k, hk, rfl, rfl, hown, hgr⟩ := hrel
      have hL : (mk k K ++ l.drop k).length = l.length := by simp [mk_length]; omega
      by_cases hk2 : k < l.length
      · unfold Own at hown
        rw [hL] at hown
        have f := fun j => hown.frozenAt j
        have c0 : ∃ u, wr.cell? ⟨g, k * 3, none⟩ = some u := by rw [hown.cellAt _ (by omega)]; exact ⟨_, List.getElem?_eq_getElem (by rw [cl_length, hL]; omega)⟩
        have c1 : ∃ u, wr.cell? ⟨g, k * 3 + 1, none⟩ = some u := by rw [hown.cellAt _ (by omega)]; exact ⟨_, List.getElem?_eq_getElem (by rw [cl_length, hL]; omega)⟩
        have c2 : ∃ u, wr.cell? ⟨g, k * 3 + 2, none⟩ = some u := by rw [hown.cellAt _ (by omega)]; exact ⟨_, List.getElem?_eq_getElem (by rw [cl_length, hL]; omega)⟩
        obtain ⟨u0, c0⟩ := c0
        obtain ⟨u1, c1⟩ := c1
        obtain ⟨u2, c2⟩ := c2
        have f0 := f (k * 3)
        have f1 := f (k * 3 + 1)
        have f2 := f (k * 3 + 2)
        have H := Lib.hid hown
        have HL := Lib.hid hL
        clear f hown hL hv hv0
        go_wp2
        go_roundw
        case rel =>
          have s1 := H.out.stored (k * 3) (.int .i64 (K + 3 * k))
          have s2 := s1.1.stored (k * 3 + 1) (.int .i64 (K + 3 * k + 1))
          have s3 := s2.1.stored (k * 3 + 2) (.int .i64 (K + 3 * k + 2))
          have k2 := s3.1
          rw [cl_set _ _ (K + 3 * k, K + 3 * k + 1, K + 3 * k + 2) (by rw [HL.out]; exact hk2), mk_set l K k hk2] at k2
          have hL' : (mk (k + 1) K ++ l.drop (k + 1)).length = l.length := by simp [mk_length]; omega
          have e2 : K + 3 * (k : Int) + 1 + 1 = K + 3 * k + 2 := by omega
          refine ⟨k + 1, by omega, by go_num, by first | go_num | (congr 1; omega), ?_, ?_⟩
          · unfold Own
            rw [hL']
            first | exact k2 | (rw [e2]; exact k2)
          · first | exact ((hgr.trans s1.2).trans s2.2).trans s3.2 | (rw [e2]; exact ((hgr.trans s1.2).trans s2.2).trans s3.2)
        case measure => simp [intOf]; omega
      · obtain rfl : k = l.length := by omega
        go_wp2
        go_ret
        exact ⟨rfl, by simpa using hown, hgr⟩


set_option maxRecDepth 100000 in
set_option maxHeartbeats 8000000 in
theorem joinLaw_core (A B : Option Addr) (l m : List Nt) (c d : Nat) (w : World) (hA : RA w A l) (hB : RA w B m) (G : List Nt) (ok : Bool) (hG : G.length ≤ 1048576)
    (HS : Hid (∀ (A B : Option Addr) (c d : Nat) (W : World), l.length ≤ c → c ≤ 9223372036854775807 → m.length ≤ d → d ≤ 9223372036854775807 → RA W A l → RA W B m → (A = none → c = 0) → (B = none → d = 0) → Calls Try.prog 28 #[.slice A l.length c, .slice B m.length d] W fun e W' => ∃ v, e = .returned (.tuple #[v, .bool ok]) ∧ Own W' W.heap.size 25 v G ∧ Below W.heap.size W W'))
    (HI : Hid (∀ (A B : Option Addr) (c d : Nat) (W : World), RA W A l → RA W B m → (A = none → c = 0) → (B = none → d = 0) → Calls Try.prog 29 #[.slice A l.length c, .slice B m.length d] W fun e W' => ∃ v, e = .returned (.tuple #[v, .bool ok]) ∧ Own W' W.heap.size 25 v G ∧ Below W.heap.size W W')) (hbig : l.length + m.length ≤ 1048576) :
    Calls Try.prog 8 #[.slice A l.length c, .slice B m.length d] w fun e w' => e = .returned (.bool true) ∧ Below w.heap.size w w' := by
  have hl : l.length ≤ 1048576 := by omega
  have hm : m.length ≤ 1048576 := by omega
  have hleft : ¬ ((1048576 : Int) - l.length < 0) := by omega
  have hleft2 : ¬ ((1048576 : Int) - l.length - m.length < 0) := by omega
  have hk0 : ¬ (1 + 3 * (l.length : Int) + 3 * (m.length : Int) < 0) := by omega
  go_enter Try.func8, Try.ntmps8
  go_wp2_with fail
  refine (szNoteS_any _ _ _ _ _ (by omega) (by omega) (by omega)).mono ?_
  rintro e w' ⟨rfl, rfl⟩
  rw [if_neg (by omega)]
  go_wp2_with fail
  refine (szNoteS_any _ _ _ _ _ (by omega) (by omega) (by omega)).mono ?_
  rintro e w' ⟨rfl, rfl⟩
  rw [if_neg (by omega)]
  go_wp2_with fail
  refine (toNoteS_any _ _ _ _ hl hA).mono ?_
  rintro e w1 ⟨rfl, ho1, hb1⟩
  go_wp2_with fail
  refine (toNoteS_any _ _ _ _ hm (hB.below hb1)).mono ?_
  rintro e w2 ⟨rfl, ho2, hb2⟩
  have hB2 := hb1.trans (hb2.mono hb1.size)
  have ho1 := ho1.below hb2 (Nat.le_refl _)
  go_wp2_with fail
  refine (HS.out _ _ _ _ _ (Nat.le_refl _) (by omega) (Nat.le_refl _) (by omega) ho1.ra ho2.ra (fun h => by cases h) (fun h => by cases h)).mono ?_
  rintro e w3 ⟨v0, rfl, hv0, hb3⟩
  have hB3 := hB2.trans (hb3.mono hB2.size)
  have lt0 : ∀ j, v0.ownBlock = some j → w.heap.size ≤ j ∧ j < w3.heap.size := fun j hj => ⟨Nat.le_trans hB2.size (hv0.lt j hj).1, (hv0.lt j hj).2⟩
  have LT0 := Lib.hid lt0
  clear lt0 ho1 ho2
  go_wp2_with fail
  refine (toNoteS_any _ _ _ _ hl (hA.below hB3)).mono ?_
  rintro e w4 ⟨rfl, ho4, hb4⟩
  have hB4 := hB3.trans (hb4.mono hB3.size)
  have hv0 := hv0.below hb4 (Nat.le_refl _)
  have hz34 : w3.heap.size < w4.heap.size := (ho4.lt _ rfl).2
  go_wp2_with fail
  refine (toNoteS_any _ _ _ _ hm (hB.below hB4)).mono ?_
  rintro e w5 ⟨rfl, ho5, hb5⟩
  have hB5 := hB4.trans (hb5.mono hB4.size)
  have hv0 := hv0.below hb5 (Nat.le_refl _)
  have ho4 := ho4.below hb5 (Nat.le_refl _)
  have hz45 : w4.heap.size < w5.heap.size := (ho5.lt _ rfl).2
  go_wp2_with fail
  refine (HI.out _ _ _ _ _ ho4.ra ho5.ra (fun h => by cases h) (fun h => by cases h)).mono ?_
  rintro e w6 ⟨v1, rfl, hv1, hb6⟩
  have hB6 := hB5.trans (hb6.mono hB5.size)
  have hv0 := hv0.below hb6 (Nat.le_refl _)
  have ho4 := ho4.below hb6 (Nat.le_refl _)
  have ho5 := ho5.below hb6 (Nat.le_refl _)
  have lt1 : ∀ j, v1.ownBlock = some j → w5.heap.size ≤ j ∧ j < w6.heap.size := hv1.lt
  have LT1 := Lib.hid lt1
  clear lt1
  obtain ⟨A0, c0, hf0, hr0⟩ := hv0.form
  obtain ⟨A1, c1, hf1, hr1⟩ := hv1.form
  subst hf0
  subst hf1
  go_wp2_with fail
  refine (eqNoteS_any _ _ _ _ _ _ _ (by omega) (by omega) hr1 hr0).mono ?_
  rintro e w7 ⟨rfl, hb7⟩
  have hB7 := hB6.trans (hb7.mono hB6.size)
  have hv0 := hv0.below hb7 (Nat.le_refl _)
  have hv1 := hv1.below hb7 (Nat.le_refl _)
  have ho4 := ho4.below hb7 (Nat.le_refl _)
  have ho5 := ho5.below hb7 (Nat.le_refl _)
  clear hr0 hr1
  go_wp2_with fail
  refine (toNoteS_any _ _ _ _ hl (hA.below hB7)).mono ?_
  rintro e w8 ⟨rfl, ho8, hb8⟩
  have hB8 := hB7.trans (hb8.mono hB7.size)
  have hv0 := hv0.below hb8 (Nat.le_refl _)
  have hv1 := hv1.below hb8 (Nat.le_refl _)
  have ho4 := ho4.below hb8 (Nat.le_refl _)
  have ho5 := ho5.below hb8 (Nat.le_refl _)
  go_wp2_with fail
  refine (eqNoteS_any _ _ _ _ _ _ _ (by omega) (by omega) ho4.ra ho8.ra).mono ?_
  rintro e w9 ⟨rfl, hb9⟩
  have hB9 := hB8.trans (hb9.mono hB8.size)
  have hv0 := hv0.below hb9 (Nat.le_refl _)
  have hv1 := hv1.below hb9 (Nat.le_refl _)
  have ho4 := ho4.below hb9 (Nat.le_refl _)
  have ho5 := ho5.below hb9 (Nat.le_refl _)
  clear ho8
  go_wp2_with fail
  refine (toNoteS_any _ _ _ _ hm (hB.below hB9)).mono ?_
  rintro e wa ⟨rfl, hoa, hba⟩
  have hBa := hB9.trans (hba.mono hB9.size)
  have hv0 := hv0.below hba (Nat.le_refl _)
  have hv1 := hv1.below hba (Nat.le_refl _)
  have ho4 := ho4.below hba (Nat.le_refl _)
  have ho5 := ho5.below hba (Nat.le_refl _)
  go_wp2_with fail
  refine (eqNoteS_any _ _ _ _ _ _ _ (by omega) (by omega) ho5.ra hoa.ra).mono ?_
  rintro e wb ⟨rfl, hbb⟩
  have hBb := hBa.trans (hbb.mono hBa.size)
  have hv0 := hv0.below hbb (Nat.le_refl _)
  have hv1 := hv1.below hbb (Nat.le_refl _)
  have ho4 := ho4.below hbb (Nat.le_refl _)
  have ho5 := ho5.below hbb (Nat.le_refl _)
  clear hoa
  go_wp2_with fail
  refine (markNoteS_big _ l 1 w3.heap.size _ hl (by omega) (by omega) ho4).mono ?_
  rintro e wc ⟨rfl, hmc, hgc⟩
  have hBc := hBb.grown hgc hBb.size (fun j hj => by simp [Value.ownBlock] at hj; subst hj; exact hB3.size)
  have hv0 := hv0.grown hgc (.inr fun h => by have := LT0.out w3.heap.size h; omega)
  have hv1 := hv1.grown hgc (.inr fun h => by have := LT1.out w3.heap.size h; omega)
  have ho5 := ho5.grown hgc (.inr fun h => by simp [Value.ownBlock] at h; omega)
  clear hmc ho4
  go_wp2_with fail
  refine (markNoteS_big _ m _ w4.heap.size _ hm (by omega) (by omega) ho5).mono ?_
  rintro e wd ⟨rfl, hmd, hgd⟩
  have hBd := hBc.grown hgd hBc.size (fun j hj => by simp [Value.ownBlock] at hj; subst hj; exact hB4.size)
  have hv0 := hv0.grown hgd (.inr fun h => by have := LT0.out w4.heap.size h; omega)
  have hv1 := hv1.grown hgd (.inr fun h => by have := LT1.out w4.heap.size h; omega)
  clear hmd ho5
  obtain ⟨A0', c0', hf0, hr0⟩ := hv0.form
  obtain ⟨A1', c1', hf1, hr1⟩ := hv1.form
  injection hf0 with e1 e2 e3
  injection hf1 with e4 e5 e6
  subst e1 e3 e4 e6
  clear e2 e5
  go_wp2_with fail
  refine (eqNoteS_any _ _ _ _ _ _ _ (by omega) (by omega) hr1 hr0).mono ?_
  rintro e we ⟨rfl, hbe⟩
  have hBe := hBd.trans (hbe.mono hBd.size)
  have hv0 := hv0.below hbe (Nat.le_refl _)
  have hv1 := hv1.below hbe (Nat.le_refl _)
  clear hr0 hr1
  go_wp2_with fail
  refine (markNoteS_any _ G 1 w5.heap.size _ hG (by omega) (by omega) hv1).mono ?_
  rintro e wf ⟨rfl, hma, hgf⟩
  have hBf := hBe.grown hgf hBe.size (fun j hj => Nat.le_trans hB5.size (LT1.out j hj).1)
  have hv0 := hv0.grown hgf (by
    cases h : (Value.slice A0 G.length c0).ownBlock with
    | none => exact .inl rfl
    | some j => exact .inr fun h' => by have a := LT0.out _ h; have b := LT1.out _ h'.symm; omega)
  go_wp2_with fail
  refine (heldNoteS_any _ 1 G.length _ _ hG (by omega) (by omega) hma.ra).mono ?_
  rintro e w' ⟨rfl, rfl⟩
  go_wp2_with fail
  refine (toNoteS_any _ _ _ _ hl (hA.below hBf)).mono ?_
  rintro e wg ⟨rfl, hog, hbg⟩
  have hBg := hBf.trans (hbg.mono hBf.size)
  have hv0 := hv0.below hbg (Nat.le_refl _)
  have hma := hma.below hbg (Nat.le_refl _)
  go_wp2_with fail
  refine (toNoteS_any _ _ _ _ hm (hB.below hBg)).mono ?_
  rintro e wh ⟨rfl, hoh, hbh⟩
  have hBh := hBg.trans (hbh.mono hBg.size)
  have hv0 := hv0.below hbh (Nat.le_refl _)
  have hma := hma.below hbh (Nat.le_refl _)
  have hog := hog.below hbh (Nat.le_refl _)
  go_wp2_with fail
  refine (HI.out _ _ _ _ _ hog.ra hoh.ra (fun h => by cases h) (fun h => by cases h)).mono ?_
  rintro e wi ⟨v2, rfl, hv2, hbi⟩
  have hBi := hBh.trans (hbi.mono hBh.size)
  have hv0 := hv0.below hbi (Nat.le_refl _)
  have hma := hma.below hbi (Nat.le_refl _)
  obtain ⟨A2, c2, hf2, hr2⟩ := hv2.form
  subst hf2
  go_wp2_with fail
  refine (eqNoteS_any _ _ _ _ _ _ _ (by omega) (by omega) hr2 hv0.ra).mono ?_
  rintro e wj ⟨rfl, hbj⟩
  have hBj := hBi.trans (hbj.mono hBi.size)
  have hma := hma.below hbj (Nat.le_refl _)
  clear hr2
  go_wp2_with fail
  refine (heldNoteS_any _ 1 G.length _ _ hG (by omega) (by omega) hma.ra).mono ?_
  rintro e w' ⟨rfl, rfl⟩
  go_wp2
  go_ret
  exact ⟨rfl, hBj⟩

set_option maxRecDepth 100000 in
set_option maxHeartbeats 1000000 in
theorem joinLaw_walk (A B : Option Addr) (l m : List Nt) (c d : Nat) (w : World) (hlc : l.length ≤ c) (hcm : c ≤ maxLen) (hmd : m.length ≤ d) (hdm : d ≤ maxLen) (hA : RA w A l) (hB : RA w B m) :
    Calls Try.prog 8 #[.slice A l.length c, .slice B m.length d] w fun e w' => e = .returned (.bool true) ∧ Below w.heap.size w w' := by
  by_cases hbig : l.length + m.length ≤ 1048576
  · exact joinLaw_core A B l m c d w hA hB (if (goodB l && (goodB m && goodB (canon (l ++ m)))) = true then canon (l ++ m) else []) (goodB l && (goodB m && goodB (canon (l ++ m)))) (by split <;> simp [canon_length]; omega)
      (fun A B c d W h1 h2 h3 h4 hA hB hA0 hB0 => specJoin_any A B l m c d W (by omega) (by omega) h1 h2 h3 h4 hA hB hA0 hB0) (fun A B c d W hA hB hA0 hB0 => implJoin_any A B l m c d W (by omega) (by omega) hA hB hA0 hB0) hbig
  · unfold maxLen at hcm hdm
    by_cases hl : l.length ≤ 1048576
    · have hleft : ¬ ((1048576 : Int) - l.length < 0) := by omega
      have hleft2 : (1048576 : Int) - l.length - m.length < 0 := by omega
      go_enter Try.func8, Try.ntmps8
      go_wp2_with fail
      refine (szNoteS_any _ _ _ _ _ (by omega) (by omega) (by omega)).mono ?_
      rintro e w' ⟨rfl, rfl⟩
      rw [if_neg (by omega)]
      go_wp2_with fail
      refine (szNoteS_any _ _ _ _ _ (by omega) (by omega) (by omega)).mono ?_
      rintro e w' ⟨rfl, rfl⟩
      rw [if_pos (by omega)]
      go_wp2
      go_ret
      exact ⟨rfl, Below.refl _ _⟩
    · have hleft : (1048576 : Int) - l.length < 0 := by omega
      go_enter Try.func8, Try.ntmps8
      go_wp2_with fail
      refine (szNoteS_any _ _ _ _ _ (by omega) (by omega) (by omega)).mono ?_
      rintro e w' ⟨rfl, rfl⟩
      rw [if_pos (by omega)]
      go_wp2
      go_ret
      exact ⟨rfl, Below.refl _ _⟩

set_option maxRecDepth 100000 in
theorem joinLaw_lifted (os : Os) (started : os.Started) (H : Type) (enc : TypeId × Value → H) :
    ReturnsInHanded {} Try.checked os 8 .any (Rows.fnExactJoinScoresSpec.pre6 enc Try.prog Try.f8 Rows.fnExactJoinScoresRow.domain false) (Rows.fnExactJoinScoresSpec.post enc Try.prog Try.f8 false true false false) := by
  refine returnsInHanded_of_change (C := Try.checked) Try.own started (by kernel_rfl) Try.func8
    (ChangeSpec.witness6 (enc := enc) (C := Try.checked) false ⟨#[], #[.slice none 0 0, .slice none 0 0], []⟩ 8 (by kernel_rfl) (by kernel_rfl) (by kernel_rfl) (by kernel_rfl)) ?_
  intro W base args ds gs before hval0 hW hcnd _
  have hval : ∀ (j : Nat) t v, Try.f8.params[j]? = some t → args[j]? = some v → Value.okWide Try.prog W .any base t v := hval0
  have hW' := hW
  have hlt := fun p hp => hW.lt p hp
  obtain ⟨p, q, hA0, hV, rfl, hfz, hnd⟩ := hW
  have hA : DataW.TrodAll enc Try.prog W 0 (fun _ => true) true Try.f8.params.toList args.toList ds p := hA0
  rw [Try.params8] at hA hval
  obtain ⟨rfl, rfl⟩ := trodVars_none hV
  obtain ⟨v0, v1, d0, d1, p0, p1, rfl, rfl, rfl, h0, h1⟩ := trodAll_two hA
  obtain ⟨a0, n0, c0, hv0⟩ := okWide_slice Try.underlying28 (hval 0 28 v0 rfl rfl)
  obtain ⟨a1, n1, c1, hv1⟩ := okWide_slice Try.underlying28 (hval 1 28 v1 rfl rfl)
  obtain ⟨A, l, c, rfl, hlc, hcm, hRA⟩ := open_notes ⟨a0, n0, c0, hv0⟩ h0 (fun x hx => hlt x (by simp [hx]))
  obtain ⟨B, m, d, rfl, hmd, hdm, hRB⟩ := open_notes ⟨a1, n1, c1, hv1⟩ h1 (fun x hx => hlt x (by simp [hx]))
  refine (joinLaw_walk A B l m c d W hlc hcm hmd hdm hRA hRB).mono fun e W' ⟨he, hw⟩ => ?_
  subst he
  exact ⟨_, rfl, law_post Try.laidOut (by rw [Try.params8]; intro t ht; simp at ht; subst ht; exact ⟨by kernel_rfl, of_decide_eq_true (by kernel_rfl)⟩) rfl rfl rfl Try.underlying4 hW' hw⟩

theorem joinLaw_holds : Rows.FnExactJoinScoresSaid :=
  OpenClaim.holds_of_wide 8 Try.f8 rfl rfl rfl rfl rfl rfl rfl ⟨rfl, rfl, rfl, rfl, rfl⟩ rfl rfl rfl rfl rfl (by kernel_rfl) Try.func8 (by kernel_rfl)
    (of_decide_eq_true (by kernel_rfl)) (by unfold Func.isWrapper; rw [if_neg (of_decide_eq_false (by kernel_rfl))]; exact ⟨rfl, rfl⟩)
    (fun os started H enc _ => joinLaw_lifted os started H enc)

end Go.Proofs.Ytkgnkdebognneaa
