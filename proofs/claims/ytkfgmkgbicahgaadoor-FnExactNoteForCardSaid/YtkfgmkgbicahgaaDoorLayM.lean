/- Contracts: NoteFor of the model and of the program. -/
import Derived.Test.YtkfgmkgbicahgaaDoorLayN
namespace Go.Proofs.YtkfgmkgbicahgaaDoor
open Go.RowKit Go.Sort
set_option linter.unusedVariables false
set_option linter.unusedSimpArgs false

/-- The note of a hole, if there is one. -/
def nfR (P : List Int) (r : Int) (x : Nt) : Array Value := if (gdI P r && H.noteN x) = true then noR P x else #[no3, .bool false]

set_option maxRecDepth 100000 in
set_option maxHeartbeats 4000000 in
theorem specNote_any (A : Option Addr) (l : List Int) (c : Nat) (r p s k : Int) (w : World) (hn : l.length ≤ 1048576) (hA : RI w A l) :
    Calls Tryd.prog 16 #[.agg #[.slice A l.length c, .int .i64 r], .agg #[.int .i64 p, .int .i64 s, .int .i64 k]] w fun e w' => e = .returned (.tuple (nfR l r (p, s, k))) ∧ Below w.heap.size w w' := by
  obtain ⟨W, hW⟩ : ∃ W, W = ((w.alloc (.cells #[.slice A l.length c, .int .i64 r] 32)).alloc (.cells #[.int .i64 p, .int .i64 s, .int .i64 k] 29)).alloc (.cells #[.int .i64 0, .int .i64 0, .int .i64 0] 34) := ⟨_, rfl⟩
  obtain ⟨hx, hy, hz, hb0, hsz⟩ := entry3 w A l.length c r p s k _ _ _ W hW
  have HF := Lib.hid (show ∀ u v, gdI l r = u → H.noteB p s k = v → nfR l r (p, s, k) = if (u && v) = true then noR l (p, s, k) else #[no3, .bool false] from fun u v h h' => by rw [← h, ← h']; rfl)
  go_enter Tryd.func16, Tryd.ntmps16
  go_wp2_with fail
  rw [← hW]
  clear hW hsz
  refine (inGood_any _ _ _ _ _ hn (hA.below hb0)).mono ?_
  rintro e w1 ⟨rfl, hb1⟩
  have hx := hx.below hb1
  have hy := hy.below hb1
  have hz := hz.below hb1
  have hB1 := hb0.trans (hb1.mono hb0.size)
  clear hb1 hb0
  have HB1 := Lib.hid hB1
  cases hg : gdI l r with
  | false =>
    obtain ⟨r0, r1, r2, e0, e1, e2, rl⟩ := hz
    clear hx hy hB1
    go_wp2
    exact bodyPost_ret (v := .tuple #[.agg #[.int .i64 0, .int .i64 0, .int .i64 0], .bool false]) (by simp [results, Tryd.results16, go_sem, *]) rfl ⟨by rw [HF.out _ _ hg rfl]; rfl, Below.set3 HB1.out (by omega) _ _ _⟩
  | true =>
    obtain ⟨y0, y1, y2, _, _, _, yl⟩ := id hy
    clear hB1
    go_wp2_with fail
    refine (H.ntNote_any _ _ _ _).mono ?_
    rintro e w2 ⟨rfl, hb2⟩
    have hx := hx.below hb2
    have hy := hy.below hb2
    have hz := hz.below hb2
    have hB2 := HB1.out.trans (hb2.mono HB1.out.size)
    have HB2 := Lib.hid hB2
    clear hb2 hB2 y0 y1 y2 yl
    cases hv : H.noteB p s k with
    | false =>
      obtain ⟨r0, r1, r2, e0, e1, e2, rl⟩ := hz
      clear hx hy
      go_wp2
      exact bodyPost_ret (v := .tuple #[.agg #[.int .i64 0, .int .i64 0, .int .i64 0], .bool false]) (by simp [results, Tryd.results16, go_sem, *]) rfl ⟨by rw [HF.out _ _ hg hv]; rfl, Below.set3 HB2.out (by omega) _ _ _⟩
    | true =>
      obtain ⟨y0, y1, y2, _, _, _, yl⟩ := hy
      obtain ⟨x0, x1, xl⟩ := hx
      go_wp2_with fail
      refine (laNote_any _ _ _ _ _ _ _ _ hn (hA.below HB2.out) hv).mono ?_
      rintro e w3 ⟨rfl, hb3⟩
      have hz := hz.below hb3
      have HB3 := Lib.hid (HB2.out.trans (hb3.mono HB2.out.size))
      have HFF := Lib.hid (HF.out _ _ hg hv)
      obtain ⟨a, b, d, ok, hR⟩ := noR_form l (p, s, k)
      rw [hR]
      have HR := Lib.hid hR
      obtain ⟨r0, r1, r2, e0, e1, e2, rl⟩ := hz
      clear hb3 hR y0 y1 y2 yl x0 x1 xl
      go_wp2
      exact bodyPost_ret (v := .tuple #[.agg #[.int .i64 a, .int .i64 b, .int .i64 d], .bool ok]) (by simp [results, Tryd.results16, go_sem, *]) rfl ⟨by rw [HFF.out]; simp only [Bool.and_self, if_true]; rw [HR.out], Below.set3 HB3.out (by omega) _ _ _⟩
set_option maxRecDepth 100000 in
set_option maxHeartbeats 4000000 in
theorem implNote_any (A : Option Addr) (l : List Int) (c : Nat) (r p s k : Int) (w : World) (hn : l.length ≤ 1048576) (hA : RI w A l) (hL : Lim w) :
    Calls Tryd.prog 18 #[.agg #[.slice A l.length c, .int .i64 r], .agg #[.int .i64 p, .int .i64 s, .int .i64 k]] w fun e w' => e = .returned (.tuple (nfR l r (p, s, k))) ∧ Below w.heap.size w w' := by
  obtain ⟨W, hW⟩ : ∃ W, W = ((w.alloc (.cells #[.slice A l.length c, .int .i64 r] 32)).alloc (.cells #[.int .i64 p, .int .i64 s, .int .i64 k] 29)).alloc (.cells #[.int .i64 0, .int .i64 0, .int .i64 0] 34) := ⟨_, rfl⟩
  obtain ⟨hx, hy, hz, hb0, hsz⟩ := entry3 w A l.length c r p s k _ _ _ W hW
  have HN1 := Lib.hid (show (gdI l r && inR p 0 ((l.length : Int) - 1)) = false → nfR l r (p, s, k) = #[no3, .bool false] from fun h => by
    unfold nfR noR
    split
    · rename_i hh
      simp only [Bool.and_eq_true] at hh
      rw [hh.1, Bool.true_and] at h
      rw [if_neg]
      intro hi
      have h1 := (isOf_iff _ _).1 hi
      have h2 := (H.noteN_iff _).1 hh.2
      simp only at h1 h2
      rw [inR_true (by omega) (by omega)] at h
      cases h
    · rfl)
  have HN2 := Lib.hid (show H.noteB p s k = false → nfR l r (p, s, k) = #[no3, .bool false] from fun h => by
    unfold nfR
    rw [if_neg]
    intro hh
    simp only [Bool.and_eq_true] at hh
    have h2 : H.noteB p s k = true := hh.2
    rw [h] at h2
    cases h2)
  go_enter Tryd.func18, Tryd.ntmps18
  go_wp2_with fail
  rw [← hW]
  clear hW hsz
  refine (implPitchOf_any _ _ _ _ _ _ hn (hA.below hb0) (hL.below hb0)).mono ?_
  rintro e w1 ⟨rfl, hb1⟩
  have hx := hx.below hb1
  have hy := hy.below hb1
  have hz := hz.below hb1
  have HB1 := Lib.hid (hb0.trans (hb1.mono hb0.size))
  clear hb1 hb0
  unfold poR
  cases hg : (gdI l r && inR p 0 ((l.length : Int) - 1)) with
  | false =>
    obtain ⟨r0, r1, r2, e0, e1, e2, rl⟩ := hz
    have HNN := Lib.hid (HN1.out hg)
    clear hx hy hg
    simp only [Bool.false_eq_true, if_false]
    go_wp2
    exact bodyPost_ret (v := .tuple #[.agg #[.int .i64 0, .int .i64 0, .int .i64 0], .bool false]) (by simp [results, Tryd.results18, go_sem, *]) rfl ⟨by rw [HNN.out]; rfl, Below.set3 HB1.out (by omega) _ _ _⟩
  | true =>
    have hg2 := hg
    simp only [Bool.and_eq_true] at hg2
    obtain ⟨hgd, hin⟩ := hg2
    have hin : 0 ≤ p ∧ p ≤ (l.length : Int) - 1 := by simpa [inR] using hin
    simp only [if_true]
    have hinc := ((gdI_iff l r).1 hgd).2.1.inc
    have HEQ := Lib.hid (fun (hv : H.noteB p s k = true) => holeN_noteOf (h := (p, s, k)) hinc hv (show p < (l.length : Int) from by omega))
    have HOF := Lib.hid (show H.noteB p s k = true → nfR l r (p, s, k) = noR l (p, s, k) from fun hv => by
      unfold nfR
      rw [if_pos]
      simp only [Bool.and_eq_true]
      exact ⟨hgd, hv⟩)
    have HNE := Lib.hid (show ¬ (s % 2 = 0 ∧ k % 2 = 1) → noR l (p, s, k) = #[no3, .bool false] from fun h => by
      unfold noR
      rw [if_neg]
      intro hh
      have := (isOf_iff _ _).1 hh
      exact h ⟨this.2.1, this.2.2.1⟩)
    have HYE := Lib.hid (show (s % 2 = 0 ∧ k % 2 = 1) → ∀ q, noteB (l.getD p.toNat 0) (s / 2) ((k - s + 1) / 2) = q → noR l (p, s, k) = if q = true then #[nt3 (l.getD p.toNat 0, s / 2, (k - s + 1) / 2), .bool true] else #[no3, .bool false] from fun h q hq => by
      have eh : (k - s + 1) / 2 = (k + 1) / 2 - s / 2 := half_same (h := (p, s, k)) h.1 h.2
      rw [eh] at hq ⊢
      unfold noR
      rw [← hq]
      have e : isOf l (p, s, k) = noteB (l.getD p.toNat 0) (s / 2) ((k + 1) / 2 - s / 2) := by
        unfold isOf
        have hpl : p < (l.length : Int) := by omega
        simp only [hpl, h.1, h.2, decide_true, Bool.true_and]
        rfl
      rw [e]; rfl)
    have HFR := Lib.hid (fun (x : Nt) => show hfR l r x = if noteN x = true then hoR l x else #[no3, .bool false] from by
      unfold hfR
      rw [hgd, Bool.true_and])
    have HG := Lib.hid hg
    clear hg hin hinc hgd
    generalize l.getD p.toNat 0 = t at *
    obtain ⟨y0, y1, y2, _, _, _, yl⟩ := id hy
    go_wp2_with fail
    refine (H.implIsNote_any _ _ _ _).mono ?_
    rintro e w2 ⟨rfl, hb2⟩
    have hx := hx.below hb2
    have hy := hy.below hb2
    have hz := hz.below hb2
    have HB2 := Lib.hid (HB1.out.trans (hb2.mono HB1.out.size))
    clear hb2 y0 y1 y2 yl
    cases hv : H.noteB p s k with
    | false =>
      obtain ⟨r0, r1, r2, e0, e1, e2, rl⟩ := hz
      have HFF := Lib.hid (HN2.out hv)
      clear hx hy
      go_wp2
      exact bodyPost_ret (v := .tuple #[.agg #[.int .i64 0, .int .i64 0, .int .i64 0], .bool false]) (by simp [results, Tryd.results18, go_sem, *]) rfl ⟨by rw [HFF.out]; rfl, Below.set3 HB2.out (by omega) _ _ _⟩
    | true =>
      have hvv := (H.noteN_iff (p, s, k)).1 hv
      simp only at hvv
      have HEQ := Lib.hid (HEQ.out hv)
      have HOF := Lib.hid (HOF.out hv)
      have d1 := tdiv2 (x := s) (by omega)
      have d2 := tdiv2 (x := k - s + 1) (by omega)
      have m1 : IntKind.i64.wrap (k - s) = k - s := IntWalk.i64_in _ (by omega)
      have m2 : IntKind.i64.wrap (k - s + 1) = k - s + 1 := IntWalk.i64_in _ (by omega)
      have m3 : IntKind.i64.wrap (s / 2) = s / 2 := IntWalk.i64_in _ (by omega)
      have m4 : IntKind.i64.wrap ((k - s + 1) / 2) = (k - s + 1) / 2 := IntWalk.i64_in _ (by omega)
      obtain ⟨y0, y1, y2, _, _, _, yl⟩ := id hy
      obtain ⟨x0, x1, xl⟩ := id hx
      have hb3 : Below w2.heap.size w2 (w2.alloc (.cells #[.int .i64 t, .int .i64 (s / 2), .int .i64 ((k - s + 1) / 2)] 34)) := (Below.refl _ _).alloc (Nat.le_refl _) _
      have hn3 := Res3.new w2 t (s / 2) ((k - s + 1) / 2) 34
      have hA3 := (hA.below HB2.out).below hb3
      have hL3 := (hL.below HB2.out).below hb3
      have hx := hx.below hb3
      have hy := hy.below hb3
      have hz := hz.below hb3
      have HB3 := Lib.hid (HB2.out.trans (hb3.mono HB2.out.size))
      go_wp2_with fail
      generalize w2.alloc (.cells #[.int .i64 t, .int .i64 (s / 2), .int .i64 ((k - s + 1) / 2)] 34) = W3 at *
      generalize w2.heap.size = g at *
      refine (implHole_any _ _ _ _ _ _ _ _ hn hA3 hL3).mono ?_
      rintro e w4 ⟨rfl, hb4⟩
      rw [HFR.out]
      have hx := hx.below hb4
      have hy := hy.below hb4
      have hz := hz.below hb4
      have hn4 := hn3.below hb4
      have HB4 := Lib.hid (HB3.out.trans (hb4.mono HB3.out.size))
      clear x0 x1 xl y0 y1 y2 yl hb3 hb4 hn3 hA3 hL3
      have HYE := HYE
      cases hN : noteN (t, s / 2, (k - s + 1) / 2) with
      | false =>
        have HE := Lib.hid (show nfR l r (p, s, k) = #[no3, .bool false] from by
          rw [HOF.out]
          by_cases he : s % 2 = 0 ∧ k % 2 = 1
          · rw [HYE.out he _ hN]; rfl
          · exact HNE.out he)
        obtain ⟨r0, r1, r2, e0, e1, e2, rl⟩ := hz
        clear hx hy hn4 hN
        simp only [Bool.false_eq_true, if_false, no3]
        go_wp2
        exact bodyPost_ret (v := .tuple #[.agg #[.int .i64 0, .int .i64 0, .int .i64 0], .bool false]) (by simp [results, Tryd.results18, go_sem, *]) rfl ⟨by rw [HE.out]; rfl, by first | exact (Below.set3 HB4.out (by omega) _ _ _).alloc (Below.set3 HB4.out (by omega) _ _ _).size _ | exact Below.set3 (HB4.out.alloc HB4.out.size _) (by omega) _ _ _⟩
      | true =>
        have HNN := Lib.hid hN
        clear hN
        simp only [if_true]
        unfold hoR
        cases hH : H.noteN (holeN l (t, s / 2, (k - s + 1) / 2)) with
        | false =>
          have HE := Lib.hid (show nfR l r (p, s, k) = #[no3, .bool false] from by
            rw [HOF.out]
            refine HNE.out fun he => ?_
            have h1 := HEQ.out.2 he
            have h2 : H.noteN (p, s, k) = true := hv
            rw [← h1, hH] at h2
            cases h2)
          obtain ⟨r0, r1, r2, e0, e1, e2, rl⟩ := hz
          clear hx hy hn4 hH
          simp only [Bool.false_eq_true, if_false, no3]
          go_wp2
          exact bodyPost_ret (v := .tuple #[.agg #[.int .i64 0, .int .i64 0, .int .i64 0], .bool false]) (by simp [results, Tryd.results18, go_sem, *]) rfl ⟨by rw [HE.out]; rfl, by first | exact (Below.set3 HB4.out (by omega) _ _ _).alloc (Below.set3 HB4.out (by omega) _ _ _).size _ | exact Below.set3 (HB4.out.alloc HB4.out.size _) (by omega) _ _ _⟩
        | true =>
          simp only [if_true, nt3, holeN]
          by_cases he : s % 2 = 0 ∧ k % 2 = 1
          · have h1 := HEQ.out.2 he
            simp only [holeN, Prod.mk.injEq] at h1
            obtain ⟨h1, h2, h3⟩ := h1
            rw [h1, h2, h3]
            have HE := Lib.hid (show nfR l r (p, s, k) = #[nt3 (t, s / 2, (k - s + 1) / 2), .bool true] from by
              rw [HOF.out, HYE.out he _ HNN.out]; rfl)
            obtain ⟨r0, r1, r2, e0, e1, e2, rl⟩ := hz
            obtain ⟨y0, y1, y2, _, _, _, yl⟩ := hy
            obtain ⟨v0, v1, v2, _, _, _, vl⟩ := hn4
            clear hx hH h1 h2 h3 he
            go_wp2
            exact bodyPost_ret (v := .tuple #[.agg #[.int .i64 t, .int .i64 (s / 2), .int .i64 ((k - s + 1) / 2)], .bool true]) (by simp [results, Tryd.results18, go_sem, *]) rfl ⟨by rw [HE.out]; rfl, by first | exact (Below.set3 HB4.out (by omega) _ _ _).alloc (Below.set3 HB4.out (by omega) _ _ _).size _ | exact Below.set3 (HB4.out.alloc HB4.out.size _) (by omega) _ _ _⟩
          · have HE := Lib.hid (show nfR l r (p, s, k) = #[no3, .bool false] from by rw [HOF.out]; exact HNE.out he)
            have hdis : ¬ (2 * (s / 2) = s ∧ 2 * (s / 2 + (k - s + 1) / 2) - 1 = k) := by omega
            generalize trk t l = a at *
            generalize 2 * (s / 2) = b at *
            generalize 2 * (s / 2 + (k - s + 1) / 2) - 1 = d at *
            obtain ⟨r0, r1, r2, e0, e1, e2, rl⟩ := hz
            obtain ⟨y0, y1, y2, _, _, _, yl⟩ := hy
            clear hx hH hn4 he
            by_cases hbs : b = s
            · have hds : d ≠ k := fun h => hdis ⟨hbs, h⟩
              subst hbs
              by_cases hap : a = p
              · subst hap
                go_wp2
                exact bodyPost_ret (v := .tuple #[.agg #[.int .i64 0, .int .i64 0, .int .i64 0], .bool false]) (by simp [results, Tryd.results18, go_sem, *]) rfl ⟨by rw [HE.out]; rfl, by first | exact (Below.set3 HB4.out (by omega) _ _ _).alloc (Below.set3 HB4.out (by omega) _ _ _).size _ | exact Below.set3 (HB4.out.alloc HB4.out.size _) (by omega) _ _ _⟩
              · go_wp2
                exact bodyPost_ret (v := .tuple #[.agg #[.int .i64 0, .int .i64 0, .int .i64 0], .bool false]) (by simp [results, Tryd.results18, go_sem, *]) rfl ⟨by rw [HE.out]; rfl, by first | exact (Below.set3 HB4.out (by omega) _ _ _).alloc (Below.set3 HB4.out (by omega) _ _ _).size _ | exact Below.set3 (HB4.out.alloc HB4.out.size _) (by omega) _ _ _⟩
            · by_cases hap : a = p
              · subst hap
                go_wp2
                exact bodyPost_ret (v := .tuple #[.agg #[.int .i64 0, .int .i64 0, .int .i64 0], .bool false]) (by simp [results, Tryd.results18, go_sem, *]) rfl ⟨by rw [HE.out]; rfl, by first | exact (Below.set3 HB4.out (by omega) _ _ _).alloc (Below.set3 HB4.out (by omega) _ _ _).size _ | exact Below.set3 (HB4.out.alloc HB4.out.size _) (by omega) _ _ _⟩
              · go_wp2
                exact bodyPost_ret (v := .tuple #[.agg #[.int .i64 0, .int .i64 0, .int .i64 0], .bool false]) (by simp [results, Tryd.results18, go_sem, *]) rfl ⟨by rw [HE.out]; rfl, by first | exact (Below.set3 HB4.out (by omega) _ _ _).alloc (Below.set3 HB4.out (by omega) _ _ _).size _ | exact Below.set3 (HB4.out.alloc HB4.out.size _) (by omega) _ _ _⟩
end Go.Proofs.YtkfgmkgbicahgaaDoor
