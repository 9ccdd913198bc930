/- Texts of the proof, run together: InsO, LayM, Made, Miss, Miss2, OpenV. -/
import Derived.Test.YtkfgmkgbicahgaaDoorM8q
import Derived.ChangeSlices
import Derived.Test.YtkfgmkgbicahgaaDoorM2q
import Derived.Test.YtkfgmkgbicahgaaDoorM6q
import Derived.Test.YtkfgmkgbicahgaaDoorM4q
import Derived.Test.YtkfgmkgbicahgaaDoorM7q
import Derived.Sort.OwnSortedInts
import Derived.Test.YtkfgmkgbicahgaaDoorM1q
import Derived.Deep.Slices
import Derived.Deep.Fields
import Derived.ChangeSame
import Derived.OpenShut
namespace Go.Proofs.YtkfgmkgbicahgaaDoor
open Go.ChangeShapes Go.WideShapes Go.ChangeAt Go.RowKit Go.Sort Go.Deep Go.Joins
set_option linter.unusedVariables false

section
variable {H : Type} {enc : TypeId × Value → H} {w : World} {base : Nat} {spare : Nat → Bool} {held : Bool}
theorem open_ints_RI {fuel : Nat} {v : Value} {x : DataW H × List MemPlace} (h : DataW.trod enc Tryd.prog w base spare held fuel 22 [v] = some x) :
    ∃ (A : Option Addr) (l : List Int) (c : Nat), v = .slice A l.length c ∧ l.length ≤ c ∧ c ≤ maxLen ∧ RI w A l := by
  rcases open_ints Tryd.underlying22 Tryd.underlying3 (by kernel_rfl) h with ⟨hcs, hx⟩ | ⟨a, len, cap, zs, hcs, hb, hl, hm, hlen, hx, hc, hwf⟩
  · simp only [List.cons.injEq, and_true] at hcs
    subst hcs
    exact ⟨none, [], 0, rfl, Nat.le_refl _, Nat.zero_le _, fun k x hx => by simp at hx⟩
  · simp only [List.cons.injEq, and_true] at hcs
    subst hcs
    have hle : len ≤ zs.length := by rw [hlen]; split <;> omega
    have hL : (zs.take len).length = len := by simp; omega
    refine ⟨some a, zs.take len, cap, by rw [hL], by rw [hL]; exact hl, hm, fun k x hkx => ?_⟩
    have hkl : k < len := by have := (List.getElem?_eq_some_iff.1 hkx).1; omega
    rw [List.getElem?_take, if_pos hkl] at hkx
    have h0 := hc k (by omega)
    rw [List.getD_eq_getElem?_getD, hkx] at h0
    obtain ⟨b, off, spot⟩ := a
    have hspot : spot = none := by
      have hz := hc 0 (by omega)
      simpa [Addr.add] using World.cell?_spot hz
    subst hspot
    rw [Go.WideShapes.add_plain] at h0
    exact ⟨b, off, rfl, World.block_lt_of_cell? w _ h0, h0⟩
set_option maxRecDepth 1000000 in
theorem open_ins {v : Value} {d : DataW H} {ps : List MemPlace} {r : Reach} {b0 : Nat} (hv : Value.okWide Tryd.prog w r b0 24 v) (h : DataW.Trod enc Tryd.prog w base spare held 24 v d ps) :
    ∃ (A : Option Addr) (l : List Int) (c : Nat) (q : Int), v = .agg #[.slice A l.length c, .int .i64 q] ∧ l.length ≤ c ∧ c ≤ maxLen ∧ RI w A l := by
  obtain ⟨v0, v1, y0, y1, n, rfl, _, _, h0, h1⟩ := open_agg2 Tryd.underlying24 (by kernel_rfl) (by kernel_rfl) hv h
  obtain ⟨A, l, c, rfl, a, b, hr⟩ := open_ints_RI h0
  obtain ⟨q, e0, _, _⟩ := DataW.trod_int Tryd.underlying3 (h1.trans rfl)
  simp at e0
  subst e0
  exact ⟨A, l, c, q, rfl, a, b, hr⟩
end
end Go.Proofs.YtkfgmkgbicahgaaDoor

namespace Go.Proofs.YtkfgmkgbicahgaaDoor
open Go.RowKit Go.Sort
set_option linter.unusedVariables false
set_option linter.unusedSimpArgs false

/-- The note of a hole, if there is one. -/
def nfR (P : List Int) (r : Int) (x : Nt) : Array Value := if (gdI P r && H.noteN x) = true then noR P x else #[no3, .bool false]

set_option maxRecDepth 100000 in
set_option maxHeartbeats 4000000 in
theorem specNote_any (A : Option Addr) (l : List Int) (c : Nat) (r p s k : Int) (w : World) (hn : l.length ≤ 1048576) (hA : RI w A l) :
    Calls Tryd.prog 16 #[.agg #[.slice A l.length c, .int .i64 r], .agg #[.int .i64 p, .int .i64 s, .int .i64 k]] w fun e w' => e = .returned (.tuple (nfR l r (p, s, k))) ∧ Below w.heap.size w w' := by
  obtain ⟨W, hW⟩ : ∃ W, W = ((w.alloc (.cells #[.slice A l.length c, .int .i64 r] 32)).alloc (.cells #[.int .i64 p, .int .i64 s, .int .i64 k] 29)).alloc (.cells #[.int .i64 0, .int .i64 0, .int .i64 0] 34) := ⟨_, rfl⟩
  obtain ⟨hx, hy, hz, hb0, hsz⟩ := entry3 w A l.length c r p s k _ _ _ W hW
  have HF := Lib.hid (show ∀ u v, gdI l r = u → H.noteB p s k = v → nfR l r (p, s, k) = if (u && v) = true then noR l (p, s, k) else #[no3, .bool false] from fun u v h h' => by rw [← h, ← h']; rfl)
  go_enter Tryd.func16, Tryd.ntmps16
  go_wp2_with fail
  rw [← hW]
  clear hW hsz
  refine (inGood_any _ _ _ _ _ hn (hA.below hb0)).mono ?_
  rintro e w1 ⟨rfl, hb1⟩
  have hx := hx.below hb1
  have hy := hy.below hb1
  have hz := hz.below hb1
  have hB1 := hb0.trans (hb1.mono hb0.size)
  clear hb1 hb0
  have HB1 := Lib.hid hB1
  cases hg : gdI l r with
  | false =>
    obtain ⟨r0, r1, r2, e0, e1, e2, rl⟩ := hz
    clear hx hy hB1
    go_wp2
    exact bodyPost_ret (v := .tuple #[.agg #[.int .i64 0, .int .i64 0, .int .i64 0], .bool false]) (by simp [results, Tryd.results16, go_sem, *]) rfl ⟨by rw [HF.out _ _ hg rfl]; rfl, Below.set3 HB1.out (by omega) _ _ _⟩
  | true =>
    obtain ⟨y0, y1, y2, _, _, _, yl⟩ := id hy
    clear hB1
    go_wp2_with fail
    refine (H.ntNote_any _ _ _ _).mono ?_
    rintro e w2 ⟨rfl, hb2⟩
    have hx := hx.below hb2
    have hy := hy.below hb2
    have hz := hz.below hb2
    have hB2 := HB1.out.trans (hb2.mono HB1.out.size)
    have HB2 := Lib.hid hB2
    clear hb2 hB2 y0 y1 y2 yl
    cases hv : H.noteB p s k with
    | false =>
      obtain ⟨r0, r1, r2, e0, e1, e2, rl⟩ := hz
      clear hx hy
      go_wp2
      exact bodyPost_ret (v := .tuple #[.agg #[.int .i64 0, .int .i64 0, .int .i64 0], .bool false]) (by simp [results, Tryd.results16, go_sem, *]) rfl ⟨by rw [HF.out _ _ hg hv]; rfl, Below.set3 HB2.out (by omega) _ _ _⟩
    | true =>
      obtain ⟨y0, y1, y2, _, _, _, yl⟩ := hy
      obtain ⟨x0, x1, xl⟩ := hx
      go_wp2_with fail
      refine (laNote_any _ _ _ _ _ _ _ _ hn (hA.below HB2.out) hv).mono ?_
      rintro e w3 ⟨rfl, hb3⟩
      have hz := hz.below hb3
      have HB3 := Lib.hid (HB2.out.trans (hb3.mono HB2.out.size))
      have HFF := Lib.hid (HF.out _ _ hg hv)
      obtain ⟨a, b, d, ok, hR⟩ := noR_form l (p, s, k)
      rw [hR]
      have HR := Lib.hid hR
      obtain ⟨r0, r1, r2, e0, e1, e2, rl⟩ := hz
      clear hb3 hR y0 y1 y2 yl x0 x1 xl
      go_wp2
      exact bodyPost_ret (v := .tuple #[.agg #[.int .i64 a, .int .i64 b, .int .i64 d], .bool ok]) (by simp [results, Tryd.results16, go_sem, *]) rfl ⟨by rw [HFF.out]; simp only [Bool.and_self, if_true]; rw [HR.out], Below.set3 HB3.out (by omega) _ _ _⟩
set_option maxRecDepth 100000 in
set_option maxHeartbeats 4000000 in
theorem implNote_any (A : Option Addr) (l : List Int) (c : Nat) (r p s k : Int) (w : World) (hn : l.length ≤ 1048576) (hA : RI w A l) (hL : Lim w) :
    Calls Tryd.prog 18 #[.agg #[.slice A l.length c, .int .i64 r], .agg #[.int .i64 p, .int .i64 s, .int .i64 k]] w fun e w' => e = .returned (.tuple (nfR l r (p, s, k))) ∧ Below w.heap.size w w' := by
  obtain ⟨W, hW⟩ : ∃ W, W = ((w.alloc (.cells #[.slice A l.length c, .int .i64 r] 32)).alloc (.cells #[.int .i64 p, .int .i64 s, .int .i64 k] 29)).alloc (.cells #[.int .i64 0, .int .i64 0, .int .i64 0] 34) := ⟨_, rfl⟩
  obtain ⟨hx, hy, hz, hb0, hsz⟩ := entry3 w A l.length c r p s k _ _ _ W hW
  have HN1 := Lib.hid (show (gdI l r && inR p 0 ((l.length : Int) - 1)) = false → nfR l r (p, s, k) = #[no3, .bool false] from fun h => by
    unfold nfR noR
    split
    · rename_i hh
      simp only [Bool.and_eq_true] at hh
      rw [hh.1, Bool.true_and] at h
      rw [if_neg]
      intro hi
      have h1 := (isOf_iff _ _).1 hi
      have h2 := (H.noteN_iff _).1 hh.2
      simp only at h1 h2
      rw [inR_true (by omega) (by omega)] at h
      cases h
    · rfl)
  have HN2 := Lib.hid (show H.noteB p s k = false → nfR l r (p, s, k) = #[no3, .bool false] from fun h => by
    unfold nfR
    rw [if_neg]
    intro hh
    simp only [Bool.and_eq_true] at hh
    have h2 : H.noteB p s k = true := hh.2
    rw [h] at h2
    cases h2)
  go_enter Tryd.func18, Tryd.ntmps18
  go_wp2_with fail
  rw [← hW]
  clear hW hsz
  refine (implPitchOf_any _ _ _ _ _ _ hn (hA.below hb0) (hL.below hb0)).mono ?_
  rintro e w1 ⟨rfl, hb1⟩
  have hx := hx.below hb1
  have hy := hy.below hb1
  have hz := hz.below hb1
  have HB1 := Lib.hid (hb0.trans (hb1.mono hb0.size))
  clear hb1 hb0
  unfold poR
  cases hg : (gdI l r && inR p 0 ((l.length : Int) - 1)) with
  | false =>
    obtain ⟨r0, r1, r2, e0, e1, e2, rl⟩ := hz
    have HNN := Lib.hid (HN1.out hg)
    clear hx hy hg
    simp only [Bool.false_eq_true, if_false]
    go_wp2
    exact bodyPost_ret (v := .tuple #[.agg #[.int .i64 0, .int .i64 0, .int .i64 0], .bool false]) (by simp [results, Tryd.results18, go_sem, *]) rfl ⟨by rw [HNN.out]; rfl, Below.set3 HB1.out (by omega) _ _ _⟩
  | true =>
    have hg2 := hg
    simp only [Bool.and_eq_true] at hg2
    obtain ⟨hgd, hin⟩ := hg2
    have hin : 0 ≤ p ∧ p ≤ (l.length : Int) - 1 := by simpa [inR] using hin
    simp only [if_true]
    have hinc := ((gdI_iff l r).1 hgd).2.1.inc
    have HEQ := Lib.hid (fun (hv : H.noteB p s k = true) => holeN_noteOf (h := (p, s, k)) hinc hv (show p < (l.length : Int) from by omega))
    have HOF := Lib.hid (show H.noteB p s k = true → nfR l r (p, s, k) = noR l (p, s, k) from fun hv => by
      unfold nfR
      rw [if_pos]
      simp only [Bool.and_eq_true]
      exact ⟨hgd, hv⟩)
    have HNE := Lib.hid (show ¬ (s % 2 = 0 ∧ k % 2 = 1) → noR l (p, s, k) = #[no3, .bool false] from fun h => by
      unfold noR
      rw [if_neg]
      intro hh
      have := (isOf_iff _ _).1 hh
      exact h ⟨this.2.1, this.2.2.1⟩)
    have HYE := Lib.hid (show (s % 2 = 0 ∧ k % 2 = 1) → ∀ q, noteB (l.getD p.toNat 0) (s / 2) ((k - s + 1) / 2) = q → noR l (p, s, k) = if q = true then #[nt3 (l.getD p.toNat 0, s / 2, (k - s + 1) / 2), .bool true] else #[no3, .bool false] from fun h q hq => by
      have eh : (k - s + 1) / 2 = (k + 1) / 2 - s / 2 := half_same (h := (p, s, k)) h.1 h.2
      rw [eh] at hq ⊢
      unfold noR
      rw [← hq]
      have e : isOf l (p, s, k) = noteB (l.getD p.toNat 0) (s / 2) ((k + 1) / 2 - s / 2) := by
        unfold isOf
        have hpl : p < (l.length : Int) := by omega
        simp only [hpl, h.1, h.2, decide_true, Bool.true_and]
        rfl
      rw [e]; rfl)
    have HFR := Lib.hid (fun (x : Nt) => show hfR l r x = if noteN x = true then hoR l x else #[no3, .bool false] from by
      unfold hfR
      rw [hgd, Bool.true_and])
    have HG := Lib.hid hg
    clear hg hin hinc hgd
    generalize l.getD p.toNat 0 = t at *
    obtain ⟨y0, y1, y2, _, _, _, yl⟩ := id hy
    go_wp2_with fail
    refine (H.implIsNote_any _ _ _ _).mono ?_
    rintro e w2 ⟨rfl, hb2⟩
    have hx := hx.below hb2
    have hy := hy.below hb2
    have hz := hz.below hb2
    have HB2 := Lib.hid (HB1.out.trans (hb2.mono HB1.out.size))
    clear hb2 y0 y1 y2 yl
    cases hv : H.noteB p s k with
    | false =>
      obtain ⟨r0, r1, r2, e0, e1, e2, rl⟩ := hz
      have HFF := Lib.hid (HN2.out hv)
      clear hx hy
      go_wp2
      exact bodyPost_ret (v := .tuple #[.agg #[.int .i64 0, .int .i64 0, .int .i64 0], .bool false]) (by simp [results, Tryd.results18, go_sem, *]) rfl ⟨by rw [HFF.out]; rfl, Below.set3 HB2.out (by omega) _ _ _⟩
    | true =>
      have hvv := (H.noteN_iff (p, s, k)).1 hv
      simp only at hvv
      have HEQ := Lib.hid (HEQ.out hv)
      have HOF := Lib.hid (HOF.out hv)
      have d1 := tdiv2 (x := s) (by omega)
      have d2 := tdiv2 (x := k - s + 1) (by omega)
      have m1 : IntKind.i64.wrap (k - s) = k - s := IntWalk.i64_in _ (by omega)
      have m2 : IntKind.i64.wrap (k - s + 1) = k - s + 1 := IntWalk.i64_in _ (by omega)
      have m3 : IntKind.i64.wrap (s / 2) = s / 2 := IntWalk.i64_in _ (by omega)
      have m4 : IntKind.i64.wrap ((k - s + 1) / 2) = (k - s + 1) / 2 := IntWalk.i64_in _ (by omega)
      obtain ⟨y0, y1, y2, _, _, _, yl⟩ := id hy
      obtain ⟨x0, x1, xl⟩ := id hx
      have hb3 : Below w2.heap.size w2 (w2.alloc (.cells #[.int .i64 t, .int .i64 (s / 2), .int .i64 ((k - s + 1) / 2)] 34)) := (Below.refl _ _).alloc (Nat.le_refl _) _
      have hn3 := Res3.new w2 t (s / 2) ((k - s + 1) / 2) 34
      have hA3 := (hA.below HB2.out).below hb3
      have hL3 := (hL.below HB2.out).below hb3
      have hx := hx.below hb3
      have hy := hy.below hb3
      have hz := hz.below hb3
      have HB3 := Lib.hid (HB2.out.trans (hb3.mono HB2.out.size))
      go_wp2_with fail
      generalize w2.alloc (.cells #[.int .i64 t, .int .i64 (s / 2), .int .i64 ((k - s + 1) / 2)] 34) = W3 at *
      generalize w2.heap.size = g at *
      refine (implHole_any _ _ _ _ _ _ _ _ hn hA3 hL3).mono ?_
      rintro e w4 ⟨rfl, hb4⟩
      rw [HFR.out]
      have hx := hx.below hb4
      have hy := hy.below hb4
      have hz := hz.below hb4
      have hn4 := hn3.below hb4
      have HB4 := Lib.hid (HB3.out.trans (hb4.mono HB3.out.size))
      clear x0 x1 xl y0 y1 y2 yl hb3 hb4 hn3 hA3 hL3
      have HYE := HYE
      cases hN : noteN (t, s / 2, (k - s + 1) / 2) with
      | false =>
        have HE := Lib.hid (show nfR l r (p, s, k) = #[no3, .bool false] from by
          rw [HOF.out]
          by_cases he : s % 2 = 0 ∧ k % 2 = 1
          · rw [HYE.out he _ hN]; rfl
          · exact HNE.out he)
        obtain ⟨r0, r1, r2, e0, e1, e2, rl⟩ := hz
        clear hx hy hn4 hN
        simp only [Bool.false_eq_true, if_false, no3]
        go_wp2
        exact bodyPost_ret (v := .tuple #[.agg #[.int .i64 0, .int .i64 0, .int .i64 0], .bool false]) (by simp [results, Tryd.results18, go_sem, *]) rfl ⟨by rw [HE.out]; rfl, by first | exact (Below.set3 HB4.out (by omega) _ _ _).alloc (Below.set3 HB4.out (by omega) _ _ _).size _ | exact Below.set3 (HB4.out.alloc HB4.out.size _) (by omega) _ _ _⟩
      | true =>
        have HNN := Lib.hid hN
        clear hN
        simp only [if_true]
        unfold hoR
        cases hH : H.noteN (holeN l (t, s / 2, (k - s + 1) / 2)) with
        | false =>
          have HE := Lib.hid (show nfR l r (p, s, k) = #[no3, .bool false] from by
            rw [HOF.out]
            refine HNE.out fun he => ?_
            have h1 := HEQ.out.2 he
            have h2 : H.noteN (p, s, k) = true := hv
            rw [← h1, hH] at h2
            cases h2)
          obtain ⟨r0, r1, r2, e0, e1, e2, rl⟩ := hz
          clear hx hy hn4 hH
          simp only [Bool.false_eq_true, if_false, no3]
          go_wp2
          exact bodyPost_ret (v := .tuple #[.agg #[.int .i64 0, .int .i64 0, .int .i64 0], .bool false]) (by simp [results, Tryd.results18, go_sem, *]) rfl ⟨by rw [HE.out]; rfl, by first | exact (Below.set3 HB4.out (by omega) _ _ _).alloc (Below.set3 HB4.out (by omega) _ _ _).size _ | exact Below.set3 (HB4.out.alloc HB4.out.size _) (by omega) _ _ _⟩
        | true =>
          simp only [if_true, nt3, holeN]
          by_cases he : s % 2 = 0 ∧ k % 2 = 1
          · have h1 := HEQ.out.2 he
            simp only [holeN, Prod.mk.injEq] at h1
            obtain ⟨h1, h2, h3⟩ := h1
            rw [h1, h2, h3]
            have HE := Lib.hid (show nfR l r (p, s, k) = #[nt3 (t, s / 2, (k - s + 1) / 2), .bool true] from by
              rw [HOF.out, HYE.out he _ HNN.out]; rfl)
            obtain ⟨r0, r1, r2, e0, e1, e2, rl⟩ := hz
            obtain ⟨y0, y1, y2, _, _, _, yl⟩ := hy
            obtain ⟨v0, v1, v2, _, _, _, vl⟩ := hn4
            clear hx hH h1 h2 h3 he
            go_wp2
            exact bodyPost_ret (v := .tuple #[.agg #[.int .i64 t, .int .i64 (s / 2), .int .i64 ((k - s + 1) / 2)], .bool true]) (by simp [results, Tryd.results18, go_sem, *]) rfl ⟨by rw [HE.out]; rfl, by first | exact (Below.set3 HB4.out (by omega) _ _ _).alloc (Below.set3 HB4.out (by omega) _ _ _).size _ | exact Below.set3 (HB4.out.alloc HB4.out.size _) (by omega) _ _ _⟩
          · have HE := Lib.hid (show nfR l r (p, s, k) = #[no3, .bool false] from by rw [HOF.out]; exact HNE.out he)
            have hdis : ¬ (2 * (s / 2) = s ∧ 2 * (s / 2 + (k - s + 1) / 2) - 1 = k) := by omega
            generalize trk t l = a at *
            generalize 2 * (s / 2) = b at *
            generalize 2 * (s / 2 + (k - s + 1) / 2) - 1 = d at *
            obtain ⟨r0, r1, r2, e0, e1, e2, rl⟩ := hz
            obtain ⟨y0, y1, y2, _, _, _, yl⟩ := hy
            clear hx hH hn4 he
            by_cases hbs : b = s
            · have hds : d ≠ k := fun h => hdis ⟨hbs, h⟩
              subst hbs
              by_cases hap : a = p
              · subst hap
                go_wp2
                exact bodyPost_ret (v := .tuple #[.agg #[.int .i64 0, .int .i64 0, .int .i64 0], .bool false]) (by simp [results, Tryd.results18, go_sem, *]) rfl ⟨by rw [HE.out]; rfl, by first | exact (Below.set3 HB4.out (by omega) _ _ _).alloc (Below.set3 HB4.out (by omega) _ _ _).size _ | exact Below.set3 (HB4.out.alloc HB4.out.size _) (by omega) _ _ _⟩
              · go_wp2
                exact bodyPost_ret (v := .tuple #[.agg #[.int .i64 0, .int .i64 0, .int .i64 0], .bool false]) (by simp [results, Tryd.results18, go_sem, *]) rfl ⟨by rw [HE.out]; rfl, by first | exact (Below.set3 HB4.out (by omega) _ _ _).alloc (Below.set3 HB4.out (by omega) _ _ _).size _ | exact Below.set3 (HB4.out.alloc HB4.out.size _) (by omega) _ _ _⟩
            · by_cases hap : a = p
              · subst hap
                go_wp2
                exact bodyPost_ret (v := .tuple #[.agg #[.int .i64 0, .int .i64 0, .int .i64 0], .bool false]) (by simp [results, Tryd.results18, go_sem, *]) rfl ⟨by rw [HE.out]; rfl, by first | exact (Below.set3 HB4.out (by omega) _ _ _).alloc (Below.set3 HB4.out (by omega) _ _ _).size _ | exact Below.set3 (HB4.out.alloc HB4.out.size _) (by omega) _ _ _⟩
              · go_wp2
                exact bodyPost_ret (v := .tuple #[.agg #[.int .i64 0, .int .i64 0, .int .i64 0], .bool false]) (by simp [results, Tryd.results18, go_sem, *]) rfl ⟨by rw [HE.out]; rfl, by first | exact (Below.set3 HB4.out (by omega) _ _ _).alloc (Below.set3 HB4.out (by omega) _ _ _).size _ | exact Below.set3 (HB4.out.alloc HB4.out.size _) (by omega) _ _ _⟩
end Go.Proofs.YtkfgmkgbicahgaaDoor

namespace Go.Proofs.YtkfgmkgbicahgaaDoor
open Go.RowKit Go.Sort
set_option linter.unusedVariables false
set_option linter.unusedSimpArgs false

theorem made_new (w : World) (n : Nat) (hn : n ≤ 1048576) (t : TypeId) : Own (w.alloc (.cells (madeCells #[.int .i64 0, .int .i64 0, .int .i64 0] (n * 3)) t)) w.heap.size t (.slice (some ⟨w.heap.size, 0, none⟩) n n) (List.replicate n (0, 0, 0)) := by
  have h := World.ownsRow_lit (base := w.heap.size) (e := t) (size := 3) w (madeCells #[.int .i64 0, .int .i64 0, .int .i64 0] (n * 3)) n (Nat.le_refl _) (by unfold maxLen; omega) (size_madeCells _ _)
  rw [made_cl] at h
  simpa [Own] using h
theorem Own.cells3 {w : World} {base t g n : Nat} {L : List Nt} (h : Own w base t (.slice (Option.some ⟨g, 0, none⟩) n n) L) (hL : L.length = n) (k : Nat) (hk : k < n) :
    (∃ u, w.cell? ⟨g, k * 3, none⟩ = Option.some u) ∧ (∃ u, w.cell? ⟨g, k * 3 + 1, none⟩ = Option.some u) ∧ (∃ u, w.cell? ⟨g, k * 3 + 2, none⟩ = Option.some u) ∧
    w.frozen? ⟨g, k * 3, none⟩ = false ∧ w.frozen? ⟨g, k * 3 + 1, none⟩ = false ∧ w.frozen? ⟨g, k * 3 + 2, none⟩ = false := by
  unfold Own at h
  rw [hL] at h
  have f := fun j => h.frozenAt j
  refine ⟨?_, ?_, ?_, f _, f _, f _⟩
  · rw [h.cellAt _ (by omega)]; exact ⟨_, List.getElem?_eq_getElem (by rw [cl_length, hL]; omega)⟩
  · rw [h.cellAt _ (by omega)]; exact ⟨_, List.getElem?_eq_getElem (by rw [cl_length, hL]; omega)⟩
  · rw [h.cellAt _ (by omega)]; exact ⟨_, List.getElem?_eq_getElem (by rw [cl_length, hL]; omega)⟩
theorem Own.store3 {w : World} {base t g n : Nat} {L : List Nt} (h : Own w base t (.slice (Option.some ⟨g, 0, none⟩) n n) L) (hL : L.length = n) (k : Nat) (hk : k < n) (p s q : Int) :
    Own (((w.setCell ⟨g, k * 3, none⟩ (.int .i64 p)).setCell ⟨g, k * 3 + 1, none⟩ (.int .i64 s)).setCell ⟨g, k * 3 + 2, none⟩ (.int .i64 q)) base t (.slice (Option.some ⟨g, 0, none⟩) n n) (L.set k (p, s, q)) := by
  unfold Own at h
  rw [hL] at h
  have k1 := ((h.stored (k * 3) (.int .i64 p)).1.stored (k * 3 + 1) (.int .i64 s)).1.stored (k * 3 + 2) (.int .i64 q)
  have k2 := k1.1
  rw [cl_set _ _ (p, s, q) (by rw [hL]; exact hk)] at k2
  unfold Own
  rw [List.length_set, hL]
  exact k2
/-- The first k elements of f's answers, zeros behind them. -/
def fill (f : Nt → Nt) (m : List Nt) (k : Nat) : List Nt := (m.map f).take k ++ (List.replicate m.length (0, 0, 0)).drop k
theorem fill_zero (f : Nt → Nt) (m : List Nt) : fill f m 0 = List.replicate m.length (0, 0, 0) := by simp [fill]
theorem fill_length (f : Nt → Nt) (m : List Nt) (k : Nat) (hk : k ≤ m.length) : (fill f m k).length = m.length := by simp [fill]; omega
theorem fill_all (f : Nt → Nt) (m : List Nt) : fill f m m.length = m.map f := by
  unfold fill
  rw [List.take_of_length_le (by simp), List.drop_eq_nil_of_le (by simp), List.append_nil]
theorem fill_set (f : Nt → Nt) (m : List Nt) (k : Nat) (x : Nt) (hx : m[k]? = some x) : (fill f m k).set k (f x) = fill f m (k + 1) := by
  have hk := (List.getElem?_eq_some_iff.1 hx).1
  exact take_set (m.map f) _ k (f x) (by simp [hx]) (by simpa using hk)

theorem implHole_good (A : Option Addr) (l : List Int) (c : Nat) (r : Int) (hn : l.length ≤ 1048576) (hg : gdI l r = true) (p s n : Int) (hv : noteN (p, s, n) = true) :
    ∃ (a b q : Int) (ok : Bool), H.noteN (holeN l (p, s, n)) = ok ∧ (ok = true → (a, b, q) = holeN l (p, s, n)) ∧
      ∀ W : World, RI W A l → Lim W → Calls Tryd.prog 13 #[.agg #[.slice A l.length c, .int .i64 r], .agg #[.int .i64 p, .int .i64 s, .int .i64 n]] W fun e w' => e = .returned (.tuple #[.agg #[.int .i64 a, .int .i64 b, .int .i64 q], .bool ok]) ∧ Below W.heap.size W w' := by
  have e : hfR l r (p, s, n) = hoR l (p, s, n) := by unfold hfR; rw [hg, hv]; rfl
  cases h : H.noteN (holeN l (p, s, n)) with
  | false =>
    refine ⟨0, 0, 0, false, rfl, (fun h => by cases h), fun W hA hL => (implHole_any A l c r p s n W hn hA hL).mono fun e' w' h' => ⟨?_, h'.2⟩⟩
    rw [h'.1, e]; unfold hoR; rw [h]; rfl
  | true =>
    refine ⟨_, _, _, true, rfl, fun _ => rfl, fun W hA hL => (implHole_any A l c r p s n W hn hA hL).mono fun e' w' h' => ⟨?_, h'.2⟩⟩
    rw [h'.1, e]; unfold hoR; rw [h]; rfl
theorem implNote_good (A : Option Addr) (l : List Int) (c : Nat) (r : Int) (hn : l.length ≤ 1048576) (hg : gdI l r = true) (p s n : Int) (hv : H.noteN (p, s, n) = true) :
    ∃ (a b q : Int) (ok : Bool), isOf l (p, s, n) = ok ∧ (ok = true → (a, b, q) = noteOf l (p, s, n)) ∧
      ∀ W : World, RI W A l → Lim W → Calls Tryd.prog 18 #[.agg #[.slice A l.length c, .int .i64 r], .agg #[.int .i64 p, .int .i64 s, .int .i64 n]] W fun e w' => e = .returned (.tuple #[.agg #[.int .i64 a, .int .i64 b, .int .i64 q], .bool ok]) ∧ Below W.heap.size W w' := by
  have e : nfR l r (p, s, n) = noR l (p, s, n) := by unfold nfR; rw [hg, hv]; rfl
  cases h : isOf l (p, s, n) with
  | false =>
    refine ⟨0, 0, 0, false, rfl, (fun h => by cases h), fun W hA hL => (implNote_any A l c r p s n W hn hA hL).mono fun e' w' h' => ⟨?_, h'.2⟩⟩
    rw [h'.1, e]; unfold noR; rw [h]; rfl
  | true =>
    refine ⟨_, _, _, true, rfl, fun _ => rfl, fun W hA hL => (implNote_any A l c r p s n W hn hA hL).mono fun e' w' h' => ⟨?_, h'.2⟩⟩
    rw [h'.1, e]; unfold noR; rw [h]; rfl
end Go.Proofs.YtkfgmkgbicahgaaDoor

namespace Go.Proofs.YtkfgmkgbicahgaaDoor
open Go.RowKit Go.Sort
set_option linter.unusedVariables false
set_option linter.unusedSimpArgs false

def misB (P : List Int) (x : Nt) : Bool := !hasB P x.1

set_option maxRecDepth 100000 in
set_option maxHeartbeats 1000000 in
theorem inAsked_any (A : Option Addr) (l : List Int) (c : Nat) (r : Int) (M : Option Addr) (m : List Nt) (d : Nat) (w : World) (hn : l.length ≤ 1048576) (hA : RI w A l) (hm : m.length ≤ 1048576) (hd : m.length ≤ d) (hd' : d ≤ 9223372036854775807) (hM : RA w M m) :
    Calls Tryd.prog 54 #[.agg #[.slice A l.length c, .int .i64 r], .slice M m.length d] w fun e w' => e = .returned (.bool (gdI l r && goodB m)) ∧ Below w.heap.size w w' := by
  have hb0 : Below w.heap.size w (w.alloc (.cells #[.slice A l.length c, .int .i64 r] 32)) := (Below.refl w.heap.size w).alloc (Nat.le_refl _) _
  go_enter Tryd.func54, Tryd.ntmps54
  go_wp2_with fail
  refine (inGood_any _ _ _ _ _ hn (hA.below hb0)).mono ?_
  rintro e w1 ⟨rfl, hb1⟩
  have hB1 := hb0.trans (hb1.mono hb0.size)
  cases hg : gdI l r with
  | false =>
    go_wp2
    go_ret
    exact ⟨ret_bool (by simp [hg]), hB1⟩
  | true =>
    go_wp2_with fail
    refine (ntGood_any _ _ _ _ hm hd hd' (hM.below hB1)).mono ?_
    rintro e w2 ⟨rfl, hb2⟩
    go_wp2
    go_ret
    exact ⟨ret_bool (by simp [hg]), hB1.trans (hb2.mono hB1.size)⟩

set_option maxRecDepth 100000 in
set_option maxHeartbeats 2000000 in
theorem inMissing_any (A : Option Addr) (l : List Int) (c : Nat) (r : Int) (M : Option Addr) (m : List Nt) (d : Nat) (w : World) (hn : l.length ≤ 1048576) (hA : RI w A l) (hM : RA w M m) (hg : Good m) :
    Calls Tryd.prog 85 #[.agg #[.slice A l.length c, .int .i64 r], .slice M m.length d] w fun e w' => ∃ v, e = .returned v ∧ OwnI w' w.heap.size 3 v (atF (misB l) m) ∧ Below w.heap.size w w' := by
  have h30 := hg.2
  have hb0 : Below w.heap.size w (w.alloc (.cells #[.slice A l.length c, .int .i64 r] 32)) := (Below.refl w.heap.size w).alloc (Nat.le_refl _) _
  obtain ⟨x0, x1, hz⟩ := Box.new w A l.length c r 32
  have hA := hA.below hb0
  have hM := hM.below hb0
  go_enter Tryd.func85, Tryd.ntmps85
  go_wp2_with fail
  generalize w.alloc (.cells #[.slice A l.length c, .int .i64 r] 32) = W at *
  go_loopw [5, 10] (fun a i wr => ∃ k : Nat, k ≤ m.length ∧ i = .int .i64 k ∧ OwnI wr W.heap.size 3 a (atF (misB l) (m.take k)) ∧ Below W.heap.size W wr)
    (fun _ i _ => m.length - (intOf i).toNat)
  case atStart => exact ⟨0, Nat.zero_le _, rfl, OwnI.nil _ _ _, Below.refl _ _⟩
  case round =>
    obtain ⟨k, hk, rfl, hown, hb⟩ := hrel
    by_cases hlt : k < m.length
    · have hx : m[k]? = some m[k] := List.getElem?_eq_getElem hlt
      generalize m[k] = x at hx
      have hs := atF_snoc (misB l) m k x hx
      obtain ⟨p, s, n⟩ := x
      simp only at hs
      obtain ⟨g, o, rfl, hgb, h0, h1, h2⟩ := (hM.below hb) k _ hx
      simp only at h0 h1 h2
      have i1 : (0 : Int) ≤ (k : Int) := by omega
      have i2 : (k : Int) < (m.length : Int) := by omega
      have HS := Lib.hid hs
      have HO := Lib.hid hown
      clear hs hx hown
      have hsz := atF_length (misB l) m k hk
      have hinc := Lib.hid (atF_inc (misB l) m k hk)
      have y0 := (hb.cell (p := ⟨w.heap.size, 0, none⟩) hz).trans x0
      have y1 := (hb.cell (p := ⟨w.heap.size, 1, none⟩) hz).trans x1
      have hzr : w.heap.size < wr.heap.size := Nat.lt_of_lt_of_le hz hb.size
      have hnb : Below wr.heap.size wr (wr.alloc (.cells #[.int .i64 p, .int .i64 s, .int .i64 n] 34)) := (Below.refl _ _).alloc (Nat.le_refl _) _
      have hAr := (hA.below hb).below hnb
      have hzn : wr.heap.size < (wr.alloc (.cells #[.int .i64 p, .int .i64 s, .int .i64 n] 34)).heap.size := by simp
      have p0 : (wr.alloc (.cells #[.int .i64 p, .int .i64 s, .int .i64 n] 34)).cell? ⟨wr.heap.size, 0, none⟩ = some (.int .i64 p) := by rw [World.cell?_alloc_new]; rfl
      go_wp2_with fail
      generalize wr.alloc (.cells #[.int .i64 p, .int .i64 s, .int .i64 n] 34) = W1 at *
      refine (inTrack_any _ _ _ _ _ _ hn hAr).mono ?_
      rintro e w2 ⟨rfl, hb2⟩
      have hb12 := hnb.trans (hb2.mono hnb.size)
      have p2 := (hb2.cell (p := ⟨wr.heap.size, 0, none⟩) hzn).trans p0
      clear y0 y1 h0 h1 h2 hAr p0
      cases hh : hasB l p with
      | false =>
        have ht : trk p l < 0 := by have := hasB_trk l p; simp [hh] at this; omega
        go_wp2_with (go_at_call 87; refine (l1Put_any _ _ p W.heap.size _ (by omega) (by have := hb.size; have := hb12.size; omega) (HO.out.below hb12 (Nat.le_refl _)) hinc.out).mono ?_; rintro e w3 ⟨v3, rfl, ho3, hb3⟩)
        go_roundw
        case rel =>
          refine ⟨k + 1, by omega, by go_num, ?_, hb.trans ((hb12.trans (hb3.mono hb12.size)).mono hb.size)⟩
          rw [HS.out, if_pos (by simp [misB, hh])]
          exact ho3
        case measure => simp [intOf]; omega
      | true =>
        have ht : ¬ trk p l < 0 := by have := hasB_trk l p; simp [hh] at this; omega
        go_wp2
        go_roundw
        case rel =>
          refine ⟨k + 1, by omega, by go_num, ?_, hb.trans (hb12.mono hb.size)⟩
          rw [HS.out, if_neg (by simp [misB, hh])]
          exact HO.out.below hb12 (Nat.le_refl _)
        case measure => simp [intOf]; omega
    · obtain rfl : k = m.length := by omega
      go_wp2
      go_ret
      rw [List.take_length] at hown
      exact ⟨_, rfl, hown.mono hb0.size, hb0.trans (hb.mono hb0.size)⟩

end Go.Proofs.YtkfgmkgbicahgaaDoor

namespace Go.Proofs.YtkfgmkgbicahgaaDoor
open Go.RowKit Go.Sort
set_option linter.unusedVariables false
set_option linter.unusedSimpArgs false

set_option maxRecDepth 100000 in
set_option maxHeartbeats 4000000 in
theorem implMiss_any (A : Option Addr) (l : List Int) (c : Nat) (r : Int) (M : Option Addr) (m : List Nt) (d : Nat) (w : World) (hn : l.length ≤ 1048576) (hA : RI w A l) (hm : m.length ≤ 1048576) (hM : RA w M m) (hL : Lim w) :
    Calls Tryd.prog 78 #[.agg #[.slice A l.length c, .int .i64 r], .slice M m.length d] w fun e w' => RetI w (atF (misB l) m) (gdI l r && goodB m) e w' := by
  have hb0 : Below w.heap.size w (w.alloc (.cells #[.slice A l.length c, .int .i64 r] 32)) := (Below.refl w.heap.size w).alloc (Nat.le_refl _) _
  obtain ⟨x0, x1, hz⟩ := Box.new w A l.length c r 32
  have hA := hA.below hb0
  have hM := hM.below hb0
  have hL := hL.below hb0
  go_enter Tryd.func78, Tryd.ntmps78
  go_wp2_with fail
  generalize w.alloc (.cells #[.slice A l.length c, .int .i64 r] 32) = W at *
  refine (isIns_any _ _ _ _ _ hn hA hL).mono ?_
  rintro e w1 ⟨rfl, hb1⟩
  have hB1 := hb0.trans (hb1.mono hb0.size)
  cases hg : gdI l r with
  | false =>
    go_wp2
    go_ret2
    rw [hg, Bool.false_and]
    exact ⟨_, rfl, by simpa using OwnI.nil w1 w.heap.size 3, hB1⟩
  | true =>
    have HG := Lib.hid hg
    clear hg
    go_wp2_with fail
    refine (isScore_any _ _ _ _ hm (hM.below hb1)).mono ?_
    rintro e w2 ⟨rfl, hb2⟩
    have hb12 := hb1.trans (hb2.mono hb1.size)
    have hB2 := hB1.trans (hb2.mono hB1.size)
    cases hgb : goodB m with
    | false =>
      have HB := Lib.hid hgb
      go_wp2
      go_ret2
      rw [HG.out, HB.out, Bool.and_false]
      exact ⟨_, rfl, by simpa using OwnI.nil w2 w.heap.size 3, hB2⟩
    | true =>
      have hgood := (goodB_iff m).1 hgb
      have h30 := hgood.2
      have HB := Lib.hid hgb
      clear hgb
      have x0 := (hb12.cell (p := ⟨w.heap.size, 0, none⟩) hz).trans x0
      have x1 := (hb12.cell (p := ⟨w.heap.size, 1, none⟩) hz).trans x1
      have hz := Nat.lt_of_lt_of_le hz hb12.size
      have hA := hA.below hb12
      have hM := hM.below hb12
      clear hb1 hb2 hb12 hL
      go_wp2_with fail
      go_loopw [6, 19] (fun a i wr => ∃ k : Nat, k ≤ m.length ∧ i = .int .i64 k ∧ OwnI wr w2.heap.size 3 a (psF (misB l) (m.take k)) ∧ Below w2.heap.size w2 wr)
        (fun _ i _ => m.length - (intOf i).toNat)
      case atStart => exact ⟨0, Nat.zero_le _, rfl, OwnI.nil _ _ _, Below.refl _ _⟩
      case round =>
        obtain ⟨k, hk, rfl, hown, hb⟩ := hrel
        have HO := Lib.hid hown
        clear hown
        by_cases hlt : k < m.length
        · have hx : m[k]? = some m[k] := List.getElem?_eq_getElem hlt
          generalize m[k] = x at hx
          have hs := psF_snoc (misB l) m k x hx
          obtain ⟨p, s, n⟩ := x
          simp only at hs
          obtain ⟨g, o, rfl, hgb, h0, h1, h2⟩ := (hM.below hb) k _ hx
          simp only at h0 h1 h2
          have i1 : (0 : Int) ≤ (k : Int) := by omega
          have i2 : (k : Int) < (m.length : Int) := by omega
          have HS := Lib.hid hs
          clear hs hx
          have hsz : (psF (misB l) (m.take k)).length ≤ 30 := by have := psF_length (misB l) (m.take k); simp at this; omega
          have y0 := (hb.cell (p := ⟨w.heap.size, 0, none⟩) hz).trans x0
          have y1 := (hb.cell (p := ⟨w.heap.size, 1, none⟩) hz).trans x1
          have hzr : w.heap.size < wr.heap.size := Nat.lt_of_lt_of_le hz hb.size
          have hnb : Below wr.heap.size wr (wr.alloc (.cells #[.int .i64 p, .int .i64 s, .int .i64 n] 34)) := (Below.refl _ _).alloc (Nat.le_refl _) _
          have hAr := (hA.below hb).below hnb
          have hzn : wr.heap.size < (wr.alloc (.cells #[.int .i64 p, .int .i64 s, .int .i64 n] 34)).heap.size := by simp
          have p0 : (wr.alloc (.cells #[.int .i64 p, .int .i64 s, .int .i64 n] 34)).cell? ⟨wr.heap.size, 0, none⟩ = some (.int .i64 p) := by rw [World.cell?_alloc_new]; rfl
          go_wp2_with fail
          generalize wr.alloc (.cells #[.int .i64 p, .int .i64 s, .int .i64 n] 34) = W1 at *
          refine (hasPitch_any _ _ _ _ _ _ hn hAr).mono ?_
          rintro e w3 ⟨rfl, hb3⟩
          have hb13 := hnb.trans (hb3.mono hnb.size)
          have p3 := (hb3.cell (p := ⟨wr.heap.size, 0, none⟩) hzn).trans p0
          clear y0 y1 h0 h1 h2 hAr p0
          cases hh : hasB l p with
          | false =>
            have hbr3 := Lib.hid (show Below wr.heap.size wr (w3.alloc (.cells #[.int .i64 p] 3)) from hb13.alloc hb13.size _)
            have ho3 := Lib.hid (HO.out.below hbr3.out (Nat.le_refl _))
            have hc3 := Lib.hid (one_new w3 p)
            go_wp2_with (at_builtin; go_loud (refine wpList_appI _ rfl (.tmp 28) (.tmp 31) rfl w2.heap.size _ _ rfl ho3.out (some ⟨w3.heap.size, 0, none⟩) 1 1 [p] rfl rfl (fun h => by cases h) (fun j y hy => one_at hc3.out hy) (by simp; omega) (Nat.le_trans hb.size hbr3.out.size) ?_); intro v4 w4 ho4 hg4 hv4)
            go_roundw
            case rel =>
              refine ⟨k + 1, by omega, by go_num, ?_, (hb.trans (hbr3.out.mono hb.size)).grown hg4 (Nat.le_trans hb.size hbr3.out.size) (fun j hj => (ho3.out.lt j hj).1)⟩
              rw [HS.out, if_pos (by simp [misB, hh])]
              exact ho4
            case measure => simp [intOf]; omega
          | true =>
            go_wp2
            go_roundw
            case rel =>
              refine ⟨k + 1, by omega, by go_num, ?_, hb.trans (hb13.mono hb.size)⟩
              rw [HS.out, if_neg (by simp [misB, hh]), List.append_nil]
              exact HO.out.below hb13 (Nat.le_refl _)
            case measure => simp [intOf]; omega
        · obtain rfl : k = m.length := by omega
          rw [List.take_length] at HO
          have hl := psF_length (misB l) m
          go_wp2_with (first
            | (go_at_call 88; refine (sortI_any _ _ w2.heap.size _ (by omega) HO.out).mono ?_; rintro e w3 ⟨rfl, ho3, hg3⟩)
            | (go_at_call 89; refine (compactI_any _ _ w2.heap.size _ (by rw [List.length_mergeSort]; omega) ho3).mono ?_; rintro e w4 ⟨v4, rfl, ho4, hg4⟩))
          go_ret2
          rw [compact_atF] at ho4
          rw [HG.out, HB.out, Bool.and_true]
          have hb3 := hb.grown hg3 hb.size (fun j hj => (HO.out.lt j hj).1)
          refine ⟨_, rfl, by simpa using ho4.mono hB2.size, hB2.trans ((hb3.grown hg4 hb3.size (fun j hj => (ho3.lt j hj).1)).mono hB2.size)⟩
end Go.Proofs.YtkfgmkgbicahgaaDoor

namespace Go.Proofs.YtkfgmkgbicahgaaDoor
open Go.ChangeShapes Go.WideShapes Go.RowKit Go.Deep
set_option linter.unusedVariables false

theorem Tryd.cellsNoteL : Tryd.prog.cellsOf 26 = 3 := by kernel_rfl

theorem three {α : Type} {l : List α} (h : l.length = 3) : ∃ a b c, l = [a, b, c] := by
  match l, h with
  | [a, b, c], _ => exact ⟨a, b, c, rfl⟩

section
variable {H : Type} {enc : TypeId × Value → H} {w : World} {base : Nat} {spare : Nat → Bool} {held : Bool}

theorem note_cells {fuel : Nat} {cs : List Value} {x : DataW H × List MemPlace} (h : DataW.trod enc Tryd.prog w base spare held fuel 26 cs = some x) :
    ∃ p s n : Int, cs = [.int .i64 p, .int .i64 s, .int .i64 n] := by
  obtain ⟨ys, m, _, _, hlen, hyl, hf⟩ := DataW.trod_struct Tryd.underlying26 h
  rw [Tryd.cellsNoteL] at hlen
  obtain ⟨a, b, c, rfl⟩ := three hlen
  have f0 := hf 0 _ rfl
  have f1 := hf 1 _ rfl
  have f2 := hf 2 _ rfl
  simp [Tryd.cellsInt] at f0 f1 f2
  obtain ⟨y0, y1, y2, rfl⟩ := three (l := ys) hyl
  obtain ⟨p, e0, _, _⟩ := DataW.trod_int Tryd.underlying3 (f0.trans rfl)
  obtain ⟨s, e1, _, _⟩ := DataW.trod_int Tryd.underlying3 (f1.trans rfl)
  obtain ⟨n, e2, _, _⟩ := DataW.trod_int Tryd.underlying3 (f2.trans rfl)
  simp at e0 e1 e2
  exact ⟨p, s, n, by rw [e0, e1, e2]⟩

theorem open_notes {v : Value} {d : DataW H} {ps : List MemPlace} (hv : ∃ a n c, v = .slice a n c) (h : DataW.Trod enc Tryd.prog w base spare held 45 v d ps) (hw : ∀ p ∈ ps, p.block < w.heap.size) :
    ∃ (A : Option Addr) (l : List Nt) (c : Nat), v = .slice A l.length c ∧ l.length ≤ c ∧ c ≤ maxLen ∧ RA w A l := by
  obtain ⟨a0, n0, c0, rfl⟩ := hv
  obtain ⟨fuel, hf⟩ := h
  rcases open_slice Tryd.underlying45 hf with ⟨hcs, hx⟩ | ⟨a, len, cap, m, n, D, Pl, hcs, hb, hl, hm, hmm, hx, hi⟩
  · simp [Value.cells] at hcs
    obtain ⟨rfl, rfl, rfl⟩ := hcs
    exact ⟨none, [], 0, rfl, Nat.le_refl _, Nat.zero_le _, fun k x hx => by simp at hx⟩
  · simp [Value.cells] at hcs
    obtain ⟨rfl, rfl, rfl⟩ := hcs
    rw [Tryd.cellsNoteL] at hi
    have hle : n0 ≤ m := by rw [hmm]; split <;> omega
    have hex : ∀ i, i < n0 → ∃ x : Nt, w.cell? (a.add (i * 3)) = some (.int .i64 x.1) ∧ w.cell? (a.add (i * 3 + 1)) = some (.int .i64 x.2.1) ∧ w.cell? (a.add (i * 3 + 2)) = some (.int .i64 x.2.2) := by
      intro i hin
      obtain ⟨cs', hc, ht⟩ := hi i (by omega)
      obtain ⟨p, s, n, rfl⟩ := note_cells ht
      obtain ⟨_, _, hat⟩ := World.cells?_some hc
      refine ⟨(p, s, n), ?_, ?_, ?_⟩
      · have := hat 0 (by omega); rw [Go.Deep.add_add] at this; simpa using this
      · have := hat 1 (by omega); rw [Go.Deep.add_add] at this; simpa using this
      · have := hat 2 (by omega); rw [Go.Deep.add_add] at this; simpa using this
    have hlist : ∀ k, k ≤ n0 → ∃ l : List Nt, l.length = k ∧ ∀ i x, l[i]? = some x → w.cell? (a.add (i * 3)) = some (.int .i64 x.1) ∧ w.cell? (a.add (i * 3 + 1)) = some (.int .i64 x.2.1) ∧ w.cell? (a.add (i * 3 + 2)) = some (.int .i64 x.2.2) := by
      intro k
      induction k with
      | zero => exact fun _ => ⟨[], rfl, fun i x hx => by simp at hx⟩
      | succ k ih =>
        intro hk
        obtain ⟨l, hll, hc⟩ := ih (by omega)
        obtain ⟨x, hx⟩ := hex k (by omega)
        refine ⟨l ++ [x], by simp [hll], fun i y hy => ?_⟩
        rcases Nat.lt_or_ge i l.length with hil | hil
        · rw [List.getElem?_append_left hil] at hy; exact hc i y hy
        · rw [List.getElem?_append_right hil] at hy
          have : i - l.length = 0 := by
            have := (List.getElem?_eq_some_iff.1 hy).1
            simp at this; omega
          rw [this] at hy
          simp at hy
          subst hy
          obtain rfl : i = k := by omega
          exact hx
    obtain ⟨l, hll, hc⟩ := hlist n0 (Nat.le_refl _)
    subst hll
    refine ⟨some a, l, c0, rfl, hl, hm, fun k x hkx => ?_⟩
    obtain ⟨h0, h1, h2⟩ := hc k x hkx
    obtain ⟨b, off, spot⟩ := a
    have hspot : spot = none := by
      have hk : 0 < l.length := by have := (List.getElem?_eq_some_iff.1 hkx).1; omega
      have hz : l[0]? = some l[0] := List.getElem?_eq_getElem hk
      simpa [Addr.add] using World.cell?_spot (hc 0 _ hz).1
    subst hspot
    rw [Go.WideShapes.add_plain] at h0 h1 h2
    exact ⟨b, off, rfl, World.block_lt_of_cell? w _ h0, h0, h1, h2⟩
end
end Go.Proofs.YtkfgmkgbicahgaaDoor
