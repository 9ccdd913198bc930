/- Contracts: the note of a hole, the program's side and the model's. -/
import Derived.Test.YtkfgmkgbicahgaaDoorLayG
namespace Go.Proofs.YtkfgmkgbicahgaaDoor
open Go.RowKit Go.Sort
set_option linter.unusedVariables false
set_option linter.unusedSimpArgs false

/-- The note of a valid hole. -/
def noR (P : List Int) (h : Nt) : Array Value := if isOf P h = true then #[nt3 (noteOf P h), .bool true] else #[no3, .bool false]
theorem noR_form (P : List Int) (x : Nt) : ∃ a b c ok, noR P x = #[.agg #[.int .i64 a, .int .i64 b, .int .i64 c], .bool ok] := by
  unfold noR
  split
  · exact ⟨_, _, _, _, rfl⟩
  · exact ⟨_, _, _, _, rfl⟩
theorem tmod2 {x : Int} (h : 0 ≤ x) : x.tmod 2 = x % 2 := Int.tmod_eq_emod_of_nonneg h
theorem tdiv2 {x : Int} (h : 0 ≤ x) : x.tdiv 2 = x / 2 := Int.tdiv_eq_ediv_of_nonneg h

set_option maxRecDepth 100000 in
set_option maxHeartbeats 4000000 in
theorem laNote_any (A : Option Addr) (l : List Int) (c : Nat) (r p s k : Int) (w : World) (hn : l.length ≤ 1048576) (hA : RI w A l) (hv : H.noteN (p, s, k) = true) :
    Calls Tryd.prog 52 #[.agg #[.slice A l.length c, .int .i64 r], .agg #[.int .i64 p, .int .i64 s, .int .i64 k]] w fun e w' => e = .returned (.tuple (noR l (p, s, k))) ∧ Below w.heap.size w w' := by
  obtain ⟨W, hW⟩ : ∃ W, W = ((w.alloc (.cells #[.slice A l.length c, .int .i64 r] 32)).alloc (.cells #[.int .i64 p, .int .i64 s, .int .i64 k] 29)).alloc (.cells #[.int .i64 0, .int .i64 0, .int .i64 0] 34) := ⟨_, rfl⟩
  obtain ⟨hx, hy, hz, hb0, hsz⟩ := entry3 w A l.length c r p s k _ _ _ W hW
  have hv := (H.noteN_iff _).1 hv
  simp only at hv
  have HNO := Lib.hid (show ¬ (p < (l.length : Int) ∧ s % 2 = 0 ∧ k % 2 = 1) → noR l (p, s, k) = #[no3, .bool false] from fun h => by
    unfold noR
    rw [if_neg]
    intro hh
    have := (isOf_iff _ _).1 hh
    exact h ⟨this.1, this.2.1, this.2.2.1⟩)
  have HYE := Lib.hid (show (p < (l.length : Int) ∧ s % 2 = 0 ∧ k % 2 = 1) → ∀ q, noteB (l.getD p.toNat 0) (s / 2) ((k + 1) / 2 - s / 2) = q → noR l (p, s, k) = if q = true then #[nt3 (l.getD p.toNat 0, s / 2, (k + 1) / 2 - s / 2), .bool true] else #[no3, .bool false] from fun h q hq => by
    unfold noR
    rw [← hq]
    have e : isOf l (p, s, k) = noteB (l.getD p.toNat 0) (s / 2) ((k + 1) / 2 - s / 2) := by
      unfold isOf
      simp only [h.1, h.2.1, h.2.2, decide_true, Bool.true_and]
      rfl
    rw [e]; rfl)
  have d1 := tmod2 (x := s) (by omega)
  have d2 := tmod2 (x := k) (by omega)
  have d3 := tdiv2 (x := s) (by omega)
  have d4 := tdiv2 (x := k + 1) (by omega)
  have m1 : IntKind.i64.wrap (k + 1) = k + 1 := IntWalk.i64_in _ (by omega)
  have m2 : IntKind.i64.wrap ((k + 1) / 2 - s / 2) = (k + 1) / 2 - s / 2 := IntWalk.i64_in _ (by omega)
  have m3 : IntKind.i64.wrap ((k + 1) / 2) = (k + 1) / 2 := IntWalk.i64_in _ (by omega)
  have m4 : IntKind.i64.wrap (s / 2) = s / 2 := IntWalk.i64_in _ (by omega)
  by_cases hl : p < (l.length : Int)
  · by_cases hs : s % 2 = 0
    · by_cases hk : k % 2 = 1
      · have HY := Lib.hid (HYE.out ⟨hl, hs, hk⟩)
        have hx0 : l[p.toNat]? = some (l.getD p.toNat 0) := getD_of (by omega)
        generalize l.getD p.toNat 0 = t at *
        obtain ⟨g0, o0, rfl, hgl, k0⟩ := hA p.toNat _ hx0
        have hgb := hb0
        have k0 := ((bcell hb0).1 g0 _ hgl).trans k0
        go_enter Tryd.func52, Tryd.ntmps52
        have HW := Lib.hid hW
        obtain ⟨x0, x1, xl⟩ := hx
        obtain ⟨y0, y1, y2, _, _, _, yl⟩ := hy
        go_wp2_with fail
        rw [← HW.out]
        generalize hbw : w.heap.size = b at *
        have HB0 := Lib.hid hb0
        have nx0 := World.new_ne W _ x0
        have nx1 := World.new_ne W _ y0
        have nx2 := World.new_ne W _ k0
        have i1 : (0 : Int) ≤ p := by omega
        clear hW hgl hA hb0 hgb hx0 hs hk d1 d2 HNO HYE HW
        go_region_held3 (fun w' => w'.cell? ⟨b, 0, none⟩ = some (.slice (some ⟨g0, o0, none⟩) l.length c) ∧ w'.cell? ⟨b + 1, 0, none⟩ = some (.int .i64 p) ∧ w'.cell? ⟨b + 1, 1, none⟩ = some (.int .i64 s) ∧ w'.cell? ⟨b + 1, 2, none⟩ = some (.int .i64 k) ∧ w'.cell? ⟨g0, o0 + p.toNat, none⟩ = some (.int .i64 t))
          (first | go_keep | assumption)
          (first | fail)
        have hg6 := (Res3.new W t (s / 2) ((k + 1) / 2 - s / 2) 34).drew
        rw [hsz] at hg6
        have hB6 : Below W.heap.size W (W.alloc (.cells #[.int .i64 t, .int .i64 (s / 2), .int .i64 ((k + 1) / 2 - s / 2)] 34)).drew := ((Below.refl _ _).alloc (Nat.le_refl _) _).drew
        generalize (W.alloc (.cells #[.int .i64 t, .int .i64 (s / 2), .int .i64 ((k + 1) / 2 - s / 2)] 34)).drew = W6 at *
        have hres := hz.below hB6
        have hbs : b ≤ W6.heap.size := by have := hB6.size; omega
        have HB6 := Lib.hid (HB0.out.trans (hB6.mono (by omega)))
        obtain ⟨u0, u1, u2, _, _, _, ul⟩ := hg6
        clear x0 x1 xl y0 y1 y2 yl k0 nx0 nx1 nx2 hz hB6
        go_wp2_with fail
        refine (ntNote_any _ _ _ _).mono ?_
        rintro e w7 ⟨rfl, hb7⟩
        have hres := hres.below hb7
        have u0 := ((bcell hb7).1 (b + 3) 0 ul).trans u0
        have u1 := ((bcell hb7).1 (b + 3) 1 ul).trans u1
        have u2 := ((bcell hb7).1 (b + 3) 2 ul).trans u2
        have HB7 := Lib.hid (HB6.out.trans (hb7.mono hbs))
        obtain ⟨r0, r1, r2, e0, e1, e2, rl⟩ := hres
        clear hb7
        cases hh : noteB t (s / 2) ((k + 1) / 2 - s / 2) with
        | false =>
          go_wp2
          exact bodyPost_ret (v := .tuple #[.agg #[.int .i64 0, .int .i64 0, .int .i64 0], .bool false]) (by simp [results, Tryd.results52, go_sem, *]) rfl ⟨by rw [HY.out _ hh]; rfl, by rw [hbw]; exact Below.set3 HB7.out (by omega) _ _ _⟩
        | true =>
          go_wp2
          exact bodyPost_ret (v := .tuple #[.agg #[.int .i64 t, .int .i64 (s / 2), .int .i64 ((k + 1) / 2 - s / 2)], .bool true]) (by simp [results, Tryd.results52, go_sem, *]) rfl ⟨by rw [HY.out _ hh]; rfl, by rw [hbw]; exact Below.set3 HB7.out (by omega) _ _ _⟩
      · have HR := Lib.hid (HNO.out (fun h => hk h.2.2))
        have hq0 : k % 2 = 0 := by omega
        have HB0 := Lib.hid hb0
        have HW := Lib.hid hW
        obtain ⟨x0, x1, xl⟩ := hx
        obtain ⟨y0, y1, y2, _, _, _, yl⟩ := hy
        obtain ⟨r0, r1, r2, e0, e1, e2, rl⟩ := hz
        clear hA hb0
        go_enter Tryd.func52, Tryd.ntmps52
        go_upto_region 1 with fail
        rw [← HW.out]
        clear hW
        go_wp2
        exact bodyPost_ret (v := .tuple #[.agg #[.int .i64 0, .int .i64 0, .int .i64 0], .bool false]) (by simp [results, Tryd.results52, go_sem, *]) rfl ⟨by rw [HR.out]; rfl, Below.set3 HB0.out (by omega) _ _ _⟩
    · have HR := Lib.hid (HNO.out (fun h => hs h.2.1))
      have hq0 : s % 2 = 1 := by omega
      have HB0 := Lib.hid hb0
      have HW := Lib.hid hW
      obtain ⟨x0, x1, xl⟩ := hx
      obtain ⟨y0, y1, y2, _, _, _, yl⟩ := hy
      obtain ⟨r0, r1, r2, e0, e1, e2, rl⟩ := hz
      clear hA hb0
      go_enter Tryd.func52, Tryd.ntmps52
      go_upto_region 1 with fail
      rw [← HW.out]
      clear hW
      go_wp2
      exact bodyPost_ret (v := .tuple #[.agg #[.int .i64 0, .int .i64 0, .int .i64 0], .bool false]) (by simp [results, Tryd.results52, go_sem, *]) rfl ⟨by rw [HR.out]; rfl, Below.set3 HB0.out (by omega) _ _ _⟩
  · have HR := Lib.hid (HNO.out (fun h => hl h.1))
    have hq0 : (l.length : Int) ≤ p := by omega
    have HB0 := Lib.hid hb0
    have HW := Lib.hid hW
    obtain ⟨x0, x1, xl⟩ := hx
    obtain ⟨y0, y1, y2, _, _, _, yl⟩ := hy
    obtain ⟨r0, r1, r2, e0, e1, e2, rl⟩ := hz
    clear hA hb0
    go_enter Tryd.func52, Tryd.ntmps52
    go_upto_region 1 with fail
    rw [← HW.out]
    clear hW
    go_wp2
    exact bodyPost_ret (v := .tuple #[.agg #[.int .i64 0, .int .i64 0, .int .i64 0], .bool false]) (by simp [results, Tryd.results52, go_sem, *]) rfl ⟨by rw [HR.out]; rfl, Below.set3 HB0.out (by omega) _ _ _⟩
end Go.Proofs.YtkfgmkgbicahgaaDoor
