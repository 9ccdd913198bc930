/- Contracts: the hole of a note and the note of a hole, the program's side and the model's. -/
import Derived.Test.YtkfgmkgbicahgaaDoorLayF
import Derived.Lib.QuietBelow
namespace Go.Proofs.YtkfgmkgbicahgaaDoor
open Go.RowKit Go.Sort
set_option linter.unusedVariables false
set_option linter.unusedSimpArgs false

theorem hoR_form (P : List Int) (x : Nt) : ∃ a b c ok, hoR P x = #[.agg #[.int .i64 a, .int .i64 b, .int .i64 c], .bool ok] := by
  unfold hoR
  split
  · exact ⟨_, _, _, _, rfl⟩
  · exact ⟨_, _, _, _, rfl⟩
/-- The hole of a note. -/
def hfR (P : List Int) (r : Int) (x : Nt) : Array Value := if (gdI P r && noteN x) = true then hoR P x else #[no3, .bool false]
theorem hfR_none {P : List Int} {r : Int} {p s k : Int} (h : hasB P p = false) : hfR P r (p, s, k) = #[no3, .bool false] := by
  unfold hfR
  split
  · unfold hoR
    rw [if_neg]
    intro hh
    have := (H.noteN_iff _).1 hh
    have h2 : trk p P < 0 := by rw [trk_neg]; simpa [hasB] using h
    simp only [holeN] at this
    omega
  · rfl

set_option maxRecDepth 100000 in
set_option maxHeartbeats 4000000 in
theorem specHole_any (A : Option Addr) (l : List Int) (c : Nat) (r p s k : Int) (w : World) (hn : l.length ≤ 1048576) (hA : RI w A l) :
    Calls Tryd.prog 10 #[.agg #[.slice A l.length c, .int .i64 r], .agg #[.int .i64 p, .int .i64 s, .int .i64 k]] w fun e w' => e = .returned (.tuple (hfR l r (p, s, k))) ∧ Below w.heap.size w w' := by
  obtain ⟨W, hW⟩ : ∃ W, W = ((w.alloc (.cells #[.slice A l.length c, .int .i64 r] 32)).alloc (.cells #[.int .i64 p, .int .i64 s, .int .i64 k] 34)).alloc (.cells #[.int .i64 0, .int .i64 0, .int .i64 0] 29) := ⟨_, rfl⟩
  obtain ⟨hx, hy, hz, hb0, hsz⟩ := entry3 w A l.length c r p s k _ _ _ W hW
  have HF := Lib.hid (show ∀ u v, gdI l r = u → noteB p s k = v → hfR l r (p, s, k) = if (u && v) = true then hoR l (p, s, k) else #[no3, .bool false] from fun u v h h' => by rw [← h, ← h']; rfl)
  go_enter Tryd.func10, Tryd.ntmps10
  go_wp2_with fail
  rw [← hW]
  clear hW hsz
  refine (inGood_any _ _ _ _ _ hn (hA.below hb0)).mono ?_
  rintro e w1 ⟨rfl, hb1⟩
  have hx := hx.below hb1
  have hy := hy.below hb1
  have hz := hz.below hb1
  have hB1 := hb0.trans (hb1.mono hb0.size)
  clear hb1 hb0
  have HB1 := Lib.hid hB1
  cases hg : gdI l r with
  | false =>
    obtain ⟨r0, r1, r2, e0, e1, e2, rl⟩ := hz
    clear hx hy hB1
    go_wp2
    exact bodyPost_ret (v := .tuple #[.agg #[.int .i64 0, .int .i64 0, .int .i64 0], .bool false]) (by simp [results, Tryd.results10, go_sem, *]) rfl ⟨by rw [HF.out _ _ hg rfl]; rfl, Below.set3 HB1.out (by omega) _ _ _⟩
  | true =>
    obtain ⟨y0, y1, y2, _, _, _, yl⟩ := id hy
    clear hB1
    go_wp2_with fail
    refine (ntNote_any _ _ _ _).mono ?_
    rintro e w2 ⟨rfl, hb2⟩
    have hx := hx.below hb2
    have hy := hy.below hb2
    have hz := hz.below hb2
    have hB2 := HB1.out.trans (hb2.mono HB1.out.size)
    have HB2 := Lib.hid hB2
    clear hb2 hB2 y0 y1 y2 yl
    cases hv : noteB p s k with
    | false =>
      obtain ⟨r0, r1, r2, e0, e1, e2, rl⟩ := hz
      clear hx hy
      go_wp2
      exact bodyPost_ret (v := .tuple #[.agg #[.int .i64 0, .int .i64 0, .int .i64 0], .bool false]) (by simp [results, Tryd.results10, go_sem, *]) rfl ⟨by rw [HF.out _ _ hg hv]; rfl, Below.set3 HB2.out (by omega) _ _ _⟩
    | true =>
      obtain ⟨y0, y1, y2, _, _, _, yl⟩ := hy
      obtain ⟨x0, x1, xl⟩ := hx
      go_wp2_with fail
      refine (laHole_any _ _ _ _ _ _ _ _ hn (hA.below HB2.out) hv).mono ?_
      rintro e w3 ⟨rfl, hb3⟩
      have hz := hz.below hb3
      have HB3 := Lib.hid (HB2.out.trans (hb3.mono HB2.out.size))
      have HFF := Lib.hid (HF.out _ _ hg hv)
      obtain ⟨a, b, d, ok, hR⟩ := hoR_form l (p, s, k)
      rw [hR]
      have HR := Lib.hid hR
      obtain ⟨r0, r1, r2, e0, e1, e2, rl⟩ := hz
      clear hb3 hR y0 y1 y2 yl x0 x1 xl
      go_wp2
      exact bodyPost_ret (v := .tuple #[.agg #[.int .i64 a, .int .i64 b, .int .i64 d], .bool ok]) (by simp [results, Tryd.results10, go_sem, *]) rfl ⟨by rw [HFF.out]; simp only [Bool.and_self, if_true]; rw [HR.out], Below.set3 HB3.out (by omega) _ _ _⟩
set_option maxRecDepth 100000 in
set_option maxHeartbeats 4000000 in
theorem implHole_any (A : Option Addr) (l : List Int) (c : Nat) (r p s k : Int) (w : World) (hn : l.length ≤ 1048576) (hA : RI w A l) (hL : Lim w) :
    Calls Tryd.prog 13 #[.agg #[.slice A l.length c, .int .i64 r], .agg #[.int .i64 p, .int .i64 s, .int .i64 k]] w fun e w' => e = .returned (.tuple (hfR l r (p, s, k))) ∧ Below w.heap.size w w' := by
  obtain ⟨W, hW⟩ : ∃ W, W = ((w.alloc (.cells #[.slice A l.length c, .int .i64 r] 32)).alloc (.cells #[.int .i64 p, .int .i64 s, .int .i64 k] 34)).alloc (.cells #[.int .i64 0, .int .i64 0, .int .i64 0] 29) := ⟨_, rfl⟩
  obtain ⟨hx, hy, hz, hb0, hsz⟩ := entry3 w A l.length c r p s k _ _ _ W hW
  have HF := Lib.hid (show ∀ v q, (gdI l r && hasB l p) = true → noteB p s k = v → H.noteB (trk p l) (2 * s) (2 * (s + k) - 1) = q → hfR l r (p, s, k) = if (v && q) = true then #[nt3 (holeN l (p, s, k)), .bool true] else #[no3, .bool false] from fun v q h h' h'' => by
    rw [← h', ← h'']
    simp only [Bool.and_eq_true] at h
    unfold hfR hoR
    rw [h.1]
    show (if (true && noteB p s k) = true then (if H.noteB (trk p l) (2 * s) (2 * (s + k) - 1) = true then _ else _) else _) = _
    cases noteB p s k <;> cases H.noteB (trk p l) (2 * s) (2 * (s + k) - 1) <;> rfl)
  have HN := Lib.hid (show (gdI l r && hasB l p) = false → hfR l r (p, s, k) = #[no3, .bool false] from fun h => by
    cases hh : hasB l p with
    | false => exact hfR_none hh
    | true =>
      rw [hh, Bool.and_true] at h
      unfold hfR
      rw [h]; rfl)
  have htl := trk_lt p l
  go_enter Tryd.func13, Tryd.ntmps13
  go_wp2_with fail
  rw [← hW]
  clear hW hsz
  refine (implTrack_any _ _ _ _ _ _ hn (hA.below hb0) (hL.below hb0)).mono ?_
  rintro e w1 ⟨rfl, hb1⟩
  have hy := hy.below hb1
  have hz := hz.below hb1
  have HB1 := Lib.hid (hb0.trans (hb1.mono hb0.size))
  clear hb1 hb0 hx
  unfold trR
  cases hg : (gdI l r && hasB l p) with
  | false =>
    obtain ⟨r0, r1, r2, e0, e1, e2, rl⟩ := hz
    have HNN := Lib.hid (HN.out hg)
    clear hy hg
    simp only [Bool.false_eq_true, if_false]
    go_wp2
    exact bodyPost_ret (v := .tuple #[.agg #[.int .i64 0, .int .i64 0, .int .i64 0], .bool false]) (by simp [results, Tryd.results13, go_sem, *]) rfl ⟨by rw [HNN.out]; rfl, Below.set3 HB1.out (by omega) _ _ _⟩
  | true =>
    simp only [if_true]
    obtain ⟨y0, y1, y2, _, _, _, yl⟩ := id hy
    go_wp2_with fail
    refine (implIsNote_any _ _ _ _).mono ?_
    rintro e w2 ⟨rfl, hb2⟩
    have hy := hy.below hb2
    have hz := hz.below hb2
    have HB2 := Lib.hid (HB1.out.trans (hb2.mono HB1.out.size))
    clear hb2 y0 y1 y2 yl
    cases hv : noteB p s k with
    | false =>
      obtain ⟨r0, r1, r2, e0, e1, e2, rl⟩ := hz
      have HFF := Lib.hid (HF.out _ _ hg hv rfl)
      clear hy
      go_wp2
      exact bodyPost_ret (v := .tuple #[.agg #[.int .i64 0, .int .i64 0, .int .i64 0], .bool false]) (by simp [results, Tryd.results13, go_sem, *]) rfl ⟨by rw [HFF.out]; rfl, Below.set3 HB2.out (by omega) _ _ _⟩
    | true =>
      have hvv := (noteN_iff (p, s, k)).1 hv
      simp only at hvv
      have HFF := Lib.hid (fun q => HF.out _ q hg hv)
      have m1 : IntKind.i64.wrap (2 * s) = 2 * s := IntWalk.i64_in _ (by omega)
      have m3 : IntKind.i64.wrap (2 * (s + k)) = 2 * (s + k) := IntWalk.i64_in _ (by omega)
      have m4 : IntKind.i64.wrap (2 * (s + k) - 1) = 2 * (s + k) - 1 := IntWalk.i64_in _ (by omega)
      obtain ⟨y0, y1, y2, _, _, _, yl⟩ := hy
      have hbl : w.heap.size < w2.heap.size := by omega
      have hbW := hbl
      clear hg hv
      go_wp2_with fail
      generalize hbw : w.heap.size = b at *
      have hB0 := HB2
      have nx1 := World.new_ne w2 _ y0
      have hbd : Below w2.heap.size w2 w2.drew := (Below.refl _ _).drew
      have hbe : Below w2.heap.size w2 (w2.alloc (.cells #[.int .i64 0, .int .i64 0, .int .i64 0] 29)).drew := ((Below.refl _ _).alloc (Nat.le_refl _) _).drew
      have hr : Res3 (w2.alloc (.cells #[.int .i64 0, .int .i64 0, .int .i64 0] 29)).drew w2.heap.size 0 0 0 := (Res3.new w2 0 0 0 29).drew
      go_region_held3 (fun w' => w'.cell? ⟨b + 1, 0, none⟩ = some (.int .i64 p) ∧ w'.cell? ⟨b + 1, 1, none⟩ = some (.int .i64 s) ∧ w'.cell? ⟨b + 1, 2, none⟩ = some (.int .i64 k))
        (first | go_keep | exact ⟨Y0, Y1, Y2⟩)
        (first
          | (go_at_call 49; with_reducible refine (endOfNote_any p s k w2.drew (by omega) (by omega) (by omega) (by omega)).mono ?_; rintro e w5 ⟨rfl, hb5⟩; have hb6 : Below w2.heap.size w2 w5 := hbd.trans (hb5.mono hbd.size); have hq := Res3.new w5 0 0 0 29; have q0 := hq.c0; have q1 := hq.c1; have q2 := hq.c2; have p0 := hq.f0; have p1 := hq.f1; have p2 := hq.f2; clear hq; have Y0 := ((bcell hb6).1 (b + 1) 0 (by omega)).trans y0; have Y1 := ((bcell hb6).1 (b + 1) 1 (by omega)).trans y1; have Y2 := ((bcell hb6).1 (b + 1) 2 (by omega)).trans y2; have NX1 := World.new_ne w5 _ Y0)
          | (go_at_call 49; with_reducible refine (endOfNote_any p s k _ (by omega) (by omega) (by omega) (by omega)).mono ?_; rintro e w5 ⟨rfl, hb5⟩; have hb6 : Below w2.heap.size w2 w5 := hbe.trans (hb5.mono hbe.size); have hq := hr.below hb5; have q0 := hq.c0; have q1 := hq.c1; have q2 := hq.c2; have p0 := hq.f0; have p1 := hq.f1; have p2 := hq.f2; clear hq; have Y0 := ((bcell hb6).1 (b + 1) 0 (by omega)).trans y0; have Y1 := ((bcell hb6).1 (b + 1) 1 (by omega)).trans y1; have Y2 := ((bcell hb6).1 (b + 1) 2 (by omega)).trans y2; have NX1 := World.new_ne w5 _ Y0))
      · have hg6 := Res3.new w5 (trk p l) (2 * s) (2 * (s + k) - 1) 29
        have hB6 := hb6.alloc hb6.size (.cells #[.int .i64 (trk p l), .int .i64 (2 * s), .int .i64 (2 * (s + k) - 1)] 29)
        have hgn : w5.heap.size ≠ b + 1 + 1 := by have := hb6.size; have := hz.lt; omega
        generalize w5.alloc (.cells #[.int .i64 (trk p l), .int .i64 (2 * s), .int .i64 (2 * (s + k) - 1)] 29) = W6 at *
        generalize w5.heap.size = g at *
        have hbs : b ≤ W6.heap.size := by first | exact hbs0 | exact Nat.le_trans (Nat.le_of_lt hbl) hB6.size
        have hres : Res3 W6 (b + 1 + 1) 0 0 0 := hz.below (by first | exact hB6 | (rw [hgw]; exact hB6))
        have HB6 := Lib.hid (hB0.out.trans (hB6.mono (by omega)))
        obtain ⟨u0, u1, u2, _, _, _, ul⟩ := hg6
        clear y0 y1 y2 nx1 hbd hbe hr hb5 hb6 hz q0 q1 q2 p0 p1 p2 Y0 Y1 Y2 NX1 hB6
        go_wp2_with fail
        refine (H.implIsNote_any _ _ _ _).mono ?_
        rintro e w7 ⟨rfl, hb7⟩
        have hres := hres.below hb7
        have u0 := ((bcell hb7).1 g 0 ul).trans u0
        have u1 := ((bcell hb7).1 g 1 ul).trans u1
        have u2 := ((bcell hb7).1 g 2 ul).trans u2
        have HB7 := Lib.hid (HB6.out.trans (hb7.mono hbs))
        obtain ⟨r0, r1, r2, e0, e1, e2, rl⟩ := hres
        clear hb7
        cases hh : H.noteB (trk p l) (2 * s) (2 * (s + k) - 1) with
        | false =>
          go_wp2
          exact bodyPost_ret (v := .tuple #[.agg #[.int .i64 0, .int .i64 0, .int .i64 0], .bool false]) (by simp [results, Tryd.results13, go_sem, *]) rfl ⟨by rw [HFF.out _ hh]; rfl, by rw [hbw]; exact Below.set3 HB7.out (by omega) _ _ _⟩
        | true =>
          go_wp2
          exact bodyPost_ret (v := .tuple #[.agg #[.int .i64 (trk p l), .int .i64 (2 * s), .int .i64 (2 * (s + k) - 1)], .bool true]) (by simp [results, Tryd.results13, go_sem, *]) rfl ⟨by rw [HFF.out _ hh]; rfl, by rw [hbw]; exact Below.set3 HB7.out (by omega) _ _ _⟩
      · have hg6 := (show Res3 w5 w2.heap.size 0 0 0 from ⟨q0, q1, q2, p0, p1, p2, World.block_lt_of_cell? _ _ q0⟩).set (x' := trk p l) (y' := 2 * s) (z' := 2 * (s + k) - 1)
        have hB6 := Below.set3 hb6 (b := w2.heap.size) (Nat.le_refl _) (.int .i64 (trk p l)) (.int .i64 (2 * s)) (.int .i64 (2 * (s + k) - 1))
        have hgn : w2.heap.size ≠ b + 1 + 1 := by have := hz.lt; omega
        generalize ((w5.setCell ⟨w2.heap.size, 0, none⟩ (.int .i64 (trk p l))).setCell ⟨w2.heap.size, 1, none⟩ (.int .i64 (2 * s))).setCell ⟨w2.heap.size, 2, none⟩ (.int .i64 (2 * (s + k) - 1)) = W6 at *
        have hbs0 : b ≤ W6.heap.size := Nat.le_trans (Nat.le_of_lt hbl) hB6.size
        generalize hgw : w2.heap.size = g at *
        have hbs : b ≤ W6.heap.size := by first | exact hbs0 | exact Nat.le_trans (Nat.le_of_lt hbl) hB6.size
        have hres : Res3 W6 (b + 1 + 1) 0 0 0 := hz.below (by first | exact hB6 | (rw [hgw]; exact hB6))
        have HB6 := Lib.hid (hB0.out.trans (hB6.mono (by omega)))
        obtain ⟨u0, u1, u2, _, _, _, ul⟩ := hg6
        clear y0 y1 y2 nx1 hbd hbe hr hb5 hb6 hz q0 q1 q2 p0 p1 p2 Y0 Y1 Y2 NX1 hB6
        go_wp2_with fail
        refine (H.implIsNote_any _ _ _ _).mono ?_
        rintro e w7 ⟨rfl, hb7⟩
        have hres := hres.below hb7
        have u0 := ((bcell hb7).1 g 0 ul).trans u0
        have u1 := ((bcell hb7).1 g 1 ul).trans u1
        have u2 := ((bcell hb7).1 g 2 ul).trans u2
        have HB7 := Lib.hid (HB6.out.trans (hb7.mono hbs))
        obtain ⟨r0, r1, r2, e0, e1, e2, rl⟩ := hres
        clear hb7
        cases hh : H.noteB (trk p l) (2 * s) (2 * (s + k) - 1) with
        | false =>
          go_wp2
          exact bodyPost_ret (v := .tuple #[.agg #[.int .i64 0, .int .i64 0, .int .i64 0], .bool false]) (by simp [results, Tryd.results13, go_sem, *]) rfl ⟨by rw [HFF.out _ hh]; rfl, by rw [hbw]; exact Below.set3 HB7.out (by omega) _ _ _⟩
        | true =>
          go_wp2
          exact bodyPost_ret (v := .tuple #[.agg #[.int .i64 (trk p l), .int .i64 (2 * s), .int .i64 (2 * (s + k) - 1)], .bool true]) (by simp [results, Tryd.results13, go_sem, *]) rfl ⟨by rw [HFF.out _ hh]; rfl, by rw [hbw]; exact Below.set3 HB7.out (by omega) _ _ _⟩
end Go.Proofs.YtkfgmkgbicahgaaDoor
