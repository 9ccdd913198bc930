/- Texts of the proof, run together: LayG, LayN, LimR, Mark, NtGood. -/
import Derived.Test.YtkfgmkgbicahgaaDoorM7q
import Derived.Lib.QuietBelow
import Derived.Test.YtkfgmkgbicahgaaDoorM4q
import Derived.Test.YtkfgmkgbicahgaaDoorM1q
import Derived.LaidMore
import Derived.OpenShut
import Derived.ChangeVars
import Derived.Lib.LaidU8
import Derived.Stop.Joined
import Derived.ProofKit
import Derived.Lib.SmallJoins
import Derived.Deep.Slices
import Derived.Deep.Fields
import Derived.ChangeSame
import Derived.Test.YtkfgmkgbicahgaaDoorM2q
import Derived.Test.YtkfgmkgbicahgaaDoorM6q
namespace Go.Proofs.YtkfgmkgbicahgaaDoor
open Go.RowKit Go.Sort
set_option linter.unusedVariables false
set_option linter.unusedSimpArgs false

theorem hoR_form (P : List Int) (x : Nt) : ∃ a b c ok, hoR P x = #[.agg #[.int .i64 a, .int .i64 b, .int .i64 c], .bool ok] := by
  unfold hoR
  split
  · exact ⟨_, _, _, _, rfl⟩
  · exact ⟨_, _, _, _, rfl⟩
/-- The hole of a note. -/
def hfR (P : List Int) (r : Int) (x : Nt) : Array Value := if (gdI P r && noteN x) = true then hoR P x else #[no3, .bool false]
theorem hfR_none {P : List Int} {r : Int} {p s k : Int} (h : hasB P p = false) : hfR P r (p, s, k) = #[no3, .bool false] := by
  unfold hfR
  split
  · unfold hoR
    rw [if_neg]
    intro hh
    have := (H.noteN_iff _).1 hh
    have h2 : trk p P < 0 := by rw [trk_neg]; simpa [hasB] using h
    simp only [holeN] at this
    omega
  · rfl

set_option maxRecDepth 100000 in
set_option maxHeartbeats 4000000 in
theorem specHole_any (A : Option Addr) (l : List Int) (c : Nat) (r p s k : Int) (w : World) (hn : l.length ≤ 1048576) (hA : RI w A l) :
    Calls Tryd.prog 10 #[.agg #[.slice A l.length c, .int .i64 r], .agg #[.int .i64 p, .int .i64 s, .int .i64 k]] w fun e w' => e = .returned (.tuple (hfR l r (p, s, k))) ∧ Below w.heap.size w w' := by
  obtain ⟨W, hW⟩ : ∃ W, W = ((w.alloc (.cells #[.slice A l.length c, .int .i64 r] 32)).alloc (.cells #[.int .i64 p, .int .i64 s, .int .i64 k] 34)).alloc (.cells #[.int .i64 0, .int .i64 0, .int .i64 0] 29) := ⟨_, rfl⟩
  obtain ⟨hx, hy, hz, hb0, hsz⟩ := entry3 w A l.length c r p s k _ _ _ W hW
  have HF := Lib.hid (show ∀ u v, gdI l r = u → noteB p s k = v → hfR l r (p, s, k) = if (u && v) = true then hoR l (p, s, k) else #[no3, .bool false] from fun u v h h' => by rw [← h, ← h']; rfl)
  go_enter Tryd.func10, Tryd.ntmps10
  go_wp2_with fail
  rw [← hW]
  clear hW hsz
  refine (inGood_any _ _ _ _ _ hn (hA.below hb0)).mono ?_
  rintro e w1 ⟨rfl, hb1⟩
  have hx := hx.below hb1
  have hy := hy.below hb1
  have hz := hz.below hb1
  have hB1 := hb0.trans (hb1.mono hb0.size)
  clear hb1 hb0
  have HB1 := Lib.hid hB1
  cases hg : gdI l r with
  | false =>
    obtain ⟨r0, r1, r2, e0, e1, e2, rl⟩ := hz
    clear hx hy hB1
    go_wp2
    exact bodyPost_ret (v := .tuple #[.agg #[.int .i64 0, .int .i64 0, .int .i64 0], .bool false]) (by simp [results, Tryd.results10, go_sem, *]) rfl ⟨by rw [HF.out _ _ hg rfl]; rfl, Below.set3 HB1.out (by omega) _ _ _⟩
  | true =>
    obtain ⟨y0, y1, y2, _, _, _, yl⟩ := id hy
    clear hB1
    go_wp2_with fail
    refine (ntNote_any _ _ _ _).mono ?_
    rintro e w2 ⟨rfl, hb2⟩
    have hx := hx.below hb2
    have hy := hy.below hb2
    have hz := hz.below hb2
    have hB2 := HB1.out.trans (hb2.mono HB1.out.size)
    have HB2 := Lib.hid hB2
    clear hb2 hB2 y0 y1 y2 yl
    cases hv : noteB p s k with
    | false =>
      obtain ⟨r0, r1, r2, e0, e1, e2, rl⟩ := hz
      clear hx hy
      go_wp2
      exact bodyPost_ret (v := .tuple #[.agg #[.int .i64 0, .int .i64 0, .int .i64 0], .bool false]) (by simp [results, Tryd.results10, go_sem, *]) rfl ⟨by rw [HF.out _ _ hg hv]; rfl, Below.set3 HB2.out (by omega) _ _ _⟩
    | true =>
      obtain ⟨y0, y1, y2, _, _, _, yl⟩ := hy
      obtain ⟨x0, x1, xl⟩ := hx
      go_wp2_with fail
      refine (laHole_any _ _ _ _ _ _ _ _ hn (hA.below HB2.out) hv).mono ?_
      rintro e w3 ⟨rfl, hb3⟩
      have hz := hz.below hb3
      have HB3 := Lib.hid (HB2.out.trans (hb3.mono HB2.out.size))
      have HFF := Lib.hid (HF.out _ _ hg hv)
      obtain ⟨a, b, d, ok, hR⟩ := hoR_form l (p, s, k)
      rw [hR]
      have HR := Lib.hid hR
      obtain ⟨r0, r1, r2, e0, e1, e2, rl⟩ := hz
      clear hb3 hR y0 y1 y2 yl x0 x1 xl
      go_wp2
      exact bodyPost_ret (v := .tuple #[.agg #[.int .i64 a, .int .i64 b, .int .i64 d], .bool ok]) (by simp [results, Tryd.results10, go_sem, *]) rfl ⟨by rw [HFF.out]; simp only [Bool.and_self, if_true]; rw [HR.out], Below.set3 HB3.out (by omega) _ _ _⟩
set_option maxRecDepth 100000 in
set_option maxHeartbeats 4000000 in
theorem implHole_any (A : Option Addr) (l : List Int) (c : Nat) (r p s k : Int) (w : World) (hn : l.length ≤ 1048576) (hA : RI w A l) (hL : Lim w) :
    Calls Tryd.prog 13 #[.agg #[.slice A l.length c, .int .i64 r], .agg #[.int .i64 p, .int .i64 s, .int .i64 k]] w fun e w' => e = .returned (.tuple (hfR l r (p, s, k))) ∧ Below w.heap.size w w' := by
  obtain ⟨W, hW⟩ : ∃ W, W = ((w.alloc (.cells #[.slice A l.length c, .int .i64 r] 32)).alloc (.cells #[.int .i64 p, .int .i64 s, .int .i64 k] 34)).alloc (.cells #[.int .i64 0, .int .i64 0, .int .i64 0] 29) := ⟨_, rfl⟩
  obtain ⟨hx, hy, hz, hb0, hsz⟩ := entry3 w A l.length c r p s k _ _ _ W hW
  have HF := Lib.hid (show ∀ v q, (gdI l r && hasB l p) = true → noteB p s k = v → H.noteB (trk p l) (2 * s) (2 * (s + k) - 1) = q → hfR l r (p, s, k) = if (v && q) = true then #[nt3 (holeN l (p, s, k)), .bool true] else #[no3, .bool false] from fun v q h h' h'' => by
    rw [← h', ← h'']
    simp only [Bool.and_eq_true] at h
    unfold hfR hoR
    rw [h.1]
    show (if (true && noteB p s k) = true then (if H.noteB (trk p l) (2 * s) (2 * (s + k) - 1) = true then _ else _) else _) = _
    cases noteB p s k <;> cases H.noteB (trk p l) (2 * s) (2 * (s + k) - 1) <;> rfl)
  have HN := Lib.hid (show (gdI l r && hasB l p) = false → hfR l r (p, s, k) = #[no3, .bool false] from fun h => by
    cases hh : hasB l p with
    | false => exact hfR_none hh
    | true =>
      rw [hh, Bool.and_true] at h
      unfold hfR
      rw [h]; rfl)
  have htl := trk_lt p l
  go_enter Tryd.func13, Tryd.ntmps13
  go_wp2_with fail
  rw [← hW]
  clear hW hsz
  refine (implTrack_any _ _ _ _ _ _ hn (hA.below hb0) (hL.below hb0)).mono ?_
  rintro e w1 ⟨rfl, hb1⟩
  have hy := hy.below hb1
  have hz := hz.below hb1
  have HB1 := Lib.hid (hb0.trans (hb1.mono hb0.size))
  clear hb1 hb0 hx
  unfold trR
  cases hg : (gdI l r && hasB l p) with
  | false =>
    obtain ⟨r0, r1, r2, e0, e1, e2, rl⟩ := hz
    have HNN := Lib.hid (HN.out hg)
    clear hy hg
    simp only [Bool.false_eq_true, if_false]
    go_wp2
    exact bodyPost_ret (v := .tuple #[.agg #[.int .i64 0, .int .i64 0, .int .i64 0], .bool false]) (by simp [results, Tryd.results13, go_sem, *]) rfl ⟨by rw [HNN.out]; rfl, Below.set3 HB1.out (by omega) _ _ _⟩
  | true =>
    simp only [if_true]
    obtain ⟨y0, y1, y2, _, _, _, yl⟩ := id hy
    go_wp2_with fail
    refine (implIsNote_any _ _ _ _).mono ?_
    rintro e w2 ⟨rfl, hb2⟩
    have hy := hy.below hb2
    have hz := hz.below hb2
    have HB2 := Lib.hid (HB1.out.trans (hb2.mono HB1.out.size))
    clear hb2 y0 y1 y2 yl
    cases hv : noteB p s k with
    | false =>
      obtain ⟨r0, r1, r2, e0, e1, e2, rl⟩ := hz
      have HFF := Lib.hid (HF.out _ _ hg hv rfl)
      clear hy
      go_wp2
      exact bodyPost_ret (v := .tuple #[.agg #[.int .i64 0, .int .i64 0, .int .i64 0], .bool false]) (by simp [results, Tryd.results13, go_sem, *]) rfl ⟨by rw [HFF.out]; rfl, Below.set3 HB2.out (by omega) _ _ _⟩
    | true =>
      have hvv := (noteN_iff (p, s, k)).1 hv
      simp only at hvv
      have HFF := Lib.hid (fun q => HF.out _ q hg hv)
      have m1 : IntKind.i64.wrap (2 * s) = 2 * s := IntWalk.i64_in _ (by omega)
      have m3 : IntKind.i64.wrap (2 * (s + k)) = 2 * (s + k) := IntWalk.i64_in _ (by omega)
      have m4 : IntKind.i64.wrap (2 * (s + k) - 1) = 2 * (s + k) - 1 := IntWalk.i64_in _ (by omega)
      obtain ⟨y0, y1, y2, _, _, _, yl⟩ := hy
      have hbl : w.heap.size < w2.heap.size := by omega
      have hbW := hbl
      clear hg hv
      go_wp2_with fail
      generalize hbw : w.heap.size = b at *
      have hB0 := HB2
      have nx1 := World.new_ne w2 _ y0
      have hbd : Below w2.heap.size w2 w2.drew := (Below.refl _ _).drew
      have hbe : Below w2.heap.size w2 (w2.alloc (.cells #[.int .i64 0, .int .i64 0, .int .i64 0] 29)).drew := ((Below.refl _ _).alloc (Nat.le_refl _) _).drew
      have hr : Res3 (w2.alloc (.cells #[.int .i64 0, .int .i64 0, .int .i64 0] 29)).drew w2.heap.size 0 0 0 := (Res3.new w2 0 0 0 29).drew
      go_region_held3 (fun w' => w'.cell? ⟨b + 1, 0, none⟩ = some (.int .i64 p) ∧ w'.cell? ⟨b + 1, 1, none⟩ = some (.int .i64 s) ∧ w'.cell? ⟨b + 1, 2, none⟩ = some (.int .i64 k))
        (first | go_keep | exact ⟨Y0, Y1, Y2⟩)
        (first
          | (go_at_call 49; with_reducible refine (endOfNote_any p s k w2.drew (by omega) (by omega) (by omega) (by omega)).mono ?_; rintro e w5 ⟨rfl, hb5⟩; have hb6 : Below w2.heap.size w2 w5 := hbd.trans (hb5.mono hbd.size); have hq := Res3.new w5 0 0 0 29; have q0 := hq.c0; have q1 := hq.c1; have q2 := hq.c2; have p0 := hq.f0; have p1 := hq.f1; have p2 := hq.f2; clear hq; have Y0 := ((bcell hb6).1 (b + 1) 0 (by omega)).trans y0; have Y1 := ((bcell hb6).1 (b + 1) 1 (by omega)).trans y1; have Y2 := ((bcell hb6).1 (b + 1) 2 (by omega)).trans y2; have NX1 := World.new_ne w5 _ Y0)
          | (go_at_call 49; with_reducible refine (endOfNote_any p s k _ (by omega) (by omega) (by omega) (by omega)).mono ?_; rintro e w5 ⟨rfl, hb5⟩; have hb6 : Below w2.heap.size w2 w5 := hbe.trans (hb5.mono hbe.size); have hq := hr.below hb5; have q0 := hq.c0; have q1 := hq.c1; have q2 := hq.c2; have p0 := hq.f0; have p1 := hq.f1; have p2 := hq.f2; clear hq; have Y0 := ((bcell hb6).1 (b + 1) 0 (by omega)).trans y0; have Y1 := ((bcell hb6).1 (b + 1) 1 (by omega)).trans y1; have Y2 := ((bcell hb6).1 (b + 1) 2 (by omega)).trans y2; have NX1 := World.new_ne w5 _ Y0))
      · have hg6 := Res3.new w5 (trk p l) (2 * s) (2 * (s + k) - 1) 29
        have hB6 := hb6.alloc hb6.size (.cells #[.int .i64 (trk p l), .int .i64 (2 * s), .int .i64 (2 * (s + k) - 1)] 29)
        have hgn : w5.heap.size ≠ b + 1 + 1 := by have := hb6.size; have := hz.lt; omega
        generalize w5.alloc (.cells #[.int .i64 (trk p l), .int .i64 (2 * s), .int .i64 (2 * (s + k) - 1)] 29) = W6 at *
        generalize w5.heap.size = g at *
        have hbs : b ≤ W6.heap.size := by first | exact hbs0 | exact Nat.le_trans (Nat.le_of_lt hbl) hB6.size
        have hres : Res3 W6 (b + 1 + 1) 0 0 0 := hz.below (by first | exact hB6 | (rw [hgw]; exact hB6))
        have HB6 := Lib.hid (hB0.out.trans (hB6.mono (by omega)))
        obtain ⟨u0, u1, u2, _, _, _, ul⟩ := hg6
        clear y0 y1 y2 nx1 hbd hbe hr hb5 hb6 hz q0 q1 q2 p0 p1 p2 Y0 Y1 Y2 NX1 hB6
        go_wp2_with fail
        refine (H.implIsNote_any _ _ _ _).mono ?_
        rintro e w7 ⟨rfl, hb7⟩
        have hres := hres.below hb7
        have u0 := ((bcell hb7).1 g 0 ul).trans u0
        have u1 := ((bcell hb7).1 g 1 ul).trans u1
        have u2 := ((bcell hb7).1 g 2 ul).trans u2
        have HB7 := Lib.hid (HB6.out.trans (hb7.mono hbs))
        obtain ⟨r0, r1, r2, e0, e1, e2, rl⟩ := hres
        clear hb7
        cases hh : H.noteB (trk p l) (2 * s) (2 * (s + k) - 1) with
        | false =>
          go_wp2
          exact bodyPost_ret (v := .tuple #[.agg #[.int .i64 0, .int .i64 0, .int .i64 0], .bool false]) (by simp [results, Tryd.results13, go_sem, *]) rfl ⟨by rw [HFF.out _ hh]; rfl, by rw [hbw]; exact Below.set3 HB7.out (by omega) _ _ _⟩
        | true =>
          go_wp2
          exact bodyPost_ret (v := .tuple #[.agg #[.int .i64 (trk p l), .int .i64 (2 * s), .int .i64 (2 * (s + k) - 1)], .bool true]) (by simp [results, Tryd.results13, go_sem, *]) rfl ⟨by rw [HFF.out _ hh]; rfl, by rw [hbw]; exact Below.set3 HB7.out (by omega) _ _ _⟩
      · have hg6 := (show Res3 w5 w2.heap.size 0 0 0 from ⟨q0, q1, q2, p0, p1, p2, World.block_lt_of_cell? _ _ q0⟩).set (x' := trk p l) (y' := 2 * s) (z' := 2 * (s + k) - 1)
        have hB6 := Below.set3 hb6 (b := w2.heap.size) (Nat.le_refl _) (.int .i64 (trk p l)) (.int .i64 (2 * s)) (.int .i64 (2 * (s + k) - 1))
        have hgn : w2.heap.size ≠ b + 1 + 1 := by have := hz.lt; omega
        generalize ((w5.setCell ⟨w2.heap.size, 0, none⟩ (.int .i64 (trk p l))).setCell ⟨w2.heap.size, 1, none⟩ (.int .i64 (2 * s))).setCell ⟨w2.heap.size, 2, none⟩ (.int .i64 (2 * (s + k) - 1)) = W6 at *
        have hbs0 : b ≤ W6.heap.size := Nat.le_trans (Nat.le_of_lt hbl) hB6.size
        generalize hgw : w2.heap.size = g at *
        have hbs : b ≤ W6.heap.size := by first | exact hbs0 | exact Nat.le_trans (Nat.le_of_lt hbl) hB6.size
        have hres : Res3 W6 (b + 1 + 1) 0 0 0 := hz.below (by first | exact hB6 | (rw [hgw]; exact hB6))
        have HB6 := Lib.hid (hB0.out.trans (hB6.mono (by omega)))
        obtain ⟨u0, u1, u2, _, _, _, ul⟩ := hg6
        clear y0 y1 y2 nx1 hbd hbe hr hb5 hb6 hz q0 q1 q2 p0 p1 p2 Y0 Y1 Y2 NX1 hB6
        go_wp2_with fail
        refine (H.implIsNote_any _ _ _ _).mono ?_
        rintro e w7 ⟨rfl, hb7⟩
        have hres := hres.below hb7
        have u0 := ((bcell hb7).1 g 0 ul).trans u0
        have u1 := ((bcell hb7).1 g 1 ul).trans u1
        have u2 := ((bcell hb7).1 g 2 ul).trans u2
        have HB7 := Lib.hid (HB6.out.trans (hb7.mono hbs))
        obtain ⟨r0, r1, r2, e0, e1, e2, rl⟩ := hres
        clear hb7
        cases hh : H.noteB (trk p l) (2 * s) (2 * (s + k) - 1) with
        | false =>
          go_wp2
          exact bodyPost_ret (v := .tuple #[.agg #[.int .i64 0, .int .i64 0, .int .i64 0], .bool false]) (by simp [results, Tryd.results13, go_sem, *]) rfl ⟨by rw [HFF.out _ hh]; rfl, by rw [hbw]; exact Below.set3 HB7.out (by omega) _ _ _⟩
        | true =>
          go_wp2
          exact bodyPost_ret (v := .tuple #[.agg #[.int .i64 (trk p l), .int .i64 (2 * s), .int .i64 (2 * (s + k) - 1)], .bool true]) (by simp [results, Tryd.results13, go_sem, *]) rfl ⟨by rw [HFF.out _ hh]; rfl, by rw [hbw]; exact Below.set3 HB7.out (by omega) _ _ _⟩
end Go.Proofs.YtkfgmkgbicahgaaDoor

namespace Go.Proofs.YtkfgmkgbicahgaaDoor
open Go.RowKit Go.Sort
set_option linter.unusedVariables false
set_option linter.unusedSimpArgs false

/-- The note of a valid hole. -/
def noR (P : List Int) (h : Nt) : Array Value := if isOf P h = true then #[nt3 (noteOf P h), .bool true] else #[no3, .bool false]
theorem noR_form (P : List Int) (x : Nt) : ∃ a b c ok, noR P x = #[.agg #[.int .i64 a, .int .i64 b, .int .i64 c], .bool ok] := by
  unfold noR
  split
  · exact ⟨_, _, _, _, rfl⟩
  · exact ⟨_, _, _, _, rfl⟩
theorem tmod2 {x : Int} (h : 0 ≤ x) : x.tmod 2 = x % 2 := Int.tmod_eq_emod_of_nonneg h
theorem tdiv2 {x : Int} (h : 0 ≤ x) : x.tdiv 2 = x / 2 := Int.tdiv_eq_ediv_of_nonneg h

set_option maxRecDepth 100000 in
set_option maxHeartbeats 4000000 in
theorem laNote_any (A : Option Addr) (l : List Int) (c : Nat) (r p s k : Int) (w : World) (hn : l.length ≤ 1048576) (hA : RI w A l) (hv : H.noteN (p, s, k) = true) :
    Calls Tryd.prog 52 #[.agg #[.slice A l.length c, .int .i64 r], .agg #[.int .i64 p, .int .i64 s, .int .i64 k]] w fun e w' => e = .returned (.tuple (noR l (p, s, k))) ∧ Below w.heap.size w w' := by
  obtain ⟨W, hW⟩ : ∃ W, W = ((w.alloc (.cells #[.slice A l.length c, .int .i64 r] 32)).alloc (.cells #[.int .i64 p, .int .i64 s, .int .i64 k] 29)).alloc (.cells #[.int .i64 0, .int .i64 0, .int .i64 0] 34) := ⟨_, rfl⟩
  obtain ⟨hx, hy, hz, hb0, hsz⟩ := entry3 w A l.length c r p s k _ _ _ W hW
  have hv := (H.noteN_iff _).1 hv
  simp only at hv
  have HNO := Lib.hid (show ¬ (p < (l.length : Int) ∧ s % 2 = 0 ∧ k % 2 = 1) → noR l (p, s, k) = #[no3, .bool false] from fun h => by
    unfold noR
    rw [if_neg]
    intro hh
    have := (isOf_iff _ _).1 hh
    exact h ⟨this.1, this.2.1, this.2.2.1⟩)
  have HYE := Lib.hid (show (p < (l.length : Int) ∧ s % 2 = 0 ∧ k % 2 = 1) → ∀ q, noteB (l.getD p.toNat 0) (s / 2) ((k + 1) / 2 - s / 2) = q → noR l (p, s, k) = if q = true then #[nt3 (l.getD p.toNat 0, s / 2, (k + 1) / 2 - s / 2), .bool true] else #[no3, .bool false] from fun h q hq => by
    unfold noR
    rw [← hq]
    have e : isOf l (p, s, k) = noteB (l.getD p.toNat 0) (s / 2) ((k + 1) / 2 - s / 2) := by
      unfold isOf
      simp only [h.1, h.2.1, h.2.2, decide_true, Bool.true_and]
      rfl
    rw [e]; rfl)
  have d1 := tmod2 (x := s) (by omega)
  have d2 := tmod2 (x := k) (by omega)
  have d3 := tdiv2 (x := s) (by omega)
  have d4 := tdiv2 (x := k + 1) (by omega)
  have m1 : IntKind.i64.wrap (k + 1) = k + 1 := IntWalk.i64_in _ (by omega)
  have m2 : IntKind.i64.wrap ((k + 1) / 2 - s / 2) = (k + 1) / 2 - s / 2 := IntWalk.i64_in _ (by omega)
  have m3 : IntKind.i64.wrap ((k + 1) / 2) = (k + 1) / 2 := IntWalk.i64_in _ (by omega)
  have m4 : IntKind.i64.wrap (s / 2) = s / 2 := IntWalk.i64_in _ (by omega)
  by_cases hl : p < (l.length : Int)
  · by_cases hs : s % 2 = 0
    · by_cases hk : k % 2 = 1
      · have HY := Lib.hid (HYE.out ⟨hl, hs, hk⟩)
        have hx0 : l[p.toNat]? = some (l.getD p.toNat 0) := getD_of (by omega)
        generalize l.getD p.toNat 0 = t at *
        obtain ⟨g0, o0, rfl, hgl, k0⟩ := hA p.toNat _ hx0
        have hgb := hb0
        have k0 := ((bcell hb0).1 g0 _ hgl).trans k0
        go_enter Tryd.func52, Tryd.ntmps52
        have HW := Lib.hid hW
        obtain ⟨x0, x1, xl⟩ := hx
        obtain ⟨y0, y1, y2, _, _, _, yl⟩ := hy
        go_wp2_with fail
        rw [← HW.out]
        generalize hbw : w.heap.size = b at *
        have HB0 := Lib.hid hb0
        have nx0 := World.new_ne W _ x0
        have nx1 := World.new_ne W _ y0
        have nx2 := World.new_ne W _ k0
        have i1 : (0 : Int) ≤ p := by omega
        clear hW hgl hA hb0 hgb hx0 hs hk d1 d2 HNO HYE HW
        go_region_held3 (fun w' => w'.cell? ⟨b, 0, none⟩ = some (.slice (some ⟨g0, o0, none⟩) l.length c) ∧ w'.cell? ⟨b + 1, 0, none⟩ = some (.int .i64 p) ∧ w'.cell? ⟨b + 1, 1, none⟩ = some (.int .i64 s) ∧ w'.cell? ⟨b + 1, 2, none⟩ = some (.int .i64 k) ∧ w'.cell? ⟨g0, o0 + p.toNat, none⟩ = some (.int .i64 t))
          (first | go_keep | assumption)
          (first | fail)
        have hg6 := (Res3.new W t (s / 2) ((k + 1) / 2 - s / 2) 34).drew
        rw [hsz] at hg6
        have hB6 : Below W.heap.size W (W.alloc (.cells #[.int .i64 t, .int .i64 (s / 2), .int .i64 ((k + 1) / 2 - s / 2)] 34)).drew := ((Below.refl _ _).alloc (Nat.le_refl _) _).drew
        generalize (W.alloc (.cells #[.int .i64 t, .int .i64 (s / 2), .int .i64 ((k + 1) / 2 - s / 2)] 34)).drew = W6 at *
        have hres := hz.below hB6
        have hbs : b ≤ W6.heap.size := by have := hB6.size; omega
        have HB6 := Lib.hid (HB0.out.trans (hB6.mono (by omega)))
        obtain ⟨u0, u1, u2, _, _, _, ul⟩ := hg6
        clear x0 x1 xl y0 y1 y2 yl k0 nx0 nx1 nx2 hz hB6
        go_wp2_with fail
        refine (ntNote_any _ _ _ _).mono ?_
        rintro e w7 ⟨rfl, hb7⟩
        have hres := hres.below hb7
        have u0 := ((bcell hb7).1 (b + 3) 0 ul).trans u0
        have u1 := ((bcell hb7).1 (b + 3) 1 ul).trans u1
        have u2 := ((bcell hb7).1 (b + 3) 2 ul).trans u2
        have HB7 := Lib.hid (HB6.out.trans (hb7.mono hbs))
        obtain ⟨r0, r1, r2, e0, e1, e2, rl⟩ := hres
        clear hb7
        cases hh : noteB t (s / 2) ((k + 1) / 2 - s / 2) with
        | false =>
          go_wp2
          exact bodyPost_ret (v := .tuple #[.agg #[.int .i64 0, .int .i64 0, .int .i64 0], .bool false]) (by simp [results, Tryd.results52, go_sem, *]) rfl ⟨by rw [HY.out _ hh]; rfl, by rw [hbw]; exact Below.set3 HB7.out (by omega) _ _ _⟩
        | true =>
          go_wp2
          exact bodyPost_ret (v := .tuple #[.agg #[.int .i64 t, .int .i64 (s / 2), .int .i64 ((k + 1) / 2 - s / 2)], .bool true]) (by simp [results, Tryd.results52, go_sem, *]) rfl ⟨by rw [HY.out _ hh]; rfl, by rw [hbw]; exact Below.set3 HB7.out (by omega) _ _ _⟩
      · have HR := Lib.hid (HNO.out (fun h => hk h.2.2))
        have hq0 : k % 2 = 0 := by omega
        have HB0 := Lib.hid hb0
        have HW := Lib.hid hW
        obtain ⟨x0, x1, xl⟩ := hx
        obtain ⟨y0, y1, y2, _, _, _, yl⟩ := hy
        obtain ⟨r0, r1, r2, e0, e1, e2, rl⟩ := hz
        clear hA hb0
        go_enter Tryd.func52, Tryd.ntmps52
        go_upto_region 1 with fail
        rw [← HW.out]
        clear hW
        go_wp2
        exact bodyPost_ret (v := .tuple #[.agg #[.int .i64 0, .int .i64 0, .int .i64 0], .bool false]) (by simp [results, Tryd.results52, go_sem, *]) rfl ⟨by rw [HR.out]; rfl, Below.set3 HB0.out (by omega) _ _ _⟩
    · have HR := Lib.hid (HNO.out (fun h => hs h.2.1))
      have hq0 : s % 2 = 1 := by omega
      have HB0 := Lib.hid hb0
      have HW := Lib.hid hW
      obtain ⟨x0, x1, xl⟩ := hx
      obtain ⟨y0, y1, y2, _, _, _, yl⟩ := hy
      obtain ⟨r0, r1, r2, e0, e1, e2, rl⟩ := hz
      clear hA hb0
      go_enter Tryd.func52, Tryd.ntmps52
      go_upto_region 1 with fail
      rw [← HW.out]
      clear hW
      go_wp2
      exact bodyPost_ret (v := .tuple #[.agg #[.int .i64 0, .int .i64 0, .int .i64 0], .bool false]) (by simp [results, Tryd.results52, go_sem, *]) rfl ⟨by rw [HR.out]; rfl, Below.set3 HB0.out (by omega) _ _ _⟩
  · have HR := Lib.hid (HNO.out (fun h => hl h.1))
    have hq0 : (l.length : Int) ≤ p := by omega
    have HB0 := Lib.hid hb0
    have HW := Lib.hid hW
    obtain ⟨x0, x1, xl⟩ := hx
    obtain ⟨y0, y1, y2, _, _, _, yl⟩ := hy
    obtain ⟨r0, r1, r2, e0, e1, e2, rl⟩ := hz
    clear hA hb0
    go_enter Tryd.func52, Tryd.ntmps52
    go_upto_region 1 with fail
    rw [← HW.out]
    clear hW
    go_wp2
    exact bodyPost_ret (v := .tuple #[.agg #[.int .i64 0, .int .i64 0, .int .i64 0], .bool false]) (by simp [results, Tryd.results52, go_sem, *]) rfl ⟨by rw [HR.out]; rfl, Below.set3 HB0.out (by omega) _ _ _⟩
end Go.Proofs.YtkfgmkgbicahgaaDoor

namespace Go.Proofs.YtkfgmkgbicahgaaDoor
open Go.ChangeShapes Go.WideShapes Go.ChangeAt Go.RowKit Go.Sort Go.Deep
set_option linter.unusedVariables false

theorem gLim : Tryd.prog.globalNamed "loop.example/g00949/impl.instrumentLimits" = some 0 := by kernel_rfl
theorem tLim : (Tryd.prog.globals[0]?).map (·.type) = some 107 := by kernel_rfl
theorem cLim : Tryd.prog.cellsOf 106 = 2 := by kernel_rfl
theorem cIntV : Tryd.prog.cellsOf 3 = 1 := by kernel_rfl
theorem datum_lim {H : Type} : (Rows.laid_loop_example_g00949_impl_instrumentLimits : DataW H) = .agg [.agg [.lit (.int .i64 1), .lit (.int .i64 20)], .agg [.lit (.int .i64 1), .lit (.int .i64 20)]] := rfl

theorem four_of {α : Type} {l : List α} (h : l.length = 4) : ∃ a b c d, l = [a, b, c, d] := by
  match l, h with
  | [a, b, c, d], _ => exact ⟨a, b, c, d, rfl⟩
theorem two_of {α : Type} {l : List α} (h : l.length = 2) : ∃ a b, l = [a, b] := by
  match l, h with
  | [a, b], _ => exact ⟨a, b, rfl⟩

set_option maxRecDepth 100000 in
theorem lim_of_reads {W : World} (h : Lib.VarReads Tryd.prog W "loop.example/g00949/impl.instrumentLimits" Rows.laid_loop_example_g00949_impl_instrumentLimits) : Lim W := by
  obtain ⟨g, t, cs, fuel, p, hg, ht, hv, hd⟩ := h
  obtain rfl := Option.some.inj (gLim.symm.trans hg)
  obtain rfl := Option.some.inj (tLim.symm.trans ht)
  have hc := fun r => World.var?_cell hg hv r
  generalize hD : (Rows.laid_loop_example_g00949_impl_instrumentLimits : DataW Unit) = D at hd
  rw [datum_lim] at hD
  obtain ⟨xs, m1, rfl, hx1, hlen, hn, hel⟩ := DataW.trod_array Tryd.underlying107 hd
  subst hD
  have h4 : cs.toList.length = 4 := hlen.trans (by kernel_rfl)
  obtain ⟨c0, c1, c2, c3, hcs⟩ := four_of h4
  obtain ⟨x0, x1, rfl⟩ := two_of hn
  have h0 := hel 0 (by omega)
  have h1 := hel 1 (by omega)
  rw [cLim, hcs] at h0 h1
  obtain ⟨y0, y1, n, e1, e2, e3, e4⟩ := trod_struct2 Tryd.underlying106 (h0.trans rfl)
  obtain ⟨z0, z1, n', k1, k2, k3, k4⟩ := trod_struct2 Tryd.underlying106 (h1.trans rfl)
  simp only [cIntV] at e3 e4 k3 k4
  obtain ⟨a0, p0, q0, _⟩ := DataW.trod_int Tryd.underlying3 (e3.trans rfl)
  obtain ⟨a1, p1, q1, _⟩ := DataW.trod_int Tryd.underlying3 (e4.trans rfl)
  obtain ⟨a2, p2, q2, _⟩ := DataW.trod_int Tryd.underlying3 (k3.trans rfl)
  obtain ⟨a3, p3, q3, _⟩ := DataW.trod_int Tryd.underlying3 (k4.trans rfl)
  simp at p0 p1 p2 p3
  simp only [Prod.mk.injEq, DataW.agg.injEq, List.map_cons, List.map_nil, List.cons.injEq, and_true] at hx1
  rw [e1, k1] at hx1
  simp only [DataW.agg.injEq, List.cons.injEq, and_true] at hx1
  rw [q0, q1, q2, q3] at hx1
  simp at hx1
  obtain ⟨⟨⟨rfl, rfl⟩, rfl, rfl⟩, _⟩ := hx1
  have hr : ∀ r v, [c0, c1, c2, c3][r]? = some v → W.cell? ⟨0, r, none⟩ = some v := fun r v h => by
    rw [hc r, ← Array.getElem?_toList, hcs]; exact h
  have w0 := hr 0 _ rfl
  refine ⟨hr 0 _ ?_, hr 1 _ ?_, hr 2 _ ?_, hr 3 _ ?_, World.block_lt_of_cell? W _ w0⟩
  · rw [p0]; rfl
  · rw [p1]; rfl
  · rw [p2]; rfl
  · rw [p3]; rfl
end Go.Proofs.YtkfgmkgbicahgaaDoor

namespace Go.Proofs.YtkfgmkgbicahgaaDoor
open Go.RowKit
set_option linter.unusedVariables false


set_option maxRecDepth 100000 in
set_option maxHeartbeats 1000000 in
theorem markIns_any (A : Option Addr) (l : List Int) (c : Nat) (r K : Int) (base : Nat) (w : World) (hn : l.length ≤ 1048576) (hK : 0 ≤ K) (hK' : K ≤ 1048576) (hv : OwnI w base 3 (.slice A l.length c) l) :
    Calls Tryd.prog 26 #[.agg #[.slice A l.length c, .int .i64 r], .int .i64 K] w fun e w' => e = .returned (.int .i64 (K + l.length)) ∧ OwnI w' base 3 (.slice A l.length c) (mki l.length K) ∧ w.grownBy w' (Value.slice A l.length c).ownBlock := by
  have hg0 := World.grownBy_alloc w (.cells #[.slice A l.length c, .int .i64 r] 32) (Value.slice A l.length c).ownBlock
  have hv0 : OwnI (w.alloc (.cells #[.slice A l.length c, .int .i64 r] 32)) base 3 (.slice A l.length c) l := hv.below ((Below.refl _ _).alloc (Nat.le_refl _) _) (Nat.le_refl _)
  go_enter Tryd.func26, Tryd.ntmps26
  go_wp2_with fail
  generalize w.alloc (.cells #[.slice A l.length c, .int .i64 r] 32) = W at *
  refine (markIntS_any _ _ _ _ _ hn hK hK' hv0).mono ?_
  rintro e w1 ⟨rfl, hv1, hg1⟩
  go_wp2
  go_ret
  exact ⟨rfl, hv1, hg0.trans hg1⟩

set_option maxRecDepth 100000 in
set_option maxHeartbeats 1000000 in
theorem markNoteS_wide (v : Value) (l : List Nt) (K : Int) (base : Nat) (w : World) (hn : l.length ≤ 1048576) (hK : 0 ≤ K) (hK' : K ≤ 2097152) (hv : Own w base 34 v l) :
    Calls Tryd.prog 27 #[v, .int .i64 K] w fun e w' => e = .returned (.int .i64 (K + 3 * l.length)) ∧ Own w' base 34 v (mk l.length K) ∧ w.grownBy w' v.ownBlock := by
  have hv0 := hv
  rcases hv.2 with ⟨rfl, h0⟩ | ⟨g, cap, cur, rfl, hg, hh, hnc, hm, hs, ht⟩
  · obtain rfl : l = [] := List.eq_nil_of_length_eq_zero h0
    go_enter Tryd.func27, Tryd.ntmps27
    go_wp2
    go_rounds 1
    go_ret
    exact ⟨ret_int (by simp), hv0, World.grownBy.refl w _⟩
  · have hlt : g < w.heap.size := (hv0.lt _ rfl).2
    clear hh hs ht cur
    go_enter Tryd.func27, Tryd.ntmps27
    go_wp2
    go_loopw [1, 5] (fun q i wr => ∃ k : Nat, k ≤ l.length ∧ i = .int .i64 k ∧ q = .int .i64 (K + 3 * k) ∧ Own wr base 34 (.slice (some ⟨g, 0, none⟩) l.length cap) (mk k K ++ l.drop k) ∧ w.grownBy wr (some g))
      (fun _ i _ => l.length - (intOf i).toNat)
    case atStart => exact ⟨0, Nat.zero_le _, rfl, by simp, by simpa [mk] using hv0, World.grownBy.refl w _⟩
    case round =>
      obtain ⟨k, hk, rfl, rfl, hown, hgr⟩ := hrel
      have hL : (mk k K ++ l.drop k).length = l.length := by simp [mk_length]; omega
      by_cases hk2 : k < l.length
      · unfold Own at hown
        rw [hL] at hown
        have f := fun j => hown.frozenAt j
        have c0 : ∃ u, wr.cell? ⟨g, k * 3, none⟩ = some u := by rw [hown.cellAt _ (by omega)]; exact ⟨_, List.getElem?_eq_getElem (by rw [cl_length, hL]; omega)⟩
        have c1 : ∃ u, wr.cell? ⟨g, k * 3 + 1, none⟩ = some u := by rw [hown.cellAt _ (by omega)]; exact ⟨_, List.getElem?_eq_getElem (by rw [cl_length, hL]; omega)⟩
        have c2 : ∃ u, wr.cell? ⟨g, k * 3 + 2, none⟩ = some u := by rw [hown.cellAt _ (by omega)]; exact ⟨_, List.getElem?_eq_getElem (by rw [cl_length, hL]; omega)⟩
        obtain ⟨u0, c0⟩ := c0
        obtain ⟨u1, c1⟩ := c1
        obtain ⟨u2, c2⟩ := c2
        have f0 := f (k * 3)
        have f1 := f (k * 3 + 1)
        have f2 := f (k * 3 + 2)
        have H := Lib.hid hown
        have HL := Lib.hid hL
        clear f hown hL hv hv0
        go_wp2
        go_roundw
        case rel =>
          have s1 := H.out.stored (k * 3) (.int .i64 (K + 3 * k))
          have s2 := s1.1.stored (k * 3 + 1) (.int .i64 (K + 3 * k + 1))
          have s3 := s2.1.stored (k * 3 + 2) (.int .i64 (K + 3 * k + 2))
          have k2 := s3.1
          rw [cl_set _ _ (K + 3 * k, K + 3 * k + 1, K + 3 * k + 2) (by rw [HL.out]; exact hk2), mk_set l K k hk2] at k2
          have hL' : (mk (k + 1) K ++ l.drop (k + 1)).length = l.length := by simp [mk_length]; omega
          have e2 : K + 3 * (k : Int) + 1 + 1 = K + 3 * k + 2 := by omega
          refine ⟨k + 1, by omega, by go_num, by first | go_num | (congr 1; omega), ?_, ?_⟩
          · unfold Own
            rw [hL']
            first | exact k2 | (rw [e2]; exact k2)
          · first | exact ((hgr.trans s1.2).trans s2.2).trans s3.2 | (rw [e2]; exact ((hgr.trans s1.2).trans s2.2).trans s3.2)
        case measure => simp [intOf]; omega
      · obtain rfl : k = l.length := by omega
        go_wp2
        go_ret
        exact ⟨rfl, by simpa using hown, hgr⟩

end Go.Proofs.YtkfgmkgbicahgaaDoor

namespace Go.Proofs.YtkfgmkgbicahgaaDoor
open Go.RowKit Go.Sort
set_option linter.unusedVariables false

set_option maxRecDepth 100000 in
set_option maxHeartbeats 2000000 in
theorem ntGood_any (A : Option Addr) (l : List Nt) (c : Nat) (w : World) (hn : l.length ≤ 1048576) (hc : l.length ≤ c) (hc' : c ≤ 9223372036854775807) (hA : RA w A l) :
    Calls Tryd.prog 76 #[.slice A l.length c] w fun e w' => e = .returned (.bool (goodB l)) ∧ Below w.heap.size w w' := by
  go_enter Tryd.func76, Tryd.ntmps76
  go_wp2
  go_loopw [9] (fun i wr => ∃ k : Nat, k ≤ l.length ∧ i = .int .i64 k ∧ GoodTo l k ∧ Below w.heap.size w wr)
    (fun i _ => l.length - (intOf i).toNat)
  case atStart => exact ⟨0, Nat.zero_le _, rfl, GoodTo.zero l, Below.refl _ _⟩
  case round =>
    obtain ⟨k, hk, rfl, hgood, hb⟩ := hrel
    have HG := Lib.hid hgood
    clear hgood
    by_cases hlt : k < l.length
    · have hx : l[k]? = some l[k] := List.getElem?_eq_getElem hlt
      generalize l[k] = x at hx
      obtain ⟨p, s, n⟩ := x
      obtain ⟨g, o, rfl, hg, h0, h1, h2⟩ := (hA.below hb) k _ hx
      simp only at h0 h1 h2
      have HX := Lib.hid hx
      have i1 : (0 : Int) ≤ (k : Int) := by omega
      have i2 : (k : Int) < (l.length : Int) := by omega
      clear hx
      go_wp2_with fail
      have hRA : RA (wr.alloc (.cells #[.int .i64 p, .int .i64 s, .int .i64 n] 34)) (some ⟨g, o, none⟩) l := (hA.below hb).alloc _
      have hxc : ∀ j, (wr.alloc (.cells #[.int .i64 p, .int .i64 s, .int .i64 n] 34)).cell? ⟨wr.heap.size, j, none⟩ = #[Value.int .i64 p, .int .i64 s, .int .i64 n][j]? := fun j => World.cell?_alloc_new wr _ _ j
      have hbW : Below w.heap.size w (wr.alloc (.cells #[.int .i64 p, .int .i64 s, .int .i64 n] 34)) := hb.alloc hb.size _
      have hzW : wr.heap.size < (wr.alloc (.cells #[.int .i64 p, .int .i64 s, .int .i64 n] 34)).heap.size := by simp
      generalize wr.alloc (.cells #[.int .i64 p, .int .i64 s, .int .i64 n] 34) = W at *
      generalize wr.heap.size = xb at *
      have x0 := cell_regrown ((hxc 0).trans rfl)
      have x1 := cell_regrown ((hxc 1).trans rfl)
      have x2 := cell_regrown ((hxc 2).trans rfl)
      have cN : ∀ d os, Calls Tryd.prog 44 #[.agg #[.int .i64 p, .int .i64 s, .int .i64 n]] (grow (redrawn W d) os) fun e w'' => e = .returned (.bool (noteB p s n)) ∧ ∃ q : Regrown, w'' = grow (redrawn W q.d) q.os :=
        fun d os => Calls.regrown_of (ntNote_any p s n _)
      have hlt' : xb < W.heap.size := hzW
      clear h0 h1 h2 hA
      have HXC := Lib.hid hxc
      clear hxc
      cases hv : noteB p s n with
      | false =>
        have CN := Lib.hid cN
        clear cN
        refine wp_region_quiet_below (by kernel_rfl) (by kernel_rfl) ?_
        repeat (go_big_quiet_step (exact (CN.out _ _)))
        refine wpQuiet_nil ?_
        intro _ hw'
        obtain ⟨q, hw''⟩ := hw'
        subst hw''
        go_wp2
        go_ret
        refine ⟨ret_bool (goodB_false (Good.not_of HX.out fun h => ?_)).symm, hbW.trans ((below_regrown W q.d q.os).mono hbW.size)⟩
        have := h.1
        simp [noteN, hv] at this
      | true =>
        rcases Nat.eq_zero_or_pos k with hk0 | hk0
        · have hd : decide (0 < k) = false := by simp [hk0]
          have HK0 := Lib.hid hk0
          clear hk0
          refine wp_region_quiet_below (by kernel_rfl) (by kernel_rfl) ?_
          repeat (go_big_quiet_step (exact (cN _ _)))
          refine wpQuiet_nil ?_
          intro _ hw'
          obtain ⟨q, hw''⟩ := hw'
          subst hw''
          have HBEF := Lib.hid (show ∀ y, 0 < k → l[k - 1]? = some y → befN y (p, s, n) = true from fun y h => absurd h (by have := HK0.out; omega))
          have hxc := HXC.out
          go_wp2_with fail
          have hbV := hbW.trans ((below_regrown W q.d q.os).mono hbW.size)
          have hxV := fun j => ((below_regrown W q.d q.os).cell (p := ⟨xb, j, none⟩) hzW).trans (hxc j)
          have hRV := hRA.below (below_regrown W q.d q.os)
          have hzV : xb < (grow (redrawn W q.d) q.os).heap.size := Nat.lt_of_lt_of_le hzW (below_regrown W q.d q.os).size
          generalize grow (redrawn W q.d) q.os = V at *
          clear x0 x1 x2 hRA cN
          go_loopw [35] (fun i vr => ∃ j : Nat, j ≤ k ∧ i = .int .i64 j ∧ (∀ i' y, i' < j → l[i']? = some y → meetN (p, s, n) y = false) ∧ Below V.heap.size V vr)
            (fun i _ => k - (intOf i).toNat)
          case atStart => exact ⟨0, Nat.zero_le _, rfl, fun _ _ h => absurd h (by omega), Below.refl _ _⟩
          case round =>
            obtain ⟨j, hj, rfl, hmeet, hbr⟩ := hrel
            have HM := Lib.hid hmeet
            clear hmeet
            by_cases hjk : j < k
            · have hyj : l[j]? = some l[j] := List.getElem?_eq_getElem (by omega)
              generalize l[j] = yj at hyj
              have hvy := (noteN_iff yj).1 (HG.out j yj hjk hyj).1
              obtain ⟨pj, sj, nj⟩ := yj
              simp only at hvy
              have hvx := (noteN_iff (p, s, n)).1 hv
              simp only at hvx
              obtain ⟨g3, o3, hgo3, hg3, z0, z1, z2⟩ := (hRV.below hbr) j _ hyj
              simp only [Option.some.injEq, Addr.mk.injEq, and_true] at hgo3
              obtain ⟨rfl, rfl⟩ := hgo3
              simp only at z0 z1 z2
              have xr0 := (hbr.cell (p := ⟨xb, 0, none⟩) hzV).trans (hxV 0)
              have xr1 := (hbr.cell (p := ⟨xb, 1, none⟩) hzV).trans (hxV 1)
              have xr2 := (hbr.cell (p := ⟨xb, 2, none⟩) hzV).trans (hxV 2)
              have hzr : xb < _ := Nat.lt_of_lt_of_le hzV hbr.size
              have j1 : (0 : Int) ≤ (j : Int) := by omega
              have j2 : (j : Int) < (k : Int) := by omega
              have HYJ := Lib.hid hyj
              have HXV := Lib.hid hxV
              have HVC := Lib.hid hv
              clear hyj hxV hv
              go_wp2_with fail
              refine (ntMeet_any _ _ _ _ _ _ _ (by omega) (by omega) (by omega) (by omega) (by omega) (by omega) (by omega) (by omega)).mono ?_
              rintro e w1 ⟨rfl, hb1⟩
              cases hm : meetB p s n pj sj nj with
              | true =>
                go_wp2
                go_ret
                refine ⟨ret_bool (goodB_false (Good.not_of HX.out fun h => ?_)).symm, hbV.trans ((hbr.mono hbV.size).trans (((Below.refl _ _).alloc (Nat.le_trans hbV.size hbr.size) _).trans (hb1.mono (by simp; have := hbV.size; have := hbr.size; omega))))⟩
                have := h.2.2 j _ hjk HYJ.out
                simp [meetN, hm] at this
              | false =>
                go_wp2
                go_roundw
                case rel =>
                  refine ⟨j + 1, by omega, by go_num, ?_, hbr.trans (((Below.refl _ _).alloc hbr.size _).trans (hb1.mono (by simp; have := hbr.size; omega)))⟩
                  intro i' y hi hy
                  rcases Nat.lt_or_ge i' j with h | h
                  · exact HM.out i' y h hy
                  · obtain rfl : i' = j := by omega
                    have e := HYJ.out.symm.trans hy
                    injection e with e
                    subst e
                    exact hm
                case measure => simp [intOf]; omega
            · obtain rfl : j = k := by omega
              go_wp2
              go_roundw
              case rel => exact ⟨j + 1, by omega, by go_num, HG.out.succ HX.out ⟨hv, HBEF.out, HM.out⟩, hbV.trans (hbr.mono hbV.size)⟩
              case measure => simp [intOf]; omega
        · have hd : (0 : Int) < (k : Int) := by omega
          have hy : l[k - 1]? = some l[k - 1] := List.getElem?_eq_getElem (by omega)
          generalize l[k - 1] = y at hy
          obtain ⟨p', s', n'⟩ := y
          obtain ⟨g2, o2, hgo, hg2, y0, y1, y2⟩ := hRA (k - 1) _ hy
          simp only [Option.some.injEq, Addr.mk.injEq, and_true] at hgo
          obtain ⟨rfl, rfl⟩ := hgo
          simp only at y0 y1 y2
          have y0 := cell_regrown y0
          have y1 := cell_regrown y1
          have y2 := cell_regrown y2
          have HY := Lib.hid hy
          have i3 : (0 : Int) ≤ (k : Int) - 1 := by omega
          have i4 : (k : Int) - 1 < (l.length : Int) := by omega
          have cB : ∀ d os, Calls Tryd.prog 90 #[.agg #[.int .i64 p', .int .i64 s', .int .i64 n'], .agg #[.int .i64 p, .int .i64 s, .int .i64 n]] (grow (redrawn W d) os) fun e w'' => e = .returned (.bool (befB p' s' p s)) ∧ ∃ q : Regrown, w'' = grow (redrawn W q.d) q.os :=
            fun d os => Calls.regrown_of (ntBefore_any p' s' n' p s n _)
          clear hy
          cases hbf : befB p' s' p s with
          | false =>
            refine wp_region_quiet_below (by kernel_rfl) (by kernel_rfl) ?_
            repeat (go_big_quiet_step (first | exact (cN _ _) | exact (cB _ _)))
            refine wpQuiet_nil ?_
            intro _ hw'
            obtain ⟨q, hw''⟩ := hw'
            subst hw''
            go_wp2
            go_ret
            refine ⟨ret_bool (goodB_false (Good.not_of HX.out fun h => ?_)).symm, hbW.trans ((below_regrown W q.d q.os).mono hbW.size)⟩
            have := h.2.1 _ hk0 HY.out
            simp [befN, hbf] at this
          | true =>
            refine wp_region_quiet_below (by kernel_rfl) (by kernel_rfl) ?_
            repeat (go_big_quiet_step (first | exact (cN _ _) | exact (cB _ _)))
            refine wpQuiet_nil ?_
            intro _ hw'
            obtain ⟨q, hw''⟩ := hw'
            subst hw''
            have HBEF := Lib.hid (show ∀ y, 0 < k → l[k - 1]? = some y → befN y (p, s, n) = true from fun y _ hy => by have e := HY.out.symm.trans hy; injection e with e; subst e; exact hbf)
            have hxc := HXC.out
            go_wp2_with fail
            clear hbf
            go_wp2_with fail
            have hbV := hbW.trans ((below_regrown W q.d q.os).mono hbW.size)
            have hxV := fun j => ((below_regrown W q.d q.os).cell (p := ⟨xb, j, none⟩) hzW).trans (hxc j)
            have hRV := hRA.below (below_regrown W q.d q.os)
            have hzV : xb < (grow (redrawn W q.d) q.os).heap.size := Nat.lt_of_lt_of_le hzW (below_regrown W q.d q.os).size
            generalize grow (redrawn W q.d) q.os = V at *
            clear x0 x1 x2 hRA cN cB y0 y1 y2
            go_loopw [35] (fun i vr => ∃ j : Nat, j ≤ k ∧ i = .int .i64 j ∧ (∀ i' y, i' < j → l[i']? = some y → meetN (p, s, n) y = false) ∧ Below V.heap.size V vr)
              (fun i _ => k - (intOf i).toNat)
            case atStart => exact ⟨0, Nat.zero_le _, rfl, fun _ _ h => absurd h (by omega), Below.refl _ _⟩
            case round =>
              obtain ⟨j, hj, rfl, hmeet, hbr⟩ := hrel
              have HM := Lib.hid hmeet
              clear hmeet
              by_cases hjk : j < k
              · have hyj : l[j]? = some l[j] := List.getElem?_eq_getElem (by omega)
                generalize l[j] = yj at hyj
                have hvy := (noteN_iff yj).1 (HG.out j yj hjk hyj).1
                obtain ⟨pj, sj, nj⟩ := yj
                simp only at hvy
                have hvx := (noteN_iff (p, s, n)).1 hv
                simp only at hvx
                obtain ⟨g3, o3, hgo3, hg3, z0, z1, z2⟩ := (hRV.below hbr) j _ hyj
                simp only [Option.some.injEq, Addr.mk.injEq, and_true] at hgo3
                obtain ⟨rfl, rfl⟩ := hgo3
                simp only at z0 z1 z2
                have xr0 := (hbr.cell (p := ⟨xb, 0, none⟩) hzV).trans (hxV 0)
                have xr1 := (hbr.cell (p := ⟨xb, 1, none⟩) hzV).trans (hxV 1)
                have xr2 := (hbr.cell (p := ⟨xb, 2, none⟩) hzV).trans (hxV 2)
                have hzr : xb < _ := Nat.lt_of_lt_of_le hzV hbr.size
                have j1 : (0 : Int) ≤ (j : Int) := by omega
                have j2 : (j : Int) < (k : Int) := by omega
                have HYJ := Lib.hid hyj
                have HXV := Lib.hid hxV
                have HVC := Lib.hid hv
                clear hyj hxV hv
                go_wp2_with fail
                refine (ntMeet_any _ _ _ _ _ _ _ (by omega) (by omega) (by omega) (by omega) (by omega) (by omega) (by omega) (by omega)).mono ?_
                rintro e w1 ⟨rfl, hb1⟩
                cases hm : meetB p s n pj sj nj with
                | true =>
                  go_wp2
                  go_ret
                  refine ⟨ret_bool (goodB_false (Good.not_of HX.out fun h => ?_)).symm, hbV.trans ((hbr.mono hbV.size).trans (((Below.refl _ _).alloc (Nat.le_trans hbV.size hbr.size) _).trans (hb1.mono (by simp; have := hbV.size; have := hbr.size; omega))))⟩
                  have := h.2.2 j _ hjk HYJ.out
                  simp [meetN, hm] at this
                | false =>
                  go_wp2
                  go_roundw
                  case rel =>
                    refine ⟨j + 1, by omega, by go_num, ?_, hbr.trans (((Below.refl _ _).alloc hbr.size _).trans (hb1.mono (by simp; have := hbr.size; omega)))⟩
                    intro i' y hi hy
                    rcases Nat.lt_or_ge i' j with h | h
                    · exact HM.out i' y h hy
                    · obtain rfl : i' = j := by omega
                      have e := HYJ.out.symm.trans hy
                      injection e with e
                      subst e
                      exact hm
                  case measure => simp [intOf]; omega
              · obtain rfl : j = k := by omega
                go_wp2
                go_roundw
                case rel => exact ⟨j + 1, by omega, by go_num, HG.out.succ HX.out ⟨hv, HBEF.out, HM.out⟩, hbV.trans (hbr.mono hbV.size)⟩
                case measure => simp [intOf]; omega
    · obtain rfl : k = l.length := by omega
      have hG := HG.out
      by_cases h30 : l.length ≤ 30
      · go_wp2
        go_ret
        refine ⟨ret_bool ?_, hb⟩
        rw [(goodB_iff l).2 ⟨hG, h30⟩]
        simp
        omega
      · go_wp2
        go_ret
        refine ⟨ret_bool ?_, hb⟩
        rw [goodB_false (fun h => h30 h.2)]
        simp
        omega
end Go.Proofs.YtkfgmkgbicahgaaDoor
