/- Contracts: the hole of a note and the note of a hole, on either side. -/
import Derived.Test.YtkfgmkgbicahgaaDoorLayP
import Derived.Test.YtkfgmkgbicahgaaDoorInsF
import Derived.Test.YtkfgmkgbicahgaaDoorHTwo
import Derived.Test.YtkfgmkgbicahgaaDoorTwo
import Derived.Deep.RegionHeld3
import Derived.Deep.RegionLaw
namespace Go.Proofs.YtkfgmkgbicahgaaDoor
open Go.RowKit Go.Sort
set_option linter.unusedVariables false
set_option linter.unusedSimpArgs false

/-- A block of three numbers that can be written. -/
structure Res3 (w : World) (b : Nat) (x y z : Int) : Prop where
  c0 : w.cell? ⟨b, 0, none⟩ = some (.int .i64 x)
  c1 : w.cell? ⟨b, 1, none⟩ = some (.int .i64 y)
  c2 : w.cell? ⟨b, 2, none⟩ = some (.int .i64 z)
  f0 : w.frozen? ⟨b, 0, none⟩ = false
  f1 : w.frozen? ⟨b, 1, none⟩ = false
  f2 : w.frozen? ⟨b, 2, none⟩ = false
  lt : b < w.heap.size
theorem Res3.new (w : World) (x y z : Int) (t : TypeId) : Res3 (w.alloc (.cells #[.int .i64 x, .int .i64 y, .int .i64 z] t)) w.heap.size x y z := by
  have hr := fun j => World.cell?_alloc_new w #[.int .i64 x, .int .i64 y, .int .i64 z] t j
  have hf := fun j => World.frozen?_alloc_at (w := w) #[.int .i64 x, .int .i64 y, .int .i64 z] t w.heap.size j rfl
  exact ⟨(hr 0).trans rfl, (hr 1).trans rfl, (hr 2).trans rfl, hf 0, hf 1, hf 2, by simp⟩
theorem Res3.below {w w' : World} {b : Nat} {x y z : Int} (h : Res3 w b x y z) (hb : Below w.heap.size w w') : Res3 w' b x y z := by
  have hc := fun j => (bcell hb).1 b j h.lt
  have hf := fun j => (bcell hb).2 b j h.lt
  exact ⟨(hc 0).trans h.c0, (hc 1).trans h.c1, (hc 2).trans h.c2, (hf 0).trans h.f0, (hf 1).trans h.f1, (hf 2).trans h.f2, Nat.lt_of_lt_of_le h.lt hb.size⟩
theorem Res3.drew {w : World} {b : Nat} {x y z : Int} (h : Res3 w b x y z) : Res3 w.drew b x y z := h.below (Below.refl _ _).drew
theorem Res3.set {w : World} {b : Nat} {x y z x' y' z' : Int} (h : Res3 w b x y z) : Res3 (((w.setCell ⟨b, 0, none⟩ (.int .i64 x')).setCell ⟨b, 1, none⟩ (.int .i64 y')).setCell ⟨b, 2, none⟩ (.int .i64 z')) b x' y' z' := by
  have n01 : (⟨b, 0, none⟩ : Addr) ≠ ⟨b, 1, none⟩ := by simp
  have hs : ∀ (u : World) (o o' : Nat) (v : Value), o ≠ o' → (u.setCell ⟨b, o, none⟩ v).cell? ⟨b, o', none⟩ = u.cell? ⟨b, o', none⟩ := fun u o o' v hne => World.cell?_setCell_other u _ _ v (by simp [hne])
  have hf : ∀ (u : World) (a a' : Addr) (v : Value), (u.setCell a v).frozen? a' = u.frozen? a' := fun u a a' v => World.frozen?_setCell u a a' v
  refine ⟨?_, ?_, ?_, ?_, ?_, ?_, ?_⟩
  · rw [hs _ _ _ _ (by omega), hs _ _ _ _ (by omega)]; exact World.cell?_setCell_same _ _ _ h.c0
  · rw [hs _ _ _ _ (by omega)]; exact World.cell?_setCell_same _ _ _ ((hs _ _ _ _ (by omega)).trans h.c1)
  · exact World.cell?_setCell_same _ _ _ (((hs _ _ _ _ (by omega)).trans (hs _ _ _ _ (by omega))).trans h.c2)
  · rw [hf, hf, hf]; exact h.f0
  · rw [hf, hf, hf]; exact h.f1
  · rw [hf, hf, hf]; exact h.f2
  · simpa [World.setCell] using h.lt
theorem Below.set3 {B : Nat} {a w : World} (h : Below B a w) {b : Nat} (hb : B ≤ b) (x y z : Value) : Below B a (((w.setCell ⟨b, 0, none⟩ x).setCell ⟨b, 1, none⟩ y).setCell ⟨b, 2, none⟩ z) :=
  ((h.setCell hb _).setCell hb _).setCell hb _
/-- What a function of an instrument and three numbers begins with: their boxes, and the room of its answer. -/
theorem entry3 (w : World) (A : Option Addr) (n c : Nat) (r p s k : Int) (t0 t1 t2 : TypeId) (W : World) (hW : W = ((w.alloc (.cells #[.slice A n c, .int .i64 r] t0)).alloc (.cells #[.int .i64 p, .int .i64 s, .int .i64 k] t1)).alloc (.cells #[.int .i64 0, .int .i64 0, .int .i64 0] t2)) :
    Box W w.heap.size A n c r ∧ Res3 W (w.heap.size + 1) p s k ∧ Res3 W (w.heap.size + 1 + 1) 0 0 0 ∧ Below w.heap.size w W ∧ W.heap.size = w.heap.size + 3 := by
  subst hW
  have a1 := Box.new w A n c r t0
  have z1 : (w.alloc (.cells #[.slice A n c, .int .i64 r] t0)).heap.size = w.heap.size + 1 := by simp
  have b1 : Below w.heap.size w (w.alloc (.cells #[.slice A n c, .int .i64 r] t0)) := (Below.refl _ _).alloc (Nat.le_refl _) _
  generalize w.alloc (.cells #[.slice A n c, .int .i64 r] t0) = W1 at *
  have a2 := Res3.new W1 p s k t1
  rw [z1] at a2
  have z2 : (W1.alloc (.cells #[.int .i64 p, .int .i64 s, .int .i64 k] t1)).heap.size = w.heap.size + 2 := by simp; omega
  have b2 : Below W1.heap.size W1 (W1.alloc (.cells #[.int .i64 p, .int .i64 s, .int .i64 k] t1)) := (Below.refl _ _).alloc (Nat.le_refl _) _
  generalize W1.alloc (.cells #[.int .i64 p, .int .i64 s, .int .i64 k] t1) = W2 at *
  have a3 := Res3.new W2 0 0 0 t2
  rw [z2] at a3
  have z3 : (W2.alloc (.cells #[.int .i64 0, .int .i64 0, .int .i64 0] t2)).heap.size = w.heap.size + 3 := by simp; omega
  have b3 : Below W2.heap.size W2 (W2.alloc (.cells #[.int .i64 0, .int .i64 0, .int .i64 0] t2)) := (Below.refl _ _).alloc (Nat.le_refl _) _
  generalize W2.alloc (.cells #[.int .i64 0, .int .i64 0, .int .i64 0] t2) = W3 at *
  have b23 := b2.trans (b3.mono b2.size)
  exact ⟨a1.below b23, a2.below b3, a3, b1.trans (b23.mono b1.size), z3⟩

def nt3 (x : Nt) : Value := .agg #[.int .i64 x.1, .int .i64 x.2.1, .int .i64 x.2.2]
def no3 : Value := .agg #[.int .i64 0, .int .i64 0, .int .i64 0]
/-- The hole of a valid note. -/
def hoR (P : List Int) (x : Nt) : Array Value := if H.noteN (holeN P x) = true then #[nt3 (holeN P x), .bool true] else #[no3, .bool false]

set_option maxRecDepth 100000 in
set_option maxHeartbeats 4000000 in
theorem laHole_any (A : Option Addr) (l : List Int) (c : Nat) (r p s k : Int) (w : World) (hn : l.length ≤ 1048576) (hA : RI w A l) (hv : noteN (p, s, k) = true) :
    Calls Tryd.prog 45 #[.agg #[.slice A l.length c, .int .i64 r], .agg #[.int .i64 p, .int .i64 s, .int .i64 k]] w fun e w' => e = .returned (.tuple (hoR l (p, s, k))) ∧ Below w.heap.size w w' := by
  have hv := (noteN_iff _).1 hv
  simp only at hv
  obtain ⟨W, hW⟩ : ∃ W, W = ((w.alloc (.cells #[.slice A l.length c, .int .i64 r] 32)).alloc (.cells #[.int .i64 p, .int .i64 s, .int .i64 k] 34)).alloc (.cells #[.int .i64 0, .int .i64 0, .int .i64 0] 29) := ⟨_, rfl⟩
  obtain ⟨hx, hy, hz, hb0, hsz⟩ := entry3 w A l.length c r p s k _ _ _ W hW
  have htl := trk_lt p l
  have HF := Lib.hid (show ∀ v, H.noteB (trk p l) (2 * s) (2 * (s + k) - 1) = v → hoR l (p, s, k) = if v = true then #[nt3 (holeN l (p, s, k)), .bool true] else #[no3, .bool false] from fun v h => by rw [← h]; rfl)
  have m1 : IntKind.i64.wrap (2 * s) = 2 * s := IntWalk.i64_in _ (by omega)
  have m2 : IntKind.i64.wrap (s + k) = s + k := IntWalk.i64_in _ (by omega)
  have m3 : IntKind.i64.wrap (2 * (s + k)) = 2 * (s + k) := IntWalk.i64_in _ (by omega)
  have m4 : IntKind.i64.wrap (2 * (s + k) - 1) = 2 * (s + k) - 1 := IntWalk.i64_in _ (by omega)
  go_enter Tryd.func45, Tryd.ntmps45
  go_wp2_with fail
  rw [← hW]
  have x0 := hx.1
  have x1 := hx.2.1
  have y0 := hy.c0
  have y1 := hy.c1
  have y2 := hy.c2
  have hA1 := hA.below hb0
  clear hW hx hy
  generalize hbw : w.heap.size = b at *
  have nx0 := World.new_ne W _ x0
  have nx1 := World.new_ne W _ y0
  have hbd : Below W.heap.size W W.drew := (Below.refl _ _).drew
  have hbe : Below W.heap.size W (W.alloc (.cells #[.int .i64 0, .int .i64 0, .int .i64 0] 29)).drew := ((Below.refl _ _).alloc (Nat.le_refl _) _).drew
  have hr : Res3 (W.alloc (.cells #[.int .i64 0, .int .i64 0, .int .i64 0] 29)).drew (b + 3) 0 0 0 := by
    have h := (Res3.new W 0 0 0 29).drew
    rw [hsz] at h
    exact h
  go_region_held3 (fun w' => w'.cell? ⟨b, 0, none⟩ = some (.slice A l.length c) ∧ w'.cell? ⟨b, 1, none⟩ = some (.int .i64 r) ∧ w'.cell? ⟨b + 1, 0, none⟩ = some (.int .i64 p) ∧ w'.cell? ⟨b + 1, 1, none⟩ = some (.int .i64 s) ∧ w'.cell? ⟨b + 1, 2, none⟩ = some (.int .i64 k))
    (first | go_keep | exact ⟨X0, X1, Y0, Y1, Y2⟩)
    (first
      | (go_at_call 70; with_reducible refine (inTrack_any _ _ _ _ _ _ hn (hA1.below hbd)).mono ?_; rintro e w5 ⟨rfl, hb5⟩; have hb6 : Below W.heap.size W w5 := hbd.trans (hb5.mono hbd.size); have hq := Res3.new w5 0 0 0 29; have q0 := hq.c0; have q1 := hq.c1; have q2 := hq.c2; have p0 := hq.f0; have p1 := hq.f1; have p2 := hq.f2; clear hq; have X0 := ((bcell hb6).1 b 0 (by omega)).trans x0; have X1 := ((bcell hb6).1 b 1 (by omega)).trans x1; have Y0 := ((bcell hb6).1 (b + 1) 0 (by omega)).trans y0; have Y1 := ((bcell hb6).1 (b + 1) 1 (by omega)).trans y1; have Y2 := ((bcell hb6).1 (b + 1) 2 (by omega)).trans y2; have NX0 := World.new_ne w5 _ X0; have NX1 := World.new_ne w5 _ Y0)
      | (go_at_call 70; with_reducible refine (inTrack_any _ _ _ _ _ _ hn (hA1.below hbe)).mono ?_; rintro e w5 ⟨rfl, hb5⟩; have hb6 : Below W.heap.size W w5 := hbe.trans (hb5.mono hbe.size); have hq := hr.below hb5; have q0 := hq.c0; have q1 := hq.c1; have q2 := hq.c2; have p0 := hq.f0; have p1 := hq.f1; have p2 := hq.f2; clear hq; have X0 := ((bcell hb6).1 b 0 (by omega)).trans x0; have X1 := ((bcell hb6).1 b 1 (by omega)).trans x1; have Y0 := ((bcell hb6).1 (b + 1) 0 (by omega)).trans y0; have Y1 := ((bcell hb6).1 (b + 1) 1 (by omega)).trans y1; have Y2 := ((bcell hb6).1 (b + 1) 2 (by omega)).trans y2; have NX0 := World.new_ne w5 _ X0; have NX1 := World.new_ne w5 _ Y0))
  · have hg := Res3.new w5 (trk p l) (2 * s) (2 * (s + k) - 1) 29
    have hB6 := hb6.alloc hb6.size (.cells #[.int .i64 (trk p l), .int .i64 (2 * s), .int .i64 (2 * (s + k) - 1)] 29)
    have hgn : w5.heap.size ≠ b + 1 + 1 := by have := hb6.size; omega
    generalize w5.alloc (.cells #[.int .i64 (trk p l), .int .i64 (2 * s), .int .i64 (2 * (s + k) - 1)] 29) = W6 at *
    generalize w5.heap.size = g at *
    have hres := hz.below hB6
    have hbs : b ≤ W6.heap.size := Nat.le_trans (by omega) hB6.size
    have hB6 := hb0.trans (hB6.mono (by omega))
    obtain ⟨u0, u1, u2, _, _, _, ul⟩ := hg
    clear x0 x1 y0 y1 y2 nx0 nx1 hbd hbe hr hA1 hb5 hb6 hz q0 q1 q2 p0 p1 p2 X0 X1 Y0 Y1 Y2 NX0 NX1 hb0
    go_wp2_with fail
    refine (H.ntNote_any _ _ _ _).mono ?_
    rintro e w7 ⟨rfl, hb7⟩
    have hres := hres.below hb7
    have u0 := ((bcell hb7).1 g 0 ul).trans u0
    have u1 := ((bcell hb7).1 g 1 ul).trans u1
    have u2 := ((bcell hb7).1 g 2 ul).trans u2
    have hB7 := hB6.trans (hb7.mono hbs)
    obtain ⟨r0, r1, r2, e0, e1, e2, rl⟩ := hres
    clear hb7 hB6
    have HB7 := Lib.hid hB7
    clear hB7
    cases hh : H.noteB (trk p l) (2 * s) (2 * (s + k) - 1) with
    | false =>
      go_wp2
      exact bodyPost_ret (v := .tuple #[.agg #[.int .i64 0, .int .i64 0, .int .i64 0], .bool false]) (by simp [results, Tryd.results45, go_sem, *]) rfl ⟨by rw [HF.out _ hh]; rfl, by rw [hbw]; exact Below.set3 HB7.out (by omega) _ _ _⟩
    | true =>
      go_wp2
      exact bodyPost_ret (v := .tuple #[.agg #[.int .i64 (trk p l), .int .i64 (2 * s), .int .i64 (2 * (s + k) - 1)], .bool true]) (by simp [results, Tryd.results45, go_sem, *]) rfl ⟨by rw [HF.out _ hh]; rfl, by rw [hbw]; exact Below.set3 HB7.out (by omega) _ _ _⟩
  · have hg := (show Res3 w5 (b + 3) 0 0 0 from ⟨q0, q1, q2, p0, p1, p2, World.block_lt_of_cell? _ _ q0⟩).set (x' := trk p l) (y' := 2 * s) (z' := 2 * (s + k) - 1)
    have hB6 := Below.set3 hb6 (b := b + 3) (by omega) (.int .i64 (trk p l)) (.int .i64 (2 * s)) (.int .i64 (2 * (s + k) - 1))
    have hgn : b + 3 ≠ b + 1 + 1 := by omega
    have hgb : b < b + 3 := by omega
    generalize ((w5.setCell ⟨b + 3, 0, none⟩ (.int .i64 (trk p l))).setCell ⟨b + 3, 1, none⟩ (.int .i64 (2 * s))).setCell ⟨b + 3, 2, none⟩ (.int .i64 (2 * (s + k) - 1)) = W6 at *
    generalize b + 3 = g at *
    have hres := hz.below hB6
    have hbs : b ≤ W6.heap.size := Nat.le_trans (by omega) hB6.size
    have hB6 := hb0.trans (hB6.mono (by omega))
    obtain ⟨u0, u1, u2, _, _, _, ul⟩ := hg
    clear x0 x1 y0 y1 y2 nx0 nx1 hbd hbe hr hA1 hb5 hb6 hz q0 q1 q2 p0 p1 p2 X0 X1 Y0 Y1 Y2 NX0 NX1 hb0
    go_wp2_with fail
    refine (H.ntNote_any _ _ _ _).mono ?_
    rintro e w7 ⟨rfl, hb7⟩
    have hres := hres.below hb7
    have u0 := ((bcell hb7).1 g 0 ul).trans u0
    have u1 := ((bcell hb7).1 g 1 ul).trans u1
    have u2 := ((bcell hb7).1 g 2 ul).trans u2
    have hB7 := hB6.trans (hb7.mono hbs)
    obtain ⟨r0, r1, r2, e0, e1, e2, rl⟩ := hres
    clear hb7 hB6
    have HB7 := Lib.hid hB7
    clear hB7
    cases hh : H.noteB (trk p l) (2 * s) (2 * (s + k) - 1) with
    | false =>
      go_wp2
      exact bodyPost_ret (v := .tuple #[.agg #[.int .i64 0, .int .i64 0, .int .i64 0], .bool false]) (by simp [results, Tryd.results45, go_sem, *]) rfl ⟨by rw [HF.out _ hh]; rfl, by rw [hbw]; exact Below.set3 HB7.out (by omega) _ _ _⟩
    | true =>
      go_wp2
      exact bodyPost_ret (v := .tuple #[.agg #[.int .i64 (trk p l), .int .i64 (2 * s), .int .i64 (2 * (s + k) - 1)], .bool true]) (by simp [results, Tryd.results45, go_sem, *]) rfl ⟨by rw [HF.out _ hh]; rfl, by rw [hbw]; exact Below.set3 HB7.out (by omega) _ _ _⟩
end Go.Proofs.YtkfgmkgbicahgaaDoor
