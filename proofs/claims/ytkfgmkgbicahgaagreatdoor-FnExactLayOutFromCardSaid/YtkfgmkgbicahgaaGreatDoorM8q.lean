/- Texts of the proof, run together: HKinds, InsO, LayF, LayG, LayN, Miss, Miss2, RetS, Sorted, Spare, LayM. -/
import Derived.Test.YtkfgmkgbicahgaaGreatDoorM7q
import Derived.StillTailTactics
import Derived.Deep.RegionWith
import Derived.Deep.RegionHeld3
import Derived.Deep.OwnRows
import Derived.BigRegion
import Derived.ChangeSlices
import Derived.Test.YtkfgmkgbicahgaaGreatDoorM4q
import Derived.Test.YtkfgmkgbicahgaaGreatDoorM3q
import Derived.Deep.RegionLaw
import Derived.Lib.QuietBelow
import Derived.Test.YtkfgmkgbicahgaaGreatDoorM5q
import Derived.Test.YtkfgmkgbicahgaaGreatDoorM2q
import Derived.Test.YtkfgmkgbicahgaaGreatDoorM6q
import Derived.Sort.OwnSortedInts
import Derived.Test.YtkfgmkgbicahgaaGreatDoorM1q
namespace Go.Proofs.YtkfgmkgbicahgaaGreatDoor.H
open Go.RowKit Go.Sort
set_option linter.unusedVariables false
set_option linter.unusedSimpArgs false

theorem as11 (b : Value) (w : World) : (Instr.typeAssert (.iface 66 b) 82 66 true).run Tryz.prog w = .ok (.tuple #[b, .bool true]) w := by kernel_rfl

set_option maxRecDepth 100000 in
set_option maxHeartbeats 4000000 in
theorem changed_move (b p s n : Int) (w : World) (hb1 : -2000 ≤ b) (hb2 : b ≤ 2000) (h1 : 0 ≤ s) (h2 : s < n) (h3 : n ≤ 2000) :
    Calls Tryz.prog 55 #[.agg #[.int .i64 p, .int .i64 s, .int .i64 n], .iface 66 (.agg #[.int .i64 b])] w fun e w' => e = .returned (.tuple #[.agg #[.int .i64 p, .int .i64 (s + b), .int .i64 (n + b)], .bool (decide ((s + b) < (n + b)))]) ∧ Below w.heap.size w w' := by
  have q11 := as11
  have z1 : w.heap.size ≠ w.heap.size + 1 := by omega
  have z2 : w.heap.size ≠ w.heap.size + 1 + 1 := by omega
  have z3 : w.heap.size + 1 ≠ w.heap.size + 1 + 1 := by omega
  go_enter Tryz.func55, Tryz.ntmps55
  go_wp2_with fail
  go_region
  all_goals
    go_wp2_with fail
    go_region
  all_goals
    go_wp2
    refine bodyPost_ret (v := .tuple #[.agg #[.int .i64 p, .int .i64 (s + b), .int .i64 (n + b)], .bool (decide ((s + b) < (n + b)))]) (by simp [results, Tryz.results55, go_sem, *]) rfl ⟨rfl, ?_⟩
    first
      | exact ((((Below.refl _ _).alloc (Nat.le_refl _) _).alloc (by simp) _).alloc (by simp; omega) _).drew.drew
      | exact ((((Below.refl _ _).alloc (Nat.le_refl _) _).alloc (by simp) _).alloc (by simp; omega) _).drew

end Go.Proofs.YtkfgmkgbicahgaaGreatDoor.H

namespace Go.Proofs.YtkfgmkgbicahgaaGreatDoor
open Go.ChangeShapes Go.WideShapes Go.ChangeAt Go.RowKit Go.Sort Go.Deep Go.Joins
set_option linter.unusedVariables false

section
variable {H : Type} {enc : TypeId × Value → H} {w : World} {base : Nat} {spare : Nat → Bool} {held : Bool}
theorem open_ints_RI {fuel : Nat} {v : Value} {x : DataW H × List MemPlace} (h : DataW.trod enc Tryz.prog w base spare held fuel 22 [v] = some x) :
    ∃ (A : Option Addr) (l : List Int) (c : Nat), v = .slice A l.length c ∧ l.length ≤ c ∧ c ≤ maxLen ∧ RI w A l := by
  rcases open_ints Tryz.underlying22 Tryz.underlying3 (by kernel_rfl) h with ⟨hcs, hx⟩ | ⟨a, len, cap, zs, hcs, hb, hl, hm, hlen, hx, hc, hwf⟩
  · simp only [List.cons.injEq, and_true] at hcs
    subst hcs
    exact ⟨none, [], 0, rfl, Nat.le_refl _, Nat.zero_le _, fun k x hx => by simp at hx⟩
  · simp only [List.cons.injEq, and_true] at hcs
    subst hcs
    have hle : len ≤ zs.length := by rw [hlen]; split <;> omega
    have hL : (zs.take len).length = len := by simp; omega
    refine ⟨some a, zs.take len, cap, by rw [hL], by rw [hL]; exact hl, hm, fun k x hkx => ?_⟩
    have hkl : k < len := by have := (List.getElem?_eq_some_iff.1 hkx).1; omega
    rw [List.getElem?_take, if_pos hkl] at hkx
    have h0 := hc k (by omega)
    rw [List.getD_eq_getElem?_getD, hkx] at h0
    obtain ⟨b, off, spot⟩ := a
    have hspot : spot = none := by
      have hz := hc 0 (by omega)
      simpa [Addr.add] using World.cell?_spot hz
    subst hspot
    rw [Go.WideShapes.add_plain] at h0
    exact ⟨b, off, rfl, World.block_lt_of_cell? w _ h0, h0⟩
set_option maxRecDepth 1000000 in
theorem open_ins {v : Value} {d : DataW H} {ps : List MemPlace} {r : Reach} {b0 : Nat} (hv : Value.okWide Tryz.prog w r b0 24 v) (h : DataW.Trod enc Tryz.prog w base spare held 24 v d ps) :
    ∃ (A : Option Addr) (l : List Int) (c : Nat) (q : Int), v = .agg #[.slice A l.length c, .int .i64 q] ∧ l.length ≤ c ∧ c ≤ maxLen ∧ RI w A l := by
  obtain ⟨v0, v1, y0, y1, n, rfl, _, _, h0, h1⟩ := open_agg2 Tryz.underlying24 (by kernel_rfl) (by kernel_rfl) hv h
  obtain ⟨A, l, c, rfl, a, b, hr⟩ := open_ints_RI h0
  obtain ⟨q, e0, _, _⟩ := DataW.trod_int Tryz.underlying3 (h1.trans rfl)
  simp at e0
  subst e0
  exact ⟨A, l, c, q, rfl, a, b, hr⟩
end
end Go.Proofs.YtkfgmkgbicahgaaGreatDoor

namespace Go.Proofs.YtkfgmkgbicahgaaGreatDoor
open Go.RowKit Go.Sort
set_option linter.unusedVariables false
set_option linter.unusedSimpArgs false

/-- A block of three numbers that can be written. -/
structure Res3 (w : World) (b : Nat) (x y z : Int) : Prop where
  c0 : w.cell? ⟨b, 0, none⟩ = some (.int .i64 x)
  c1 : w.cell? ⟨b, 1, none⟩ = some (.int .i64 y)
  c2 : w.cell? ⟨b, 2, none⟩ = some (.int .i64 z)
  f0 : w.frozen? ⟨b, 0, none⟩ = false
  f1 : w.frozen? ⟨b, 1, none⟩ = false
  f2 : w.frozen? ⟨b, 2, none⟩ = false
  lt : b < w.heap.size
theorem Res3.new (w : World) (x y z : Int) (t : TypeId) : Res3 (w.alloc (.cells #[.int .i64 x, .int .i64 y, .int .i64 z] t)) w.heap.size x y z := by
  have hr := fun j => World.cell?_alloc_new w #[.int .i64 x, .int .i64 y, .int .i64 z] t j
  have hf := fun j => World.frozen?_alloc_at (w := w) #[.int .i64 x, .int .i64 y, .int .i64 z] t w.heap.size j rfl
  exact ⟨(hr 0).trans rfl, (hr 1).trans rfl, (hr 2).trans rfl, hf 0, hf 1, hf 2, by simp⟩
theorem Res3.below {w w' : World} {b : Nat} {x y z : Int} (h : Res3 w b x y z) (hb : Below w.heap.size w w') : Res3 w' b x y z := by
  have hc := fun j => (bcell hb).1 b j h.lt
  have hf := fun j => (bcell hb).2 b j h.lt
  exact ⟨(hc 0).trans h.c0, (hc 1).trans h.c1, (hc 2).trans h.c2, (hf 0).trans h.f0, (hf 1).trans h.f1, (hf 2).trans h.f2, Nat.lt_of_lt_of_le h.lt hb.size⟩
theorem Res3.drew {w : World} {b : Nat} {x y z : Int} (h : Res3 w b x y z) : Res3 w.drew b x y z := h.below (Below.refl _ _).drew
theorem Res3.set {w : World} {b : Nat} {x y z x' y' z' : Int} (h : Res3 w b x y z) : Res3 (((w.setCell ⟨b, 0, none⟩ (.int .i64 x')).setCell ⟨b, 1, none⟩ (.int .i64 y')).setCell ⟨b, 2, none⟩ (.int .i64 z')) b x' y' z' := by
  have n01 : (⟨b, 0, none⟩ : Addr) ≠ ⟨b, 1, none⟩ := by simp
  have hs : ∀ (u : World) (o o' : Nat) (v : Value), o ≠ o' → (u.setCell ⟨b, o, none⟩ v).cell? ⟨b, o', none⟩ = u.cell? ⟨b, o', none⟩ := fun u o o' v hne => World.cell?_setCell_other u _ _ v (by simp [hne])
  have hf : ∀ (u : World) (a a' : Addr) (v : Value), (u.setCell a v).frozen? a' = u.frozen? a' := fun u a a' v => World.frozen?_setCell u a a' v
  refine ⟨?_, ?_, ?_, ?_, ?_, ?_, ?_⟩
  · rw [hs _ _ _ _ (by omega), hs _ _ _ _ (by omega)]; exact World.cell?_setCell_same _ _ _ h.c0
  · rw [hs _ _ _ _ (by omega)]; exact World.cell?_setCell_same _ _ _ ((hs _ _ _ _ (by omega)).trans h.c1)
  · exact World.cell?_setCell_same _ _ _ (((hs _ _ _ _ (by omega)).trans (hs _ _ _ _ (by omega))).trans h.c2)
  · rw [hf, hf, hf]; exact h.f0
  · rw [hf, hf, hf]; exact h.f1
  · rw [hf, hf, hf]; exact h.f2
  · simpa [World.setCell] using h.lt
theorem Below.set3 {B : Nat} {a w : World} (h : Below B a w) {b : Nat} (hb : B ≤ b) (x y z : Value) : Below B a (((w.setCell ⟨b, 0, none⟩ x).setCell ⟨b, 1, none⟩ y).setCell ⟨b, 2, none⟩ z) :=
  ((h.setCell hb _).setCell hb _).setCell hb _
/-- What a function of an instrument and three numbers begins with: their boxes, and the room of its answer. -/
theorem entry3 (w : World) (A : Option Addr) (n c : Nat) (r p s k : Int) (t0 t1 t2 : TypeId) (W : World) (hW : W = ((w.alloc (.cells #[.slice A n c, .int .i64 r] t0)).alloc (.cells #[.int .i64 p, .int .i64 s, .int .i64 k] t1)).alloc (.cells #[.int .i64 0, .int .i64 0, .int .i64 0] t2)) :
    Box W w.heap.size A n c r ∧ Res3 W (w.heap.size + 1) p s k ∧ Res3 W (w.heap.size + 1 + 1) 0 0 0 ∧ Below w.heap.size w W ∧ W.heap.size = w.heap.size + 3 := by
  subst hW
  have a1 := Box.new w A n c r t0
  have z1 : (w.alloc (.cells #[.slice A n c, .int .i64 r] t0)).heap.size = w.heap.size + 1 := by simp
  have b1 : Below w.heap.size w (w.alloc (.cells #[.slice A n c, .int .i64 r] t0)) := (Below.refl _ _).alloc (Nat.le_refl _) _
  generalize w.alloc (.cells #[.slice A n c, .int .i64 r] t0) = W1 at *
  have a2 := Res3.new W1 p s k t1
  rw [z1] at a2
  have z2 : (W1.alloc (.cells #[.int .i64 p, .int .i64 s, .int .i64 k] t1)).heap.size = w.heap.size + 2 := by simp; omega
  have b2 : Below W1.heap.size W1 (W1.alloc (.cells #[.int .i64 p, .int .i64 s, .int .i64 k] t1)) := (Below.refl _ _).alloc (Nat.le_refl _) _
  generalize W1.alloc (.cells #[.int .i64 p, .int .i64 s, .int .i64 k] t1) = W2 at *
  have a3 := Res3.new W2 0 0 0 t2
  rw [z2] at a3
  have z3 : (W2.alloc (.cells #[.int .i64 0, .int .i64 0, .int .i64 0] t2)).heap.size = w.heap.size + 3 := by simp; omega
  have b3 : Below W2.heap.size W2 (W2.alloc (.cells #[.int .i64 0, .int .i64 0, .int .i64 0] t2)) := (Below.refl _ _).alloc (Nat.le_refl _) _
  generalize W2.alloc (.cells #[.int .i64 0, .int .i64 0, .int .i64 0] t2) = W3 at *
  have b23 := b2.trans (b3.mono b2.size)
  exact ⟨a1.below b23, a2.below b3, a3, b1.trans (b23.mono b1.size), z3⟩

def nt3 (x : Nt) : Value := .agg #[.int .i64 x.1, .int .i64 x.2.1, .int .i64 x.2.2]
def no3 : Value := .agg #[.int .i64 0, .int .i64 0, .int .i64 0]
/-- The hole of a valid note. -/
def hoR (P : List Int) (x : Nt) : Array Value := if H.noteN (holeN P x) = true then #[nt3 (holeN P x), .bool true] else #[no3, .bool false]

set_option maxRecDepth 100000 in
set_option maxHeartbeats 4000000 in
theorem laHole_any (A : Option Addr) (l : List Int) (c : Nat) (r p s k : Int) (w : World) (hn : l.length ≤ 1048576) (hA : RI w A l) (hv : noteN (p, s, k) = true) :
    Calls Tryz.prog 33 #[.agg #[.slice A l.length c, .int .i64 r], .agg #[.int .i64 p, .int .i64 s, .int .i64 k]] w fun e w' => e = .returned (.tuple (hoR l (p, s, k))) ∧ Below w.heap.size w w' := by
  have hv := (noteN_iff _).1 hv
  simp only at hv
  obtain ⟨W, hW⟩ : ∃ W, W = ((w.alloc (.cells #[.slice A l.length c, .int .i64 r] 31)).alloc (.cells #[.int .i64 p, .int .i64 s, .int .i64 k] 47)).alloc (.cells #[.int .i64 0, .int .i64 0, .int .i64 0] 54) := ⟨_, rfl⟩
  obtain ⟨hx, hy, hz, hb0, hsz⟩ := entry3 w A l.length c r p s k _ _ _ W hW
  have htl := trk_lt p l
  have HF := Lib.hid (show ∀ v, H.noteB (trk p l) (2 * s) (2 * (s + k) - 1) = v → hoR l (p, s, k) = if v = true then #[nt3 (holeN l (p, s, k)), .bool true] else #[no3, .bool false] from fun v h => by rw [← h]; rfl)
  have m1 : IntKind.i64.wrap (2 * s) = 2 * s := IntWalk.i64_in _ (by omega)
  have m2 : IntKind.i64.wrap (s + k) = s + k := IntWalk.i64_in _ (by omega)
  have m3 : IntKind.i64.wrap (2 * (s + k)) = 2 * (s + k) := IntWalk.i64_in _ (by omega)
  have m4 : IntKind.i64.wrap (2 * (s + k) - 1) = 2 * (s + k) - 1 := IntWalk.i64_in _ (by omega)
  go_enter Tryz.func33, Tryz.ntmps33
  go_wp2_with fail
  rw [← hW]
  have x0 := hx.1
  have x1 := hx.2.1
  have y0 := hy.c0
  have y1 := hy.c1
  have y2 := hy.c2
  have hA1 := hA.below hb0
  clear hW hx hy
  generalize hbw : w.heap.size = b at *
  have nx0 := World.new_ne W _ x0
  have nx1 := World.new_ne W _ y0
  have hbd : Below W.heap.size W W.drew := (Below.refl _ _).drew
  have hbe : Below W.heap.size W (W.alloc (.cells #[.int .i64 0, .int .i64 0, .int .i64 0] 54)).drew := ((Below.refl _ _).alloc (Nat.le_refl _) _).drew
  have hr : Res3 (W.alloc (.cells #[.int .i64 0, .int .i64 0, .int .i64 0] 54)).drew (b + 3) 0 0 0 := by
    have h := (Res3.new W 0 0 0 54).drew
    rw [hsz] at h
    exact h
  go_region_held3 (fun w' => w'.cell? ⟨b, 0, none⟩ = some (.slice A l.length c) ∧ w'.cell? ⟨b, 1, none⟩ = some (.int .i64 r) ∧ w'.cell? ⟨b + 1, 0, none⟩ = some (.int .i64 p) ∧ w'.cell? ⟨b + 1, 1, none⟩ = some (.int .i64 s) ∧ w'.cell? ⟨b + 1, 2, none⟩ = some (.int .i64 k))
    (first | go_keep | exact ⟨X0, X1, Y0, Y1, Y2⟩)
    (first
      | (go_at_call 44; with_reducible refine (inTrack_any _ _ _ _ _ _ hn (hA1.below hbd)).mono ?_; rintro e w5 ⟨rfl, hb5⟩; have hb6 : Below W.heap.size W w5 := hbd.trans (hb5.mono hbd.size); have hq := Res3.new w5 0 0 0 54; have q0 := hq.c0; have q1 := hq.c1; have q2 := hq.c2; have p0 := hq.f0; have p1 := hq.f1; have p2 := hq.f2; clear hq; have X0 := ((bcell hb6).1 b 0 (by omega)).trans x0; have X1 := ((bcell hb6).1 b 1 (by omega)).trans x1; have Y0 := ((bcell hb6).1 (b + 1) 0 (by omega)).trans y0; have Y1 := ((bcell hb6).1 (b + 1) 1 (by omega)).trans y1; have Y2 := ((bcell hb6).1 (b + 1) 2 (by omega)).trans y2; have NX0 := World.new_ne w5 _ X0; have NX1 := World.new_ne w5 _ Y0)
      | (go_at_call 44; with_reducible refine (inTrack_any _ _ _ _ _ _ hn (hA1.below hbe)).mono ?_; rintro e w5 ⟨rfl, hb5⟩; have hb6 : Below W.heap.size W w5 := hbe.trans (hb5.mono hbe.size); have hq := hr.below hb5; have q0 := hq.c0; have q1 := hq.c1; have q2 := hq.c2; have p0 := hq.f0; have p1 := hq.f1; have p2 := hq.f2; clear hq; have X0 := ((bcell hb6).1 b 0 (by omega)).trans x0; have X1 := ((bcell hb6).1 b 1 (by omega)).trans x1; have Y0 := ((bcell hb6).1 (b + 1) 0 (by omega)).trans y0; have Y1 := ((bcell hb6).1 (b + 1) 1 (by omega)).trans y1; have Y2 := ((bcell hb6).1 (b + 1) 2 (by omega)).trans y2; have NX0 := World.new_ne w5 _ X0; have NX1 := World.new_ne w5 _ Y0))
  · have hg := Res3.new w5 (trk p l) (2 * s) (2 * (s + k) - 1) 54
    have hB6 := hb6.alloc hb6.size (.cells #[.int .i64 (trk p l), .int .i64 (2 * s), .int .i64 (2 * (s + k) - 1)] 54)
    have hgn : w5.heap.size ≠ b + 1 + 1 := by have := hb6.size; omega
    generalize w5.alloc (.cells #[.int .i64 (trk p l), .int .i64 (2 * s), .int .i64 (2 * (s + k) - 1)] 54) = W6 at *
    generalize w5.heap.size = g at *
    have hres := hz.below hB6
    have hbs : b ≤ W6.heap.size := Nat.le_trans (by omega) hB6.size
    have hB6 := hb0.trans (hB6.mono (by omega))
    obtain ⟨u0, u1, u2, _, _, _, ul⟩ := hg
    clear x0 x1 y0 y1 y2 nx0 nx1 hbd hbe hr hA1 hb5 hb6 hz q0 q1 q2 p0 p1 p2 X0 X1 Y0 Y1 Y2 NX0 NX1 hb0
    go_wp2_with fail
    refine (H.ntNote_any _ _ _ _).mono ?_
    rintro e w7 ⟨rfl, hb7⟩
    have hres := hres.below hb7
    have u0 := ((bcell hb7).1 g 0 ul).trans u0
    have u1 := ((bcell hb7).1 g 1 ul).trans u1
    have u2 := ((bcell hb7).1 g 2 ul).trans u2
    have hB7 := hB6.trans (hb7.mono hbs)
    obtain ⟨r0, r1, r2, e0, e1, e2, rl⟩ := hres
    clear hb7 hB6
    have HB7 := Lib.hid hB7
    clear hB7
    cases hh : H.noteB (trk p l) (2 * s) (2 * (s + k) - 1) with
    | false =>
      go_wp2
      exact bodyPost_ret (v := .tuple #[.agg #[.int .i64 0, .int .i64 0, .int .i64 0], .bool false]) (by simp [results, Tryz.results33, go_sem, *]) rfl ⟨by rw [HF.out _ hh]; rfl, by rw [hbw]; exact Below.set3 HB7.out (by omega) _ _ _⟩
    | true =>
      go_wp2
      exact bodyPost_ret (v := .tuple #[.agg #[.int .i64 (trk p l), .int .i64 (2 * s), .int .i64 (2 * (s + k) - 1)], .bool true]) (by simp [results, Tryz.results33, go_sem, *]) rfl ⟨by rw [HF.out _ hh]; rfl, by rw [hbw]; exact Below.set3 HB7.out (by omega) _ _ _⟩
  · have hg := (show Res3 w5 (b + 3) 0 0 0 from ⟨q0, q1, q2, p0, p1, p2, World.block_lt_of_cell? _ _ q0⟩).set (x' := trk p l) (y' := 2 * s) (z' := 2 * (s + k) - 1)
    have hB6 := Below.set3 hb6 (b := b + 3) (by omega) (.int .i64 (trk p l)) (.int .i64 (2 * s)) (.int .i64 (2 * (s + k) - 1))
    have hgn : b + 3 ≠ b + 1 + 1 := by omega
    have hgb : b < b + 3 := by omega
    generalize ((w5.setCell ⟨b + 3, 0, none⟩ (.int .i64 (trk p l))).setCell ⟨b + 3, 1, none⟩ (.int .i64 (2 * s))).setCell ⟨b + 3, 2, none⟩ (.int .i64 (2 * (s + k) - 1)) = W6 at *
    generalize b + 3 = g at *
    have hres := hz.below hB6
    have hbs : b ≤ W6.heap.size := Nat.le_trans (by omega) hB6.size
    have hB6 := hb0.trans (hB6.mono (by omega))
    obtain ⟨u0, u1, u2, _, _, _, ul⟩ := hg
    clear x0 x1 y0 y1 y2 nx0 nx1 hbd hbe hr hA1 hb5 hb6 hz q0 q1 q2 p0 p1 p2 X0 X1 Y0 Y1 Y2 NX0 NX1 hb0
    go_wp2_with fail
    refine (H.ntNote_any _ _ _ _).mono ?_
    rintro e w7 ⟨rfl, hb7⟩
    have hres := hres.below hb7
    have u0 := ((bcell hb7).1 g 0 ul).trans u0
    have u1 := ((bcell hb7).1 g 1 ul).trans u1
    have u2 := ((bcell hb7).1 g 2 ul).trans u2
    have hB7 := hB6.trans (hb7.mono hbs)
    obtain ⟨r0, r1, r2, e0, e1, e2, rl⟩ := hres
    clear hb7 hB6
    have HB7 := Lib.hid hB7
    clear hB7
    cases hh : H.noteB (trk p l) (2 * s) (2 * (s + k) - 1) with
    | false =>
      go_wp2
      exact bodyPost_ret (v := .tuple #[.agg #[.int .i64 0, .int .i64 0, .int .i64 0], .bool false]) (by simp [results, Tryz.results33, go_sem, *]) rfl ⟨by rw [HF.out _ hh]; rfl, by rw [hbw]; exact Below.set3 HB7.out (by omega) _ _ _⟩
    | true =>
      go_wp2
      exact bodyPost_ret (v := .tuple #[.agg #[.int .i64 (trk p l), .int .i64 (2 * s), .int .i64 (2 * (s + k) - 1)], .bool true]) (by simp [results, Tryz.results33, go_sem, *]) rfl ⟨by rw [HF.out _ hh]; rfl, by rw [hbw]; exact Below.set3 HB7.out (by omega) _ _ _⟩
end Go.Proofs.YtkfgmkgbicahgaaGreatDoor

namespace Go.Proofs.YtkfgmkgbicahgaaGreatDoor
open Go.RowKit Go.Sort
set_option linter.unusedVariables false
set_option linter.unusedSimpArgs false

theorem hoR_form (P : List Int) (x : Nt) : ∃ a b c ok, hoR P x = #[.agg #[.int .i64 a, .int .i64 b, .int .i64 c], .bool ok] := by
  unfold hoR
  split
  · exact ⟨_, _, _, _, rfl⟩
  · exact ⟨_, _, _, _, rfl⟩
/-- The hole of a note. -/
def hfR (P : List Int) (r : Int) (x : Nt) : Array Value := if (gdI P r && noteN x) = true then hoR P x else #[no3, .bool false]
theorem hfR_none {P : List Int} {r : Int} {p s k : Int} (h : hasB P p = false) : hfR P r (p, s, k) = #[no3, .bool false] := by
  unfold hfR
  split
  · unfold hoR
    rw [if_neg]
    intro hh
    have := (H.noteN_iff _).1 hh
    have h2 : trk p P < 0 := by rw [trk_neg]; simpa [hasB] using h
    simp only [holeN] at this
    omega
  · rfl

set_option maxRecDepth 100000 in
set_option maxHeartbeats 4000000 in
theorem implHole_any (A : Option Addr) (l : List Int) (c : Nat) (r p s k : Int) (w : World) (hn : l.length ≤ 1048576) (hA : RI w A l) (hL : Lim w) :
    Calls Tryz.prog 36 #[.agg #[.slice A l.length c, .int .i64 r], .agg #[.int .i64 p, .int .i64 s, .int .i64 k]] w fun e w' => e = .returned (.tuple (hfR l r (p, s, k))) ∧ Below w.heap.size w w' := by
  obtain ⟨W, hW⟩ : ∃ W, W = ((w.alloc (.cells #[.slice A l.length c, .int .i64 r] 31)).alloc (.cells #[.int .i64 p, .int .i64 s, .int .i64 k] 47)).alloc (.cells #[.int .i64 0, .int .i64 0, .int .i64 0] 54) := ⟨_, rfl⟩
  obtain ⟨hx, hy, hz, hb0, hsz⟩ := entry3 w A l.length c r p s k _ _ _ W hW
  have HF := Lib.hid (show ∀ v q, (gdI l r && hasB l p) = true → noteB p s k = v → H.noteB (trk p l) (2 * s) (2 * (s + k) - 1) = q → hfR l r (p, s, k) = if (v && q) = true then #[nt3 (holeN l (p, s, k)), .bool true] else #[no3, .bool false] from fun v q h h' h'' => by
    rw [← h', ← h'']
    simp only [Bool.and_eq_true] at h
    unfold hfR hoR
    rw [h.1]
    show (if (true && noteB p s k) = true then (if H.noteB (trk p l) (2 * s) (2 * (s + k) - 1) = true then _ else _) else _) = _
    cases noteB p s k <;> cases H.noteB (trk p l) (2 * s) (2 * (s + k) - 1) <;> rfl)
  have HN := Lib.hid (show (gdI l r && hasB l p) = false → hfR l r (p, s, k) = #[no3, .bool false] from fun h => by
    cases hh : hasB l p with
    | false => exact hfR_none hh
    | true =>
      rw [hh, Bool.and_true] at h
      unfold hfR
      rw [h]; rfl)
  have htl := trk_lt p l
  go_enter Tryz.func36, Tryz.ntmps36
  go_wp2_with fail
  rw [← hW]
  clear hW hsz
  refine (implTrack_any _ _ _ _ _ _ hn (hA.below hb0) (hL.below hb0)).mono ?_
  rintro e w1 ⟨rfl, hb1⟩
  have hy := hy.below hb1
  have hz := hz.below hb1
  have HB1 := Lib.hid (hb0.trans (hb1.mono hb0.size))
  clear hb1 hb0 hx
  unfold trR
  cases hg : (gdI l r && hasB l p) with
  | false =>
    obtain ⟨r0, r1, r2, e0, e1, e2, rl⟩ := hz
    have HNN := Lib.hid (HN.out hg)
    clear hy hg
    simp only [Bool.false_eq_true, if_false]
    go_wp2
    exact bodyPost_ret (v := .tuple #[.agg #[.int .i64 0, .int .i64 0, .int .i64 0], .bool false]) (by simp [results, Tryz.results36, go_sem, *]) rfl ⟨by rw [HNN.out]; rfl, Below.set3 HB1.out (by omega) _ _ _⟩
  | true =>
    simp only [if_true]
    obtain ⟨y0, y1, y2, _, _, _, yl⟩ := id hy
    go_wp2_with fail
    refine (implIsNote_any _ _ _ _).mono ?_
    rintro e w2 ⟨rfl, hb2⟩
    have hy := hy.below hb2
    have hz := hz.below hb2
    have HB2 := Lib.hid (HB1.out.trans (hb2.mono HB1.out.size))
    clear hb2 y0 y1 y2 yl
    cases hv : noteB p s k with
    | false =>
      obtain ⟨r0, r1, r2, e0, e1, e2, rl⟩ := hz
      have HFF := Lib.hid (HF.out _ _ hg hv rfl)
      clear hy
      go_wp2
      exact bodyPost_ret (v := .tuple #[.agg #[.int .i64 0, .int .i64 0, .int .i64 0], .bool false]) (by simp [results, Tryz.results36, go_sem, *]) rfl ⟨by rw [HFF.out]; rfl, Below.set3 HB2.out (by omega) _ _ _⟩
    | true =>
      have hvv := (noteN_iff (p, s, k)).1 hv
      simp only at hvv
      have HFF := Lib.hid (fun q => HF.out _ q hg hv)
      have m1 : IntKind.i64.wrap (2 * s) = 2 * s := IntWalk.i64_in _ (by omega)
      have m3 : IntKind.i64.wrap (2 * (s + k)) = 2 * (s + k) := IntWalk.i64_in _ (by omega)
      have m4 : IntKind.i64.wrap (2 * (s + k) - 1) = 2 * (s + k) - 1 := IntWalk.i64_in _ (by omega)
      obtain ⟨y0, y1, y2, _, _, _, yl⟩ := hy
      have hbl : w.heap.size < w2.heap.size := by omega
      have hbW := hbl
      clear hg hv
      go_wp2_with fail
      generalize hbw : w.heap.size = b at *
      have hB0 := HB2
      have nx1 := World.new_ne w2 _ y0
      have hbd : Below w2.heap.size w2 w2.drew := (Below.refl _ _).drew
      have hbe : Below w2.heap.size w2 (w2.alloc (.cells #[.int .i64 0, .int .i64 0, .int .i64 0] 54)).drew := ((Below.refl _ _).alloc (Nat.le_refl _) _).drew
      have hr : Res3 (w2.alloc (.cells #[.int .i64 0, .int .i64 0, .int .i64 0] 54)).drew w2.heap.size 0 0 0 := (Res3.new w2 0 0 0 54).drew
      go_region_held3 (fun w' => w'.cell? ⟨b + 1, 0, none⟩ = some (.int .i64 p) ∧ w'.cell? ⟨b + 1, 1, none⟩ = some (.int .i64 s) ∧ w'.cell? ⟨b + 1, 2, none⟩ = some (.int .i64 k))
        (first | go_keep | exact ⟨Y0, Y1, Y2⟩)
        (first
          | (go_at_call 52; with_reducible refine (endOfNote_any p s k w2.drew (by omega) (by omega) (by omega) (by omega)).mono ?_; rintro e w5 ⟨rfl, hb5⟩; have hb6 : Below w2.heap.size w2 w5 := hbd.trans (hb5.mono hbd.size); have hq := Res3.new w5 0 0 0 54; have q0 := hq.c0; have q1 := hq.c1; have q2 := hq.c2; have p0 := hq.f0; have p1 := hq.f1; have p2 := hq.f2; clear hq; have Y0 := ((bcell hb6).1 (b + 1) 0 (by omega)).trans y0; have Y1 := ((bcell hb6).1 (b + 1) 1 (by omega)).trans y1; have Y2 := ((bcell hb6).1 (b + 1) 2 (by omega)).trans y2; have NX1 := World.new_ne w5 _ Y0)
          | (go_at_call 52; with_reducible refine (endOfNote_any p s k _ (by omega) (by omega) (by omega) (by omega)).mono ?_; rintro e w5 ⟨rfl, hb5⟩; have hb6 : Below w2.heap.size w2 w5 := hbe.trans (hb5.mono hbe.size); have hq := hr.below hb5; have q0 := hq.c0; have q1 := hq.c1; have q2 := hq.c2; have p0 := hq.f0; have p1 := hq.f1; have p2 := hq.f2; clear hq; have Y0 := ((bcell hb6).1 (b + 1) 0 (by omega)).trans y0; have Y1 := ((bcell hb6).1 (b + 1) 1 (by omega)).trans y1; have Y2 := ((bcell hb6).1 (b + 1) 2 (by omega)).trans y2; have NX1 := World.new_ne w5 _ Y0))
      · have hg6 := Res3.new w5 (trk p l) (2 * s) (2 * (s + k) - 1) 54
        have hB6 := hb6.alloc hb6.size (.cells #[.int .i64 (trk p l), .int .i64 (2 * s), .int .i64 (2 * (s + k) - 1)] 54)
        have hgn : w5.heap.size ≠ b + 1 + 1 := by have := hb6.size; have := hz.lt; omega
        generalize w5.alloc (.cells #[.int .i64 (trk p l), .int .i64 (2 * s), .int .i64 (2 * (s + k) - 1)] 54) = W6 at *
        generalize w5.heap.size = g at *
        have hbs : b ≤ W6.heap.size := by first | exact hbs0 | exact Nat.le_trans (Nat.le_of_lt hbl) hB6.size
        have hres : Res3 W6 (b + 1 + 1) 0 0 0 := hz.below (by first | exact hB6 | (rw [hgw]; exact hB6))
        have HB6 := Lib.hid (hB0.out.trans (hB6.mono (by omega)))
        obtain ⟨u0, u1, u2, _, _, _, ul⟩ := hg6
        clear y0 y1 y2 nx1 hbd hbe hr hb5 hb6 hz q0 q1 q2 p0 p1 p2 Y0 Y1 Y2 NX1 hB6
        go_wp2_with fail
        refine (H.implIsNote_any _ _ _ _).mono ?_
        rintro e w7 ⟨rfl, hb7⟩
        have hres := hres.below hb7
        have u0 := ((bcell hb7).1 g 0 ul).trans u0
        have u1 := ((bcell hb7).1 g 1 ul).trans u1
        have u2 := ((bcell hb7).1 g 2 ul).trans u2
        have HB7 := Lib.hid (HB6.out.trans (hb7.mono hbs))
        obtain ⟨r0, r1, r2, e0, e1, e2, rl⟩ := hres
        clear hb7
        cases hh : H.noteB (trk p l) (2 * s) (2 * (s + k) - 1) with
        | false =>
          go_wp2
          exact bodyPost_ret (v := .tuple #[.agg #[.int .i64 0, .int .i64 0, .int .i64 0], .bool false]) (by simp [results, Tryz.results36, go_sem, *]) rfl ⟨by rw [HFF.out _ hh]; rfl, by rw [hbw]; exact Below.set3 HB7.out (by omega) _ _ _⟩
        | true =>
          go_wp2
          exact bodyPost_ret (v := .tuple #[.agg #[.int .i64 (trk p l), .int .i64 (2 * s), .int .i64 (2 * (s + k) - 1)], .bool true]) (by simp [results, Tryz.results36, go_sem, *]) rfl ⟨by rw [HFF.out _ hh]; rfl, by rw [hbw]; exact Below.set3 HB7.out (by omega) _ _ _⟩
      · have hg6 := (show Res3 w5 w2.heap.size 0 0 0 from ⟨q0, q1, q2, p0, p1, p2, World.block_lt_of_cell? _ _ q0⟩).set (x' := trk p l) (y' := 2 * s) (z' := 2 * (s + k) - 1)
        have hB6 := Below.set3 hb6 (b := w2.heap.size) (Nat.le_refl _) (.int .i64 (trk p l)) (.int .i64 (2 * s)) (.int .i64 (2 * (s + k) - 1))
        have hgn : w2.heap.size ≠ b + 1 + 1 := by have := hz.lt; omega
        generalize ((w5.setCell ⟨w2.heap.size, 0, none⟩ (.int .i64 (trk p l))).setCell ⟨w2.heap.size, 1, none⟩ (.int .i64 (2 * s))).setCell ⟨w2.heap.size, 2, none⟩ (.int .i64 (2 * (s + k) - 1)) = W6 at *
        have hbs0 : b ≤ W6.heap.size := Nat.le_trans (Nat.le_of_lt hbl) hB6.size
        generalize hgw : w2.heap.size = g at *
        have hbs : b ≤ W6.heap.size := by first | exact hbs0 | exact Nat.le_trans (Nat.le_of_lt hbl) hB6.size
        have hres : Res3 W6 (b + 1 + 1) 0 0 0 := hz.below (by first | exact hB6 | (rw [hgw]; exact hB6))
        have HB6 := Lib.hid (hB0.out.trans (hB6.mono (by omega)))
        obtain ⟨u0, u1, u2, _, _, _, ul⟩ := hg6
        clear y0 y1 y2 nx1 hbd hbe hr hb5 hb6 hz q0 q1 q2 p0 p1 p2 Y0 Y1 Y2 NX1 hB6
        go_wp2_with fail
        refine (H.implIsNote_any _ _ _ _).mono ?_
        rintro e w7 ⟨rfl, hb7⟩
        have hres := hres.below hb7
        have u0 := ((bcell hb7).1 g 0 ul).trans u0
        have u1 := ((bcell hb7).1 g 1 ul).trans u1
        have u2 := ((bcell hb7).1 g 2 ul).trans u2
        have HB7 := Lib.hid (HB6.out.trans (hb7.mono hbs))
        obtain ⟨r0, r1, r2, e0, e1, e2, rl⟩ := hres
        clear hb7
        cases hh : H.noteB (trk p l) (2 * s) (2 * (s + k) - 1) with
        | false =>
          go_wp2
          exact bodyPost_ret (v := .tuple #[.agg #[.int .i64 0, .int .i64 0, .int .i64 0], .bool false]) (by simp [results, Tryz.results36, go_sem, *]) rfl ⟨by rw [HFF.out _ hh]; rfl, by rw [hbw]; exact Below.set3 HB7.out (by omega) _ _ _⟩
        | true =>
          go_wp2
          exact bodyPost_ret (v := .tuple #[.agg #[.int .i64 (trk p l), .int .i64 (2 * s), .int .i64 (2 * (s + k) - 1)], .bool true]) (by simp [results, Tryz.results36, go_sem, *]) rfl ⟨by rw [HFF.out _ hh]; rfl, by rw [hbw]; exact Below.set3 HB7.out (by omega) _ _ _⟩
end Go.Proofs.YtkfgmkgbicahgaaGreatDoor

namespace Go.Proofs.YtkfgmkgbicahgaaGreatDoor
open Go.RowKit Go.Sort
set_option linter.unusedVariables false
set_option linter.unusedSimpArgs false

/-- The note of a valid hole. -/
def noR (P : List Int) (h : Nt) : Array Value := if isOf P h = true then #[nt3 (noteOf P h), .bool true] else #[no3, .bool false]
theorem noR_form (P : List Int) (x : Nt) : ∃ a b c ok, noR P x = #[.agg #[.int .i64 a, .int .i64 b, .int .i64 c], .bool ok] := by
  unfold noR
  split
  · exact ⟨_, _, _, _, rfl⟩
  · exact ⟨_, _, _, _, rfl⟩
theorem tmod2 {x : Int} (h : 0 ≤ x) : x.tmod 2 = x % 2 := Int.tmod_eq_emod_of_nonneg h
theorem tdiv2 {x : Int} (h : 0 ≤ x) : x.tdiv 2 = x / 2 := Int.tdiv_eq_ediv_of_nonneg h

end Go.Proofs.YtkfgmkgbicahgaaGreatDoor

namespace Go.Proofs.YtkfgmkgbicahgaaGreatDoor
open Go.RowKit Go.Sort
set_option linter.unusedVariables false
set_option linter.unusedSimpArgs false

def misB (P : List Int) (x : Nt) : Bool := !hasB P x.1

set_option maxRecDepth 100000 in
set_option maxHeartbeats 1000000 in
theorem inAsked_any (A : Option Addr) (l : List Int) (c : Nat) (r : Int) (M : Option Addr) (m : List Nt) (d : Nat) (w : World) (hn : l.length ≤ 1048576) (hA : RI w A l) (hm : m.length ≤ 1048576) (hd : m.length ≤ d) (hd' : d ≤ 9223372036854775807) (hM : RA w M m) :
    Calls Tryz.prog 18 #[.agg #[.slice A l.length c, .int .i64 r], .slice M m.length d] w fun e w' => e = .returned (.bool (gdI l r && goodB m)) ∧ Below w.heap.size w w' := by
  have hb0 : Below w.heap.size w (w.alloc (.cells #[.slice A l.length c, .int .i64 r] 31)) := (Below.refl w.heap.size w).alloc (Nat.le_refl _) _
  go_enter Tryz.func18, Tryz.ntmps18
  go_wp2_with fail
  refine (inGood_any _ _ _ _ _ hn (hA.below hb0)).mono ?_
  rintro e w1 ⟨rfl, hb1⟩
  have hB1 := hb0.trans (hb1.mono hb0.size)
  cases hg : gdI l r with
  | false =>
    go_wp2
    go_ret
    exact ⟨ret_bool (by simp [hg]), hB1⟩
  | true =>
    go_wp2_with fail
    refine (ntGood_any _ _ _ _ hm hd hd' (hM.below hB1)).mono ?_
    rintro e w2 ⟨rfl, hb2⟩
    go_wp2
    go_ret
    exact ⟨ret_bool (by simp [hg]), hB1.trans (hb2.mono hB1.size)⟩

set_option maxRecDepth 100000 in
set_option maxHeartbeats 2000000 in
theorem inMissing_any (A : Option Addr) (l : List Int) (c : Nat) (r : Int) (M : Option Addr) (m : List Nt) (d : Nat) (w : World) (hn : l.length ≤ 1048576) (hA : RI w A l) (hM : RA w M m) (hg : Good m) :
    Calls Tryz.prog 42 #[.agg #[.slice A l.length c, .int .i64 r], .slice M m.length d] w fun e w' => ∃ v, e = .returned v ∧ OwnI w' w.heap.size 3 v (atF (misB l) m) ∧ Below w.heap.size w w' := by
  have h30 := hg.2
  have hb0 : Below w.heap.size w (w.alloc (.cells #[.slice A l.length c, .int .i64 r] 31)) := (Below.refl w.heap.size w).alloc (Nat.le_refl _) _
  obtain ⟨x0, x1, hz⟩ := Box.new w A l.length c r 31
  have hA := hA.below hb0
  have hM := hM.below hb0
  go_enter Tryz.func42, Tryz.ntmps42
  go_wp2_with fail
  generalize w.alloc (.cells #[.slice A l.length c, .int .i64 r] 31) = W at *
  go_loopw [5, 10] (fun a i wr => ∃ k : Nat, k ≤ m.length ∧ i = .int .i64 k ∧ OwnI wr W.heap.size 3 a (atF (misB l) (m.take k)) ∧ Below W.heap.size W wr)
    (fun _ i _ => m.length - (intOf i).toNat)
  case atStart => exact ⟨0, Nat.zero_le _, rfl, OwnI.nil _ _ _, Below.refl _ _⟩
  case round =>
    obtain ⟨k, hk, rfl, hown, hb⟩ := hrel
    by_cases hlt : k < m.length
    · have hx : m[k]? = some m[k] := List.getElem?_eq_getElem hlt
      generalize m[k] = x at hx
      have hs := atF_snoc (misB l) m k x hx
      obtain ⟨p, s, n⟩ := x
      simp only at hs
      obtain ⟨g, o, rfl, hgb, h0, h1, h2⟩ := (hM.below hb) k _ hx
      simp only at h0 h1 h2
      have i1 : (0 : Int) ≤ (k : Int) := by omega
      have i2 : (k : Int) < (m.length : Int) := by omega
      have HS := Lib.hid hs
      have HO := Lib.hid hown
      clear hs hx hown
      have hsz := atF_length (misB l) m k hk
      have hinc := Lib.hid (atF_inc (misB l) m k hk)
      have y0 := (hb.cell (p := ⟨w.heap.size, 0, none⟩) hz).trans x0
      have y1 := (hb.cell (p := ⟨w.heap.size, 1, none⟩) hz).trans x1
      have hzr : w.heap.size < wr.heap.size := Nat.lt_of_lt_of_le hz hb.size
      have hnb : Below wr.heap.size wr (wr.alloc (.cells #[.int .i64 p, .int .i64 s, .int .i64 n] 47)) := (Below.refl _ _).alloc (Nat.le_refl _) _
      have hAr := (hA.below hb).below hnb
      have hzn : wr.heap.size < (wr.alloc (.cells #[.int .i64 p, .int .i64 s, .int .i64 n] 47)).heap.size := by simp
      have p0 : (wr.alloc (.cells #[.int .i64 p, .int .i64 s, .int .i64 n] 47)).cell? ⟨wr.heap.size, 0, none⟩ = some (.int .i64 p) := by rw [World.cell?_alloc_new]; rfl
      go_wp2_with fail
      generalize wr.alloc (.cells #[.int .i64 p, .int .i64 s, .int .i64 n] 47) = W1 at *
      refine (inTrack_any _ _ _ _ _ _ hn hAr).mono ?_
      rintro e w2 ⟨rfl, hb2⟩
      have hb12 := hnb.trans (hb2.mono hnb.size)
      have p2 := (hb2.cell (p := ⟨wr.heap.size, 0, none⟩) hzn).trans p0
      clear y0 y1 h0 h1 h2 hAr p0
      cases hh : hasB l p with
      | false =>
        have ht : trk p l < 0 := by have := hasB_trk l p; simp [hh] at this; omega
        go_wp2_with (go_at_call 58; refine (l1Put_any _ _ p W.heap.size _ (by omega) (by have := hb.size; have := hb12.size; omega) (HO.out.below hb12 (Nat.le_refl _)) hinc.out).mono ?_; rintro e w3 ⟨v3, rfl, ho3, hb3⟩)
        go_roundw
        case rel =>
          refine ⟨k + 1, by omega, by go_num, ?_, hb.trans ((hb12.trans (hb3.mono hb12.size)).mono hb.size)⟩
          rw [HS.out, if_pos (by simp [misB, hh])]
          exact ho3
        case measure => simp [intOf]; omega
      | true =>
        have ht : ¬ trk p l < 0 := by have := hasB_trk l p; simp [hh] at this; omega
        go_wp2
        go_roundw
        case rel =>
          refine ⟨k + 1, by omega, by go_num, ?_, hb.trans (hb12.mono hb.size)⟩
          rw [HS.out, if_neg (by simp [misB, hh])]
          exact HO.out.below hb12 (Nat.le_refl _)
        case measure => simp [intOf]; omega
    · obtain rfl : k = m.length := by omega
      go_wp2
      go_ret
      rw [List.take_length] at hown
      exact ⟨_, rfl, hown.mono hb0.size, hb0.trans (hb.mono hb0.size)⟩

end Go.Proofs.YtkfgmkgbicahgaaGreatDoor

namespace Go.Proofs.YtkfgmkgbicahgaaGreatDoor
open Go.RowKit Go.Sort
set_option linter.unusedVariables false
set_option linter.unusedSimpArgs false

set_option maxRecDepth 100000 in
set_option maxHeartbeats 4000000 in
theorem implMiss_any (A : Option Addr) (l : List Int) (c : Nat) (r : Int) (M : Option Addr) (m : List Nt) (d : Nat) (w : World) (hn : l.length ≤ 1048576) (hA : RI w A l) (hm : m.length ≤ 1048576) (hM : RA w M m) (hL : Lim w) :
    Calls Tryz.prog 48 #[.agg #[.slice A l.length c, .int .i64 r], .slice M m.length d] w fun e w' => RetI w (atF (misB l) m) (gdI l r && goodB m) e w' := by
  have hb0 : Below w.heap.size w (w.alloc (.cells #[.slice A l.length c, .int .i64 r] 31)) := (Below.refl w.heap.size w).alloc (Nat.le_refl _) _
  obtain ⟨x0, x1, hz⟩ := Box.new w A l.length c r 31
  have hA := hA.below hb0
  have hM := hM.below hb0
  have hL := hL.below hb0
  go_enter Tryz.func48, Tryz.ntmps48
  go_wp2_with fail
  generalize w.alloc (.cells #[.slice A l.length c, .int .i64 r] 31) = W at *
  refine (isIns_any _ _ _ _ _ hn hA hL).mono ?_
  rintro e w1 ⟨rfl, hb1⟩
  have hB1 := hb0.trans (hb1.mono hb0.size)
  cases hg : gdI l r with
  | false =>
    go_wp2
    go_ret2
    rw [hg, Bool.false_and]
    exact ⟨_, rfl, by simpa using OwnI.nil w1 w.heap.size 3, hB1⟩
  | true =>
    have HG := Lib.hid hg
    clear hg
    go_wp2_with fail
    refine (isScore_any _ _ _ _ hm (hM.below hb1)).mono ?_
    rintro e w2 ⟨rfl, hb2⟩
    have hb12 := hb1.trans (hb2.mono hb1.size)
    have hB2 := hB1.trans (hb2.mono hB1.size)
    cases hgb : goodB m with
    | false =>
      have HB := Lib.hid hgb
      go_wp2
      go_ret2
      rw [HG.out, HB.out, Bool.and_false]
      exact ⟨_, rfl, by simpa using OwnI.nil w2 w.heap.size 3, hB2⟩
    | true =>
      have hgood := (goodB_iff m).1 hgb
      have h30 := hgood.2
      have HB := Lib.hid hgb
      clear hgb
      have x0 := (hb12.cell (p := ⟨w.heap.size, 0, none⟩) hz).trans x0
      have x1 := (hb12.cell (p := ⟨w.heap.size, 1, none⟩) hz).trans x1
      have hz := Nat.lt_of_lt_of_le hz hb12.size
      have hA := hA.below hb12
      have hM := hM.below hb12
      clear hb1 hb2 hb12 hL
      go_wp2_with fail
      go_loopw [6, 19] (fun a i wr => ∃ k : Nat, k ≤ m.length ∧ i = .int .i64 k ∧ OwnI wr w2.heap.size 3 a (psF (misB l) (m.take k)) ∧ Below w2.heap.size w2 wr)
        (fun _ i _ => m.length - (intOf i).toNat)
      case atStart => exact ⟨0, Nat.zero_le _, rfl, OwnI.nil _ _ _, Below.refl _ _⟩
      case round =>
        obtain ⟨k, hk, rfl, hown, hb⟩ := hrel
        have HO := Lib.hid hown
        clear hown
        by_cases hlt : k < m.length
        · have hx : m[k]? = some m[k] := List.getElem?_eq_getElem hlt
          generalize m[k] = x at hx
          have hs := psF_snoc (misB l) m k x hx
          obtain ⟨p, s, n⟩ := x
          simp only at hs
          obtain ⟨g, o, rfl, hgb, h0, h1, h2⟩ := (hM.below hb) k _ hx
          simp only at h0 h1 h2
          have i1 : (0 : Int) ≤ (k : Int) := by omega
          have i2 : (k : Int) < (m.length : Int) := by omega
          have HS := Lib.hid hs
          clear hs hx
          have hsz : (psF (misB l) (m.take k)).length ≤ 30 := by have := psF_length (misB l) (m.take k); simp at this; omega
          have y0 := (hb.cell (p := ⟨w.heap.size, 0, none⟩) hz).trans x0
          have y1 := (hb.cell (p := ⟨w.heap.size, 1, none⟩) hz).trans x1
          have hzr : w.heap.size < wr.heap.size := Nat.lt_of_lt_of_le hz hb.size
          have hnb : Below wr.heap.size wr (wr.alloc (.cells #[.int .i64 p, .int .i64 s, .int .i64 n] 47)) := (Below.refl _ _).alloc (Nat.le_refl _) _
          have hAr := (hA.below hb).below hnb
          have hzn : wr.heap.size < (wr.alloc (.cells #[.int .i64 p, .int .i64 s, .int .i64 n] 47)).heap.size := by simp
          have p0 : (wr.alloc (.cells #[.int .i64 p, .int .i64 s, .int .i64 n] 47)).cell? ⟨wr.heap.size, 0, none⟩ = some (.int .i64 p) := by rw [World.cell?_alloc_new]; rfl
          go_wp2_with fail
          generalize wr.alloc (.cells #[.int .i64 p, .int .i64 s, .int .i64 n] 47) = W1 at *
          refine (hasPitch_any _ _ _ _ _ _ hn hAr).mono ?_
          rintro e w3 ⟨rfl, hb3⟩
          have hb13 := hnb.trans (hb3.mono hnb.size)
          have p3 := (hb3.cell (p := ⟨wr.heap.size, 0, none⟩) hzn).trans p0
          clear y0 y1 h0 h1 h2 hAr p0
          cases hh : hasB l p with
          | false =>
            have hbr3 := Lib.hid (show Below wr.heap.size wr (w3.alloc (.cells #[.int .i64 p] 3)) from hb13.alloc hb13.size _)
            have ho3 := Lib.hid (HO.out.below hbr3.out (Nat.le_refl _))
            have hc3 := Lib.hid (one_new w3 p)
            go_wp2_with (at_builtin; go_loud (refine wpList_appI _ rfl (.tmp 28) (.tmp 31) rfl w2.heap.size _ _ rfl ho3.out (some ⟨w3.heap.size, 0, none⟩) 1 1 [p] rfl rfl (fun h => by cases h) (fun j y hy => one_at hc3.out hy) (by simp; omega) (Nat.le_trans hb.size hbr3.out.size) ?_); intro v4 w4 ho4 hg4 hv4)
            go_roundw
            case rel =>
              refine ⟨k + 1, by omega, by go_num, ?_, (hb.trans (hbr3.out.mono hb.size)).grown hg4 (Nat.le_trans hb.size hbr3.out.size) (fun j hj => (ho3.out.lt j hj).1)⟩
              rw [HS.out, if_pos (by simp [misB, hh])]
              exact ho4
            case measure => simp [intOf]; omega
          | true =>
            go_wp2
            go_roundw
            case rel =>
              refine ⟨k + 1, by omega, by go_num, ?_, hb.trans (hb13.mono hb.size)⟩
              rw [HS.out, if_neg (by simp [misB, hh]), List.append_nil]
              exact HO.out.below hb13 (Nat.le_refl _)
            case measure => simp [intOf]; omega
        · obtain rfl : k = m.length := by omega
          rw [List.take_length] at HO
          have hl := psF_length (misB l) m
          go_wp2_with (first
            | (go_at_call 63; refine (sortI_any _ _ w2.heap.size _ (by omega) HO.out).mono ?_; rintro e w3 ⟨rfl, ho3, hg3⟩)
            | (go_at_call 64; refine (compactI_any _ _ w2.heap.size _ (by rw [List.length_mergeSort]; omega) ho3).mono ?_; rintro e w4 ⟨v4, rfl, ho4, hg4⟩))
          go_ret2
          rw [compact_atF] at ho4
          rw [HG.out, HB.out, Bool.and_true]
          have hb3 := hb.grown hg3 hb.size (fun j hj => (HO.out.lt j hj).1)
          refine ⟨_, rfl, by simpa using ho4.mono hB2.size, hB2.trans ((hb3.grown hg4 hb3.size (fun j hj => (ho3.lt j hj).1)).mono hB2.size)⟩
end Go.Proofs.YtkfgmkgbicahgaaGreatDoor

namespace Go.Proofs.YtkfgmkgbicahgaaGreatDoor
open Go.RowKit Go.Sort
set_option linter.unusedVariables false

/-- A call returned a score of its own, or nil and false; below the heap's old size nothing has turned. -/
def RetScore (B : World) (l : List Nt) (ok : Bool) (e : Ending) (w' : World) : Prop :=
  ∃ v, e = .returned (.tuple #[v, .bool ok]) ∧ Own w' B.heap.size 47 v (if ok = true then l else []) ∧ Below B.heap.size B w'
theorem RetScore.mono {B B' : World} {l : List Nt} {ok : Bool} {e : Ending} {w' : World} (h : RetScore B' l ok e w') (hb : Below B.heap.size B B') : RetScore B l ok e w' := by
  obtain ⟨v, he, ho, hbl⟩ := h
  refine ⟨v, he, ?_, hb.trans (hbl.mono hb.size)⟩
  exact ho.mono hb.size
end Go.Proofs.YtkfgmkgbicahgaaGreatDoor

namespace Go.Proofs.YtkfgmkgbicahgaaGreatDoor
open Go.RowKit Go.Sort
set_option linter.unusedVariables false
set_option linter.unusedSimpArgs false

end Go.Proofs.YtkfgmkgbicahgaaGreatDoor

namespace Go.Proofs.YtkfgmkgbicahgaaGreatDoor
open Go.RowKit Go.Sort
set_option linter.unusedVariables false
set_option linter.unusedSimpArgs false

/-- The tracks below n that are not used. -/
def spN (u : List Int) (n : Nat) : List Int := ((List.range n).map fun (j : Nat) => (j : Int)).filter fun x => !hasB u x
def spareL (P : List Int) (m : List Nt) : List Int := spN (H.tracksL m) P.length
theorem spN_succ (u : List Int) (n : Nat) : spN u (n + 1) = spN u n ++ if hasB u (n : Int) = true then [] else [(n : Int)] := by
  unfold spN
  rw [List.range_succ, List.map_append, List.filter_append]
  congr 1
  cases h : hasB u (n : Int) <;> simp [h]
theorem spN_length (u : List Int) (n : Nat) : (spN u n).length ≤ n := by
  unfold spN
  exact Nat.le_trans (List.length_filter_le _ _) (by simp)
theorem spareL_length (P : List Int) (m : List Nt) : (spareL P m).length ≤ P.length := spN_length _ _

end Go.Proofs.YtkfgmkgbicahgaaGreatDoor

namespace Go.Proofs.YtkfgmkgbicahgaaGreatDoor
open Go.RowKit Go.Sort
set_option linter.unusedVariables false
set_option linter.unusedSimpArgs false

/-- The note of a hole, if there is one. -/
def nfR (P : List Int) (r : Int) (x : Nt) : Array Value := if (gdI P r && H.noteN x) = true then noR P x else #[no3, .bool false]

end Go.Proofs.YtkfgmkgbicahgaaGreatDoor
