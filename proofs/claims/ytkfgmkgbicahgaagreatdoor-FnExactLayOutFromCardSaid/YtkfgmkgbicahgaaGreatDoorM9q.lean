/- Texts of the proof, run together: BackS, HChsh, HSuits, Made, Pairs, RepN, Steps, Fast. -/
import Derived.Test.YtkfgmkgbicahgaaGreatDoorM8q
import Derived.Test.YtkfgmkgbicahgaaGreatDoorM7q
import Derived.Test.YtkfgmkgbicahgaaGreatDoorM3q
import Derived.Test.YtkfgmkgbicahgaaGreatDoorM2q
import Derived.Test.YtkfgmkgbicahgaaGreatDoorM4q
import Derived.Test.YtkfgmkgbicahgaaGreatDoorM1q
import Derived.OwnWalk
import Derived.Maps.OwnSet
import Derived.Maps.OwnOps
import Derived.LoopTactic
import Derived.Deep.Onto
import Derived.Deep.DeepCutAuto
import Derived.Lib.QuietBelow
namespace Go.Proofs.YtkfgmkgbicahgaaGreatDoor
open Go.RowKit Go.Sort
set_option linter.unusedVariables false
set_option linter.unusedSimpArgs false

theorem take_all {f : Nt → Bool} {m : List Nt} {k : Nat} {x : Nt} (h : (m.take k).all f = true) (hx : m[k]? = some x) (hf : f x = true) : (m.take (k + 1)).all f = true := by
  rw [List.take_add_one, hx, List.all_append, h]
  simp [hf]
theorem all_not {f : Nt → Bool} {m : List Nt} {k : Nat} {x : Nt} (hx : m[k]? = some x) (hf : f x = false) : m.all f = false := by
  cases h : m.all f with
  | false => rfl
  | true =>
    have := List.all_eq_true.1 h x (List.mem_iff_getElem?.2 ⟨k, hx⟩)
    rw [hf] at this; cases this
theorem take_map {f : Nt → Nt} {m : List Nt} {k : Nat} {x : Nt} (hx : m[k]? = some x) : (m.take (k + 1)).map f = (m.take k).map f ++ [f x] := by
  rw [List.take_add_one, hx, List.map_append]; rfl

/-- The notes of all holes. -/
def backL (P : List Int) (m : List Nt) : List Nt := m.map (noteOf P)
theorem backL_length (P : List Int) (m : List Nt) : (backL P m).length = m.length := by simp [backL]
theorem backL_snoc {P : List Int} {m : List Nt} {k : Nat} {x : Nt} (hx : m[k]? = some x) : backL P (m.take (k + 1)) = backL P (m.take k) ++ [noteOf P x] := take_map hx
theorem same_retS {B : World} {l m : List Nt} {a b : Bool} {e : Ending} {w' : World} (h : RetScore B l a e w') (ha : a = b) (hl : (if a = true then l else []) = (if b = true then m else [])) : RetScore B m b e w' := by
  obtain ⟨v, he, ho, hb⟩ := h
  subst ha
  exact ⟨v, he, by rw [← hl]; exact ho, hb⟩

/-- A sheet is read back. -/
def backB (P : List Int) (r : Int) (m : List Nt) : Bool := gdI P r && (H.goodB m && (m.all (isOf P) && goodB (m.map (noteOf P))))
theorem back_canon {P : List Int} {m : List Nt} {r : Int} (hg : gdI P r = true) (hm : H.Good m) (ho : m.all (isOf P) = true) :
    goodB (canon (m.map (noteOf P))) = goodB (m.map (noteOf P)) ∧ (if goodB (canon (m.map (noteOf P))) = true then canon (m.map (noteOf P)) else []) = (if goodB (m.map (noteOf P)) = true then m.map (noteOf P) else []) := by
  have hs := noteOf_srt ((gdI_iff P r).1 hg).2.1.inc hm (fun x hx => List.all_eq_true.1 ho x hx)
  obtain ⟨h1, h2⟩ := canon_good (List.Perm.refl (m.map (noteOf P))) hs
  exact ⟨h1.symm, h2.symm⟩
theorem backB_iff {P : List Int} {m : List Nt} {r : Int} (hg : (gdI P r && H.goodB m) = true) : backB P r m = (m.all (isOf P) && goodB (m.map (noteOf P))) := by
  simp only [Bool.and_eq_true] at hg
  unfold backB
  rw [hg.1, hg.2, Bool.true_and, Bool.true_and]

theorem back_eq {P : List Int} {m : List Nt} {r : Int} (hg : (gdI P r && H.goodB m) = true) :
    (m.all (isOf P) && goodB (canon (backL P m))) = backB P r m ∧ (if (m.all (isOf P) && goodB (canon (backL P m))) = true then canon (backL P m) else []) = (if backB P r m = true then m.map (noteOf P) else []) := by
  rw [backB_iff hg]
  simp only [Bool.and_eq_true] at hg
  unfold backL
  cases ha : m.all (isOf P) with
  | false => exact ⟨rfl, rfl⟩
  | true =>
    obtain ⟨c1, c2⟩ := back_canon hg.1 ((H.goodB_iff m).1 hg.2) ha
    rw [Bool.true_and, Bool.true_and]
    exact ⟨c1, c2⟩

end Go.Proofs.YtkfgmkgbicahgaaGreatDoor

namespace Go.Proofs.YtkfgmkgbicahgaaGreatDoor.H
open Go.RowKit Go.Sort
set_option linter.unusedVariables false
set_option linter.unusedSimpArgs false

theorem heap_two (W : World) (x y : Obj) : ((W.alloc x).alloc y).heap[W.heap.size + 1]? = some y := by
  have := heap_alloc_new (W.alloc x) y
  simpa using this

set_option maxRecDepth 100000 in
set_option maxHeartbeats 4000000 in
theorem changeSheet_any (T K : Nat) (r : Value) (sb : Bool) (g : Nt → Nt) (A : Option Addr) (l : List Nt) (c : Nat) (w : World) (hn : l.length ≤ 1048576) (hA : RA w A l)
    (hm : ∀ w : World, (method 257 T r "loop.example/g00949/impl.suits").run Tryz.prog w = .ok (K, r) w)
    (he : ∀ (args : Array Value) (w : World), (callFunc K args).run Tryz.prog w = .ok (.enter K args) w)
    (hs : Hid (goodB l = true → ∀ W : World, RA W A l → Calls Tryz.prog K #[r, .slice A l.length c] W fun e w' => e = .returned (.bool sb) ∧ Below W.heap.size W w'))
    (hg : Hid (goodB l = true → sb = true → ∀ (x : Nt) (W : World), x ∈ l → Calls Tryz.prog 55 #[.agg #[.int .i64 x.1, .int .i64 x.2.1, .int .i64 x.2.2], .iface T r] W fun e w' => e = .returned (.tuple #[.agg #[.int .i64 (g x).1, .int .i64 (g x).2.1, .int .i64 (g x).2.2], .bool (decide ((g x).2.1 < (g x).2.2))]) ∧ Below W.heap.size W w')) :
    Calls Tryz.prog 37 #[.slice A l.length c, .iface T r] w fun e w' => RetScore w (canon (chgL g l)) (goodB l && (sb && goodB (canon (chgL g l)))) e w' := by
  cases hgb : goodB l with
  | false =>
    have HG := isSheet_quick A l c false hn hgb
    clear hgb hs hg
    go_enter Tryz.func37, Tryz.ntmps37
    go_wp2_with (go_at_call 54; refine (HG.out _ hA).mono ?_; rintro e w1 ⟨rfl, hb1⟩)
    go_ret2
    exact ⟨_, rfl, by simpa using Own.nil _ _ _, hb1⟩
  | true =>
    have h60 := ((goodB_iff l).1 hgb).2
    have HG := isSheet_quick A l c true hn hgb
    have HS := Lib.hid (hs.out hgb)
    have HCH := Lib.hid (hg.out hgb)
    clear hgb hs hg
    cases sb with
    | false =>
      go_enter Tryz.func37, Tryz.ntmps37
      go_wp2_with fail
      refine (HG.out _ hA).mono ?_
      rintro e w1 ⟨rfl, hb1⟩
      go_wp2_with fail
      refine (HS.out _ (hA.below hb1)).mono ?_
      rintro e w2 ⟨rfl, hb2⟩
      go_wp2
      go_ret2
      exact ⟨_, rfl, by simpa using Own.nil _ _ _, hb1.trans (hb2.mono hb1.size)⟩
    | true =>
      have HCC := Lib.hid (HCH.out rfl)
      clear HCH
      go_enter Tryz.func37, Tryz.ntmps37
      go_wp2_with fail
      refine (HG.out _ hA).mono ?_
      rintro e w1 ⟨rfl, hb1⟩
      go_wp2_with fail
      refine (HS.out _ (hA.below hb1)).mono ?_
      rintro e w2 ⟨rfl, hb2⟩
      have hB2 := hb1.trans (hb2.mono hb1.size)
      have hA2 := hA.below hB2
      have HB2 := Lib.hid hB2
      clear hA hb1 hb2 hB2 hm
      go_wp2
      go_loopw [6, 22] (fun a i wr => ∃ (k : Nat) (v : Value), k ≤ l.length ∧ i = .int .i64 k ∧ a = v ∧ Own wr w2.heap.size 54 v (chgL g (l.take k)) ∧ Below w2.heap.size w2 wr)
        (fun _ i _ => l.length - (intOf i).toNat)
      case atStart => exact ⟨0, _, Nat.zero_le _, rfl, rfl, by simpa [chgL] using Own.nil _ _ _, Below.refl _ _⟩
      case round =>
        obtain ⟨k, v, hk, rfl, hvv, hown, hb⟩ := hrel
        replace hvv := hvv.symm
        subst hvv
        by_cases hkl : k < l.length
        · have hx : l[k]? = some l[k] := List.getElem?_eq_getElem hkl
          generalize l[k] = x at hx
          have hsn := chgL_snoc g l k x hx
          have HX : Hid (x ∈ l) := Lib.hid (List.mem_iff_getElem?.2 ⟨k, hx⟩)
          have hlen : (chgL g (l.take k)).length ≤ 60 := by have := chgL_length g (l.take k); simp at this; omega
          obtain ⟨g1, o, rfl, hgb, h0, h1, h2⟩ := (hA2.below hb) k _ hx
          obtain ⟨p, s, n⟩ := x
          simp only at h0 h1 h2
          have i1 : (0 : Int) ≤ (k : Int) := by omega
          have i2 : (k : Int) < (l.length : Int) := by omega
          have HSN := Lib.hid hsn
          have HO := Lib.hid hown
          have HLEN := Lib.hid hlen
          clear hsn hx hown hlen
          go_wp2_with fail
          refine (HCC.out (p, s, n) _ HX.out).mono ?_
          rintro e w3 ⟨rfl, hb3⟩
          have hb3' : Below w2.heap.size w2 w3 := (hb.alloc hb.size _).trans (hb3.mono (by simp; have := hb.size; omega))
          have HO3 := Lib.hid (HO.out.below (((Below.refl _ _).alloc (Nat.le_refl _) _).trans (hb3.mono (by simp))) (Nat.le_refl _))
          generalize g (p, s, n) = y at *
          obtain ⟨a1, a2, a3⟩ := y
          simp only at HSN ⊢
          clear hb3 HO h0 h1 h2
          by_cases hlt : a2 < a3
          · have hd : decide (a2 < a3) = true := decide_eq_true hlt
            have HSN' := Lib.hid (HSN.out.trans (by rw [if_pos hlt]))
            clear HSN
            rw [hd]
            go_wp2_with (at_builtin; refine wpList_appHole _ rfl (.tmp 33) (.tmp 35) rfl w2.heap.size v _ rfl ((HO3.out.alloc _).alloc _) (some ⟨w3.heap.size + 1, 0, none⟩) 1 1 [(a1, a2, a3)] rfl rfl (fun h => by cases h) (RA.one (heap_two _ _ _)) (by have := HLEN.out; omega) (by simp; have := hb3'.size; omega) ?_; intro v4 w4 ho4 hg4; have HO4 := Lib.hid ho4; have HB4 := Lib.hid (((hb3'.alloc hb3'.size _).alloc (by simp; have := hb3'.size; omega) _).grown hg4 (by simp; have := hb3'.size; omega) (fun j hj => (HO3.out.lt j hj).1)); clear ho4 hg4)
            go_roundw
            case rel => exact ⟨k + 1, _, by omega, by go_num, rfl, by rw [HSN'.out]; exact HO4.out, HB4.out⟩
            case measure => simp [intOf]; omega
          · have hd : decide (a2 < a3) = false := decide_eq_false hlt
            have HSN' := Lib.hid (HSN.out.trans (by rw [if_neg hlt, List.append_nil]))
            clear HSN
            rw [hd]
            go_wp2
            go_roundw
            case rel => exact ⟨k + 1, _, by omega, by go_num, rfl, by rw [HSN'.out]; exact HO3.out.alloc _, hb3'.alloc hb3'.size _⟩
            case measure => simp [intOf]; omega
        · obtain rfl : k = l.length := by omega
          rw [List.take_length] at hown
          have hlen : (chgL g l).length ≤ 1000000 := by have := chgL_length g l; omega
          have hbs := hb.size
          go_wp2_with fail
          refine (ordered_any _ (chgL g l) w2.heap.size _ hlen hown hbs).mono ?_
          rintro e w3 ⟨u, rfl, ho3, hb3⟩
          have hb3' := hb.trans hb3
          go_wp2
          go_ret2
          exact RetScore.mono (B' := w2) ⟨_, rfl, by simpa using ho3, hb3'⟩ HB2.out
end Go.Proofs.YtkfgmkgbicahgaaGreatDoor.H

namespace Go.Proofs.YtkfgmkgbicahgaaGreatDoor.H
open Go.RowKit Go.Sort
set_option linter.unusedVariables false
set_option linter.unusedSimpArgs false



set_option maxRecDepth 100000 in
set_option maxHeartbeats 1000000 in
theorem suits_Move (A : Option Addr) (l : List Nt) (c : Nat) (b : Int) (w : World) (hn : l.length ≤ 1048576) (hA : RA w A l) :
    Calls Tryz.prog 125 #[.agg #[.int .i64 b], .slice A l.length c] w fun e w' => e = .returned (.bool (inR b (-2000) 2000)) ∧ Below w.heap.size w w' := by
  go_enter Tryz.func125, Tryz.ntmps125
  go_wp2_with (go_at_call 24; refine (inRange_any _ _ _ _).mono ?_; rintro e w' ⟨rfl, rfl⟩)
  go_ret
  exact ⟨rfl, (Below.refl _ _).alloc (Nat.le_refl _) _⟩

theorem chs_Move (A : Option Addr) (l : List Nt) (c : Nat) (b : Int) (w : World) (hn : l.length ≤ 1048576) (hA : RA w A l) :
    Calls Tryz.prog 37 #[.slice A l.length c, .iface 66 (.agg #[.int .i64 b])] w fun e w' => RetScore w (canon (chgL (moveN b) l)) (goodB l && (inR b (-2000) 2000 && goodB (canon (chgL (moveN b) l)))) e w' := by
  refine changeSheet_any 66 125 (.agg #[.int .i64 b]) (inR b (-2000) 2000) (moveN b) A l c w hn hA (fun w => by kernel_rfl) (fun args w => enters_of Tryz.func125 (by kernel_rfl) rfl args w)
    (Lib.hid fun _ W hA => suits_Move A l c b W hn hA) (Lib.hid fun hg hs x W hx => ?_)
  · obtain ⟨b1, b2⟩ := inR_iff.1 hs
    have hv := (noteN_iff x).1 (((goodB_iff l).1 hg).valid x hx)
    exact changed_move b x.1 x.2.1 x.2.2 W b1 b2 hv.2.2.1 hv.2.2.2.1 hv.2.2.2.2

end Go.Proofs.YtkfgmkgbicahgaaGreatDoor.H

namespace Go.Proofs.YtkfgmkgbicahgaaGreatDoor
open Go.RowKit Go.Sort
set_option linter.unusedVariables false
set_option linter.unusedSimpArgs false

theorem made_new (w : World) (n : Nat) (hn : n ≤ 1048576) (t : TypeId) : Own (w.alloc (.cells (madeCells #[.int .i64 0, .int .i64 0, .int .i64 0] (n * 3)) t)) w.heap.size t (.slice (some ⟨w.heap.size, 0, none⟩) n n) (List.replicate n (0, 0, 0)) := by
  have h := World.ownsRow_lit (base := w.heap.size) (e := t) (size := 3) w (madeCells #[.int .i64 0, .int .i64 0, .int .i64 0] (n * 3)) n (Nat.le_refl _) (by unfold maxLen; omega) (size_madeCells _ _)
  rw [made_cl] at h
  simpa [Own] using h
theorem Own.cells3 {w : World} {base t g n : Nat} {L : List Nt} (h : Own w base t (.slice (Option.some ⟨g, 0, none⟩) n n) L) (hL : L.length = n) (k : Nat) (hk : k < n) :
    (∃ u, w.cell? ⟨g, k * 3, none⟩ = Option.some u) ∧ (∃ u, w.cell? ⟨g, k * 3 + 1, none⟩ = Option.some u) ∧ (∃ u, w.cell? ⟨g, k * 3 + 2, none⟩ = Option.some u) ∧
    w.frozen? ⟨g, k * 3, none⟩ = false ∧ w.frozen? ⟨g, k * 3 + 1, none⟩ = false ∧ w.frozen? ⟨g, k * 3 + 2, none⟩ = false := by
  unfold Own at h
  rw [hL] at h
  have f := fun j => h.frozenAt j
  refine ⟨?_, ?_, ?_, f _, f _, f _⟩
  · rw [h.cellAt _ (by omega)]; exact ⟨_, List.getElem?_eq_getElem (by rw [cl_length, hL]; omega)⟩
  · rw [h.cellAt _ (by omega)]; exact ⟨_, List.getElem?_eq_getElem (by rw [cl_length, hL]; omega)⟩
  · rw [h.cellAt _ (by omega)]; exact ⟨_, List.getElem?_eq_getElem (by rw [cl_length, hL]; omega)⟩
theorem Own.store3 {w : World} {base t g n : Nat} {L : List Nt} (h : Own w base t (.slice (Option.some ⟨g, 0, none⟩) n n) L) (hL : L.length = n) (k : Nat) (hk : k < n) (p s q : Int) :
    Own (((w.setCell ⟨g, k * 3, none⟩ (.int .i64 p)).setCell ⟨g, k * 3 + 1, none⟩ (.int .i64 s)).setCell ⟨g, k * 3 + 2, none⟩ (.int .i64 q)) base t (.slice (Option.some ⟨g, 0, none⟩) n n) (L.set k (p, s, q)) := by
  unfold Own at h
  rw [hL] at h
  have k1 := ((h.stored (k * 3) (.int .i64 p)).1.stored (k * 3 + 1) (.int .i64 s)).1.stored (k * 3 + 2) (.int .i64 q)
  have k2 := k1.1
  rw [cl_set _ _ (p, s, q) (by rw [hL]; exact hk)] at k2
  unfold Own
  rw [List.length_set, hL]
  exact k2
/-- The first k elements of f's answers, zeros behind them. -/
def fill (f : Nt → Nt) (m : List Nt) (k : Nat) : List Nt := (m.map f).take k ++ (List.replicate m.length (0, 0, 0)).drop k
theorem fill_zero (f : Nt → Nt) (m : List Nt) : fill f m 0 = List.replicate m.length (0, 0, 0) := by simp [fill]
theorem fill_length (f : Nt → Nt) (m : List Nt) (k : Nat) (hk : k ≤ m.length) : (fill f m k).length = m.length := by simp [fill]; omega
theorem fill_all (f : Nt → Nt) (m : List Nt) : fill f m m.length = m.map f := by
  unfold fill
  rw [List.take_of_length_le (by simp), List.drop_eq_nil_of_le (by simp), List.append_nil]
theorem fill_set (f : Nt → Nt) (m : List Nt) (k : Nat) (x : Nt) (hx : m[k]? = some x) : (fill f m k).set k (f x) = fill f m (k + 1) := by
  have hk := (List.getElem?_eq_some_iff.1 hx).1
  exact take_set (m.map f) _ k (f x) (by simp [hx]) (by simpa using hk)

theorem implHole_good (A : Option Addr) (l : List Int) (c : Nat) (r : Int) (hn : l.length ≤ 1048576) (hg : gdI l r = true) (p s n : Int) (hv : noteN (p, s, n) = true) :
    ∃ (a b q : Int) (ok : Bool), H.noteN (holeN l (p, s, n)) = ok ∧ (ok = true → (a, b, q) = holeN l (p, s, n)) ∧
      ∀ W : World, RI W A l → Lim W → Calls Tryz.prog 36 #[.agg #[.slice A l.length c, .int .i64 r], .agg #[.int .i64 p, .int .i64 s, .int .i64 n]] W fun e w' => e = .returned (.tuple #[.agg #[.int .i64 a, .int .i64 b, .int .i64 q], .bool ok]) ∧ Below W.heap.size W w' := by
  have e : hfR l r (p, s, n) = hoR l (p, s, n) := by unfold hfR; rw [hg, hv]; rfl
  cases h : H.noteN (holeN l (p, s, n)) with
  | false =>
    refine ⟨0, 0, 0, false, rfl, (fun h => by cases h), fun W hA hL => (implHole_any A l c r p s n W hn hA hL).mono fun e' w' h' => ⟨?_, h'.2⟩⟩
    rw [h'.1, e]; unfold hoR; rw [h]; rfl
  | true =>
    refine ⟨_, _, _, true, rfl, fun _ => rfl, fun W hA hL => (implHole_any A l c r p s n W hn hA hL).mono fun e' w' h' => ⟨?_, h'.2⟩⟩
    rw [h'.1, e]; unfold hoR; rw [h]; rfl
end Go.Proofs.YtkfgmkgbicahgaaGreatDoor

namespace Go.Proofs.YtkfgmkgbicahgaaGreatDoor
open Go.RowKit Go.Maps
set_option linter.unusedVariables false
set_option linter.unusedSimpArgs false

abbrev ps2 (g : Nat) : Value := .slice (some ⟨g, 0, none⟩) 2 2
/-- A slice of the call's own that holds pairs, each in a block of its own. -/
def OwnP (w : World) (base : Nat) (v : Value) (ps : List (Int × Int)) : Prop :=
  ∃ gs : List Nat, gs.length = ps.length ∧ gs.Nodup ∧ w.ownsRow base 22 1 v ps.length (gs.map ps2) ∧ (∀ g ∈ gs, v.ownBlock ≠ some g) ∧ ∀ (j g : Nat) (q : Int × Int), gs[j]? = some g → ps[j]? = some q → OwnI w base 3 (ps2 g) [q.1, q.2]
theorem OwnP.nil (w : World) (base : Nat) : OwnP w base (.slice none 0 0) [] :=
  ⟨[], rfl, List.nodup_nil, World.ownsRow_nil w base 22 1, fun g h => by simp at h, fun j g q h => by simp at h⟩
theorem OwnP.blocks {w : World} {base : Nat} {v : Value} {ps : List (Int × Int)} (h : OwnP w base v ps) : ∀ k, v.ownBlock = some k → base ≤ k ∧ k < w.heap.size := by
  obtain ⟨gs, _, _, hr, _⟩ := h
  exact World.ownsRow.lt hr
theorem OwnP.grownOff {w w' : World} {base : Nat} {v : Value} {ps : List (Int × Int)} {b : Nat} (h : OwnP w base v ps) (hg : w.grownBy w' (some b)) (hb : b < base) : OwnP w' base v ps := by
  obtain ⟨gs, h1, h2, hr, h4, h5⟩ := h
  refine ⟨gs, h1, h2, World.ownsRow.kept hr hg ?_, h4, fun j g q hj hq => ?_⟩
  · cases hv : v.ownBlock with
    | none => exact .inl rfl
    | some k => exact .inr fun e => by injection e with e; have := (World.ownsRow.lt hr k hv).1; omega
  · have ho := h5 j g q hj hq
    exact ho.grown hg (.inr fun e => by have := (ho.lt g rfl).1; simp [Value.ownBlock] at e; omega)
theorem OwnP.below {w w' : World} {base B : Nat} {v : Value} {ps : List (Int × Int)} (h : OwnP w base v ps) (hb : Below B w w') (hB : w.heap.size ≤ B) : OwnP w' base v ps := by
  obtain ⟨gs, h1, h2, hr, h4, h5⟩ := h
  refine ⟨gs, h1, h2, ?_, h4, fun j g q hj hq => (h5 j g q hj hq).below hb hB⟩
  exact hr.kept (row := none) ⟨hb.os, hb.tape, hb.output, hb.size, fun k hk _ => hb.block k (by omega)⟩ (by cases h' : v.ownBlock <;> simp)

theorem Tryz.info_slI : (Tryz.prog.info? 22).map (fun i => (i.zero, i.size, i.bytes)) = some (some (.slice none 0 0), 1, 24) := by kernel_rfl

/-- A pair in a new block, appended. -/
theorem wpList_appP (W0 w : World) {ops : Array Oper} {rest : List Oper} {o : Oper} {a : Act} {Q : Exit → Act → World → Prop} (hgd : o.guard = none) (s x : Operand)
    (ho : o.op = .call { callee := .builtin .append, args := #[s, x], argTypes := #[70, 70] })
    (base : Nat) (v : Value) (ps : List (Int × Int)) (hs : a.eval s = v) (hown : OwnP W0 base v ps) (hb0 : Below W0.heap.size W0 w) (hbase : base ≤ W0.heap.size)
    (b1 b2 : Nat) (q : Int × Int) (hx : a.eval x = .slice (some ⟨b2, 0, none⟩) 1 1) (hc : w.cell? ⟨b2, 0, none⟩ = some (ps2 b1)) (hq : OwnI w base 3 (ps2 b1) [q.1, q.2]) (hb1 : W0.heap.size ≤ b1) (hsz : ps.length ≤ 4000000)
    (h : ∀ v' w', OwnP w' base v' (ps ++ [q]) → w.grownBy w' v.ownBlock → wpList Tryz.prog ops Q rest (a.put o.dst v') w') :
    wpList Tryz.prog ops Q (o :: rest) a w := by
  obtain ⟨i, hi, hz, hs1, hbb⟩ := info_parts Tryz.info_slI
  obtain ⟨gs, h1, h2, hr, h4, h5⟩ := hown
  have hvlt : ∀ k, v.ownBlock = some k → base ≤ k ∧ k < W0.heap.size := World.ownsRow.lt hr
  have hglt : ∀ g ∈ gs, g < W0.heap.size := by
    intro g hg
    obtain ⟨j, hj⟩ := List.mem_iff_getElem?.1 hg
    have hjl := (List.getElem?_eq_some_iff.1 hj).1
    exact ((h5 j g (ps[j]'(by omega)) hj (List.getElem?_eq_getElem (by omega))).lt g rfl).2
  have hr' : w.ownsRow base 22 1 v ps.length (gs.map ps2) := hr.kept (row := none) ⟨hb0.os, hb0.tape, hb0.output, hb0.size, fun k hk _ => hb0.block k (by omega)⟩ (by cases h' : v.ownBlock <;> simp)
  have hb1w : b1 < w.heap.size := (hq.lt b1 rfl).2
  refine wpList_app w hgd s x 70 ho base 22 i (.slice none 0 0) 1 24 Tryz.underlying70 hi hz hs1 hbb rfl (by decide) v ps.length (gs.map ps2) hs hr' (some ⟨b2, 0, none⟩) 1 1 [ps2 b1] hx rfl (fun h => by cases h) ?_ ?_ (by unfold maxLen; omega) (by omega) (Nat.le_trans hbase hb0.size) ?_
  · intro j u hu
    cases j with
    | zero => simp at hu; subst hu; exact ⟨_, rfl, by rw [Addr.add_lit]; exact hc⟩
    | succ j => simp at hu
  · intro u hu
    simp only [List.mem_singleton] at hu
    subst hu
    rfl
  · intro v' w' k1 k2 k3
    refine h v' w' ⟨gs ++ [b1], by simp [h1], ?_, ?_, ?_, ?_⟩ k2
    · rw [List.nodup_append]
      refine ⟨h2, by simp, fun a ha b hb => ?_⟩
      simp only [List.mem_singleton] at hb
      subst hb
      have := hglt a ha
      omega
    · rw [List.map_append, List.length_append]
      exact k1
    · intro g hg
      rcases List.mem_append.1 hg with hg | hg
      · rcases k3 with k3 | k3
        · rw [k3]; exact h4 g hg
        · rw [k3]; intro e; injection e with e; have := hglt g hg; have := hb0.size; omega
      · simp only [List.mem_singleton] at hg
        subst hg
        rcases k3 with k3 | k3
        · rw [k3]; intro e; have := hvlt g e; omega
        · rw [k3]; intro e; injection e with e; omega
    · intro j g q' hj hq'
      rcases Nat.lt_or_ge j gs.length with hjl | hjl
      · rw [List.getElem?_append_left hjl] at hj
        rw [List.getElem?_append_left (by omega)] at hq'
        have ho := h5 j g q' hj hq'
        refine (ho.below hb0 (Nat.le_refl _)).grown k2 (.inr fun e => h4 g (List.mem_of_getElem? hj) ?_)
        rw [← e]; rfl
      · rw [List.getElem?_append_right hjl] at hj
        rw [List.getElem?_append_right (by omega)] at hq'
        have hj0 : j - gs.length = 0 := by have := (List.getElem?_eq_some_iff.1 hj).1; simp at this; omega
        rw [hj0] at hj
        rw [show j - ps.length = 0 by omega] at hq'
        simp at hj hq'
        subst hj hq'
        refine hq.grown k2 (.inr fun e => ?_)
        have e' : v.ownBlock = some b1 := by rw [← e]; rfl
        have := hvlt b1 e'
        omega

/-- What the program's map says of the notes looked at so far. -/
def Seen (D : DataW Unit) (l : List Nt) (k : Nat) : Prop := IsMap D ∧ ∀ p : Int, Maps.has D (.int .i64 p) = decide (0 ≤ lastIx p l k) ∧ (0 ≤ lastIx p l k → D.atKey (.int .i64 p) (.lit (.int .i64 0)) = .lit (.int .i64 (lastIx p l k)))
theorem Seen.zero (l : List Nt) : Seen (.map []) l 0 := ⟨⟨[], rfl⟩, fun p => ⟨rfl, fun h => by simp [lastIx] at h⟩⟩
theorem Seen.step {D : DataW Unit} {l : List Nt} {k : Nat} {x : Nt} (h : Seen D l k) (hx : l[k]? = some x) : Seen (D.put (.int .i64 x.1) (.lit (.int .i64 (k : Int)))) l (k + 1) := by
  refine ⟨?_, fun p => ?_⟩
  · obtain ⟨es, rfl⟩ := h.1
    exact ⟨_, rfl⟩
  · rw [lastIx_succ hx]
    by_cases hp : x.1 = p
    · subst hp
      rw [if_pos rfl]
      refine ⟨?_, fun _ => ?_⟩
      · rw [has_put_same h.1 (show WideAt.IsKeyLit (.int .i64 x.1) from trivial)]; simp
      · rw [atKey_put_same h.1 (show WideAt.IsKeyLit (.int .i64 x.1) from trivial)]
    · rw [if_neg hp, has_put_other (fun e => hp (by injection e with _ e; exact e.symm)), atKey_put_other (fun e => hp (by injection e with _ e; exact e.symm))]
      exact h.2 p
end Go.Proofs.YtkfgmkgbicahgaaGreatDoor

namespace Go.Proofs.YtkfgmkgbicahgaaGreatDoor
open Go.RowKit Go.Maps
set_option linter.unusedVariables false
set_option linter.unusedSimpArgs false

theorem mapLaw : Keyed Tryz.prog 3 := int_keyed Tryz.underlying3
theorem zeroInt (w : World) : (zeroValue 3).run Tryz.prog w = .ok (.int .i64 0) w := by kernel_rfl
theorem wf64 (z : Int) (h : -1000000 ≤ z) (h' : z ≤ 1000000) : (Lit.int .i64 z).wf = true := WalkArith.wf_i64 (by omega)
theorem keyI (p : Int) (h : -1000000 ≤ p) (h' : p ≤ 1000000) : keyOf Tryz.prog 3 (.int .i64 p) = some (.int .i64 p) := keyOf_int_mk Tryz.underlying3 (wf64 p h h')

theorem OwnI.pair (w : World) (base : Nat) (a b : Int) (hb : base ≤ w.heap.size) : OwnI (w.alloc (.cells #[.int .i64 a, .int .i64 b] 3)) base 3 (ps2 w.heap.size) [a, b] := by
  have h := World.ownsRow_lit (base := base) (e := 3) (size := 1) w #[.int .i64 a, .int .i64 b] 2 hb (by unfold maxLen; omega) rfl
  exact h

set_option maxRecDepth 100000 in
set_option maxHeartbeats 4000000 in
theorem repeated_any (A : Option Addr) (l : List Nt) (c : Nat) (w : World) (hn : l.length ≤ 1048576) (hA : RA w A l) (hg : Good l) :
    Calls Tryz.prog 65 #[.slice A l.length c] w fun e w' => ∃ v, e = .returned v ∧ OwnP w' w.heap.size v (pairsL l l.length) ∧ Below w.heap.size w w' := by
  have h30 := hg.2
  have hmm := @run_makeMap Tryz.prog
  have hb0 : Below w.heap.size w (w.alloc (.map #[] 0)) := (Below.refl w.heap.size w).alloc (Nat.le_refl _) _
  have hm0 : (w.alloc (.map #[] 0)).ownsMap Tryz.prog 3 (plainElem (H := Unit) Tryz.prog 3) w.heap.size 0 (.map []) := World.ownsMap_made _ _ _ _
  have hz0 : w.heap.size + 1 ≤ (w.alloc (.map #[] 0)).heap.size := by simp
  go_enter Tryz.func65, Tryz.ntmps65
  go_wp2_with fail
  generalize w.alloc (.map #[] 0) = W at *
  go_loopw [3, 12] (fun a i wr => ∃ (k : Nat) (D : DataW Unit), k ≤ l.length ∧ i = .int .i64 k ∧ OwnP wr (w.heap.size + 1) a (pairsL l k) ∧ wr.ownsMap Tryz.prog 3 (plainElem Tryz.prog 3) w.heap.size k D ∧ Seen D l k ∧ Below w.heap.size w wr ∧ W.heap.size ≤ wr.heap.size)
    (fun _ i _ => l.length - (intOf i).toNat)
  case atStart => exact ⟨0, .map [], Nat.zero_le _, rfl, OwnP.nil _ _, hm0, Seen.zero l, hb0, Nat.le_refl _⟩
  case round =>
    obtain ⟨k, D, hk, rfl, hown, hmap, hseen, hb, hsz⟩ := hrel
    by_cases hlt : k < l.length
    · have hx : l[k]? = some l[k] := List.getElem?_eq_getElem hlt
      generalize l[k] = x at hx
      have hs := pairsL_succ hx
      have hst := hseen.step hx
      have hv := (noteN_iff x).1 (hg.1 k x hlt hx).1
      obtain ⟨p, s, n⟩ := x
      simp only at hs hst hv
      obtain ⟨g, o, rfl, hgb, h0, h1, h2⟩ := (hA.below hb) k _ hx
      simp only at h0 h1 h2
      have i1 : (0 : Int) ≤ (k : Int) := by omega
      have i2 : (k : Int) < (l.length : Int) := by omega
      have hvlt := hown.blocks
      have hgz : w.heap.size < wr.heap.size := by omega
      have HVL := Lib.hid hvlt
      have HS := Lib.hid hs
      have HST := Lib.hid hst
      have hsp := hseen.2 p
      have hwf := wf64 (k : Int) (by omega) (by omega)
      have hkey := keyI p (by omega) (by omega)
      have hpl := pairsL_length l k
      clear hs hst hx hseen hvlt
      have hnb : Below wr.heap.size wr (wr.alloc (.cells #[.int .i64 p, .int .i64 s, .int .i64 n] 47)) := (Below.refl _ _).alloc (Nat.le_refl _) _
      have hmap1 := hmap.alloc (.cells #[.int .i64 p, .int .i64 s, .int .i64 n] 47)
      have ho1 := hown.below hnb (Nat.le_refl _)
      have p0 : (wr.alloc (.cells #[.int .i64 p, .int .i64 s, .int .i64 n] 47)).cell? ⟨wr.heap.size, 0, none⟩ = some (.int .i64 p) := by rw [World.cell?_alloc_new]; rfl
      have hz1 : (wr.alloc (.cells #[.int .i64 p, .int .i64 s, .int .i64 n] 47)).heap.size = wr.heap.size + 1 := by simp
      go_upto_region 6 with fail
      generalize wr.alloc (.cells #[.int .i64 p, .int .i64 s, .int .i64 n] 47) = W1 at *
      clear h0 h1 h2 hown hmap
      have hb1 := hb.trans (hnb.mono hb.size)
      by_cases hq : 0 ≤ lastIx p l k
      · have hat0 := hsp.2 hq
        have hhas : Maps.has D (.int .i64 p) = true := by rw [hsp.1]; simp [hq]
        have HQ := Lib.hid hq
        clear hsp hq
        generalize hqq : lastIx p l k = q at *
        have HQQ := Lib.hid hqq
        clear hqq
        have ho3 : OwnI ((W1.alloc (.cells #[.int .i64 q, .int .i64 (k : Int)] 3)).alloc (.cells #[ps2 (wr.heap.size + 1)] 22)) (w.heap.size + 1) 3 (ps2 (wr.heap.size + 1)) [q, (k : Int)] := by
          rw [← hz1]
          exact (OwnI.pair W1 (w.heap.size + 1) q k (by omega)).below ((Below.refl _ _).alloc (Nat.le_refl _) _) (Nat.le_refl _)
        have hb13 : Below W1.heap.size W1 ((W1.alloc (.cells #[.int .i64 q, .int .i64 (k : Int)] 3)).alloc (.cells #[ps2 (wr.heap.size + 1)] 22)) := ((Below.refl _ _).alloc (Nat.le_refl _) _).alloc (by simp) _
        have hc3 : ((W1.alloc (.cells #[.int .i64 q, .int .i64 (k : Int)] 3)).alloc (.cells #[ps2 (wr.heap.size + 1)] 22)).cell? ⟨wr.heap.size + 1 + 1, 0, none⟩ = some (ps2 (wr.heap.size + 1)) := by
          have h := World.cell?_alloc_new (W1.alloc (.cells #[.int .i64 q, .int .i64 (k : Int)] 3)) #[ps2 (wr.heap.size + 1)] 22 0
          rw [show (W1.alloc (.cells #[.int .i64 q, .int .i64 (k : Int)] 3)).heap.size = wr.heap.size + 1 + 1 by simp [hz1]] at h
          exact h
        have H3 := Lib.hid ho3
        have HB3 := Lib.hid hb13
        have HC3 := Lib.hid hc3
        have hmap3 := Lib.hid ((hmap1.alloc (.cells #[.int .i64 q, .int .i64 (k : Int)] 3)).alloc (.cells #[ps2 (wr.heap.size + 1)] 22))
        have p03 := Lib.hid ((hb13.cell (p := ⟨wr.heap.size, 0, none⟩) (by show wr.heap.size < _; omega)).trans p0)
        have HO1 := Lib.hid ho1
        clear ho3 hb13 hc3 ho1
        go_wp2_with (first
          | (at_lookup; refine wpList_lookup_own_ok_int _ rfl _ _ 106 rfl 3 3 .i64 mapLaw Tryz.underlying106 Tryz.underlying3 (zeroInt _) w.heap.size k D rfl hmap1 _ _ rfl hkey ?_; intro cL hat hwc; rw [hhas]; (obtain rfl : q = cL := by have e := hat0.symm.trans hat; injection e with e; injection e); clear hat hwc)
          | (at_builtin; go_loud (refine wpList_appP W1 _ rfl (.tmp 25) (.tmp 29) rfl (w.heap.size + 1) _ _ rfl HO1.out HB3.out (by omega) (wr.heap.size + 1) (wr.heap.size + 1 + 1) (q, (k : Int)) rfl HC3.out H3.out (Nat.le_of_eq hz1) (by omega) ?_); intro v4 w4 ho4 hg4; have p04 := hg4.cell p03.out (fun e => by have := HVL.out _ e.symm; simp at this <;> omega); have hmap4 := hmap3.out.kept hg4 (fun e => by have := HVL.out _ e.symm; omega); have hb4 := (hb1.trans (HB3.out.mono hb1.size)).grown hg4 (Nat.le_trans hb1.size HB3.out.size) (fun j hj => by have := HVL.out j hj; omega); have hz4 := hg4.size)
          | (at_mapUpdate; go_loud (refine wpList_mapUpdate_own _ rfl _ _ _ 106 rfl 3 3 mapLaw Tryz.underlying106 _ w.heap.size k D rfl hmap4 (by unfold maxLen; omega) _ _ _ rfl rfl hkey _ [] (plainElem_int Tryz.underlying3 hwf) ?_); intro w5 hmap5 hgm))
        go_roundw
        case rel =>
          refine ⟨k + 1, _, by omega, by go_num, ?_, hmap5, HST.out, hb4.grown hgm hb4.size (fun j hj => by injection hj with hj; omega), ?_⟩
          · rw [HS.out, if_pos HQ.out]
            exact ho4.grownOff hgm (Nat.lt_succ_self _)
          · exact Nat.le_trans hsz (Nat.le_trans (by omega : wr.heap.size ≤ W1.heap.size) (Nat.le_trans HB3.out.size (Nat.le_trans hz4 hgm.size)))
        case measure => simp [intOf]; omega
      · have hhas : Maps.has D (.int .i64 p) = false := by rw [hsp.1]; simp [hq]
        have HQ := Lib.hid hq
        have HO1 := Lib.hid ho1
        clear hsp hq ho1
        go_wp2_with (first
          | (at_lookup; refine wpList_lookup_own_ok_int _ rfl _ _ 106 rfl 3 3 .i64 mapLaw Tryz.underlying106 Tryz.underlying3 (zeroInt _) w.heap.size k D rfl hmap1 _ _ rfl hkey ?_; intro cL hat hwc; rw [hhas]; clear hat)
          | (at_mapUpdate; go_loud (refine wpList_mapUpdate_own _ rfl _ _ _ 106 rfl 3 3 mapLaw Tryz.underlying106 _ w.heap.size k D rfl hmap1 (by unfold maxLen; omega) _ _ _ rfl rfl hkey _ [] (plainElem_int Tryz.underlying3 hwf) ?_); intro w5 hmap5 hgm))
        go_roundw
        case rel =>
          refine ⟨k + 1, _, by omega, by go_num, ?_, hmap5, HST.out, hb1.grown hgm hb1.size (fun j hj => by injection hj with hj; omega), ?_⟩
          · rw [HS.out, if_neg HQ.out]
            exact HO1.out.grownOff hgm (Nat.lt_succ_self _)
          · have := hgm.size; omega
        case measure => simp [intOf]; omega
    · obtain rfl : k = l.length := by omega
      go_wp2
      go_ret
      obtain ⟨gs, h1, h2, hr, h4, h5⟩ := hown
      refine ⟨_, rfl, ⟨gs, h1, h2, World.ownsRow.mono hr (Nat.le_succ _), h4, fun j g q hj hq => (h5 j g q hj hq).mono (Nat.le_succ _)⟩, hb⟩
end Go.Proofs.YtkfgmkgbicahgaaGreatDoor

namespace Go.Proofs.YtkfgmkgbicahgaaGreatDoor
open Go.RowKit Go.Sort Go.Maps
set_option linter.unusedVariables false
set_option linter.unusedSimpArgs false

set_option maxRecDepth 100000 in
set_option maxHeartbeats 1000000 in
theorem steps_any (A : Option Addr) (l : List Nt) (c g : Nat) (a b : Int) (w : World) (hn : l.length ≤ 1048576) (hA : RA w A l) (hg : Good l) (ha : 0 ≤ a) (ha' : a < l.length) (hb : 0 ≤ b) (hb' : b < l.length)
    (c0 : w.cell? ⟨g, 0, none⟩ = some (.int .i64 a)) (c1 : w.cell? ⟨g, 1, none⟩ = some (.int .i64 b)) :
    Calls Tryz.prog 66 #[.slice A l.length c, ps2 g] w fun e w' => e = .returned (.int .i64 (apart l a b)) ∧ Below w.heap.size w w' := by
  have hx : l[a.toNat]? = some l[a.toNat] := List.getElem?_eq_getElem (by omega)
  have hy : l[b.toNat]? = some l[b.toNat] := List.getElem?_eq_getElem (by omega)
  have hxd : l.getD a.toNat (0, 0, 0) = l[a.toNat] := by rw [List.getD_eq_getElem?_getD, hx]; rfl
  have hyd : l.getD b.toNat (0, 0, 0) = l[b.toNat] := by rw [List.getD_eq_getElem?_getD, hy]; rfl
  have hvx := (noteN_iff _).1 (hg.1 a.toNat _ (by omega) hx).1
  have hvy := (noteN_iff _).1 (hg.1 b.toNat _ (by omega) hy).1
  generalize l[a.toNat] = x at hx hxd hvx
  generalize l[b.toNat] = y at hy hyd hvy
  obtain ⟨px, sx, nx⟩ := x
  obtain ⟨py, sy, ny⟩ := y
  simp only at hvx hvy
  obtain ⟨g1, o1, rfl, hg1, x0, x1, x2⟩ := hA a.toNat _ hx
  obtain ⟨g2, o2, hgo, hg2, y0, y1, y2⟩ := hA b.toNat _ hy
  simp only [Option.some.injEq, Addr.mk.injEq, and_true] at hgo
  obtain ⟨rfl, rfl⟩ := hgo
  simp only at x1 y1
  have hap : apart l a b = sy - sx := by unfold apart; rw [hxd, hyd]
  have hw : IntKind.i64.wrap (sy - sx) = sy - sx := IntWalk.i64_in _ (by omega)
  have HAP := Lib.hid hap
  clear hap hxd hyd hx hy x0 x2 y0 y2 hA
  have x1 := cell_regrown x1
  have y1 := cell_regrown y1
  have c0 := cell_regrown c0
  have c1 := cell_regrown c1
  go_enter Tryz.func66, Tryz.ntmps66
  go_wp2_with fail
  refine wp_region_quiet_below (by kernel_rfl) (by kernel_rfl) ?_
  repeat (go_big_quiet_step (fail))
  refine wpQuiet_nil ?_
  intro _ hw'
  obtain ⟨qr, hw''⟩ := hw'
  subst hw''
  go_wp2
  go_ret
  exact ⟨ret_int (by rw [HAP.out]), below_regrown w qr.d qr.os⟩
end Go.Proofs.YtkfgmkgbicahgaaGreatDoor

namespace Go.Proofs.YtkfgmkgbicahgaaGreatDoor
open Go.RowKit Go.Sort Go.Maps
set_option linter.unusedVariables false
set_option linter.unusedSimpArgs false

set_option maxRecDepth 100000 in
set_option maxHeartbeats 1000000 in
theorem inFast_any (A : Option Addr) (l : List Nt) (c : Nat) (r : Int) (w : World) (hn : l.length ≤ 1048576) (hA : RA w A l) (hg : Good l) :
    Calls Tryz.prog 43 #[.slice A l.length c, .int .i64 r] w fun e w' => ∃ v, e = .returned v ∧ OwnP w' w.heap.size v (fastL r l l.length) ∧ Below w.heap.size w w' := by
  have h30 := hg.2
  go_enter Tryz.func43, Tryz.ntmps43
  go_wp2
  go_loopw [5, 11] (fun a i wr => ∃ k : Nat, k ≤ l.length ∧ i = .int .i64 k ∧ OwnP wr w.heap.size a (fastL r l k) ∧ Below w.heap.size w wr)
    (fun _ i _ => l.length - (intOf i).toNat)
  case atStart => exact ⟨0, Nat.zero_le _, rfl, OwnP.nil _ _, Below.refl _ _⟩
  case round =>
    obtain ⟨k, hk, rfl, hown, hb⟩ := hrel
    by_cases hlt : k < l.length
    · have hx : l[k]? = some l[k] := List.getElem?_eq_getElem hlt
      have hkd : l.getD k (0, 0, 0) = l[k] := by rw [List.getD_eq_getElem?_getD, hx]; rfl
      generalize l[k] = x at hx hkd
      have hs := fastL_succ (r := r) hx
      have hv := (noteN_iff x).1 (hg.1 k x hlt hx).1
      have hlx := lastIx_lt x.1 l k
      obtain ⟨p, s, n⟩ := x
      simp only at hs hv hlx
      have hAr := hA.below hb
      obtain ⟨g, o, rfl, hgb, h0, h1, h2⟩ := hAr k _ hx
      simp only at h0 h1 h2
      have i1 : (0 : Int) ≤ (k : Int) := by omega
      have i2 : (k : Int) < (l.length : Int) := by omega
      have hvlt := hown.blocks
      have HVL := Lib.hid hvlt
      have HS := Lib.hid hs
      have hpl : (fastL r l k).length ≤ 30 := by have := pairsL_length l k; have := List.length_filter_le (fun q => decide (apart l q.1 q.2 < r)) (pairsL l k); unfold fastL; omega
      clear hs hvlt
      have hnb : Below wr.heap.size wr (wr.alloc (.cells #[.int .i64 p, .int .i64 s, .int .i64 n] 47)) := (Below.refl _ _).alloc (Nat.le_refl _) _
      have p1 : (wr.alloc (.cells #[.int .i64 p, .int .i64 s, .int .i64 n] 47)).cell? ⟨wr.heap.size, 1, none⟩ = some (.int .i64 s) := by rw [World.cell?_alloc_new]; rfl
      have hz1 : wr.heap.size < (wr.alloc (.cells #[.int .i64 p, .int .i64 s, .int .i64 n] 47)).heap.size := by simp
      have HX := Lib.hid hx
      have HKD := Lib.hid hkd
      clear hkd
      go_wp2_with fail
      generalize wr.alloc (.cells #[.int .i64 p, .int .i64 s, .int .i64 n] 47) = W1 at *
      refine (inLast_any _ l c k (p, s, n) _ hn (hAr.below hnb) HX.out).mono ?_
      rintro e w2 ⟨rfl, hb2⟩
      have hb12 := hnb.trans (hb2.mono hnb.size)
      have hbw := hb.trans (hb12.mono hb.size)
      have p2 := (hb2.cell (p := ⟨wr.heap.size, 1, none⟩) hz1).trans p1
      have HO := Lib.hid (hown.below hb12 (Nat.le_refl _))
      have hA2 := hAr.below hb12
      have hz2 : wr.heap.size < w2.heap.size := Nat.lt_of_lt_of_le hz1 hb2.size
      clear h0 h1 h2 hown hAr p1 hx hA hb2 hnb hz1
      simp only
      generalize hqq : lastIx p l k = q at *
      have HQQ := Lib.hid hqq
      clear hqq
      have p2 := cell_regrown p2
      by_cases hq : 0 ≤ q
      · have hy : l[q.toNat]? = some l[q.toNat] := List.getElem?_eq_getElem (by omega)
        have hyd : l.getD q.toNat (0, 0, 0) = l[q.toNat] := by rw [List.getD_eq_getElem?_getD, hy]; rfl
        have hvy := (noteN_iff _).1 (hg.1 q.toNat _ (by omega) hy).1
        generalize l[q.toNat] = y at hy hyd hvy
        obtain ⟨py, sy, ny⟩ := y
        simp only at hvy
        obtain ⟨g2, o2, hgo, hg2, y0, y1, y2⟩ := hA2 q.toNat _ hy
        simp only [Option.some.injEq, Addr.mk.injEq, and_true] at hgo
        obtain ⟨rfl, rfl⟩ := hgo
        simp only at y0 y1 y2
        have hap : apart l q k = s - sy := by unfold apart; rw [Int.toNat_natCast, HKD.out, hyd]
        have j2 : q < (l.length : Int) := by omega
        have hw : IntKind.i64.wrap (s - sy) = s - sy := IntWalk.i64_in _ (by omega)
        have HAP := Lib.hid hap
        clear hap hyd hy y0 y2 hA2
        have hd : decide (0 ≤ q) = true := by simp [hq]
        have y1 := cell_regrown y1
        by_cases hlt2 : s - sy < r
        · have hd2 : decide (s - sy < r) = true := by simp [hlt2]
          go_wp2_with fail
          refine wp_region_quiet_below (by kernel_rfl) (by kernel_rfl) ?_
          repeat (go_big_quiet_step (fail))
          refine wpQuiet_nil ?_
          intro _ hw'
          obtain ⟨qr, hw''⟩ := hw'
          subst hw''
          have hbu := below_regrown w2 qr.d qr.os
          have HOU := Lib.hid (HO.out.below hbu (Nat.le_refl _))
          have hbwu := hbw.trans (hbu.mono hbw.size)
          have hbase := hbwu.size
          generalize grow (redrawn w2 qr.d) qr.os = U at *
          have H3 := Lib.hid (show OwnI ((U.alloc (.cells #[.int .i64 q, .int .i64 (k : Int)] 3)).alloc (.cells #[ps2 U.heap.size] 22)) w.heap.size 3 (ps2 U.heap.size) [q, (k : Int)] from (OwnI.pair U w.heap.size q k hbase).below ((Below.refl _ _).alloc (Nat.le_refl _) _) (Nat.le_refl _))
          have HB3 := Lib.hid (show Below U.heap.size U ((U.alloc (.cells #[.int .i64 q, .int .i64 (k : Int)] 3)).alloc (.cells #[ps2 U.heap.size] 22)) from ((Below.refl _ _).alloc (Nat.le_refl _) _).alloc (by simp) _)
          have hc3 : ((U.alloc (.cells #[.int .i64 q, .int .i64 (k : Int)] 3)).alloc (.cells #[ps2 U.heap.size] 22)).cell? ⟨U.heap.size + 1, 0, none⟩ = some (ps2 U.heap.size) := by go_simp
          have HC3 := Lib.hid hc3
          clear hc3 hd hd2 hw y1 p2
          go_wp2_with (at_builtin; go_loud (refine wpList_appP U _ rfl (.tmp 33) (.tmp 37) rfl w.heap.size _ _ rfl HOU.out HB3.out hbase U.heap.size (U.heap.size + 1) (q, (k : Int)) rfl HC3.out H3.out (Nat.le_refl _) (by omega) ?_); intro v4 w4 ho4 hg4)
          go_roundw
          case rel =>
            refine ⟨k + 1, by omega, by go_num, ?_, (hbwu.trans (HB3.out.mono hbwu.size)).grown hg4 (Nat.le_trans hbwu.size HB3.out.size) (fun j hj => (HOU.out.blocks j hj).1)⟩
            rw [HS.out, if_pos ⟨by omega, by rw [HAP.out]; exact hlt2⟩]
            exact ho4
          case measure => simp [intOf]; omega
        · have hd2 : decide (s - sy < r) = false := by simp; omega
          go_wp2_with fail
          refine wp_region_quiet_below (by kernel_rfl) (by kernel_rfl) ?_
          repeat (go_big_quiet_step (fail))
          refine wpQuiet_nil ?_
          intro _ hw'
          obtain ⟨qr, hw''⟩ := hw'
          subst hw''
          go_wp2
          go_roundw
          case rel =>
            refine ⟨k + 1, by omega, by go_num, ?_, hbw.trans ((below_regrown w2 qr.d qr.os).mono hbw.size)⟩
            rw [HS.out, if_neg (fun h => by have := h.2; rw [HAP.out] at this; omega)]
            exact HO.out.below (below_regrown w2 qr.d qr.os) (Nat.le_refl _)
          case measure => simp [intOf]; omega
      · have hd : decide (0 ≤ q) = false := by simp; omega
        go_wp2_with fail
        refine wp_region_quiet_below (by kernel_rfl) (by kernel_rfl) ?_
        repeat (go_big_quiet_step (fail))
        refine wpQuiet_nil ?_
        intro _ hw'
        obtain ⟨qr, hw''⟩ := hw'
        subst hw''
        go_wp2
        go_roundw
        case rel =>
          refine ⟨k + 1, by omega, by go_num, ?_, hbw.trans ((below_regrown w2 qr.d qr.os).mono hbw.size)⟩
          rw [HS.out, if_neg (fun h => by have := h.1; omega)]
          exact HO.out.below (below_regrown w2 qr.d qr.os) (Nat.le_refl _)
        case measure => simp [intOf]; omega
    · obtain rfl : k = l.length := by omega
      go_wp2
      go_ret
      exact ⟨_, rfl, hown, hb⟩
end Go.Proofs.YtkfgmkgbicahgaaGreatDoor
