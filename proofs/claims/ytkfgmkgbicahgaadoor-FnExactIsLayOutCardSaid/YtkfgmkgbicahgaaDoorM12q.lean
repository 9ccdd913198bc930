/- Texts of the proof, run together: IsLay, LayS, Lay2. -/
import Derived.Test.YtkfgmkgbicahgaaDoorM11q
import Derived.Test.YtkfgmkgbicahgaaDoorM8q
import Derived.Test.YtkfgmkgbicahgaaDoorHSortedq
import Derived.Test.YtkfgmkgbicahgaaDoorM10q
import Derived.Test.YtkfgmkgbicahgaaDoorM9q
import Derived.Test.YtkfgmkgbicahgaaDoorM7q
namespace Go.Proofs.YtkfgmkgbicahgaaDoor
open Go.RowKit Go.Sort
set_option linter.unusedVariables false
set_option linter.unusedSimpArgs false

/-- A sheet is the layout of a score. -/
def isLayR (P : List Int) (r : Int) (m : List Nt) : Array Value := if (gdI P r && H.goodB m) = true then #[.bool ((m.all (isOf P) && goodB (m.map (noteOf P))) && canB P r (m.map (noteOf P))), .bool true] else #[.bool false, .bool false]

set_option maxRecDepth 100000 in
set_option maxHeartbeats 2000000 in
theorem specIsLay_any (A : Option Addr) (l : List Int) (c : Nat) (r : Int) (M : Option Addr) (m : List Nt) (d : Nat) (w : World) (hn : l.length ≤ 1048576) (hA : RI w A l) (hm : m.length ≤ 1048576) (hd : m.length ≤ d) (hd' : d ≤ 9223372036854775807) (hM : RA w M m) :
    Calls Tryd.prog 35 #[.agg #[.slice A l.length c, .int .i64 r], .slice M m.length d] w fun e w' => e = .returned (.tuple (isLayR l r m)) ∧ Below w.heap.size w w' := by
  have hb0 : Below w.heap.size w (w.alloc (.cells #[.slice A l.length c, .int .i64 r] 32)) := (Below.refl w.heap.size w).alloc (Nat.le_refl _) _
  have hx := Box.new w A l.length c r 32
  have hA := hA.below hb0
  have hM := hM.below hb0
  go_enter Tryd.func35, Tryd.ntmps35
  go_wp2_with fail
  generalize w.alloc (.cells #[.slice A l.length c, .int .i64 r] 32) = W at *
  refine (laAsked_any _ _ _ _ _ _ _ _ hn hA hm hd hd' hM).mono ?_
  rintro e w1 ⟨rfl, hb1⟩
  have HB1 := Lib.hid (hb0.trans (hb1.mono hb0.size))
  have hx := hx.below hb1
  have hA := hA.below hb1
  have hM := hM.below hb1
  clear hb1 hb0
  cases hg : (gdI l r && H.goodB m) with
  | false =>
    have HG := Lib.hid (show isLayR l r m = #[.bool false, .bool false] from by unfold isLayR; rw [hg]; rfl)
    clear hg
    go_wp2
    go_ret2
    exact ⟨by rw [HG.out]; rfl, HB1.out⟩
  | true =>
    have hgg := hg
    simp only [Bool.and_eq_true] at hgg
    have hgood := (H.goodB_iff m).1 hgg.2
    have HG := Lib.hid (show isLayR l r m = #[.bool ((m.all (isOf l) && goodB (m.map (noteOf l))) && canB l r (m.map (noteOf l))), .bool true] from by unfold isLayR; rw [hg]; rfl)
    have HC := Lib.hid (back_eq hg)
    have HI := Lib.hid (backB_iff hg)
    clear hg hgg
    obtain ⟨x0, x1, xl⟩ := id hx
    go_wp2_with fail
    refine (laNotes_any _ _ _ _ _ _ _ _ hn hA hM hgood).mono ?_
    intro e w2 h2
    obtain ⟨v2, rfl, ho2, hb2⟩ := same_retS h2 HC.out.1 HC.out.2
    clear h2 x0 x1 xl
    have hx := hx.below hb2
    have hA := hA.below hb2
    have HB2 := Lib.hid (HB1.out.trans (hb2.mono HB1.out.size))
    clear hb2
    rw [HI.out] at ho2 ⊢
    cases hq : (m.all (isOf l) && goodB (m.map (noteOf l))) with
    | false =>
      have HQ := Lib.hid hq
      clear hq
      go_wp2
      go_ret2
      exact ⟨by rw [HG.out, HQ.out]; rfl, HB2.out⟩
    | true =>
      have HQ := Lib.hid hq
      rw [hq] at ho2
      simp only [if_true] at ho2
      obtain ⟨O, oc, rfl, hO⟩ := ho2.form
      have hgn := (goodB_iff _).1 (by simp only [Bool.and_eq_true] at hq; exact hq.2)
      have HCN := Lib.hid (inPlays_any A l c r O (m.map (noteOf l)) oc w2 hn hA (by simp; omega) hO hgn)
      obtain ⟨x0, x1, xl⟩ := hx
      clear hq ho2 hO hgn
      generalize m.map (noteOf l) = L at *
      go_wp2_with fail
      refine HCN.out.mono ?_
      rintro e w3 ⟨rfl, hb3⟩
      have HE : Hid (isLayR l r m = #[.bool (canB l r L), .bool true]) := Lib.hid (by rw [HG.out, HQ.out, Bool.true_and])
      go_wp2
      go_ret2
      exact ⟨by rw [HE.out]; rfl, HB2.out.trans (hb3.mono HB2.out.size)⟩

set_option maxRecDepth 100000 in
set_option maxHeartbeats 2000000 in
theorem implIsLay_any (A : Option Addr) (l : List Int) (c : Nat) (r : Int) (M : Option Addr) (m : List Nt) (d : Nat) (w : World) (hn : l.length ≤ 1048576) (hA : RI w A l) (hm : m.length ≤ 1048576) (hd : m.length ≤ d) (hd' : d ≤ 9223372036854775807) (hM : RA w M m) (hL : Lim w) :
    Calls Tryd.prog 36 #[.agg #[.slice A l.length c, .int .i64 r], .slice M m.length d] w fun e w' => e = .returned (.tuple (isLayR l r m)) ∧ Below w.heap.size w w' := by
  have hb0 : Below w.heap.size w (w.alloc (.cells #[.slice A l.length c, .int .i64 r] 32)) := (Below.refl w.heap.size w).alloc (Nat.le_refl _) _
  have hx := Box.new w A l.length c r 32
  have hA := hA.below hb0
  have hM := hM.below hb0
  have hL := hL.below hb0
  go_enter Tryd.func36, Tryd.ntmps36
  go_wp2_with fail
  generalize w.alloc (.cells #[.slice A l.length c, .int .i64 r] 32) = W at *
  refine (isIns_any _ _ _ _ _ hn hA hL).mono ?_
  rintro e wa ⟨rfl, hba⟩
  have hx := hx.below hba
  have hM := hM.below hba
  have hA := hA.below hba
  have hL := hL.below hba
  have HBa := Lib.hid (hb0.trans (hba.mono hb0.size))
  clear hba hb0
  cases hg : gdI l r with
  | false =>
    have HG := Lib.hid (show isLayR l r m = #[.bool false, .bool false] from by unfold isLayR; rw [hg, Bool.false_and]; rfl)
    clear hg
    go_wp2
    go_ret2
    exact ⟨by rw [HG.out]; rfl, HBa.out⟩
  | true =>
  go_wp2_with fail
  refine (H.isScore_any _ _ _ _ hm hM).mono ?_
  rintro e w1 ⟨rfl, hb1⟩
  have hx := hx.below hb1
  have hM := hM.below hb1
  have hA := hA.below hb1
  have hL := hL.below hb1
  have HB1 := Lib.hid (HBa.out.trans (hb1.mono HBa.out.size))
  clear hb1
  cases hgm : H.goodB m with
  | false =>
    have HG := Lib.hid (show isLayR l r m = #[.bool false, .bool false] from by unfold isLayR; rw [hgm, Bool.and_false]; rfl)
    clear hgm hg
    go_wp2
    go_ret2
    exact ⟨by rw [HG.out]; rfl, HB1.out⟩
  | true =>
    have hgg : (gdI l r && H.goodB m) = true := by rw [hg, hgm]; rfl
    have hgood := (H.goodB_iff m).1 hgm
    have h60 := hgood.2
    have HG := Lib.hid (show isLayR l r m = #[.bool ((m.all (isOf l) && goodB (m.map (noteOf l))) && canB l r (m.map (noteOf l))), .bool true] from by unfold isLayR; rw [hgg]; rfl)
    have HI := Lib.hid (backB_iff hgg)
    have HGD := Lib.hid hg
    clear hg hgm hgg
    obtain ⟨x0, x1, xl⟩ := id hx
    go_wp2_with fail
    refine (implBack_any _ _ _ _ _ _ _ _ hn hA hm hd hd' hM hL).mono ?_
    rintro e w2 ⟨v2, rfl, ho2, hb2⟩
    have hx := hx.below hb2
    have hA := hA.below hb2
    have hL := hL.below hb2
    have HB2 := Lib.hid (HB1.out.trans (hb2.mono HB1.out.size))
    rw [HI.out] at ho2 ⊢
    clear hb2 x0 x1 xl hM
    cases hq : (m.all (isOf l) && goodB (m.map (noteOf l))) with
    | false =>
      have HQ := Lib.hid hq
      rw [hq] at ho2
      simp only [Bool.false_eq_true, if_false] at ho2
      obtain ⟨O, oc, rfl, hO⟩ := ho2.form
      have HCN := Lib.hid (implCan_any A l c r O [] oc w2 hn hA (by simp) hO hL)
      obtain ⟨x0, x1, xl⟩ := hx
      clear hq ho2 hO
      go_wp2_with fail
      refine HCN.out.mono ?_
      rintro e w3 ⟨rfl, hb3⟩
      obtain ⟨va, vb, hR⟩ : ∃ a b, canR l r [] = #[.bool a, .bool b] := by unfold canR; split <;> exact ⟨_, _, rfl⟩
      rw [hR]
      have HE : Hid (isLayR l r m = #[.bool false, .bool true]) := Lib.hid (by rw [HG.out, HQ.out, Bool.false_and])
      clear hR
      go_wp2
      go_ret2
      exact ⟨by rw [HE.out]; rfl, HB2.out.trans (hb3.mono HB2.out.size)⟩
    | true =>
      have HQ := Lib.hid hq
      rw [hq] at ho2
      simp only [if_true] at ho2
      obtain ⟨O, oc, rfl, hO⟩ := ho2.form
      have hgn : goodB (m.map (noteOf l)) = true := by simp only [Bool.and_eq_true] at hq; exact hq.2
      have HCN := Lib.hid (implCan_any A l c r O (m.map (noteOf l)) oc w2 hn hA (by simp; omega) hO hL)
      obtain ⟨x0, x1, xl⟩ := hx
      clear hq ho2 hO
      generalize m.map (noteOf l) = L at *
      have HCR := Lib.hid (show canR l r L = #[.bool (canB l r L), .bool true] from by unfold canR; rw [HGD.out, hgn]; rfl)
      clear hgn
      go_wp2_with fail
      refine HCN.out.mono ?_
      rintro e w3 ⟨rfl, hb3⟩
      rw [HCR.out]
      have HE : Hid (isLayR l r m = #[.bool (canB l r L), .bool true]) := Lib.hid (by rw [HG.out, HQ.out, Bool.true_and])
      go_wp2
      go_ret2
      exact ⟨by rw [HE.out]; rfl, HB2.out.trans (hb3.mono HB2.out.size)⟩
end Go.Proofs.YtkfgmkgbicahgaaDoor

namespace Go.Proofs.YtkfgmkgbicahgaaDoor
open Go.RowKit Go.Sort
set_option linter.unusedVariables false
set_option linter.unusedSimpArgs false

def okH (P : List Int) (x : Nt) : Bool := H.noteN (holeN P x)
/-- The layout from a step on. -/
def mvL (P : List Int) (b : Int) (m : List Nt) : List Nt := (m.map (holeN P)).map (H.moveN b)
theorem mvL_snoc {P : List Int} {b : Int} {m : List Nt} {k : Nat} {x : Nt} (hx : m[k]? = some x) : mvL P b (m.take (k + 1)) = mvL P b (m.take k) ++ [((holeN P x).1, (holeN P x).2.1 + b, (holeN P x).2.2 + b)] := by
  unfold mvL
  rw [take_map hx, List.map_append]; rfl
theorem mvL_length (P : List Int) (b : Int) (m : List Nt) : (mvL P b m).length = m.length := by simp [mvL]

theorem same_retH {B : World} {l m : List Nt} {a b : Bool} {e : Ending} {w' : World} (h : H.RetScore B l a e w') (ha : a = b) (hl : (if a = true then l else []) = (if b = true then m else [])) : H.RetScore B m b e w' := by
  obtain ⟨v, he, ho, hb⟩ := h
  subst ha
  exact ⟨v, he, by rw [← hl]; exact ho, hb⟩

set_option maxRecDepth 100000 in
set_option maxHeartbeats 4000000 in
theorem laHoles_any (A : Option Addr) (l : List Int) (c : Nat) (r : Int) (M : Option Addr) (m : List Nt) (d : Nat) (b : Int) (w : World) (hn : l.length ≤ 1048576) (hA : RI w A l) (hM : RA w M m) (hg : Good m) (hb1 : 0 ≤ b) (hb2 : b ≤ 2000) :
    Calls Tryd.prog 55 #[.agg #[.slice A l.length c, .int .i64 r], .slice M m.length d, .int .i64 b] w fun e w' => H.RetScore w (canon (mvL l b m)) (canB l r m && (m.all (okH l) && H.goodB (canon (mvL l b m)))) e w' := by
  have h30 := hg.2
  have hb0 : Below w.heap.size w (w.alloc (.cells #[.slice A l.length c, .int .i64 r] 32)) := (Below.refl w.heap.size w).alloc (Nat.le_refl _) _
  have hx := Box.new w A l.length c r 32
  have hA := hA.below hb0
  have hM := hM.below hb0
  go_enter Tryd.func55, Tryd.ntmps55
  go_wp2_with fail
  generalize w.alloc (.cells #[.slice A l.length c, .int .i64 r] 32) = W0 at *
  refine (inPlays_any _ _ _ _ _ _ _ _ hn hA (by omega) hM hg).mono ?_
  rintro e W ⟨rfl, hbW⟩
  have HB1 := Lib.hid (hb0.trans (hbW.mono hb0.size))
  have hA := hA.below hbW
  have hM := hM.below hbW
  obtain ⟨x0, x1, hz⟩ := hx.below hbW
  clear hb0 hbW
  cases hc : canB l r m with
  | false =>
    go_wp2
    go_ret2
    rw [hc, Bool.false_and]
    exact ⟨_, rfl, by simpa using Own.nil W w.heap.size _, HB1.out⟩
  | true =>
  have HC := Lib.hid hc
  clear hc
  go_wp2_with fail
  go_loopw [8, 19] (fun a i wr => ∃ k : Nat, k ≤ m.length ∧ i = .int .i64 k ∧ (m.take k).all (okH l) = true ∧ Own wr W.heap.size 29 a (mvL l b (m.take k)) ∧ Below W.heap.size W wr)
    (fun _ i _ => m.length - (intOf i).toNat)
  case atStart => exact ⟨0, Nat.zero_le _, rfl, rfl, Own.nil _ _ _, Below.refl _ _⟩
  case round =>
    obtain ⟨k, hk, rfl, hall, hown, hb⟩ := hrel
    have HO := Lib.hid hown
    have HL := Lib.hid hall
    clear hown hall
    by_cases hlt : k < m.length
    · have hx : m[k]? = some m[k] := List.getElem?_eq_getElem hlt
      generalize m[k] = x at hx
      have hv : noteN x = true := (hg.1 k x hlt hx).1
      have HX := Lib.hid hx
      obtain ⟨p, s, n⟩ := x
      obtain ⟨g, o, rfl, hgb, h0, h1, h2⟩ := (hM.below hb) k _ hx
      simp only at h0 h1 h2
      have i1 : (0 : Int) ≤ (k : Int) := by omega
      have i2 : (k : Int) < (m.length : Int) := by omega
      clear hx
      have y0 := ((bcell hb).1 w.heap.size 0 hz).trans x0
      have y1 := ((bcell hb).1 w.heap.size 1 hz).trans x1
      have hzr : w.heap.size < wr.heap.size := Nat.lt_of_lt_of_le hz hb.size
      have hnb : Below wr.heap.size wr (wr.alloc (.cells #[.int .i64 p, .int .i64 s, .int .i64 n] 34)) := (Below.refl _ _).alloc (Nat.le_refl _) _
      have hAr := (hA.below hb).below hnb
      go_wp2_with fail
      generalize wr.alloc (.cells #[.int .i64 p, .int .i64 s, .int .i64 n] 34) = W1 at *
      refine (laHole_any _ _ _ _ _ _ _ _ hn hAr hv).mono ?_
      rintro e w3 ⟨rfl, hb3⟩
      have HB3 := Lib.hid (hnb.trans (hb3.mono hnb.size))
      clear y0 y1 h0 h1 h2 hAr hnb hb3 hv
      unfold hoR
      cases hf : H.noteN (holeN l (p, s, n)) with
      | false =>
        have HF := Lib.hid (show okH l (p, s, n) = false from hf)
        simp only [Bool.false_eq_true, if_false, no3]
        go_wp2
        go_ret2
        rw [all_not HX.out HF.out, Bool.false_and, Bool.and_false]
        exact ⟨_, rfl, by simpa using Own.nil _ _ _, HB1.out.trans ((hb.trans ((HB3.out.alloc HB3.out.size _).mono hb.size)).mono HB1.out.size)⟩
      | true =>
        have HF := Lib.hid (show okH l (p, s, n) = true from hf)
        have hvv := (H.noteN_iff _).1 hf
        have HTM := Lib.hid (mvL_snoc (P := l) (b := b) HX.out)
        simp only [if_true, nt3]
        generalize holeN l (p, s, n) = y at *
        obtain ⟨a, t, q⟩ := y
        simp only at hvv
        simp only
        have m1 : IntKind.i64.wrap (t + b) = t + b := IntWalk.i64_in _ (by omega)
        have m2 : IntKind.i64.wrap (q + b) = q + b := IntWalk.i64_in _ (by omega)
        have hbr2 : Below wr.heap.size wr (w3.alloc (.cells #[.int .i64 a, .int .i64 t, .int .i64 q] 29)) := HB3.out.alloc HB3.out.size _
        have hz3 : (w3.alloc (.cells #[.int .i64 a, .int .i64 t, .int .i64 q] 29)).heap.size = w3.heap.size + 1 := by simp
        have hbr3 := Lib.hid (hbr2.alloc hbr2.size (.cells #[.int .i64 a, .int .i64 (t + b), .int .i64 (q + b)] 29))
        have ho3 := Lib.hid (HO.out.below hbr3.out (Nat.le_refl _))
        have hc3 := Lib.hid (RA.one (p := a) (s := t + b) (n := q + b) (t := 29) (fr := (0, 0)) (heap_alloc_new (w3.alloc (.cells #[.int .i64 a, .int .i64 t, .int .i64 q] 29)) (.cells #[.int .i64 a, .int .i64 (t + b), .int .i64 (q + b)] 29)))
        rw [hz3] at hc3
        have hsz : (mvL l b (m.take k)).length ≤ 30 := by rw [mvL_length]; simp; omega
        clear hz3 hbr2 hvv hf
        go_wp2_with (at_builtin; go_loud (refine H.wpList_appHole _ rfl (.tmp 31) (.tmp 43) rfl W.heap.size _ _ rfl ho3.out (some ⟨w3.heap.size + 1, 0, none⟩) 1 1 [(a, t + b, q + b)] rfl rfl (fun h => by cases h) hc3.out (by omega) (Nat.le_trans hb.size hbr3.out.size) ?_; intro v4 w4 ho4 hg4))
        go_roundw
        case rel =>
          refine ⟨k + 1, by omega, by go_num, take_all HL.out HX.out HF.out, ?_, (hb.trans (hbr3.out.mono hb.size)).grown hg4 (Nat.le_trans hb.size hbr3.out.size) (fun j hj => (ho3.out.lt j hj).1)⟩
          rw [HTM.out]
          exact ho4
        case measure => simp [intOf]; omega
    · obtain rfl : k = m.length := by omega
      rw [List.take_length] at HO HL
      obtain ⟨O, oc, rfl, hO⟩ := HO.out.form
      go_wp2_with fail
      refine (H.ntSorted_any _ _ _ _ (by rw [mvL_length]; omega) hO).mono ?_
      rintro e w3 ⟨v3, rfl, ho3, hb3⟩
      have HALL := Lib.hid HL.out
      clear HL
      go_wp2
      go_ret2
      rw [HC.out, HALL.out, Bool.true_and, Bool.true_and]
      exact ⟨_, rfl, ho3.mono (Nat.le_trans HB1.out.size hb.size), HB1.out.trans ((hb.trans (hb3.mono hb.size)).mono HB1.out.size)⟩

/-- The instrument can play a score, and each of its notes has a hole. -/
def layB (P : List Int) (r : Int) (m : List Nt) : Bool := gdI P r && (goodB m && (canB P r m && m.all (okH P)))
theorem layB_iff {P : List Int} {m : List Nt} {r : Int} (hg : (gdI P r && goodB m) = true) (hc : canB P r m = true) : layB P r m = m.all (okH P) := by
  simp only [Bool.and_eq_true] at hg
  unfold layB
  rw [hg.1, hg.2, hc, Bool.true_and, Bool.true_and, Bool.true_and]
theorem can_mem {P : List Int} {m : List Nt} {r : Int} (hc : canB P r m = true) : ∀ x ∈ m, x.1 ∈ P := by
  intro x hx
  unfold canB at hc
  simp only [Bool.and_eq_true, decide_eq_true_eq] at hc
  have h0 : atF (misB P) m = [] := List.eq_nil_of_length_eq_zero hc.1
  have h1 := mem_atF (misB P) m x.1 m.length (Nat.le_refl _)
  rw [List.take_length, h0] at h1
  cases hh : hasB P x.1 with
  | true => exact (hasB_iff _ _).1 hh
  | false =>
    have : x.1 ∈ psF (misB P) m := by
      have hmem : ∀ (l : List Nt), x ∈ l → x.1 ∈ psF (misB P) l := by
        intro l
        induction l with
        | nil => intro h; cases h
        | cons y l ih =>
          intro h
          have e : psF (misB P) (y :: l) = psF (misB P) [y] ++ psF (misB P) l := psF_append (misB P) [y] l
          rw [e, List.mem_append]
          rcases List.mem_cons.1 h with h | h
          · left; subst h
            have := psF_snoc (misB P) [x] 0 x rfl
            simp only [List.take_succ_cons, List.take_zero, List.take] at this
            rw [this, if_pos (by simp [misB, hh])]
            simp
          · right; exact ih h
      exact hmem m hx
    exact absurd (h1.2 this) (by simp)

theorem lay_eq {P : List Int} {m : List Nt} {r : Int} (hg : (gdI P r && goodB m) = true) :
    (canB P r m && (m.all (okH P) && H.goodB (canon (mvL P 0 m)))) = layB P r m ∧ (if (canB P r m && (m.all (okH P) && H.goodB (canon (mvL P 0 m)))) = true then canon (mvL P 0 m) else []) = (if layB P r m = true then m.map (holeN P) else []) := by
  cases hc : canB P r m with
  | false =>
    have e : layB P r m = false := by unfold layB; rw [hc, Bool.false_and, Bool.and_false, Bool.and_false]
    rw [e, Bool.false_and]; exact ⟨rfl, rfl⟩
  | true =>
    rw [layB_iff hg hc, Bool.true_and]
    cases ha : m.all (okH P) with
    | false => rw [Bool.false_and]; exact ⟨rfl, rfl⟩
    | true =>
      simp only [Bool.and_eq_true] at hg
      have hgood := (goodB_iff m).1 hg.2
      have hinc := ((gdI_iff P r).1 hg.1).2.1.inc
      have hok : ∀ x ∈ m, H.noteN (holeN P x) = true := fun x hx => List.all_eq_true.1 ha x hx
      have hgd := (H.goodB_iff _).2 (lay_good hinc (can_mem hc) hgood hok)
      have h := lay_canon 0 hinc (can_mem hc) hgood
      unfold mvL
      rw [move_zero] at h ⊢
      rw [hgd] at h
      rw [Bool.true_and, h.1]
      have h2 := h.2
      rw [h.1] at h2
      exact ⟨rfl, h2⟩

set_option maxRecDepth 100000 in
set_option maxHeartbeats 2000000 in
theorem specLay_any (A : Option Addr) (l : List Int) (c : Nat) (r : Int) (M : Option Addr) (m : List Nt) (d : Nat) (w : World) (hn : l.length ≤ 1048576) (hA : RI w A l) (hm : m.length ≤ 1048576) (hd : m.length ≤ d) (hd' : d ≤ 9223372036854775807) (hM : RA w M m) :
    Calls Tryd.prog 21 #[.agg #[.slice A l.length c, .int .i64 r], .slice M m.length d] w fun e w' => H.RetScore w (m.map (holeN l)) (layB l r m) e w' := by
  have hb0 : Below w.heap.size w (w.alloc (.cells #[.slice A l.length c, .int .i64 r] 32)) := (Below.refl w.heap.size w).alloc (Nat.le_refl _) _
  have hx := Box.new w A l.length c r 32
  have hA := hA.below hb0
  have hM := hM.below hb0
  go_enter Tryd.func21, Tryd.ntmps21
  go_wp2_with fail
  generalize w.alloc (.cells #[.slice A l.length c, .int .i64 r] 32) = W at *
  refine (inAsked_any _ _ _ _ _ _ _ _ hn hA hm hd hd' hM).mono ?_
  rintro e w1 ⟨rfl, hb1⟩
  have hB1 := hb0.trans (hb1.mono hb0.size)
  obtain ⟨x0, x1, xl⟩ := hx.below hb1
  cases hg : (gdI l r && goodB m) with
  | false =>
    have HG := Lib.hid (show layB l r m = false from by unfold layB; rw [← Bool.and_assoc, hg, Bool.false_and])
    clear hg
    go_wp2
    go_ret2
    rw [HG.out]
    exact ⟨_, rfl, by simpa using Own.nil w1 w.heap.size _, hB1⟩
  | true =>
    have hgg := hg
    simp only [Bool.and_eq_true] at hgg
    have hgood := (goodB_iff m).1 hgg.2
    have HC := Lib.hid (lay_eq hg)
    clear hg hgg
    go_wp2_with fail
    refine (laHoles_any _ _ _ _ _ _ _ 0 _ hn (hA.below hb1) (hM.below hb1) hgood (by omega) (by omega)).mono ?_
    intro e w2 h2
    obtain ⟨v2, rfl, ho2, hb2⟩ := same_retH h2 HC.out.1 HC.out.2
    clear h2
    go_wp2
    go_ret2
    exact ⟨_, rfl, ho2.mono hB1.size, hB1.trans (hb2.mono hB1.size)⟩
end Go.Proofs.YtkfgmkgbicahgaaDoor

namespace Go.Proofs.YtkfgmkgbicahgaaDoor
open Go.RowKit Go.Sort
set_option linter.unusedVariables false
set_option linter.unusedSimpArgs false

set_option maxRecDepth 100000 in
set_option maxHeartbeats 8000000 in
theorem implLay_any (A : Option Addr) (l : List Int) (c : Nat) (r : Int) (M : Option Addr) (m : List Nt) (d : Nat) (w : World) (hn : l.length ≤ 1048576) (hA : RI w A l) (hm : m.length ≤ 1048576) (hd : m.length ≤ d) (hd' : d ≤ 9223372036854775807) (hM : RA w M m) (hL : Lim w) :
    Calls Tryd.prog 23 #[.agg #[.slice A l.length c, .int .i64 r], .slice M m.length d] w fun e w' => H.RetScore w (m.map (holeN l)) (layB l r m) e w' := by
  have hb0 : Below w.heap.size w (w.alloc (.cells #[.slice A l.length c, .int .i64 r] 32)) := (Below.refl w.heap.size w).alloc (Nat.le_refl _) _
  have hx := Box.new w A l.length c r 32
  have hbw : w.heap.size ≤ (w.alloc (.cells #[.slice A l.length c, .int .i64 r] 32)).heap.size := by simp
  have hA := hA.below hb0
  have hM := hM.below hb0
  have hL := hL.below hb0
  go_enter Tryd.func23, Tryd.ntmps23
  go_wp2_with fail
  generalize (w.alloc (.cells #[.slice A l.length c, .int .i64 r] 32)) = W at *
  refine (implCan_any _ _ _ _ _ _ _ _ hn hA hm hM hL).mono ?_
  rintro e w1 ⟨rfl, hb1⟩
  have hx := hx.below hb1
  have hM1 := hM.below hb1
  have hA1 := hA.below hb1
  have hL1 := hL.below hb1
  have HB1 := Lib.hid (hb0.trans (hb1.mono hb0.size))
  clear hb1 hb0 hA hL hM
  unfold canR
  cases hg : (gdI l r && goodB m) with
  | false =>
    have HG := Lib.hid (show layB l r m = false from by unfold layB; rw [← Bool.and_assoc, hg, Bool.false_and])
    clear hg
    simp only [Bool.false_eq_true, if_false]
    go_wp2
    go_ret2
    rw [HG.out]
    exact ⟨_, rfl, by simpa using Own.nil w1 w.heap.size _, HB1.out⟩
  | true =>
  have hgg := hg
  simp only [Bool.and_eq_true] at hgg
  obtain ⟨hgd, hgm⟩ := hgg
  simp only [if_true]
  cases hc : canB l r m with
  | false =>
    have HG := Lib.hid (show layB l r m = false from by unfold layB; rw [hc, Bool.false_and, Bool.and_false, Bool.and_false])
    clear hg hc
    go_wp2
    go_ret2
    rw [HG.out]
    exact ⟨_, rfl, by simpa using Own.nil w1 w.heap.size _, HB1.out⟩
  | true =>
  have hgood := (goodB_iff m).1 hgm
  have h60 := hgood.2
  have HG := Lib.hid (show layB l r m = m.all (okH l) from layB_iff hg hc)
  obtain ⟨x0, x1, xl⟩ := hx
  have hmk := H.make_Hole m.length hm
  have hown0 := made_new w1 m.length hm 29
  have hbm : Below w1.heap.size w1 (w1.alloc (.cells (madeCells #[.int .i64 0, .int .i64 0, .int .i64 0] (m.length * 3)) 29)) := (Below.refl _ _).alloc (Nat.le_refl _) _
  clear hgm hg hc
  go_wp2_with fail
  generalize w1.alloc (.cells (madeCells #[.int .i64 0, .int .i64 0, .int .i64 0] (m.length * 3)) 29) = W2 at *
  clear hmk
  go_loopw [25] (fun i wr => ∃ k : Nat, k ≤ m.length ∧ i = .int .i64 k ∧ (m.take k).all (okH l) = true ∧ Own wr w1.heap.size 29 (.slice (some ⟨w1.heap.size, 0, none⟩) m.length m.length) (fill (holeN l) m k) ∧ Below w1.heap.size w1 wr)
    (fun i _ => m.length - (intOf i).toNat)
  case atStart => exact ⟨0, Nat.zero_le _, rfl, rfl, by rw [fill_zero]; exact hown0, hbm⟩
  case round =>
    obtain ⟨k, hk, rfl, hall, hown, hb⟩ := hrel
    have HL := Lib.hid hall
    clear hall
    by_cases hlt : k < m.length
    · have hx : m[k]? = some m[k] := List.getElem?_eq_getElem hlt
      generalize m[k] = x at hx
      have hv : noteN x = true := (hgood.1 k x hlt hx).1
      have HX := Lib.hid hx
      obtain ⟨p, s, n⟩ := x
      obtain ⟨g, o, rfl, hgb, h0, h1, h2⟩ := (hM1.below hb) k _ hx
      simp only at h0 h1 h2
      obtain ⟨a0, b0, d0, ok, hk1, hk2, hC⟩ := implHole_good A l c r hn hgd p s n hv
      have HC := Lib.hid hC
      have i1 : (0 : Int) ≤ (k : Int) := by omega
      have i2 : (k : Int) < (m.length : Int) := by omega
      have y0 := ((bcell hb).1 w.heap.size 0 xl).trans x0
      have y1 := ((bcell hb).1 w.heap.size 1 xl).trans x1
      have hzr : w.heap.size < wr.heap.size := Nat.lt_of_lt_of_le xl hb.size
      have nx0 := World.new_ne wr _ y0
      have nx1 := World.new_ne wr _ h0
      have hbd : Below wr.heap.size wr wr.drew := (Below.refl _ _).drew
      have hbe : Below wr.heap.size wr (wr.alloc (.cells #[.int .i64 0, .int .i64 0, .int .i64 0] 29)).drew := ((Below.refl _ _).alloc (Nat.le_refl _) _).drew
      have hr : Res3 (wr.alloc (.cells #[.int .i64 0, .int .i64 0, .int .i64 0] 29)).drew wr.heap.size 0 0 0 := (Res3.new wr 0 0 0 29).drew
      have hAd := (hA1.below hb).below hbd
      have hLd := (hL1.below hb).below hbd
      have hAe := (hA1.below hb).below hbe
      have hLe := (hL1.below hb).below hbe
      have hwl : w1.heap.size < wr.heap.size := (hown.lt _ rfl).2
      clear hx hv hC
      go_wp2_with fail
      go_region_held3 (fun w' => w'.cell? ⟨w.heap.size, 0, none⟩ = some (.slice A l.length c) ∧ w'.cell? ⟨w.heap.size, 1, none⟩ = some (.int .i64 r) ∧ w'.cell? ⟨g, o + k * 3, none⟩ = some (.int .i64 p) ∧ w'.cell? ⟨g, o + k * 3 + 1, none⟩ = some (.int .i64 s) ∧ w'.cell? ⟨g, o + k * 3 + 2, none⟩ = some (.int .i64 n))
        (first | go_keep | exact ⟨X0, X1, H0, H1, H2⟩)
        (first
          | (go_at_call 13; with_reducible refine (HC.out wr.drew hAd hLd).mono ?_; rintro e w5 ⟨rfl, hb5⟩; have hb6 : Below wr.heap.size wr w5 := hbd.trans (hb5.mono hbd.size); have hq := Res3.new w5 0 0 0 29; have q0 := hq.c0; have q1 := hq.c1; have q2 := hq.c2; have p0 := hq.f0; have p1 := hq.f1; have p2 := hq.f2; clear hq; have X0 := ((bcell hb6).1 w.heap.size 0 hzr).trans y0; have X1 := ((bcell hb6).1 w.heap.size 1 hzr).trans y1; have H0 := ((bcell hb6).1 g (o + k * 3) hgb).trans h0; have H1 := ((bcell hb6).1 g (o + k * 3 + 1) hgb).trans h1; have H2 := ((bcell hb6).1 g (o + k * 3 + 2) hgb).trans h2; have NX0 := World.new_ne w5 _ X0; have NX1 := World.new_ne w5 _ H0)
          | (go_at_call 13; refine (HC.out _ hAe hLe).mono ?_; rintro e w5 ⟨rfl, hb5⟩; have hb6 : Below wr.heap.size wr w5 := hbe.trans (hb5.mono hbe.size); have hq := hr.below hb5; have q0 := hq.c0; have q1 := hq.c1; have q2 := hq.c2; have p0 := hq.f0; have p1 := hq.f1; have p2 := hq.f2; clear hq; have X0 := ((bcell hb6).1 w.heap.size 0 hzr).trans y0; have X1 := ((bcell hb6).1 w.heap.size 1 hzr).trans y1; have H0 := ((bcell hb6).1 g (o + k * 3) hgb).trans h0; have H1 := ((bcell hb6).1 g (o + k * 3 + 1) hgb).trans h1; have H2 := ((bcell hb6).1 g (o + k * 3 + 2) hgb).trans h2; have NX0 := World.new_ne w5 _ X0; have NX1 := World.new_ne w5 _ H0))
      · have hg6 := Res3.new w5 a0 b0 d0 29
        have hB6 := hb6.alloc hb6.size (.cells #[.int .i64 a0, .int .i64 b0, .int .i64 d0] 29)
        have hgv : w5.heap.size ≠ w1.heap.size := by have := hb6.size; omega
        have hown6 := hown.below hB6 (Nat.le_refl _)
        have HBW := Lib.hid (hb.trans (hB6.mono hb.size))
        generalize w5.alloc (.cells #[.int .i64 a0, .int .i64 b0, .int .i64 d0] 29) = W6 at *
        generalize w5.heap.size = gv at *
        have hgn : gv ≠ w1.heap.size := hgv
        have hgn2 : w1.heap.size ≠ gv := fun e => hgv e.symm
        obtain ⟨u0, u1, u2, _, _, _, ul⟩ := hg6
        clear h0 h1 h2 y0 y1 nx0 nx1 hbd hbe hr hb5 hb6 q0 q1 q2 p0 p1 p2 X0 X1 H0 H1 H2 NX0 NX1 hown hAd hLd hAe hLe hB6 hgv
        cases ok with
        | false =>
          have HF := Lib.hid hk1
          clear hown6 hk2
          go_wp2
          go_ret2
          rw [HG.out, all_not HX.out HF.out]
          exact ⟨_, rfl, by simpa using Own.nil _ _ _, HB1.out.trans (HBW.out.mono HB1.out.size)⟩
        | true =>
          have HF := Lib.hid hk1
          have HV := Lib.hid (hk2 rfl)
          obtain ⟨⟨c0', s0⟩, ⟨c1', s1⟩, ⟨c2', s2⟩, f0, f1, f2⟩ := hown6.cells3 (fill_length _ _ _ (by omega)) k hlt
          have HO6 := Lib.hid hown6
          clear hown6 hk2
          go_wp2
          go_roundw
          case rel =>
            refine ⟨k + 1, by omega, by go_num, take_all (f := (okH l)) HL.out HX.out HF.out, ?_, ((HBW.out.setCell (by simp) _).setCell (by simp) _).setCell (by simp) _⟩
            have h := HO6.out.store3 (fill_length _ _ _ (by omega)) k hlt a0 b0 d0
            have e : (a0, b0, d0) = (holeN l) (p, s, n) := HV.out
            rw [e, fill_set (holeN l) m k _ HX.out] at h
            exact h
          case measure => simp [intOf]; omega
      · have hg6 := (show Res3 w5 wr.heap.size 0 0 0 from ⟨q0, q1, q2, p0, p1, p2, World.block_lt_of_cell? _ _ q0⟩).set (x' := a0) (y' := b0) (z' := d0)
        have hB6 := Below.set3 hb6 (b := wr.heap.size) (Nat.le_refl _) (.int .i64 a0) (.int .i64 b0) (.int .i64 d0)
        have hgv : wr.heap.size ≠ w1.heap.size := by omega
        have hown6 := hown.below hB6 (Nat.le_refl _)
        have HBW := Lib.hid (hb.trans (hB6.mono hb.size))
        generalize ((w5.setCell ⟨wr.heap.size, 0, none⟩ (.int .i64 a0)).setCell ⟨wr.heap.size, 1, none⟩ (.int .i64 b0)).setCell ⟨wr.heap.size, 2, none⟩ (.int .i64 d0) = W6 at *
        generalize hgw : wr.heap.size = gv at *
        have hgn : gv ≠ w1.heap.size := hgv
        have hgn2 : w1.heap.size ≠ gv := fun e => hgv e.symm
        obtain ⟨u0, u1, u2, _, _, _, ul⟩ := hg6
        clear h0 h1 h2 y0 y1 nx0 nx1 hbd hbe hr hb5 hb6 q0 q1 q2 p0 p1 p2 X0 X1 H0 H1 H2 NX0 NX1 hown hAd hLd hAe hLe hB6 hgv
        cases ok with
        | false =>
          have HF := Lib.hid hk1
          clear hown6 hk2
          go_wp2
          go_ret2
          rw [HG.out, all_not HX.out HF.out]
          exact ⟨_, rfl, by simpa using Own.nil _ _ _, HB1.out.trans (HBW.out.mono HB1.out.size)⟩
        | true =>
          have HF := Lib.hid hk1
          have HV := Lib.hid (hk2 rfl)
          obtain ⟨⟨c0', s0⟩, ⟨c1', s1⟩, ⟨c2', s2⟩, f0, f1, f2⟩ := hown6.cells3 (fill_length _ _ _ (by omega)) k hlt
          have HO6 := Lib.hid hown6
          clear hown6 hk2
          go_wp2
          go_roundw
          case rel =>
            refine ⟨k + 1, by omega, by go_num, take_all (f := (okH l)) HL.out HX.out HF.out, ?_, ((HBW.out.setCell (by simp) _).setCell (by simp) _).setCell (by simp) _⟩
            have h := HO6.out.store3 (fill_length _ _ _ (by omega)) k hlt a0 b0 d0
            have e : (a0, b0, d0) = (holeN l) (p, s, n) := HV.out
            rw [e, fill_set (holeN l) m k _ HX.out] at h
            exact h
          case measure => simp [intOf]; omega
    · obtain rfl : k = m.length := by omega
      rw [fill_all] at hown
      rw [List.take_length] at HL
      have HO := Lib.hid hown
      clear hown
      go_wp2
      go_ret2
      rw [HG.out, HL.out]
      exact ⟨_, rfl, by simpa using HO.out.mono HB1.out.size, HB1.out.trans (hb.mono HB1.out.size)⟩
end Go.Proofs.YtkfgmkgbicahgaaDoor
