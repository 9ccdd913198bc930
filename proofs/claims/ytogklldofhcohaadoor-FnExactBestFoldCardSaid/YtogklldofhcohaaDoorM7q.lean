/- Texts of the proof, run together: Fold2, FoldSc, Best, Best2. -/
import Derived.Test.YtogklldofhcohaaDoorFoldq
import Derived.Test.YtogklldofhcohaaDoorM2q
import Derived.Test.YtogklldofhcohaaDoorM5q
import Derived.LoopN
import Derived.OwnWalk
namespace Go.Proofs.YtogklldofhcohaaDoor
open Go.RowKit Go.Sort
set_option linter.unusedVariables false
set_option linter.unusedSimpArgs false

theorem near12_no {l : List Int} {r p : Int} (h : inR p 24 96 = false) : near12R l r p = #[.int .i64 0, .bool false] := by unfold near12R nearR; rw [h, Bool.and_false]; rfl
theorem near12_none {l : List Int} {r p : Int} (h : nearL p 12 l = none) : near12R l r p = #[.int .i64 0, .bool false] := by unfold near12R nearR; rw [h]; split <;> rfl
theorem near12_some {l : List Int} {r p y : Int} (hg : gdI l r = true) (hp : inR p 24 96 = true) (h : nearL p 12 l = some y) : near12R l r p = #[.int .i64 y, .bool true] := by unfold near12R nearR; rw [hg, hp, h]; rfl
/-- A score and one note more, joined. -/
theorem join_one (O : Option Addr) (ys : List Nt) (oc : Nat) (y : Nt) (B : Addr) (w : World) (hy : goodB ys = true) (hn : noteN y = true) (hA : RA w O ys) (hA0 : O = none → oc = 0) (hB : RA w (some B) [y]) :
    Calls Tryd.prog 43 #[.slice O ys.length oc, .slice (some B) 1 1] w fun e w' => RetScore w (canon (ys ++ [y])) (goodB (canon (ys ++ [y]))) e w' := by
  have h := implJoin_any O (some B) ys [y] oc 1 w (by have := ((goodB_iff ys).1 hy).2; omega) (by simp) hA hB hA0 (fun h => by cases h)
  rw [hy, good_one hn, Bool.true_and, Bool.true_and] at h
  exact h

set_option maxRecDepth 100000 in
set_option maxHeartbeats 8000000 in
theorem folded_any (A : Option Addr) (l : List Int) (c : Nat) (r : Int) (M : Option Addr) (m : List Nt) (d : Nat) (b : Int) (w : World) (hn : l.length ≤ 1048576) (hgi : gdI l r = true) (hA : RI w A l) (hM : RA w M m) (hL : Lim w) (hg : Good m) (hb1 : -100 ≤ b) (hb2 : b ≤ 100) :
    Calls Tryd.prog 25 #[.agg #[.slice A l.length c, .int .i64 r], .slice M m.length d, .int .i64 b] w fun e w' => ∃ v, e = .returned v ∧ Own w' w.heap.size 47 v (foldL l m b) ∧ Below w.heap.size w w' := by
  have hl : ∀ x ∈ l, 24 ≤ x ∧ x ≤ 96 := fun x hx => ((gdI_iff l r).1 hgi).2.1.range hx
  have h30 := hg.2
  have HGI := Lib.hid hgi
  clear hgi
  have hb0 : Below w.heap.size w (w.alloc (.cells #[.slice A l.length c, .int .i64 r] 31)) := (Below.refl w.heap.size w).alloc (Nat.le_refl _) _
  obtain ⟨x0, x1, hz⟩ := Box.new w A l.length c r 31
  have hA := hA.below hb0
  have hM := hM.below hb0
  have hL := hL.below hb0
  go_enter Tryd.func25, Tryd.ntmps25
  go_wp2_with fail
  generalize w.alloc (.cells #[.slice A l.length c, .int .i64 r] 31) = W at *
  go_loopw [7, 16] (fun a i wr => ∃ k : Nat, k ≤ m.length ∧ i = .int .i64 k ∧ Own wr W.heap.size 47 a (foldL l (m.take k) b) ∧ Below W.heap.size W wr)
    (fun _ i _ => m.length - (intOf i).toNat)
  case atStart => exact ⟨0, Nat.zero_le _, rfl, Own.nil _ _ _, Below.refl _ _⟩
  case round =>
    obtain ⟨k, hk, rfl, hown, hb⟩ := hrel
    by_cases hlt : k < m.length
    · have hx : m[k]? = some m[k] := List.getElem?_eq_getElem hlt
      generalize m[k] = x at hx
      have HS := Lib.hid (foldL_snoc l m b k x hx)
      have hv := (noteN_iff x).1 (hg.1 k x hlt hx).1
      have HYG := Lib.hid (foldL_good l (m.take k) b)
      have hy30 := foldL_thirty l (m.take k) b
      obtain ⟨p, s, n⟩ := x
      simp only at hv HS
      obtain ⟨g, o, rfl, hgb, h0, h1, h2⟩ := (hM.below hb) k _ hx
      simp only at h0 h1 h2
      have i1 : (0 : Int) ≤ (k : Int) := by omega
      have i2 : (k : Int) < (m.length : Int) := by omega
      generalize foldL l (m.take k) b = ys at *
      obtain ⟨O, oc, rfl, hO, hoc, hocm⟩ := hown.form'
      obtain ⟨hO0, hO1⟩ := hown.form3
      have HO := Lib.hid hown
      have y0 := (hb.cell (p := ⟨w.heap.size, 0, none⟩) hz).trans x0
      have y1 := (hb.cell (p := ⟨w.heap.size, 1, none⟩) hz).trans x1
      have hzr : w.heap.size < wr.heap.size := Nat.lt_of_lt_of_le hz hb.size
      have hnb : Below wr.heap.size wr (wr.alloc (.cells #[.int .i64 p, .int .i64 s, .int .i64 n] 47)) := (Below.refl _ _).alloc (Nat.le_refl _) _
      have hAr := (hA.below hb).below hnb
      have hLr := (hL.below hb).below hnb
      have p0 : (wr.alloc (.cells #[.int .i64 p, .int .i64 s, .int .i64 n] 47)).cell? ⟨wr.heap.size, 0, none⟩ = some (.int .i64 p) := by rw [World.cell?_alloc_new]; rfl
      have p1 : (wr.alloc (.cells #[.int .i64 p, .int .i64 s, .int .i64 n] 47)).cell? ⟨wr.heap.size, 1, none⟩ = some (.int .i64 s) := by rw [World.cell?_alloc_new]; rfl
      have p2 : (wr.alloc (.cells #[.int .i64 p, .int .i64 s, .int .i64 n] 47)).cell? ⟨wr.heap.size, 2, none⟩ = some (.int .i64 n) := by rw [World.cell?_alloc_new]; rfl
      have hzn : wr.heap.size < (wr.alloc (.cells #[.int .i64 p, .int .i64 s, .int .i64 n] 47)).heap.size := by simp
      have q0 : (wr.alloc (.cells #[.int .i64 p, .int .i64 s, .int .i64 n] 47)).frozen? ⟨wr.heap.size, 0, none⟩ = false := by simp
      have HF := Lib.hid (fun W (h : RI W A l) (h2 : Lim W) => implFold_any A l c r (p + b) W hn h h2)
      clear hown hx
      by_cases hno : inR (p + b) 24 96 = false ∨ nearL (p + b) 12 l = none
      · have hk0 : keepS ys (fpI l b (p, s, n), s, n) = ys := by
          have hfp : fpI l b (p, s, n) = -1 := by
            cases hr : inR (p + b) 24 96 with
            | false => exact fp_far hr
            | true => exact fp_lone hr (by rcases hno with h | h; rw [hr] at h; cases h; exact h)
          rw [hfp]; exact keepS_no fp_none
        have hnr : near12R l r (p + b) = #[.int .i64 0, .bool false] := by rcases hno with h | h; exact near12_no h; exact near12_none h
        rw [hk0] at HS
        rw [hnr] at HF
        clear hno hk0 hnr
        go_wp2_with fail
        generalize wr.alloc (.cells #[.int .i64 p, .int .i64 s, .int .i64 n] 47) = V at *
        refine (HF.out _ hAr hLr).mono ?_
        rintro e w2 ⟨rfl, hb2⟩
        have HB := Lib.hid (hnb.trans (hb2.mono hnb.size))
        clear hb2 p0 p1 p2 q0 y0 y1 h0 h1 h2
        go_wp2
        go_roundw
        case rel =>
          refine ⟨k + 1, by omega, by go_num, ?_, hb.trans (HB.out.mono hb.size)⟩
          rw [HS.out]
          exact HO.out.below HB.out (Nat.le_refl _)
        case measure => simp [intOf]; omega
      · have hr : inR (p + b) 24 96 = true := by cases h : inR (p + b) 24 96 with | true => rfl | false => exact absurd (.inl h) hno
        obtain ⟨y, hy⟩ : ∃ y, nearL (p + b) 12 l = some y := by cases h : nearL (p + b) 12 l with | some y => exact ⟨y, rfl⟩ | none => exact absurd (.inr h) hno
        have hyb := hl y (nearL_mem (p + b) 12 l y hy)
        have hfp : fpI l b (p, s, n) = y := fp_some hr hy
        have hnr := near12_some HGI.out hr hy
        rw [hfp] at HS
        rw [hnr] at HF
        have hny : noteN (y, s, n) = true := (noteN_iff (y, s, n)).2 ⟨hyb.1, hyb.2, hv.2.2⟩
        clear hno hr hy hfp hnr
        go_wp2_with fail
        generalize wr.alloc (.cells #[.int .i64 p, .int .i64 s, .int .i64 n] 47) = V at *
        refine (HF.out _ hAr hLr).mono ?_
        rintro e w2 ⟨rfl, hb2⟩
        have p0 := (hb2.cell (p := ⟨wr.heap.size, 0, none⟩) hzn).trans p0
        have p1 := (hb2.cell (p := ⟨wr.heap.size, 1, none⟩) hzn).trans p1
        have p2 := (hb2.cell (p := ⟨wr.heap.size, 2, none⟩) hzn).trans p2
        have q0 := (hb2.frozen (p := ⟨wr.heap.size, 0, none⟩) hzn).trans q0
        have hz2 : wr.heap.size < w2.heap.size := Nat.lt_of_lt_of_le hzn hb2.size
        have HB := Lib.hid ((hnb.trans (hb2.mono hnb.size)).setCell (p := ⟨wr.heap.size, 0, none⟩) (Nat.le_refl _) (.int .i64 y))
        clear hb2 y0 y1 h0 h1 h2
        go_wp2_with fail
        have e2 : (w2.setCell ⟨wr.heap.size, 0, none⟩ (.int .i64 y)).heap.size = w2.heap.size := by simp
        have hn2 := heap_alloc_new (w2.setCell ⟨wr.heap.size, 0, none⟩ (.int .i64 y)) (.cells #[.int .i64 y, .int .i64 s, .int .i64 n] 47)
        rw [e2] at hn2
        have hba := HB.out.alloc HB.out.size (.cells #[.int .i64 y, .int .i64 s, .int .i64 n] 47)
        generalize (w2.setCell ⟨wr.heap.size, 0, none⟩ (.int .i64 y)).alloc (.cells #[.int .i64 y, .int .i64 s, .int .i64 n] 47) = W4 at *
        have hone : RA W4 (some ⟨w2.heap.size, 0, none⟩) [(y, s, n)] := RA.one hn2
        have HJ := join_one O ys oc (y, s, n) ⟨w2.heap.size, 0, none⟩ W4 HYG.out hny (hO.below hba) hO0 hone
        obtain ⟨gq, hgq⟩ : ∃ gq, goodB (canon (ys ++ [(y, s, n)])) = gq := ⟨_, rfl⟩
        rw [hgq] at HJ
        have HGQ := Lib.hid hgq
        clear hgq hone hn2 e2 p0 p1 p2 q0
        refine HJ.mono ?_
        rintro e w5 ⟨v5, rfl, ho5, hb5⟩
        have hB5 := Lib.hid (hba.trans (hb5.mono hba.size))
        have HO5 := Lib.hid (ho5.mono (Nat.le_trans hb.size hba.size))
        clear ho5 hb5 hba HJ
        cases gq with
        | true =>
          go_wp2
          go_roundw
          case rel =>
            refine ⟨k + 1, by omega, by go_num, ?_, hb.trans (hB5.out.mono hb.size)⟩
            rw [HS.out, keepS_yes HGQ.out]
            have h := HO5.out
            simpa using h
          case measure => simp [intOf]; omega
        | false =>
          go_wp2
          go_roundw
          case rel =>
            refine ⟨k + 1, by omega, by go_num, ?_, hb.trans (hB5.out.mono hb.size)⟩
            rw [HS.out, keepS_no HGQ.out]
            exact HO.out.below hB5.out (Nat.le_refl _)
          case measure => simp [intOf]; omega
    · obtain rfl : k = m.length := by omega
      rw [List.take_length] at hown
      go_wp2
      go_ret
      exact ⟨_, rfl, hown.mono hb0.size, hb0.trans (hb.mono hb0.size)⟩
end Go.Proofs.YtogklldofhcohaaDoor

namespace Go.Proofs.YtogklldofhcohaaDoor
open Go.RowKit Go.Sort
set_option linter.unusedVariables false
set_option linter.unusedSimpArgs false

/-- A call returned a score of its own, a number and a bool; below the heap's old size nothing has turned. -/
def RetSc (B : World) (l : List Nt) (q : Int) (ok : Bool) (e : Ending) (w' : World) : Prop :=
  ∃ v, e = .returned (.tuple #[v, .int .i64 q, .bool ok]) ∧ Own w' B.heap.size 47 v l ∧ Below B.heap.size B w'
def scL (l : List Int) (r : Int) (m : List Nt) : List Nt := if (gdI l r && goodB m) = true then foldL l m 0 else []
def scI (l : List Int) (r : Int) (m : List Nt) : Int := if (gdI l r && goodB m) = true then leftI l m 0 else 0
theorem scL_thirty (l : List Int) (r : Int) (m : List Nt) : (scL l r m).length ≤ 30 := by unfold scL; split; exact foldL_thirty l m 0; simp
theorem sc_no {l : List Int} {r : Int} {m : List Nt} (h : (gdI l r && goodB m) = false) : scL l r m = [] ∧ scI l r m = 0 := by unfold scL scI; rw [h]; exact ⟨rfl, rfl⟩
theorem sc_yes {l : List Int} {r : Int} {m : List Nt} (h : (gdI l r && goodB m) = true) : scL l r m = foldL l m 0 ∧ scI l r m = leftI l m 0 := by unfold scL scI; rw [h]; exact ⟨rfl, rfl⟩

set_option maxRecDepth 100000 in
set_option maxHeartbeats 2000000 in
theorem specSc_any (A : Option Addr) (l : List Int) (c : Nat) (r : Int) (M : Option Addr) (m : List Nt) (d : Nat) (w : World) (hn : l.length ≤ 1048576) (hA : RI w A l) (hm : m.length ≤ 1048576) (hd : m.length ≤ d) (hd' : d ≤ 9223372036854775807) (hM : RA w M m) :
    Calls Tryd.prog 7 #[.agg #[.slice A l.length c, .int .i64 r], .slice M m.length d] w fun e w' => RetSc w (scL l r m) (scI l r m) (gdI l r && goodB m) e w' := by
  have hb0 : Below w.heap.size w (w.alloc (.cells #[.slice A l.length c, .int .i64 r] 31)) := (Below.refl w.heap.size w).alloc (Nat.le_refl _) _
  obtain ⟨x0, x1, hz⟩ := Box.new w A l.length c r 31
  have hA := hA.below hb0
  have hM := hM.below hb0
  go_enter Tryd.func7, Tryd.ntmps7
  go_wp2_with fail
  generalize w.alloc (.cells #[.slice A l.length c, .int .i64 r] 31) = W at *
  refine (inAsked_any _ _ _ _ _ _ _ _ hn hA hm hd hd' hM).mono ?_
  rintro e w1 ⟨rfl, hb1⟩
  have hB1 := hb0.trans (hb1.mono hb0.size)
  have y0 := (hb1.cell (p := ⟨w.heap.size, 0, none⟩) hz).trans x0
  have y1 := (hb1.cell (p := ⟨w.heap.size, 1, none⟩) hz).trans x1
  cases hg : (gdI l r && goodB m) with
  | false =>
    have HR := Lib.hid (sc_no hg)
    have HGB := Lib.hid hg
    go_wp2
    go_ret3
    rw [HR.out.1, HR.out.2, HGB.out]
    exact ⟨_, rfl, Own.nil w1 w.heap.size _, hB1⟩
  | true =>
    have hgood : Good m := (goodB_iff m).1 (by simp at hg; exact hg.2)
    have hgi : gdI l r = true := by simp at hg; exact hg.1
    have hl : ∀ x ∈ l, 24 ≤ x ∧ x ≤ 96 := fun x hx => ((gdI_iff l r).1 hgi).2.1.range hx
    have HR := Lib.hid (sc_yes hg)
    have HGB := Lib.hid hg
    have HT := Lib.hid (trFold_any A l c r M m d 0 w1 hn (hA.below hb1) (hM.below hb1) hgood hl (by omega) (by omega))
    clear hg hgi
    go_wp2_with (go_at_call 20; refine HT.out.mono ?_; rintro e w3 ⟨v3, rfl, ho3, hb3⟩)
    go_ret3
    rw [HR.out.1, HR.out.2, HGB.out]
    exact ⟨_, rfl, ho3.mono hB1.size, hB1.trans (hb3.mono hB1.size)⟩

set_option maxRecDepth 100000 in
set_option maxHeartbeats 2000000 in
theorem implSc_any (A : Option Addr) (l : List Int) (c : Nat) (r : Int) (M : Option Addr) (m : List Nt) (d : Nat) (w : World) (hn : l.length ≤ 1048576) (hA : RI w A l) (hm : m.length ≤ 1048576) (hM : RA w M m) (hL : Lim w) :
    Calls Tryd.prog 10 #[.agg #[.slice A l.length c, .int .i64 r], .slice M m.length d] w fun e w' => RetSc w (scL l r m) (scI l r m) (gdI l r && goodB m) e w' := by
  have hb0 : Below w.heap.size w (w.alloc (.cells #[.slice A l.length c, .int .i64 r] 31)) := (Below.refl w.heap.size w).alloc (Nat.le_refl _) _
  obtain ⟨x0, x1, hz⟩ := Box.new w A l.length c r 31
  have hA := hA.below hb0
  have hM := hM.below hb0
  have hL := hL.below hb0
  go_enter Tryd.func10, Tryd.ntmps10
  go_wp2_with fail
  generalize w.alloc (.cells #[.slice A l.length c, .int .i64 r] 31) = W at *
  refine (isIns_any _ _ _ _ _ hn hA hL).mono ?_
  rintro e w1 ⟨rfl, hb1⟩
  have hB1 := hb0.trans (hb1.mono hb0.size)
  cases hg : gdI l r with
  | false =>
    have HR := Lib.hid (sc_no (l := l) (r := r) (m := m) (by rw [hg]; rfl))
    go_wp2
    go_ret3
    rw [hg, Bool.false_and, HR.out.1, HR.out.2]
    exact ⟨_, rfl, Own.nil w1 w.heap.size _, hB1⟩
  | true =>
    have HG := Lib.hid hg
    clear hg
    go_wp2_with fail
    refine (isScore_any _ _ _ _ hm (hM.below hb1)).mono ?_
    rintro e w2 ⟨rfl, hb2⟩
    have hb12 := hb1.trans (hb2.mono hb1.size)
    have hB2 := hB1.trans (hb2.mono hB1.size)
    cases hgb : goodB m with
    | false =>
      have HR := Lib.hid (sc_no (l := l) (r := r) (m := m) (by rw [hgb, Bool.and_false]))
      have HB := Lib.hid hgb
      go_wp2
      go_ret3
      rw [HB.out, Bool.and_false, HR.out.1, HR.out.2]
      exact ⟨_, rfl, Own.nil w2 w.heap.size _, hB2⟩
    | true =>
      have hgood := (goodB_iff m).1 hgb
      have h30 := hgood.2
      have HR := Lib.hid (sc_yes (l := l) (r := r) (m := m) (by rw [HG.out, hgb]; rfl))
      have HB := Lib.hid hgb
      clear hgb
      have y0 := (hb12.cell (p := ⟨w.heap.size, 0, none⟩) hz).trans x0
      have y1 := (hb12.cell (p := ⟨w.heap.size, 1, none⟩) hz).trans x1
      have HT := Lib.hid (folded_any A l c r M m d 0 w2 hn HG.out (hA.below hb12) (hM.below hb12) (hL.below hb12) hgood (by omega) (by omega))
      have hfl := foldL_thirty l m 0
      have HQ := Lib.hid (show (m.length : Int) - ((foldL l m 0).length : Int) = leftI l m 0 from rfl)
      generalize foldL l m 0 = G at *
      generalize leftI l m 0 = q at *
      go_wp2_with (go_at_call 25; refine HT.out.mono ?_; rintro e w3 ⟨v3, rfl, ho3, hb3⟩; have HO3 := Lib.hid ho3; obtain ⟨A3, c3, hf3, _⟩ := ho3.form; subst hf3; clear ho3)
      go_ret3
      rw [HR.out.1, HR.out.2, HG.out, HB.out]
      exact ⟨_, (by rw [← HQ.out]; rfl), HO3.out.mono hB2.size, hB2.trans (hb3.mono hB2.size)⟩
end Go.Proofs.YtogklldofhcohaaDoor

namespace Go.Proofs.YtogklldofhcohaaDoor
open Go.RowKit Go.Sort
set_option linter.unusedVariables false
set_option linter.unusedSimpArgs false

/-- The answer of BestTransposition. -/
def bestR (l : List Int) (r : Int) (m : List Nt) : Array Value :=
  if (gdI l r && goodB m) = true then #[.int .i64 (bestL (lossI l m) (ordL 24)).1, .int .i64 (bestL (lossI l m) (ordL 24)).2, .bool true] else #[.int .i64 0, .int .i64 0, .bool false]
theorem bestR_form (l : List Int) (r : Int) (m : List Nt) : ∃ x y z, bestR l r m = #[.int .i64 x, .int .i64 y, .bool z] := by unfold bestR; split <;> exact ⟨_, _, _, rfl⟩

/-- The order in which they are looked at, as one list. -/
def ordZ (k : Nat) : List Int := 0 :: ordL k
theorem ordZ_length (k : Nat) : (ordZ k).length = k * 2 + 1 := by simp [ordZ, ordL_length]
theorem ordZ_succ (k : Nat) : ordZ (k + 1) = ordZ k ++ [-((k : Int) + 1), (k : Int) + 1] := by simp [ordZ, ordL_succ]

theorem two_new (w1 : World) (a b : Int) : (w1.alloc (.cells #[.int .i64 a, .int .i64 b] 3)).cell? ⟨w1.heap.size, 0, none⟩ = some (.int .i64 a) ∧ (w1.alloc (.cells #[.int .i64 a, .int .i64 b] 3)).cell? ⟨w1.heap.size, 1, none⟩ = some (.int .i64 b) := by
  constructor <;> (rw [World.cell?_alloc_new]; rfl)
theorem two_at {w : World} {b : Nat} {n k : Int} (h : w.cell? ⟨b, 0, none⟩ = some (.int .i64 n) ∧ w.cell? ⟨b, 1, none⟩ = some (.int .i64 k)) {j : Nat} {y : Int} (hy : [n, k][j]? = some y) : ∃ ad, (some ⟨b, 0, none⟩ : Option Addr) = some ad ∧ w.cell? (ad.add j) = some (.int .i64 y) := by
  match j with
  | 0 => simp at hy; subst hy; exact ⟨_, rfl, by rw [Addr.add_lit]; exact h.1⟩
  | 1 => simp at hy; subst hy; exact ⟨_, rfl, by rw [Addr.add_lit]; exact h.2⟩
  | j + 2 => simp at hy

set_option maxRecDepth 100000 in
set_option maxHeartbeats 2000000 in
theorem trOrder_any (n : Nat) (w : World) (hn : n ≤ 100) :
    Calls Tryd.prog 29 #[.int .i64 (n : Int)] w fun e w' => ∃ v, e = .returned v ∧ OwnI w' w.heap.size 3 v (ordZ n) ∧ Below w.heap.size w w' := by
  have hb0 : Below w.heap.size w (w.alloc (.cells #[.int .i64 0] 3)) := (Below.refl w.heap.size w).alloc (Nat.le_refl _) _
  have ho0 : OwnI (w.alloc (.cells #[.int .i64 0] 3)) w.heap.size 3 (.slice (some ⟨w.heap.size, 0, none⟩) 1 1) (ordZ 0) := by
    have h := World.ownsRow_lit (base := w.heap.size) (e := 3) (size := 1) w #[.int .i64 0] 1 (Nat.le_refl _) (by unfold maxLen; omega) rfl
    exact h
  go_enter Tryd.func29, Tryd.ntmps29
  go_wp2_with fail
  generalize w.alloc (.cells #[.int .i64 0] 3) = W at *
  go_loopw [3, 4] (fun a i wr => ∃ k : Nat, k ≤ n ∧ i = .int .i64 ((k : Int) + 1) ∧ OwnI wr w.heap.size 3 a (ordZ k) ∧ Below w.heap.size w wr)
    (fun _ i _ => n + 1 - (intOf i).toNat)
  case atStart => exact ⟨0, Nat.zero_le _, rfl, ho0, hb0⟩
  case round =>
    obtain ⟨k, hk, rfl, hown, hb⟩ := hrel
    have HO := Lib.hid hown
    clear hown
    by_cases hlt : k < n
    · have HS := Lib.hid (ordZ_succ k)
      have hlen := ordZ_length k
      have hbr := Lib.hid (show Below wr.heap.size wr (wr.alloc (.cells #[.int .i64 (-((k : Int) + 1)), .int .i64 ((k : Int) + 1)] 3)) from (Below.refl _ _).alloc (Nat.le_refl _) _)
      have ho3 := Lib.hid (HO.out.below hbr.out (Nat.le_refl _))
      have hc3 := Lib.hid (two_new wr (-((k : Int) + 1)) ((k : Int) + 1))
      have t1 : (k : Int) + 1 ≤ (n : Int) := by omega
      go_wp2_with (at_builtin; refine wpList_appI _ rfl (.tmp 11) (.tmp 15) rfl w.heap.size _ _ rfl ho3.out (some ⟨wr.heap.size, 0, none⟩) 2 2 [-((k : Int) + 1), (k : Int) + 1] rfl rfl (fun h => by cases h) (fun j y hy => two_at hc3.out hy) (by omega) (Nat.le_trans hb.size hbr.out.size) ?_; intro v4 w4 ho4 hg4 hv4)
      go_roundw
      case rel =>
        refine ⟨k + 1, by omega, by first | go_num | (congr 1; omega), ?_, (hb.trans (hbr.out.mono hb.size)).grown hg4 (Nat.le_trans hb.size hbr.out.size) (fun j hj => (ho3.out.lt j hj).1)⟩
        rw [HS.out]
        exact ho4
      case measure => simp [intOf]; omega
    · obtain rfl : k = n := by omega
      have t1 : ¬ (k : Int) + 1 ≤ (k : Int) := by omega
      go_wp2
      go_ret
      exact ⟨_, rfl, HO.out, hb⟩

/-- What is best when the first k transpositions have been looked at. -/
def stZ (f : Int → Int) (n k : Nat) : Int × Int := match k with
  | 0 => (0, -1)
  | k + 1 => bestL f ((ordL n).take k)
theorem stZ_end (f : Int → Int) (n : Nat) : stZ f n (ordZ n).length = bestL f (ordL n) := by
  rw [ordZ_length, ← ordL_length]
  simp [stZ]
theorem ordZ_bound (n : Nat) (x : Int) (h : x ∈ ordZ n) : -(n : Int) ≤ x ∧ x ≤ n := by
  unfold ordZ at h
  rcases List.mem_cons.1 h with rfl | h
  · omega
  · exact ordL_bound n x h
theorem stZ_step (f : Int → Int) (n k : Nat) (x : Int) (h : (ordZ n)[k]? = some x) (hf : ∀ x, 0 ≤ f x) :
    stZ f n (k + 1) = if (stZ f n k).2 < 0 ∨ f x < (stZ f n k).2 then (x, f x) else stZ f n k := by
  cases k with
  | zero =>
    simp [ordZ] at h
    subst h
    rw [if_pos (.inl (by simp [stZ]))]
    simp [stZ, bestL]
  | succ k =>
    have h' : (ordL n)[k]? = some x := by simpa [ordZ] using h
    have hb : ¬ (stZ f n (k + 1)).2 < 0 := by
      have := bestL_inv f (fun s => 0 ≤ s.2) ((ordL n).take k) (hf 0) (fun x _ => hf x)
      simp only [stZ]; omega
    show bestL f ((ordL n).take (k + 1)) = _
    rw [bestL_snoc f (ordL n) k x h']
    by_cases hq : f x < (bestL f ((ordL n).take k)).2
    · rw [if_pos hq, if_pos (.inr hq)]
    · rw [if_neg hq, if_neg (by rintro (h | h); exact hb h; exact hq h)]
      rfl
theorem stZ_bound (f : Int → Int) (n k : Nat) (hf : ∀ x, 0 ≤ f x ∧ f x ≤ 30) : -1 ≤ (stZ f n k).2 ∧ (stZ f n k).2 ≤ 30 := by
  cases k with
  | zero => simp [stZ]
  | succ k =>
    have := bestL_inv f (fun s => 0 ≤ s.2 ∧ s.2 ≤ 30) ((ordL n).take k) (hf 0) (fun x _ => hf x)
    simp only [stZ]; omega

end Go.Proofs.YtogklldofhcohaaDoor

namespace Go.Proofs.YtogklldofhcohaaDoor
open Go.RowKit Go.Sort
set_option linter.unusedVariables false
set_option linter.unusedSimpArgs false

theorem bestS_less {F : Int → Int} {a q b : Int} (h : F b < q) : bestS F (a, q) b = (b, F b) := by unfold bestS; rw [if_pos h]
theorem bestS_more {F : Int → Int} {a q b : Int} (h : ¬ F b < q) : bestS F (a, q) b = (a, q) := by unfold bestS; rw [if_neg h]

theorem index_two0 (a b : Int) (w : World) : (Instr.index 71 (.agg #[.int .i64 a, .int .i64 b]) (.int .i64 0)).run Tryd.prog w = .ok (.int .i64 a) w := by
  have hz : ∀ w, (Go.sizeOf 3).run Tryd.prog w = .ok 1 w := Tryd.sizeOf3
  have ha : ∀ w, (isAgg 3).run Tryd.prog w = .ok false w := Tryd.isAgg3
  simp [Instr.index, go_sem, run_underlying Tryd.underlying71, asIntOf, hz, part, ha]
theorem index_two1 (a b : Int) (w : World) : (Instr.index 71 (.agg #[.int .i64 a, .int .i64 b]) (.int .i64 1)).run Tryd.prog w = .ok (.int .i64 b) w := by
  have hz : ∀ w, (Go.sizeOf 3).run Tryd.prog w = .ok 1 w := Tryd.sizeOf3
  have ha : ∀ w, (isAgg 3).run Tryd.prog w = .ok false w := Tryd.isAgg3
  simp [Instr.index, go_sem, run_underlying Tryd.underlying71, asIntOf, hz, part, ha]

/-- What the closure has captured: an instrument and a score, each in a variable of its own. -/
structure Held (w : World) (bi bl : Nat) (A : Option Addr) (l : List Int) (c : Nat) (r : Int) (M : Option Addr) (m : List Nt) (d : Nat) : Prop where
  i0 : w.cell? ⟨bi, 0, none⟩ = some (.slice A l.length c)
  i1 : w.cell? ⟨bi, 1, none⟩ = some (.int .i64 r)
  l0 : w.cell? ⟨bl, 0, none⟩ = some (.slice M m.length d)
  hi : bi < w.heap.size
  hl : bl < w.heap.size
  ri : RI w A l
  ra : RA w M m
theorem Held.below {w w' : World} {bi bl : Nat} {A : Option Addr} {l : List Int} {c : Nat} {r : Int} {M : Option Addr} {m : List Nt} {d : Nat} (h : Held w bi bl A l c r M m d) (hb : Below w.heap.size w w') : Held w' bi bl A l c r M m d :=
  ⟨(hb.cell (p := ⟨bi, 0, none⟩) h.hi).trans h.i0, (hb.cell (p := ⟨bi, 1, none⟩) h.hi).trans h.i1, (hb.cell (p := ⟨bl, 0, none⟩) h.hl).trans h.l0, Nat.lt_of_lt_of_le h.hi hb.size, Nat.lt_of_lt_of_le h.hl hb.size, h.ri.below hb, h.ra.below hb⟩

end Go.Proofs.YtogklldofhcohaaDoor
