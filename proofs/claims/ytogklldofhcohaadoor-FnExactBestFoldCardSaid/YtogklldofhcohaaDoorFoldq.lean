/- Folded scores: the model's and the program's functions have one answer, in memory of their own. -/
import Derived.Test.YtogklldofhcohaaDoorM4q
import Derived.Test.YtogklldofhcohaaDoorM3q
import Derived.Test.YtogklldofhcohaaDoorSortedq
import Derived.Test.YtogklldofhcohaaDoorM6q
import Derived.Test.YtogklldofhcohaaDoorM5q
import Derived.Deep.DeepCutAuto
namespace Go.Proofs.YtogklldofhcohaaDoor
open Go.RowKit Go.Sort
set_option linter.unusedVariables false
set_option linter.unusedSimpArgs false

set_option maxRecDepth 100000 in
set_option maxHeartbeats 16000000 in
theorem trFold_any (A : Option Addr) (l : List Int) (c : Nat) (r : Int) (M : Option Addr) (m : List Nt) (d : Nat) (b : Int) (w : World) (hn : l.length ≤ 1048576) (hA : RI w A l) (hM : RA w M m) (hg : Good m) (hl : ∀ x ∈ l, 24 ≤ x ∧ x ≤ 96) (hb1 : -100 ≤ b) (hb2 : b ≤ 100) :
    Calls Tryd.prog 20 #[.agg #[.slice A l.length c, .int .i64 r], .slice M m.length d, .int .i64 b] w fun e w' => ∃ v, e = .returned (.tuple #[v, .int .i64 (leftI l m b)]) ∧ Own w' w.heap.size 47 v (foldL l m b) ∧ Below w.heap.size w w' := by
  have h30 := hg.2
  have hb0 : Below w.heap.size w (w.alloc (.cells #[.slice A l.length c, .int .i64 r] 31)) := (Below.refl w.heap.size w).alloc (Nat.le_refl _) _
  obtain ⟨x0, x1, hz⟩ := Box.new w A l.length c r 31
  have hA := hA.below hb0
  have hM := hM.below hb0
  go_enter Tryd.func20, Tryd.ntmps20
  go_wp2_with fail
  generalize w.alloc (.cells #[.slice A l.length c, .int .i64 r] 31) = W at *
  go_loopw [8, 9, 17] (fun a q i wr => ∃ k : Nat, k ≤ m.length ∧ i = .int .i64 k ∧ q = .int .i64 (leftI l (m.take k) b) ∧ Own wr W.heap.size 47 a (foldL l (m.take k) b) ∧ Below W.heap.size W wr)
    (fun _ _ i _ => m.length - (intOf i).toNat)
  case atStart => exact ⟨0, Nat.zero_le _, rfl, rfl, Own.nil _ _ _, Below.refl _ _⟩
  case round =>
    obtain ⟨k, hk, rfl, rfl, hown, hb⟩ := hrel
    by_cases hlt : k < m.length
    · have hx : m[k]? = some m[k] := List.getElem?_eq_getElem hlt
      generalize m[k] = x at hx
      have HS := Lib.hid (foldL_snoc l m b k x hx)
      have HLF := Lib.hid (leftI_snoc l m b k x hx)
      have hv := (noteN_iff x).1 (hg.1 k x hlt hx).1
      have hlb := leftI_bound l (m.take k) b
      rw [List.length_take] at hlb
      have hy30 := foldL_thirty l (m.take k) b
      obtain ⟨p, s, n⟩ := x
      simp only at hv HS HLF
      obtain ⟨g, o, rfl, hgb, h0, h1, h2⟩ := (hM.below hb) k _ hx
      simp only at h0 h1 h2
      have i1 : (0 : Int) ≤ (k : Int) := by omega
      have i2 : (k : Int) < (m.length : Int) := by omega
      generalize leftI l (m.take k) b = q at *
      generalize foldL l (m.take k) b = ys at *
      obtain ⟨O, oc, rfl, hO, hoc, hocm⟩ := hown.form'
      unfold maxLen at hocm
      obtain ⟨hO0, hO1⟩ := hown.form3
      have HO := Lib.hid hown
      have y0 := (hb.cell (p := ⟨w.heap.size, 0, none⟩) hz).trans x0
      have y1 := (hb.cell (p := ⟨w.heap.size, 1, none⟩) hz).trans x1
      have hzr : w.heap.size < wr.heap.size := Nat.lt_of_lt_of_le hz hb.size
      have hnb : Below wr.heap.size wr (wr.alloc (.cells #[.int .i64 p, .int .i64 s, .int .i64 n] 47)) := (Below.refl _ _).alloc (Nat.le_refl _) _
      have hAr := (hA.below hb).below hnb
      have p0 : (wr.alloc (.cells #[.int .i64 p, .int .i64 s, .int .i64 n] 47)).cell? ⟨wr.heap.size, 0, none⟩ = some (.int .i64 p) := by rw [World.cell?_alloc_new]; rfl
      have p1 : (wr.alloc (.cells #[.int .i64 p, .int .i64 s, .int .i64 n] 47)).cell? ⟨wr.heap.size, 1, none⟩ = some (.int .i64 s) := by rw [World.cell?_alloc_new]; rfl
      have p2 : (wr.alloc (.cells #[.int .i64 p, .int .i64 s, .int .i64 n] 47)).cell? ⟨wr.heap.size, 2, none⟩ = some (.int .i64 n) := by rw [World.cell?_alloc_new]; rfl
      have hzn : wr.heap.size < (wr.alloc (.cells #[.int .i64 p, .int .i64 s, .int .i64 n] 47)).heap.size := by simp
      have v0 := (hnb.cell (p := ⟨w.heap.size, 0, none⟩) hzr).trans y0
      have v1 := (hnb.cell (p := ⟨w.heap.size, 1, none⟩) hzr).trans y1
      have HPI := Lib.hid (fun W => ntPitch_any (p + b) W)
      clear hown hx
      cases hr : inR (p + b) 24 96 with
      | false =>
        rw [fp_far (x := (p, s, n)) hr] at HS HLF
        rw [hr] at HPI
        clear hr
        go_wp2_with fail
        generalize wr.alloc (.cells #[.int .i64 p, .int .i64 s, .int .i64 n] 47) = U at *
        refine (HPI.out _).mono ?_
        rintro e w2 ⟨rfl, rfl⟩
        have hbV : Below wr.heap.size wr U := hnb
        have hzU : wr.heap.size < U.heap.size := hzn
        have u1 : U.cell? ⟨wr.heap.size, 1, none⟩ = some (.int .i64 s) := p1
        have u2 : U.cell? ⟨wr.heap.size, 2, none⟩ = some (.int .i64 n) := p2
        clear hnb hzn p0 p1 p2 v0 v1 y0 y1 h0 h1 h2 hAr
        have hRV := Lib.hid (hO.below hbV)
        obtain ⟨gq, hgq⟩ : ∃ gq, goodB (canon (ys ++ [((-1), s, n)])) = gq := ⟨_, rfl⟩
        have HNS := Lib.hid (fun (A : Option Addr) (n' c : Nat) (W : World) (h : (ys ++ [((-1), s, n)]).length = n') (hA : RA W A (ys ++ [((-1), s, n)])) => ntSorted_n A (ys ++ [((-1), s, n)]) n' c W h (by simp; omega) hA)
        rw [hgq] at HNS
        have HGQ := Lib.hid hgq
        clear hgq hO
        have hzb := hbV.size
        go_upto_region 9 with fail
        go_cut [13, 14] (fun a q wx => q = .bool gq ∧ Own wx wr.heap.size 47 a (if gq = true then canon (ys ++ [((-1), s, n)]) else []) ∧ Below wr.heap.size wr wx)
        case first =>
          have u1d : U.drew.cell? ⟨wr.heap.size, 1, none⟩ = some (.int .i64 s) := u1
          have u2d : U.drew.cell? ⟨wr.heap.size, 2, none⟩ = some (.int .i64 n) := u2
          go_region_held3 (fun w' => w'.cell? ⟨wr.heap.size, 1, none⟩ = some (.int .i64 s) ∧ w'.cell? ⟨wr.heap.size, 2, none⟩ = some (.int .i64 n))
            (first | exact ⟨u1d, u2d⟩ | go_keep | assumption)
            (first
              | ((refine step_appN rfl (.tmp 33) (.tmp 34) rfl U.heap.size _ [] rfl (Own.empty (by first | exact heap_alloc_new _ _ | exact heap_old (heap_alloc_new _ _) | exact heap_new1 _ _ _) (by first | exact Nat.le_refl _ | (simp; done))) _ ys.length _ ys rfl rfl hO0 (by first | exact hRV.out.alloc _ | exact (hRV.out.alloc _).alloc _) (by simp; try omega) (by simp; try omega) ?_); intro v1 w1 ho1 hg1; go_loud (have hB1 := Lib.hid (show Below U.heap.size U w1 from Below.grown (by first | exact bel1 _ _ | exact bel2 _ _ _) hg1 (by first | exact (bel1 _ _).size | exact (bel2 _ _ _).size) (fun k hk => by first | exact Nat.le_of_eq (own_row hk) | exact Nat.le_trans (Nat.le_succ _) (Nat.le_of_eq (own_row hk))))); have s1 : w1.cell? ⟨wr.heap.size, 1, none⟩ = some (.int .i64 s) ∧ w1.cell? ⟨wr.heap.size, 2, none⟩ = some (.int .i64 n) := ⟨(hB1.out.cell (p := ⟨wr.heap.size, 1, none⟩) hzU).trans u1, (hB1.out.cell (p := ⟨wr.heap.size, 2, none⟩) hzU).trans u2⟩; have HO1 := Lib.hid ho1; have HG1 := Lib.hid (show World.grownBy _ w1 (some _) from hg1); clear ho1 hg1)
              | (go_loud (refine step_appN rfl (.tmp 35) (.tmp 42) rfl U.heap.size _ _ rfl (by first | exact HO1.out | exact HO1.out.alloc _) _ 1 1 [((-1), s, n)] rfl rfl (fun h => by cases h) (RA.one (by first | exact heap_alloc_new _ _ | exact (HG1.out.block _ (by first | (simp; done) | (simp; omega)) (by first | (simp; done) | (simp; omega))).trans (by first | exact heap_alloc_new _ _ | exact heap_old (heap_alloc_new _ _) | exact heap_new1 _ _ _))) (by simp; try omega) (by first | exact hB1.out.size | exact (hB1.out.alloc hB1.out.size _).size) ?_); intro v2 w2 ho2 hg2; have hB2 := Lib.hid (show Below U.heap.size U w2 from Below.grown (by first | exact hB1.out | exact hB1.out.alloc hB1.out.size _) hg2 (by first | exact hB1.out.size | exact (hB1.out.alloc hB1.out.size _).size) (fun k hk => (HO1.out.lt k hk).1)); have s2 : w2.cell? ⟨wr.heap.size, 1, none⟩ = some (.int .i64 s) ∧ w2.cell? ⟨wr.heap.size, 2, none⟩ = some (.int .i64 n) := ⟨(hB2.out.cell (p := ⟨wr.heap.size, 1, none⟩) hzU).trans u1, (hB2.out.cell (p := ⟨wr.heap.size, 2, none⟩) hzU).trans u2⟩; obtain ⟨A2, c2, rfl, hA2⟩ := ho2.form; have HA2 := Lib.hid (show RA w2 A2 (ys ++ [((-1), s, n)]) by simpa using hA2); clear ho2 hg2 hA2)
              | (go_at_call 36; refine (HNS.out A2 _ c2 w2 (by simp) HA2.out).mono ?_; rintro e w5 ⟨v5, rfl, ho5, hb6⟩; have hB5 := Lib.hid (hB2.out.trans (hb6.mono hB2.out.size)); have s5 : w5.cell? ⟨wr.heap.size, 1, none⟩ = some (.int .i64 s) ∧ w5.cell? ⟨wr.heap.size, 2, none⟩ = some (.int .i64 n) := ⟨(hB5.out.cell (p := ⟨wr.heap.size, 1, none⟩) hzU).trans u1, (hB5.out.cell (p := ⟨wr.heap.size, 2, none⟩) hzU).trans u2⟩; have HO5 := Lib.hid (ho5.mono hB2.out.size); clear ho5 hb6))
          all_goals
            go_wp2_with fail
            go_meet
            case rel => exact ⟨rfl, HO5.out.mono hbV.size, hbV.trans (hB5.out.mono hbV.size)⟩
        case rest =>
          obtain ⟨rfl, ho5, hB5⟩ := hcut
          have hUW := hb.trans (hB5.mono hb.size)
          have HO5 := Lib.hid ho5
          clear u1 u2 HNS ho5
          cases gq with
          | true =>
            go_wp2
            go_roundw
            case rel =>
              refine ⟨k + 1, by omega, by go_num, ?_, ?_, hUW⟩
              · rw [HLF.out, HGQ.out, if_pos rfl, Int.add_zero]
              · rw [HS.out, keepS_yes HGQ.out]
                have h := HO5.out.mono hb.size
                simpa using h
            case measure => simp [intOf]; omega
          | false =>
            go_wp2
            go_roundw
            case rel =>
              refine ⟨k + 1, by omega, by go_num, ?_, ?_, hUW⟩
              · rw [HLF.out, HGQ.out, if_neg (by simp)] <;> go_num
              · rw [HS.out, keepS_no HGQ.out]
                exact HO.out.below hB5 (Nat.le_refl _)
            case measure => simp [intOf]; omega
      | true =>
        have hrb : 24 ≤ p + b ∧ p + b ≤ 96 := by simpa [inR] using hr
        have hnm := fun y hy => hl y (nearL_mem (p + b) 12 l y hy)
        have HTN := Lib.hid (fun W (h : RI W A l) => trNearest_any A l c r (p + b) 12 W hn h hl (by omega) (by omega) (by omega) (by omega))
        have hfe : fpI l b (p, s, n) = (nearL (p + b) 12 l).getD (-1) := by unfold fpI; rw [if_pos hr]
        rw [hfe] at HS HLF
        rw [hr] at HPI
        have hfb : -1 ≤ (nearL (p + b) 12 l).getD (-1) ∧ (nearL (p + b) 12 l).getD (-1) ≤ 96 := by
          cases hq : nearL (p + b) 12 l with
          | none => simp
          | some y => have := hnm y hq; simp; omega
        generalize (nearL (p + b) 12 l).getD (-1) = fp at *
        clear hr hfe hnm
        go_wp2_with fail
        generalize wr.alloc (.cells #[.int .i64 p, .int .i64 s, .int .i64 n] 47) = V at *
        refine (HPI.out _).mono ?_
        rintro e w2 ⟨rfl, rfl⟩
        go_wp2_with fail
        refine (HTN.out _ hAr).mono ?_
        rintro e U ⟨rfl, hbu⟩
        have hbV : Below wr.heap.size wr U := hnb.trans (hbu.mono hnb.size)
        have hzU : wr.heap.size < U.heap.size := Nat.lt_of_lt_of_le hzn hbu.size
        have u1 : U.cell? ⟨wr.heap.size, 1, none⟩ = some (.int .i64 s) := (hbu.cell (p := ⟨wr.heap.size, 1, none⟩) hzn).trans p1
        have u2 : U.cell? ⟨wr.heap.size, 2, none⟩ = some (.int .i64 n) := (hbu.cell (p := ⟨wr.heap.size, 2, none⟩) hzn).trans p2
        clear hnb hzn p0 p1 p2 v0 v1 y0 y1 h0 h1 h2 hAr hbu HTN
        have hRV := Lib.hid (hO.below hbV)
        obtain ⟨gq, hgq⟩ : ∃ gq, goodB (canon (ys ++ [(fp, s, n)])) = gq := ⟨_, rfl⟩
        have HNS := Lib.hid (fun (A : Option Addr) (n' c : Nat) (W : World) (h : (ys ++ [(fp, s, n)]).length = n') (hA : RA W A (ys ++ [(fp, s, n)])) => ntSorted_n A (ys ++ [(fp, s, n)]) n' c W h (by simp; omega) hA)
        rw [hgq] at HNS
        have HGQ := Lib.hid hgq
        clear hgq hO
        have hzb := hbV.size
        go_upto_region 9 with fail
        go_cut [13, 14] (fun a q wx => q = .bool gq ∧ Own wx wr.heap.size 47 a (if gq = true then canon (ys ++ [(fp, s, n)]) else []) ∧ Below wr.heap.size wr wx)
        case first =>
          have u1d : U.drew.cell? ⟨wr.heap.size, 1, none⟩ = some (.int .i64 s) := u1
          have u2d : U.drew.cell? ⟨wr.heap.size, 2, none⟩ = some (.int .i64 n) := u2
          go_region_held3 (fun w' => w'.cell? ⟨wr.heap.size, 1, none⟩ = some (.int .i64 s) ∧ w'.cell? ⟨wr.heap.size, 2, none⟩ = some (.int .i64 n))
            (first | exact ⟨u1d, u2d⟩ | go_keep | assumption)
            (first
              | ((refine step_appN rfl (.tmp 33) (.tmp 34) rfl U.heap.size _ [] rfl (Own.empty (by first | exact heap_alloc_new _ _ | exact heap_old (heap_alloc_new _ _) | exact heap_new1 _ _ _) (by first | exact Nat.le_refl _ | (simp; done))) _ ys.length _ ys rfl rfl hO0 (by first | exact hRV.out.alloc _ | exact (hRV.out.alloc _).alloc _) (by simp; try omega) (by simp; try omega) ?_); intro v1 w1 ho1 hg1; go_loud (have hB1 := Lib.hid (show Below U.heap.size U w1 from Below.grown (by first | exact bel1 _ _ | exact bel2 _ _ _) hg1 (by first | exact (bel1 _ _).size | exact (bel2 _ _ _).size) (fun k hk => by first | exact Nat.le_of_eq (own_row hk) | exact Nat.le_trans (Nat.le_succ _) (Nat.le_of_eq (own_row hk))))); have s1 : w1.cell? ⟨wr.heap.size, 1, none⟩ = some (.int .i64 s) ∧ w1.cell? ⟨wr.heap.size, 2, none⟩ = some (.int .i64 n) := ⟨(hB1.out.cell (p := ⟨wr.heap.size, 1, none⟩) hzU).trans u1, (hB1.out.cell (p := ⟨wr.heap.size, 2, none⟩) hzU).trans u2⟩; have HO1 := Lib.hid ho1; have HG1 := Lib.hid (show World.grownBy _ w1 (some _) from hg1); clear ho1 hg1)
              | (go_loud (refine step_appN rfl (.tmp 35) (.tmp 42) rfl U.heap.size _ _ rfl (by first | exact HO1.out | exact HO1.out.alloc _) _ 1 1 [(fp, s, n)] rfl rfl (fun h => by cases h) (RA.one (by first | exact heap_alloc_new _ _ | exact (HG1.out.block _ (by first | (simp; done) | (simp; omega)) (by first | (simp; done) | (simp; omega))).trans (by first | exact heap_alloc_new _ _ | exact heap_old (heap_alloc_new _ _) | exact heap_new1 _ _ _))) (by simp; try omega) (by first | exact hB1.out.size | exact (hB1.out.alloc hB1.out.size _).size) ?_); intro v2 w2 ho2 hg2; have hB2 := Lib.hid (show Below U.heap.size U w2 from Below.grown (by first | exact hB1.out | exact hB1.out.alloc hB1.out.size _) hg2 (by first | exact hB1.out.size | exact (hB1.out.alloc hB1.out.size _).size) (fun k hk => (HO1.out.lt k hk).1)); have s2 : w2.cell? ⟨wr.heap.size, 1, none⟩ = some (.int .i64 s) ∧ w2.cell? ⟨wr.heap.size, 2, none⟩ = some (.int .i64 n) := ⟨(hB2.out.cell (p := ⟨wr.heap.size, 1, none⟩) hzU).trans u1, (hB2.out.cell (p := ⟨wr.heap.size, 2, none⟩) hzU).trans u2⟩; obtain ⟨A2, c2, rfl, hA2⟩ := ho2.form; have HA2 := Lib.hid (show RA w2 A2 (ys ++ [(fp, s, n)]) by simpa using hA2); clear ho2 hg2 hA2)
              | (go_at_call 36; refine (HNS.out A2 _ c2 w2 (by simp) HA2.out).mono ?_; rintro e w5 ⟨v5, rfl, ho5, hb6⟩; have hB5 := Lib.hid (hB2.out.trans (hb6.mono hB2.out.size)); have s5 : w5.cell? ⟨wr.heap.size, 1, none⟩ = some (.int .i64 s) ∧ w5.cell? ⟨wr.heap.size, 2, none⟩ = some (.int .i64 n) := ⟨(hB5.out.cell (p := ⟨wr.heap.size, 1, none⟩) hzU).trans u1, (hB5.out.cell (p := ⟨wr.heap.size, 2, none⟩) hzU).trans u2⟩; have HO5 := Lib.hid (ho5.mono hB2.out.size); clear ho5 hb6))
          all_goals
            go_wp2_with fail
            go_meet
            case rel => exact ⟨rfl, HO5.out.mono hbV.size, hbV.trans (hB5.out.mono hbV.size)⟩
        case rest =>
          obtain ⟨rfl, ho5, hB5⟩ := hcut
          have hUW := hb.trans (hB5.mono hb.size)
          have HO5 := Lib.hid ho5
          clear u1 u2 HNS ho5
          cases gq with
          | true =>
            go_wp2
            go_roundw
            case rel =>
              refine ⟨k + 1, by omega, by go_num, ?_, ?_, hUW⟩
              · rw [HLF.out, HGQ.out, if_pos rfl, Int.add_zero]
              · rw [HS.out, keepS_yes HGQ.out]
                have h := HO5.out.mono hb.size
                simpa using h
            case measure => simp [intOf]; omega
          | false =>
            go_wp2
            go_roundw
            case rel =>
              refine ⟨k + 1, by omega, by go_num, ?_, ?_, hUW⟩
              · rw [HLF.out, HGQ.out, if_neg (by simp)] <;> go_num
              · rw [HS.out, keepS_no HGQ.out]
                exact HO.out.below hB5 (Nat.le_refl _)
            case measure => simp [intOf]; omega
    · obtain rfl : k = m.length := by omega
      rw [List.take_length] at hown
      rw [List.take_length]
      go_wp2
      go_ret2
      exact ⟨_, rfl, hown.mono hb0.size, hb0.trans (hb.mono hb0.size)⟩
end Go.Proofs.YtogklldofhcohaaDoor
