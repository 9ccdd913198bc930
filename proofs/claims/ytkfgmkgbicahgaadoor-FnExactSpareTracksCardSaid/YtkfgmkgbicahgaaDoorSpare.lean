/- The tracks of an instrument in which there are no holes: the model's and the program's functions have one answer, in memory of their own. -/
import Derived.Test.YtkfgmkgbicahgaaDoorHTrk
import Derived.Test.YtkfgmkgbicahgaaDoorInsF
import Derived.Test.YtkfgmkgbicahgaaDoorCommon
import Derived.Test.YtkfgmkgbicahgaaDoorInsL
import Derived.Test.YtkfgmkgbicahgaaDoorIntF
namespace Go.Proofs.YtkfgmkgbicahgaaDoor
open Go.RowKit Go.Sort
set_option linter.unusedVariables false
set_option linter.unusedSimpArgs false

set_option maxHeartbeats 1000000 in
theorem l1Has_any (A : Option Addr) (l : List Int) (c : Nat) (n : Int) (w : World) (hn : l.length ≤ 1048576) (hA : RI w A l) :
    Calls Tryd.prog 64 #[.slice A l.length c, .int .i64 n] w fun e w' => e = .returned (.bool (hasB l n)) ∧ Below w.heap.size w w' := by
  go_enter Tryd.func64, Tryd.ntmps64
  go_wp2
  go_loopw [9] (fun i wr => ∃ k : Nat, k ≤ l.length ∧ i = .int .i64 k ∧ (∀ j x, j < k → l[j]? = some x → x ≠ n) ∧ wr = w)
    (fun i _ => l.length - (intOf i).toNat)
  case atStart => exact ⟨0, Nat.zero_le _, rfl, fun j x h _ => absurd h (by omega), rfl⟩
  case round =>
    obtain ⟨k, hk, rfl, hno, rfl⟩ := hrel
    have HN := Lib.hid hno
    clear hno
    by_cases hlt : k < l.length
    · have hx : l[k]? = some l[k] := List.getElem?_eq_getElem hlt
      generalize l[k] = x at hx
      obtain ⟨g, o, rfl, hgb, h0⟩ := hA k _ hx
      have i1 : (0 : Int) ≤ (k : Int) := by omega
      have i2 : (k : Int) < (l.length : Int) := by omega
      have HX := Lib.hid hx
      clear hx
      by_cases hxn : x = n
      · subst hxn
        go_wp2
        go_ret
        exact ⟨ret_bool (by rw [eq_comm, hasB_iff]; exact List.mem_iff_getElem?.2 ⟨_, HX.out⟩), Below.refl _ _⟩
      · go_wp2
        go_roundw
        case rel =>
          refine ⟨k + 1, by omega, by go_num, fun j y hj hy => ?_, by first | rfl | trivial⟩
          rcases Nat.lt_or_ge j k with h | h
          · exact HN.out j y h hy
          · obtain rfl : j = k := by omega
            have e := HX.out.symm.trans hy
            injection e with e
            exact e ▸ hxn
        case measure => simp [intOf]; omega
    · obtain rfl : k = l.length := by omega
      go_wp2
      go_ret
      refine ⟨ret_bool ?_, Below.refl _ _⟩
      cases h : hasB l n with
      | false => rfl
      | true =>
        obtain ⟨j, hj⟩ := List.mem_iff_getElem?.1 ((hasB_iff l n).1 h)
        exact absurd rfl (HN.out j n (List.getElem?_eq_some_iff.1 hj).1 hj)

set_option maxRecDepth 100000 in
set_option maxHeartbeats 1000000 in
theorem laAsked_any (A : Option Addr) (l : List Int) (c : Nat) (r : Int) (M : Option Addr) (m : List Nt) (d : Nat) (w : World) (hn : l.length ≤ 1048576) (hA : RI w A l) (hm : m.length ≤ 1048576) (hd : m.length ≤ d) (hd' : d ≤ 9223372036854775807) (hM : RA w M m) :
    Calls Tryd.prog 57 #[.agg #[.slice A l.length c, .int .i64 r], .slice M m.length d] w fun e w' => e = .returned (.bool (gdI l r && H.goodB m)) ∧ Below w.heap.size w w' := by
  have hb0 : Below w.heap.size w (w.alloc (.cells #[.slice A l.length c, .int .i64 r] 32)) := (Below.refl w.heap.size w).alloc (Nat.le_refl _) _
  go_enter Tryd.func57, Tryd.ntmps57
  go_wp2_with fail
  refine (inGood_any _ _ _ _ _ hn (hA.below hb0)).mono ?_
  rintro e w1 ⟨rfl, hb1⟩
  have hB1 := hb0.trans (hb1.mono hb0.size)
  cases hg : gdI l r with
  | false =>
    go_wp2
    go_ret
    exact ⟨ret_bool (by simp [hg]), hB1⟩
  | true =>
    go_wp2_with fail
    refine (H.ntGood_any _ _ _ _ hm hd hd' (hM.below hB1)).mono ?_
    rintro e w2 ⟨rfl, hb2⟩
    go_wp2
    go_ret
    exact ⟨ret_bool (by simp [hg]), hB1.trans (hb2.mono hB1.size)⟩

/-- The tracks below n that are not used. -/
def spN (u : List Int) (n : Nat) : List Int := ((List.range n).map fun (j : Nat) => (j : Int)).filter fun x => !hasB u x
def spareL (P : List Int) (m : List Nt) : List Int := spN (H.tracksL m) P.length
theorem spN_succ (u : List Int) (n : Nat) : spN u (n + 1) = spN u n ++ if hasB u (n : Int) = true then [] else [(n : Int)] := by
  unfold spN
  rw [List.range_succ, List.map_append, List.filter_append]
  congr 1
  cases h : hasB u (n : Int) <;> simp [h]
theorem spN_length (u : List Int) (n : Nat) : (spN u n).length ≤ n := by
  unfold spN
  exact Nat.le_trans (List.length_filter_le _ _) (by simp)
theorem spareL_length (P : List Int) (m : List Nt) : (spareL P m).length ≤ P.length := spN_length _ _

set_option maxRecDepth 100000 in
set_option maxHeartbeats 4000000 in
theorem specSpare_any (A : Option Addr) (l : List Int) (c : Nat) (r : Int) (M : Option Addr) (m : List Nt) (d : Nat) (w : World) (hn : l.length ≤ 1048576) (hA : RI w A l) (hm : m.length ≤ 1048576) (hd : m.length ≤ d) (hd' : d ≤ 9223372036854775807) (hM : RA w M m) :
    Calls Tryd.prog 37 #[.agg #[.slice A l.length c, .int .i64 r], .slice M m.length d] w fun e w' => RetI w (spareL l m) (gdI l r && H.goodB m) e w' := by
  have hb0 : Below w.heap.size w (w.alloc (.cells #[.slice A l.length c, .int .i64 r] 32)) := (Below.refl w.heap.size w).alloc (Nat.le_refl _) _
  have hx := Box.new w A l.length c r 32
  have hA := hA.below hb0
  have hM := hM.below hb0
  go_enter Tryd.func37, Tryd.ntmps37
  go_wp2_with fail
  generalize w.alloc (.cells #[.slice A l.length c, .int .i64 r] 32) = W at *
  refine (laAsked_any _ _ _ _ _ _ _ _ hn hA hm hd hd' hM).mono ?_
  rintro e w1 ⟨rfl, hb1⟩
  have hB1 := hb0.trans (hb1.mono hb0.size)
  have hx := hx.below hb1
  cases hg : (gdI l r && H.goodB m) with
  | false =>
    go_wp2
    go_ret2
    rw [hg]
    exact ⟨_, rfl, by simpa using OwnI.nil w1 w.heap.size 3, hB1⟩
  | true =>
    have HG := Lib.hid hg
    have h60 := ((H.goodB_iff m).1 (by simp at hg; exact hg.2)).2
    have h20 := ((gdI_iff l r).1 (by simp at hg; exact hg.1)).1
    clear hg
    go_wp2_with fail
    refine (H.laTracks_any _ _ _ _ (by omega) (hM.below hb1)).mono ?_
    rintro e w2 ⟨v2, rfl, ho2, hb2⟩
    have hx := hx.below hb2
    have HB2 := Lib.hid (hB1.trans (hb2.mono hB1.size))
    obtain ⟨U, uc, rfl, hUr⟩ := ho2.form2
    have HU := Lib.hid hUr
    have hul := H.tracksL_length m
    obtain ⟨x0, x1, xl⟩ := hx
    clear ho2 hUr hb1 hb2 hB1 hb0 hA hM
    go_wp2_with fail
    go_loopw [7, 18] (fun a i wr => ∃ k : Nat, k ≤ l.length ∧ i = .int .i64 k ∧ OwnI wr w2.heap.size 3 a (spN (H.tracksL m) k) ∧ Below w2.heap.size w2 wr)
      (fun _ i _ => l.length - (intOf i).toNat)
    case atStart => exact ⟨0, Nat.zero_le _, rfl, OwnI.nil _ _ _, Below.refl _ _⟩
    case round =>
      obtain ⟨k, hk, rfl, hown, hb⟩ := hrel
      have HO := Lib.hid hown
      clear hown
      by_cases hlt : k < l.length
      · have HS := Lib.hid (spN_succ (H.tracksL m) k)
        have hsz := spN_length (H.tracksL m) k
        have hU := HU.out.below hb
        have HCC := Lib.hid (l1Has_any U (H.tracksL m) uc (k : Int) wr (by omega) hU)
        go_wp2_with fail
        refine HCC.out.mono ?_
        rintro e w5 ⟨rfl, hb5⟩
        clear hU HCC
        have HB5 := Lib.hid (hb.trans (hb5.mono hb.size))
        have HO5 := Lib.hid (HO.out.below hb5 (Nat.le_refl _))
        clear hb hb5 HO
        cases hh : hasB (H.tracksL m) (k : Int) with
        | false =>
          have hbr3 := Lib.hid (show Below w2.heap.size w2 (w5.alloc (.cells #[.int .i64 (k : Int)] 3)) from HB5.out.alloc HB5.out.size _)
          have ho3 := Lib.hid (HO5.out.below ((Below.refl _ _).alloc (Nat.le_refl _) (.cells #[.int .i64 (k : Int)] 3)) (Nat.le_refl _))
          have hc3 := Lib.hid (one_new w5 (k : Int))
          go_wp2_with (at_builtin; go_loud (refine wpList_appI _ rfl (.tmp 25) (.tmp 27) rfl w2.heap.size _ _ rfl ho3.out (some ⟨w5.heap.size, 0, none⟩) 1 1 [(k : Int)] rfl rfl (fun h => by cases h) (fun j y hy => one_at hc3.out hy) (by simp; omega) hbr3.out.size ?_; intro v4 w4 ho4 hg4 hv4))
          go_roundw
          case rel =>
            refine ⟨k + 1, by omega, by go_num, ?_, hbr3.out.grown hg4 hbr3.out.size (fun j hj => (ho3.out.lt j hj).1)⟩
            rw [HS.out, if_neg (by rw [hh]; simp)]
            exact ho4
          case measure => simp [intOf]; omega
        | true =>
          go_wp2
          go_roundw
          case rel =>
            refine ⟨k + 1, by omega, by go_num, ?_, HB5.out⟩
            rw [HS.out, if_pos hh, List.append_nil]
            exact HO5.out
          case measure => simp [intOf]; omega
      · obtain rfl : k = l.length := by omega
        go_wp2
        go_ret2
        rw [HG.out]
        exact ⟨_, rfl, by simpa [spareL] using HO.out.mono HB2.out.size, HB2.out.trans (hb.mono HB2.out.size)⟩

set_option maxRecDepth 100000 in
set_option maxHeartbeats 4000000 in
theorem implSpare_any (A : Option Addr) (l : List Int) (c : Nat) (r : Int) (M : Option Addr) (m : List Nt) (d : Nat) (w : World) (hn : l.length ≤ 1048576) (hA : RI w A l) (hm : m.length ≤ 1048576) (hd : m.length ≤ d) (hd' : d ≤ 9223372036854775807) (hM : RA w M m) (hL : Lim w) :
    Calls Tryd.prog 38 #[.agg #[.slice A l.length c, .int .i64 r], .slice M m.length d] w fun e w' => RetI w (spareL l m) (gdI l r && H.goodB m) e w' := by
  have hb0 : Below w.heap.size w (w.alloc (.cells #[.slice A l.length c, .int .i64 r] 32)) := (Below.refl w.heap.size w).alloc (Nat.le_refl _) _
  have hx := Box.new w A l.length c r 32
  have hA := hA.below hb0
  have hM := hM.below hb0
  have hL := hL.below hb0
  go_enter Tryd.func38, Tryd.ntmps38
  go_wp2_with fail
  generalize w.alloc (.cells #[.slice A l.length c, .int .i64 r] 32) = W at *
  refine (H.implTracks_any _ _ _ _ hm hM).mono ?_
  rintro e w1 ⟨v1, rfl, ho1, hb1⟩
  have HB1 := Lib.hid (hb0.trans (hb1.mono hb0.size))
  have hx := hx.below hb1
  cases hgm : H.goodB m with
  | false =>
    rw [hgm] at ho1
    simp only [Bool.false_eq_true, if_false] at ho1
    obtain ⟨U, uc, rfl, hUr⟩ := ho1.form2
    have HB := Lib.hid hgm
    clear hUr ho1 hgm
    go_wp2
    go_ret2
    rw [HB.out, Bool.and_false]
    exact ⟨_, rfl, by simpa using OwnI.nil w1 w.heap.size 3, HB1.out⟩
  | true =>
    rw [hgm] at ho1
    simp only [if_true] at ho1
    obtain ⟨U, uc, rfl, hUr⟩ := ho1.form2
    have h60 := ((H.goodB_iff m).1 hgm).2
    obtain ⟨x0, x1, xl⟩ := id hx
    have HB := Lib.hid hgm
    clear ho1 hgm
    go_wp2_with fail
    refine (isIns_any _ _ _ _ _ hn (hA.below hb1) (hL.below hb1)).mono ?_
    rintro e w2 ⟨rfl, hb2⟩
    have hx := hx.below hb2
    have HB2 := Lib.hid (HB1.out.trans (hb2.mono HB1.out.size))
    have HU := Lib.hid (hUr.below hb2)
    clear x0 x1 xl hUr hb1 hb2 hb0 hA hM hL
    cases hg : gdI l r with
    | false =>
      go_wp2
      go_ret2
      rw [hg, Bool.false_and]
      exact ⟨_, rfl, by simpa using OwnI.nil w2 w.heap.size 3, HB2.out⟩
    | true =>
      have h20 := ((gdI_iff l r).1 hg).1
      have HG := Lib.hid (show (gdI l r && H.goodB m) = true from by rw [hg, HB.out]; rfl)
      clear hg
      have hul := H.tracksL_length m
      obtain ⟨x0, x1, xl⟩ := hx
      go_wp2_with fail
      go_loopw [8, 25] (fun a i wr => ∃ k : Nat, k ≤ l.length ∧ i = .int .i64 k ∧ OwnI wr w2.heap.size 3 a (spN (H.tracksL m) k) ∧ Below w2.heap.size w2 wr)
        (fun _ i _ => l.length - (intOf i).toNat)
      case atStart => exact ⟨0, Nat.zero_le _, rfl, OwnI.nil _ _ _, Below.refl _ _⟩
      case round =>
        obtain ⟨k, hk, rfl, hown, hb⟩ := hrel
        have HO := Lib.hid hown
        clear hown
        by_cases hlt : k < l.length
        · have HS := Lib.hid (spN_succ (H.tracksL m) k)
          have hsz := spN_length (H.tracksL m) k
          have hU := HU.out.below hb
          have HCC := Lib.hid ((contains_any U (H.tracksL m) uc (k : Int) wr (by omega) hU).mono fun e w' h => (show _ ∧ Below wr.heap.size wr w' from ⟨h.1, by rw [h.2]; exact Below.refl _ _⟩))
          go_wp2_with fail
          refine HCC.out.mono ?_
          rintro e w5 ⟨rfl, hb5⟩
          clear hU HCC
          have HB5 := Lib.hid (hb.trans (hb5.mono hb.size))
          have HO5 := Lib.hid (HO.out.below hb5 (Nat.le_refl _))
          clear hb hb5 HO
          cases hh : hasB (H.tracksL m) (k : Int) with
          | false =>
            have hbr3 := Lib.hid (show Below w2.heap.size w2 (w5.alloc (.cells #[.int .i64 (k : Int)] 3)) from HB5.out.alloc HB5.out.size _)
            have ho3 := Lib.hid (HO5.out.below ((Below.refl _ _).alloc (Nat.le_refl _) (.cells #[.int .i64 (k : Int)] 3)) (Nat.le_refl _))
            have hc3 := Lib.hid (one_new w5 (k : Int))
            go_wp2_with (at_builtin; go_loud (refine wpList_appI _ rfl (.tmp 32) (.tmp 34) rfl w2.heap.size _ _ rfl ho3.out (some ⟨w5.heap.size, 0, none⟩) 1 1 [(k : Int)] rfl rfl (fun h => by cases h) (fun j y hy => one_at hc3.out hy) (by simp; omega) hbr3.out.size ?_; intro v4 w4 ho4 hg4 hv4))
            go_roundw
            case rel =>
              refine ⟨k + 1, by omega, by go_num, ?_, hbr3.out.grown hg4 hbr3.out.size (fun j hj => (ho3.out.lt j hj).1)⟩
              rw [HS.out, if_neg (by rw [hh]; simp)]
              exact ho4
            case measure => simp [intOf]; omega
          | true =>
            go_wp2
            go_roundw
            case rel =>
              refine ⟨k + 1, by omega, by go_num, ?_, HB5.out⟩
              rw [HS.out, if_pos hh, List.append_nil]
              exact HO5.out
            case measure => simp [intOf]; omega
        · obtain rfl : k = l.length := by omega
          go_wp2
          go_ret2
          rw [HG.out]
          exact ⟨_, rfl, by simpa [spareL] using HO.out.mono HB2.out.size, HB2.out.trans (hb.mono HB2.out.size)⟩

end Go.Proofs.YtkfgmkgbicahgaaDoor
