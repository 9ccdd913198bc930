/- Contracts: the model's MoveSheet, ReverseSheet, MirrorTracks, CutSheet. -/
import Derived.Test.YtjjohenpapfabaaSuits
import Derived.Test.YtjjohenpapfabaaAddH
namespace Go.Proofs.Ytjjohenpapfabaa
open Go.RowKit Go.Sort
set_option linter.unusedVariables false
set_option linter.unusedSimpArgs false

set_option maxHeartbeats 400000 in
theorem l1Least_any (a b : Int) (w : World) :
    Calls Try.prog 93 #[.int .i64 a, .int .i64 b] w fun e w' => e = .returned (.int .i64 (mnI a b)) ∧ w = w' := by
  by_cases h : a < b
  all_goals by_cases h' : b < a
  all_goals
    go_enter Try.func93, Try.ntmps93
    go_wp2
    all_goals (go_ret; exact ⟨ret_int (by unfold mnI; split <;> omega), rfl⟩)

theorem map_snoc (g : Nt → Nt) (l : List Nt) (k : Nat) (x : Nt) (h : l[k]? = some x) : (l.take (k + 1)).map g = (l.take k).map g ++ [g x] := by
  rw [List.take_add_one, h, List.map_append]
  rfl

set_option maxRecDepth 100000 in
set_option maxHeartbeats 4000000 in
theorem specMove_any (A : Option Addr) (l : List Nt) (c : Nat) (b : Int) (w : World) (hn : l.length ≤ 1048576) (hc : l.length ≤ c) (hc' : c ≤ 9223372036854775807) (hA : RA w A l) :
    Calls Try.prog 45 #[.slice A l.length c, .int .i64 b] w fun e w' => RetScore w (l.map (moveN b)) (goodB l && (inR b (-2000) 2000 && goodB (l.map (moveN b)))) e w' := by
  cases hgb : goodB l with
  | false =>
    have HG := shGood_quick A l c false hn hc hc' hgb
    clear hgb
    go_enter Try.func45, Try.ntmps45
    go_wp2_with (go_at_call 64; refine (HG.out _ hA).mono ?_; rintro e w1 ⟨rfl, hb1⟩)
    go_ret2
    exact ⟨_, rfl, by simpa using Own.nil _ _ _, hb1⟩
  | true =>
    have hGd := (goodB_iff l).1 hgb
    have h60 := hGd.2
    have hG := Lib.hid hGd
    have HG := shGood_quick A l c true hn hc hc' hgb
    clear hgb hGd
    cases hin : inR b (-2000) 2000 with
    | false =>
      go_enter Try.func45, Try.ntmps45
      go_wp2_with fail
      refine (HG.out _ hA).mono ?_
      rintro e w2 ⟨rfl, hb1⟩
      go_wp2_with fail
      refine (l1In_any _ _ _ _).mono ?_
      rintro e w2q ⟨rfl, rfl⟩
      rw [hin]
      go_wp2
      go_ret2
      exact ⟨_, rfl, by simpa using Own.nil _ _ _, hb1⟩
    | true =>
      obtain ⟨in1, in2⟩ := inR_iff.1 hin
      go_enter Try.func45, Try.ntmps45
      go_wp2_with fail
      refine (HG.out _ hA).mono ?_
      rintro e w2 ⟨rfl, hb1⟩
      go_wp2_with fail
      refine (l1In_any _ _ _ _).mono ?_
      rintro e w2q ⟨rfl, rfl⟩
      rw [hin]
      have hA2 := hA.below hb1
      have HB2 := Lib.hid hb1
      clear hA hb1
      clear hin
      go_wp2
      go_loopw [6, 19] (fun a i wr => ∃ (k : Nat) (v : Value), k ≤ l.length ∧ i = .int .i64 k ∧ a = v ∧ Own wr w2.heap.size 34 v ((l.take k).map (moveN b)) ∧ Below w2.heap.size w2 wr)
        (fun _ i _ => l.length - (intOf i).toNat)
      case atStart => exact ⟨0, _, Nat.zero_le _, rfl, rfl, by simpa using Own.nil _ _ _, Below.refl _ _⟩
      case round =>
        obtain ⟨k, v, hk, rfl, hvv, hown, hb⟩ := hrel
        replace hvv := hvv.symm
        subst hvv
        by_cases hkl : k < l.length
        · have hx : l[k]? = some l[k] := List.getElem?_eq_getElem hkl
          generalize l[k] = x at hx
          have hsn := map_snoc (moveN b) l k x hx
          have hv := (noteN_iff x).1 (hG.out.valid x (List.mem_iff_getElem?.2 ⟨k, hx⟩))
          have hlen : ((l.take k).map (moveN b)).length ≤ 60 := by simp; omega
          obtain ⟨g1, o, rfl, hgb, h0, h1, h2⟩ := (hA2.below hb) k _ hx
          obtain ⟨p, s, n⟩ := x
          simp only at h0 h1 h2 hv
          have i1 : (0 : Int) ≤ (k : Int) := by omega
          have i2 : (k : Int) < (l.length : Int) := by omega
          have HSN := Lib.hid hsn
          have HO := Lib.hid hown
          have HLEN := Lib.hid hlen
          clear hsn hx hown hlen
          go_wp2_with (at_builtin; refine wpList_appHole _ rfl (.tmp 23) (.tmp 35) rfl w2.heap.size v _ rfl ((HO.out.alloc _).alloc _) (some ⟨wr.heap.size + 1, 0, none⟩) 1 1 [(moveN b) (p, s, n)] rfl rfl (fun h => by cases h) (RA.one (heap_two _ _ _)) (by have := HLEN.out; omega) (by simp; have := hb.size; omega) ?_; intro v4 w4 ho4 hg4; have HO4 := Lib.hid ho4; have HB4 := Lib.hid (((hb.alloc hb.size _).alloc (by simp; have := hb.size; omega) _).grown hg4 (by simp; have := hb.size; omega) (fun j hj => (HO.out.lt j hj).1)); clear ho4 hg4)
          go_roundw
          case rel => exact ⟨k + 1, _, by omega, by go_num, rfl, by rw [HSN.out]; exact HO4.out, HB4.out⟩
          case measure => simp [intOf]; omega
        · obtain rfl : k = l.length := by omega
          rw [List.take_length] at hown
          have hlen : (l.map (moveN b)).length = l.length := List.length_map ..
          have hbs := hb.size
          have hown0 := hown
          obtain ⟨A', c', hvf, hA', hc1, hc2⟩ := hown.form_n hlen
          subst hvf
          unfold maxLen at hc2
          have HN : (l.map (moveN b)).length ≤ 1048576 := by omega
          cases hq : goodB (l.map (moveN b)) with
          | false =>
            have HG2 := ntGood_any A' (l.map (moveN b)) c' wr HN (by omega) (by omega) hA'
            rw [hlen, hq] at HG2
            have HG2 := Lib.hid HG2
            go_wp2_with fail
            refine HG2.out.mono ?_
            rintro e w3 ⟨rfl, hb3⟩
            go_wp2
            go_ret2
            rw [hq]
            exact RetScore.mono (B' := w2) ⟨_, rfl, by simpa using Own.nil _ _ _, hb.trans (hb3.mono hb.size)⟩ HB2.out
          | true =>
            have HG2 := ntGood_any A' (l.map (moveN b)) c' wr HN (by omega) (by omega) hA'
            rw [hlen, hq] at HG2
            have HG2 := Lib.hid HG2
            go_wp2_with fail
            refine HG2.out.mono ?_
            rintro e w3 ⟨rfl, hb3⟩
            go_wp2
            go_ret2
            rw [hq]
            exact RetScore.mono (B' := w2) ⟨_, rfl, by simpa using hown0.below hb3 (Nat.le_refl _), hb.trans (hb3.mono hb.size)⟩ HB2.out

set_option maxRecDepth 100000 in
set_option maxHeartbeats 4000000 in
theorem specReverse_any (A : Option Addr) (l : List Nt) (c : Nat) (m : Int) (w : World) (hn : l.length ≤ 1048576) (hc : l.length ≤ c) (hc' : c ≤ 9223372036854775807) (hA : RA w A l) :
    Calls Try.prog 47 #[.slice A l.length c, .int .i64 m] w fun e w' => RetScore w (canon (l.map (revN m))) (goodB l && (inR m (endOf l) 2000 && goodB (canon (l.map (revN m))))) e w' := by
  cases hgb : goodB l with
  | false =>
    have HG := shGood_quick A l c false hn hc hc' hgb
    clear hgb
    go_enter Try.func47, Try.ntmps47
    go_wp2_with (go_at_call 64; refine (HG.out _ hA).mono ?_; rintro e w1 ⟨rfl, hb1⟩)
    go_ret2
    exact ⟨_, rfl, by simpa using Own.nil _ _ _, hb1⟩
  | true =>
    have hGd := (goodB_iff l).1 hgb
    have h60 := hGd.2
    have hG := Lib.hid hGd
    have HG := shGood_quick A l c true hn hc hc' hgb
    clear hgb hGd
    cases hin : inR m (endOf l) 2000 with
    | false =>
      go_enter Try.func47, Try.ntmps47
      go_wp2_with fail
      refine (HG.out _ hA).mono ?_
      rintro e w1 ⟨rfl, hb1⟩
      go_wp2_with fail
      refine (shLength_any _ _ _ _ hn (hA.below hb1)).mono ?_
      rintro e w2 ⟨rfl, hb1b⟩
      have hb1 := hb1.trans (hb1b.mono hb1.size)
      clear hb1b
      go_wp2_with fail
      refine (l1In_any _ _ _ _).mono ?_
      rintro e w2q ⟨rfl, rfl⟩
      rw [hin]
      go_wp2
      go_ret2
      exact ⟨_, rfl, by simpa using Own.nil _ _ _, hb1⟩
    | true =>
      obtain ⟨in1, in2⟩ := inR_iff.1 hin
      have hbd := endOf_bound hG.out
      go_enter Try.func47, Try.ntmps47
      go_wp2_with fail
      refine (HG.out _ hA).mono ?_
      rintro e w1 ⟨rfl, hb1⟩
      go_wp2_with fail
      refine (shLength_any _ _ _ _ hn (hA.below hb1)).mono ?_
      rintro e w2 ⟨rfl, hb1b⟩
      have hb1 := hb1.trans (hb1b.mono hb1.size)
      clear hb1b
      go_wp2_with fail
      refine (l1In_any _ _ _ _).mono ?_
      rintro e w2q ⟨rfl, rfl⟩
      rw [hin]
      have hA2 := hA.below hb1
      have HB2 := Lib.hid hb1
      clear hA hb1
      clear hin
      go_wp2
      go_loopw [6, 21] (fun a i wr => ∃ (k : Nat) (v : Value), k ≤ l.length ∧ i = .int .i64 k ∧ a = v ∧ Own wr w2.heap.size 34 v ((l.take k).map (revN m)) ∧ Below w2.heap.size w2 wr)
        (fun _ i _ => l.length - (intOf i).toNat)
      case atStart => exact ⟨0, _, Nat.zero_le _, rfl, rfl, by simpa using Own.nil _ _ _, Below.refl _ _⟩
      case round =>
        obtain ⟨k, v, hk, rfl, hvv, hown, hb⟩ := hrel
        replace hvv := hvv.symm
        subst hvv
        by_cases hkl : k < l.length
        · have hx : l[k]? = some l[k] := List.getElem?_eq_getElem hkl
          generalize l[k] = x at hx
          have hsn := map_snoc (revN m) l k x hx
          have hv := (noteN_iff x).1 (hG.out.valid x (List.mem_iff_getElem?.2 ⟨k, hx⟩))
          have hlen : ((l.take k).map (revN m)).length ≤ 60 := by simp; omega
          obtain ⟨g1, o, rfl, hgb, h0, h1, h2⟩ := (hA2.below hb) k _ hx
          obtain ⟨p, s, n⟩ := x
          simp only at h0 h1 h2 hv
          have i1 : (0 : Int) ≤ (k : Int) := by omega
          have i2 : (k : Int) < (l.length : Int) := by omega
          have HSN := Lib.hid hsn
          have HO := Lib.hid hown
          have HLEN := Lib.hid hlen
          clear hsn hx hown hlen
          go_wp2_with (at_builtin; refine wpList_appHole _ rfl (.tmp 25) (.tmp 37) rfl w2.heap.size v _ rfl ((HO.out.alloc _).alloc _) (some ⟨wr.heap.size + 1, 0, none⟩) 1 1 [(revN m) (p, s, n)] rfl rfl (fun h => by cases h) (RA.one (heap_two _ _ _)) (by have := HLEN.out; omega) (by simp; have := hb.size; omega) ?_; intro v4 w4 ho4 hg4; have HO4 := Lib.hid ho4; have HB4 := Lib.hid (((hb.alloc hb.size _).alloc (by simp; have := hb.size; omega) _).grown hg4 (by simp; have := hb.size; omega) (fun j hj => (HO.out.lt j hj).1)); clear ho4 hg4)
          go_roundw
          case rel => exact ⟨k + 1, _, by omega, by go_num, rfl, by rw [HSN.out]; exact HO4.out, HB4.out⟩
          case measure => simp [intOf]; omega
        · obtain rfl : k = l.length := by omega
          rw [List.take_length] at hown
          have hlen : (l.map (revN m)).length = l.length := List.length_map ..
          have hbs := hb.size
          obtain ⟨A', c', hvf, hA', hc1, hc2⟩ := hown.form_n hlen
          subst hvf
          go_wp2_with fail
          refine (shSorted_n A' (l.map (revN m)) l.length c' _ hlen (by omega) hA').mono ?_
          rintro e w3 ⟨u, rfl, ho3, hb3⟩
          go_wp2
          go_ret2
          exact RetScore.mono (B' := w2) ⟨_, rfl, by simpa using ho3.mono hbs, hb.trans (hb3.mono hb.size)⟩ HB2.out

set_option maxRecDepth 100000 in
set_option maxHeartbeats 4000000 in
theorem specMirror_any (A : Option Addr) (l : List Nt) (c : Nat)  (w : World) (hn : l.length ≤ 1048576) (hc : l.length ≤ c) (hc' : c ≤ 9223372036854775807) (hA : RA w A l) :
    Calls Try.prog 49 #[.slice A l.length c] w fun e w' => RetScore w (canon (l.map mirN)) (goodB l && (true && goodB (canon (l.map mirN)))) e w' := by
  cases hgb : goodB l with
  | false =>
    have HG := shGood_quick A l c false hn hc hc' hgb
    clear hgb
    go_enter Try.func49, Try.ntmps49
    go_wp2_with (go_at_call 64; refine (HG.out _ hA).mono ?_; rintro e w1 ⟨rfl, hb1⟩)
    go_ret2
    exact ⟨_, rfl, by simpa using Own.nil _ _ _, hb1⟩
  | true =>
    have hGd := (goodB_iff l).1 hgb
    have h60 := hGd.2
    have hG := Lib.hid hGd
    have HG := shGood_quick A l c true hn hc hc' hgb
    clear hgb hGd
    go_enter Try.func49, Try.ntmps49
    go_wp2_with fail
    refine (HG.out _ hA).mono ?_
    rintro e w2 ⟨rfl, hb1⟩
    have hA2 := hA.below hb1
    have HB2 := Lib.hid hb1
    clear hA hb1
    go_wp2
    go_loopw [4, 12] (fun a i wr => ∃ (k : Nat) (v : Value), k ≤ l.length ∧ i = .int .i64 k ∧ a = v ∧ Own wr w2.heap.size 34 v ((l.take k).map mirN) ∧ Below w2.heap.size w2 wr)
      (fun _ i _ => l.length - (intOf i).toNat)
    case atStart => exact ⟨0, _, Nat.zero_le _, rfl, rfl, by simpa using Own.nil _ _ _, Below.refl _ _⟩
    case round =>
      obtain ⟨k, v, hk, rfl, hvv, hown, hb⟩ := hrel
      replace hvv := hvv.symm
      subst hvv
      by_cases hkl : k < l.length
      · have hx : l[k]? = some l[k] := List.getElem?_eq_getElem hkl
        generalize l[k] = x at hx
        have hsn := map_snoc mirN l k x hx
        have hv := (noteN_iff x).1 (hG.out.valid x (List.mem_iff_getElem?.2 ⟨k, hx⟩))
        have hlen : ((l.take k).map mirN).length ≤ 60 := by simp; omega
        obtain ⟨g1, o, rfl, hgb, h0, h1, h2⟩ := (hA2.below hb) k _ hx
        obtain ⟨p, s, n⟩ := x
        simp only at h0 h1 h2 hv
        have i1 : (0 : Int) ≤ (k : Int) := by omega
        have i2 : (k : Int) < (l.length : Int) := by omega
        have HSN := Lib.hid hsn
        have HO := Lib.hid hown
        have HLEN := Lib.hid hlen
        clear hsn hx hown hlen
        go_wp2_with (at_builtin; refine wpList_appHole _ rfl (.tmp 16) (.tmp 25) rfl w2.heap.size v _ rfl ((HO.out.alloc _).alloc _) (some ⟨wr.heap.size + 1, 0, none⟩) 1 1 [mirN (p, s, n)] rfl rfl (fun h => by cases h) (RA.one (heap_two _ _ _)) (by have := HLEN.out; omega) (by simp; have := hb.size; omega) ?_; intro v4 w4 ho4 hg4; have HO4 := Lib.hid ho4; have HB4 := Lib.hid (((hb.alloc hb.size _).alloc (by simp; have := hb.size; omega) _).grown hg4 (by simp; have := hb.size; omega) (fun j hj => (HO.out.lt j hj).1)); clear ho4 hg4)
        go_roundw
        case rel => exact ⟨k + 1, _, by omega, by go_num, rfl, by rw [HSN.out]; exact HO4.out, HB4.out⟩
        case measure => simp [intOf]; omega
      · obtain rfl : k = l.length := by omega
        rw [List.take_length] at hown
        have hlen : (l.map mirN).length = l.length := List.length_map ..
        have hbs := hb.size
        obtain ⟨A', c', hvf, hA', hc1, hc2⟩ := hown.form_n hlen
        subst hvf
        go_wp2_with fail
        refine (shSorted_n A' (l.map mirN) l.length c' _ hlen (by omega) hA').mono ?_
        rintro e w3 ⟨u, rfl, ho3, hb3⟩
        go_wp2
        go_ret2
        exact RetScore.mono (B' := w2) ⟨_, rfl, by simpa using ho3.mono hbs, hb.trans (hb3.mono hb.size)⟩ HB2.out

end Go.Proofs.Ytjjohenpapfabaa
