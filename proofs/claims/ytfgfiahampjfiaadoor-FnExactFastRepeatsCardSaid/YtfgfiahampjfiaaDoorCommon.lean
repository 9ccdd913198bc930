/- CommonPitches: the model's and the program's functions have one answer, in memory of their own. -/
import Derived.Test.YtfgfiahampjfiaaDoorInsF
import Derived.Test.YtfgfiahampjfiaaDoorPut
namespace Go.Proofs.YtfgfiahampjfiaaDoor
open Go.RowKit Go.Sort
set_option linter.unusedVariables false
set_option linter.unusedSimpArgs false

/-- A call returned numbers of its own, or nil and false; below the heap's old size nothing has turned. -/
def RetI (B : World) (l : List Int) (ok : Bool) (e : Ending) (w' : World) : Prop :=
  ∃ v, e = .returned (.tuple #[v, .bool ok]) ∧ OwnI w' B.heap.size 3 v (if ok = true then l else []) ∧ Below B.heap.size B w'
/-- The numbers of a list that another one has. -/
def comL (m : List Int) (l : List Int) : List Int := l.filter (hasB m)
theorem comL_snoc (m l : List Int) (k : Nat) (x : Int) (h : l[k]? = some x) : comL m (l.take (k + 1)) = comL m (l.take k) ++ (if hasB m x = true then [x] else []) := by
  unfold comL
  rw [List.take_add_one, h, List.filter_append]
  congr 1
  simp [List.filter_cons]
theorem comL_length (m l : List Int) : (comL m l).length ≤ l.length := List.length_filter_le _ _
theorem trk_has (m : List Int) (x : Int) : hasB m x = decide (0 ≤ trk x m) := hasB_trk m x

set_option maxRecDepth 100000 in
set_option maxHeartbeats 2000000 in
theorem specCommon_any (A B : Option Addr) (l m : List Int) (c d : Nat) (r s : Int) (w : World) (hn : l.length ≤ 1048576) (hm : m.length ≤ 1048576) (hA : RI w A l) (hB : RI w B m) :
    Calls Tryd.prog 48 #[.agg #[.slice A l.length c, .int .i64 r], .agg #[.slice B m.length d, .int .i64 s]] w fun e w' => RetI w (comL m l) (gdI l r && gdI m s) e w' := by
  have hb0 : Below w.heap.size w ((w.alloc (.cells #[.slice A l.length c, .int .i64 r] 27)).alloc (.cells #[.slice B m.length d, .int .i64 s] 27)) := ((Below.refl _ _).alloc (Nat.le_refl _) _).alloc (by simp) _
  have hxA : Box ((w.alloc (.cells #[.slice A l.length c, .int .i64 r] 27)).alloc (.cells #[.slice B m.length d, .int .i64 s] 27)) w.heap.size A l.length c r := (Box.new w A l.length c r _).below ((Below.refl _ _).alloc (Nat.le_refl _) _)
  have hxB : Box ((w.alloc (.cells #[.slice A l.length c, .int .i64 r] 27)).alloc (.cells #[.slice B m.length d, .int .i64 s] 27)) (w.heap.size + 1) B m.length d s := by
    rw [show w.heap.size + 1 = (w.alloc (.cells #[.slice A l.length c, .int .i64 r] 27)).heap.size by simp]
    exact Box.new _ B m.length d s _
  go_enter Tryd.func48, Tryd.ntmps48
  go_wp2_with fail
  have hA0 := hA.below hb0
  have hB0 := hB.below hb0
  generalize ((w.alloc (.cells #[.slice A l.length c, .int .i64 r] 27)).alloc (.cells #[.slice B m.length d, .int .i64 s] 27)) = W at *
  refine (inGood_any _ _ _ _ _ hn hA0).mono ?_
  rintro e w1 ⟨rfl, hb1⟩
  have hBB1 := hb0.trans (hb1.mono hb0.size)
  have hxA1 := hxA.below hb1
  have hxB1 := hxB.below hb1
  have hA1 := hA0.below hb1
  have hB1 := hB0.below hb1
  cases hg : gdI l r with
  | false =>
    have HG := Lib.hid hg
    go_wp2
    go_ret2
    rw [HG.out, Bool.false_and]
    exact ⟨_, rfl, by simpa using OwnI.nil w1 w.heap.size 3, hBB1⟩
  | true =>
    obtain ⟨x10, x11, hz1⟩ := id hxA1
    obtain ⟨y10, y11, hy1⟩ := id hxB1
    clear hxA hxB hA0 hB0 hb1
    go_wp2_with fail
    refine (inGood_any _ _ _ _ _ hm hB1).mono ?_
    rintro e w2 ⟨rfl, hb2⟩
    have hBB2 := hBB1.trans (hb2.mono hBB1.size)
    have hxA2 := hxA1.below hb2
    have hxB2 := hxB1.below hb2
    have hA2 := hA1.below hb2
    have hB2 := hB1.below hb2
    clear hxA1 hxB1 hA1 hB1 hb2 x10 x11 hz1 y10 y11 hy1
    cases hg' : gdI m s with
    | false =>
      have HG := Lib.hid hg'
      go_wp2
      go_ret2
      rw [HG.out, Bool.and_false]
      exact ⟨_, rfl, by simpa using OwnI.nil w2 w.heap.size 3, hBB2⟩
    | true =>
      have hl20 := ((gdI_iff l r).1 hg).1.2
      have HG := Lib.hid hg
      have HG' := Lib.hid hg'
      clear hg hg'
      obtain ⟨x20, x21, hz2⟩ := id hxA2
      go_wp2_with fail
      clear x20 x21 hz2
      go_loopw [6, 20] (fun a i wr => ∃ k : Nat, k ≤ l.length ∧ i = .int .i64 k ∧ OwnI wr w2.heap.size 3 a (comL m (l.take k)) ∧ Below w2.heap.size w2 wr)
        (fun _ i _ => l.length - (intOf i).toNat)
      case atStart => exact ⟨0, Nat.zero_le _, rfl, OwnI.nil _ _ _, Below.refl _ _⟩
      case round =>
        obtain ⟨k, hk, rfl, hown, hb⟩ := hrel
        have HO := Lib.hid hown
        clear hown
        by_cases hlt : k < l.length
        · have hx : l[k]? = some l[k] := List.getElem?_eq_getElem hlt
          generalize l[k] = x at hx
          have hs := comL_snoc m l k x hx
          obtain ⟨g, o, rfl, hgb, h0⟩ := (hA2.below hb) k _ hx
          obtain ⟨y0, y1, hy⟩ := hxB2.below hb
          have hBr := hB2.below hb
          have i1 : (0 : Int) ≤ (k : Int) := by omega
          have i2 : (k : Int) < (l.length : Int) := by omega
          have HS := Lib.hid hs
          clear hs hx
          have hsz : (comL m (l.take k)).length ≤ 20 := by have := comL_length m (l.take k); simp at this; omega
          cases hh : hasB m x with
          | true =>
            have HH := Lib.hid hh
            have ht : (0 : Int) ≤ trk x m := by have := hasB_trk m x; rw [hh] at this; simpa using this.symm
            clear hh
            go_wp2_with (first
              | (go_at_call 64; refine (inTrack_any _ _ _ _ _ _ hm hBr).mono ?_; rintro e w3 ⟨rfl, hb3⟩; have hbr3 := Lib.hid (show Below wr.heap.size wr (w3.alloc (.cells #[.int .i64 x] 3)) from hb3.alloc hb3.size _); have ho3 := Lib.hid (HO.out.below hbr3.out (Nat.le_refl _)); have hc3 := Lib.hid (one_new w3 x))
              | (at_builtin; go_loud (refine wpList_appI _ rfl (.tmp 28) (.tmp 30) rfl w2.heap.size _ _ rfl ho3.out (some ⟨w3.heap.size, 0, none⟩) 1 1 [x] rfl rfl (fun h => by cases h) (fun j y hy => one_at hc3.out hy) (by simp; omega) (Nat.le_trans hb.size hbr3.out.size) ?_); intro v4 w4 ho4 hg4 hv4))
            go_roundw
            case rel =>
              refine ⟨k + 1, by omega, by go_num, ?_, (hb.trans (hbr3.out.mono hb.size)).grown hg4 (Nat.le_trans hb.size hbr3.out.size) (fun j hj => (ho3.out.lt j hj).1)⟩
              rw [HS.out, if_pos HH.out]
              exact ho4
            case measure => simp [intOf]; omega
          | false =>
            have HH := Lib.hid hh
            have ht : ¬ ((0 : Int) ≤ trk x m) := by have := hasB_trk m x; rw [hh] at this; simpa using this.symm
            clear hh
            go_wp2_with (go_at_call 64; refine (inTrack_any _ _ _ _ _ _ hm hBr).mono ?_; rintro e w3 ⟨rfl, hb3⟩)
            go_roundw
            case rel =>
              refine ⟨k + 1, by omega, by go_num, ?_, hb.trans (hb3.mono hb.size)⟩
              rw [HS.out, if_neg (by rw [HH.out]; simp), List.append_nil]
              exact HO.out.below hb3 (Nat.le_refl _)
            case measure => simp [intOf]; omega
        · obtain rfl : k = l.length := by omega
          rw [List.take_length] at HO
          go_wp2
          go_ret2
          rw [HG.out, HG'.out, Bool.and_true]
          exact ⟨_, rfl, by simpa using HO.out.mono hBB2.size, hBB2.trans (hb.mono hBB2.size)⟩

set_option maxRecDepth 100000 in
set_option maxHeartbeats 2000000 in
theorem implCommon_any (A B : Option Addr) (l m : List Int) (c d : Nat) (r s : Int) (w : World) (hn : l.length ≤ 1048576) (hm : m.length ≤ 1048576) (hA : RI w A l) (hB : RI w B m) (hL : Lim w) :
    Calls Tryd.prog 49 #[.agg #[.slice A l.length c, .int .i64 r], .agg #[.slice B m.length d, .int .i64 s]] w fun e w' => RetI w (comL m l) (gdI l r && gdI m s) e w' := by
  have hb0 : Below w.heap.size w ((w.alloc (.cells #[.slice A l.length c, .int .i64 r] 27)).alloc (.cells #[.slice B m.length d, .int .i64 s] 27)) := ((Below.refl _ _).alloc (Nat.le_refl _) _).alloc (by simp) _
  have hxA : Box ((w.alloc (.cells #[.slice A l.length c, .int .i64 r] 27)).alloc (.cells #[.slice B m.length d, .int .i64 s] 27)) w.heap.size A l.length c r := (Box.new w A l.length c r _).below ((Below.refl _ _).alloc (Nat.le_refl _) _)
  have hxB : Box ((w.alloc (.cells #[.slice A l.length c, .int .i64 r] 27)).alloc (.cells #[.slice B m.length d, .int .i64 s] 27)) (w.heap.size + 1) B m.length d s := by
    rw [show w.heap.size + 1 = (w.alloc (.cells #[.slice A l.length c, .int .i64 r] 27)).heap.size by simp]
    exact Box.new _ B m.length d s _
  go_enter Tryd.func49, Tryd.ntmps49
  go_wp2_with fail
  have hA0 := hA.below hb0
  have hB0 := hB.below hb0
  have hL0 := hL.below hb0
  generalize ((w.alloc (.cells #[.slice A l.length c, .int .i64 r] 27)).alloc (.cells #[.slice B m.length d, .int .i64 s] 27)) = W at *
  refine (isIns_any _ _ _ _ _ hn hA0 hL0).mono ?_
  rintro e w1 ⟨rfl, hb1⟩
  have hBB1 := hb0.trans (hb1.mono hb0.size)
  have hxA1 := hxA.below hb1
  have hxB1 := hxB.below hb1
  have hA1 := hA0.below hb1
  have hB1 := hB0.below hb1
  have hL1 := hL0.below hb1
  cases hg : gdI l r with
  | false =>
    have HG := Lib.hid hg
    go_wp2
    go_ret2
    rw [HG.out, Bool.false_and]
    exact ⟨_, rfl, by simpa using OwnI.nil w1 w.heap.size 3, hBB1⟩
  | true =>
    obtain ⟨x10, x11, hz1⟩ := id hxA1
    obtain ⟨y10, y11, hy1⟩ := id hxB1
    clear hxA hxB hA0 hB0 hb1
    go_wp2_with fail
    refine (isIns_any _ _ _ _ _ hm hB1 hL1).mono ?_
    rintro e w2 ⟨rfl, hb2⟩
    have hBB2 := hBB1.trans (hb2.mono hBB1.size)
    have hxA2 := hxA1.below hb2
    have hxB2 := hxB1.below hb2
    have hA2 := hA1.below hb2
    have hB2 := hB1.below hb2
    clear hxA1 hxB1 hA1 hB1 hb2 x10 x11 hz1 y10 y11 hy1
    cases hg' : gdI m s with
    | false =>
      have HG := Lib.hid hg'
      go_wp2
      go_ret2
      rw [HG.out, Bool.and_false]
      exact ⟨_, rfl, by simpa using OwnI.nil w2 w.heap.size 3, hBB2⟩
    | true =>
      have hl20 := ((gdI_iff l r).1 hg).1.2
      have HG := Lib.hid hg
      have HG' := Lib.hid hg'
      clear hg hg'
      obtain ⟨x20, x21, hz2⟩ := id hxA2
      go_wp2_with fail
      clear x20 x21 hz2
      go_loopw [6, 20] (fun a i wr => ∃ k : Nat, k ≤ l.length ∧ i = .int .i64 k ∧ OwnI wr w2.heap.size 3 a (comL m (l.take k)) ∧ Below w2.heap.size w2 wr)
        (fun _ i _ => l.length - (intOf i).toNat)
      case atStart => exact ⟨0, Nat.zero_le _, rfl, OwnI.nil _ _ _, Below.refl _ _⟩
      case round =>
        obtain ⟨k, hk, rfl, hown, hb⟩ := hrel
        have HO := Lib.hid hown
        clear hown
        by_cases hlt : k < l.length
        · have hx : l[k]? = some l[k] := List.getElem?_eq_getElem hlt
          generalize l[k] = x at hx
          have hs := comL_snoc m l k x hx
          obtain ⟨g, o, rfl, hgb, h0⟩ := (hA2.below hb) k _ hx
          obtain ⟨y0, y1, hy⟩ := hxB2.below hb
          have hBr := hB2.below hb
          have i1 : (0 : Int) ≤ (k : Int) := by omega
          have i2 : (k : Int) < (l.length : Int) := by omega
          have HS := Lib.hid hs
          clear hs hx
          have hsz : (comL m (l.take k)).length ≤ 20 := by have := comL_length m (l.take k); simp at this; omega
          cases hh : hasB m x with
          | true =>
            have HH := Lib.hid hh
            go_wp2_with (first
              | (go_at_call 65; refine (hasPitch_any _ _ _ _ _ _ hm hBr).mono ?_; rintro e w3 ⟨rfl, hb3⟩; have hbr3 := Lib.hid (show Below wr.heap.size wr (w3.alloc (.cells #[.int .i64 x] 3)) from hb3.alloc hb3.size _); have ho3 := Lib.hid (HO.out.below hbr3.out (Nat.le_refl _)); have hc3 := Lib.hid (one_new w3 x))
              | (at_builtin; go_loud (refine wpList_appI _ rfl (.tmp 27) (.tmp 29) rfl w2.heap.size _ _ rfl ho3.out (some ⟨w3.heap.size, 0, none⟩) 1 1 [x] rfl rfl (fun h => by cases h) (fun j y hy => one_at hc3.out hy) (by simp; omega) (Nat.le_trans hb.size hbr3.out.size) ?_); intro v4 w4 ho4 hg4 hv4))
            go_roundw
            case rel =>
              refine ⟨k + 1, by omega, by go_num, ?_, (hb.trans (hbr3.out.mono hb.size)).grown hg4 (Nat.le_trans hb.size hbr3.out.size) (fun j hj => (ho3.out.lt j hj).1)⟩
              rw [HS.out, if_pos HH.out]
              exact ho4
            case measure => simp [intOf]; omega
          | false =>
            have HH := Lib.hid hh
            go_wp2_with (go_at_call 65; refine (hasPitch_any _ _ _ _ _ _ hm hBr).mono ?_; rintro e w3 ⟨rfl, hb3⟩)
            go_roundw
            case rel =>
              refine ⟨k + 1, by omega, by go_num, ?_, hb.trans (hb3.mono hb.size)⟩
              rw [HS.out, if_neg (by rw [HH.out]; simp), List.append_nil]
              exact HO.out.below hb3 (Nat.le_refl _)
            case measure => simp [intOf]; omega
        · obtain rfl : k = l.length := by omega
          rw [List.take_length] at HO
          go_wp2
          go_ret2
          rw [HG.out, HG'.out, Bool.and_true]
          exact ⟨_, rfl, by simpa using HO.out.mono hBB2.size, hBB2.trans (hb.mono hBB2.size)⟩
end Go.Proofs.YtfgfiahampjfiaaDoor
