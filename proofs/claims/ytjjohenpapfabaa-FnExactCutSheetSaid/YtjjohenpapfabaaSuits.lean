/- Contracts: whether a change suits a sheet; the program's MoveSheet, ReverseSheet, MirrorTracks, CutSheet. -/
import Derived.Test.YtjjohenpapfabaaChsh
import Derived.Test.YtjjohenpapfabaaKind4
namespace Go.Proofs.Ytjjohenpapfabaa
open Go.RowKit Go.Sort
set_option linter.unusedVariables false
set_option linter.unusedSimpArgs false

theorem endOf_bound {l : List Nt} (hg : Good l) : 0 ≤ endOf l ∧ endOf l ≤ 2000 := by
  have : ∀ k, k ≤ l.length → 0 ≤ endOf (l.take k) ∧ endOf (l.take k) ≤ 2000 := by
    intro k
    induction k with
    | zero => intro _; simp [endOf]
    | succ k ih =>
      intro hk
      have hx : l[k]? = some l[k] := List.getElem?_eq_getElem (by omega)
      rw [endOf_snoc l k _ hx]
      have h1 := ih (by omega)
      have h2 := mxI_spec (endOf (l.take k)) (l[k]).2.2
      have h3 := (noteN_iff l[k]).1 (hg.1 k _ (by omega) hx).1
      omega
  have h := this l.length (Nat.le_refl _)
  rwa [List.take_length] at h

set_option maxRecDepth 100000 in
set_option maxHeartbeats 1000000 in
theorem suits_Move (A : Option Addr) (l : List Nt) (c : Nat) (b : Int) (w : World) (hn : l.length ≤ 1048576) (hA : RA w A l) :
    Calls Try.prog 141 #[.agg #[.int .i64 b], .slice A l.length c] w fun e w' => e = .returned (.bool (inR b (-2000) 2000)) ∧ Below w.heap.size w w' := by
  go_enter Try.func141, Try.ntmps141
  go_wp2_with (go_at_call 58; refine (inRange_any _ _ _ _).mono ?_; rintro e w' ⟨rfl, rfl⟩)
  go_ret
  exact ⟨rfl, (Below.refl _ _).alloc (Nat.le_refl _) _⟩

set_option maxRecDepth 100000 in
set_option maxHeartbeats 1000000 in
theorem suits_Reverse (A : Option Addr) (l : List Nt) (c : Nat) (m : Int) (w : World) (hn : l.length ≤ 1048576) (hA : RA w A l) :
    Calls Try.prog 142 #[.agg #[.int .i64 m], .slice A l.length c] w fun e w' => e = .returned (.bool (inR m (endOf l) 2000)) ∧ Below w.heap.size w w' := by
  have hA1 := Lib.hid (hA.alloc (.cells #[.int .i64 m] 84))
  have hb0 : Below w.heap.size w (w.alloc (.cells #[.int .i64 m] 84)) := (Below.refl _ _).alloc (Nat.le_refl _) _
  have x0 : (w.alloc (.cells #[.int .i64 m] 84)).cell? ⟨w.heap.size, 0, none⟩ = some (.int .i64 m) := (World.cell?_alloc_new w _ _ 0).trans rfl
  have hz : w.heap.size < (w.alloc (.cells #[.int .i64 m] 84)).heap.size := by simp
  go_enter Try.func142, Try.ntmps142
  go_wp2_with fail
  generalize w.alloc (.cells #[.int .i64 m] 84) = V at *
  have HB0 := Lib.hid hb0
  clear hb0 hA
  go_region_with (first
    | (go_at_call 77; refine (endOfHoles_any A l c _ hn (show RA V.drew A l from hA1.out)).mono ?_; rintro e w1 ⟨rfl, hb1⟩; have HB1 := Lib.hid (show Below V.heap.size V w1 from ((Below.refl _ _).drew).trans hb1); have y0 := (HB1.out.cell (p := ⟨w.heap.size, 0, none⟩) hz).trans x0; clear hb1)
    | (go_at_call 58; refine (inRange_any _ _ _ _).mono ?_; rintro e w' ⟨rfl, rfl⟩))
  all_goals
    go_wp2
    go_ret
    exact ⟨rfl, HB0.out.trans (HB1.out.mono (Nat.le_of_lt hz))⟩

set_option maxRecDepth 100000 in
set_option maxHeartbeats 1000000 in
theorem suits_Mirror (A : Option Addr) (l : List Nt) (c : Nat)  (w : World) (hn : l.length ≤ 1048576) (hA : RA w A l) :
    Calls Try.prog 143 #[.agg #[], .slice A l.length c] w fun e w' => e = .returned (.bool (true)) ∧ Below w.heap.size w w' := by
  go_enter Try.func143, Try.ntmps143
  go_wp2
  go_ret
  exact ⟨rfl, (Below.refl _ _).alloc (Nat.le_refl _) _⟩

set_option maxRecDepth 100000 in
set_option maxHeartbeats 1000000 in
theorem suits_Cut (A : Option Addr) (l : List Nt) (c : Nat) (f t : Int) (w : World) (hn : l.length ≤ 1048576) (hA : RA w A l) :
    Calls Try.prog 144 #[.agg #[.int .i64 f, .int .i64 t], .slice A l.length c] w fun e w' => e = .returned (.bool ((inR f 0 1999 && inR t (f + 1) 2000))) ∧ Below w.heap.size w w' := by
  cases hf : inR f 0 1999 with
  | false =>
    go_enter Try.func144, Try.ntmps144
    go_wp2_with (go_at_call 74; refine (isStep_any _ _).mono ?_; rintro e w' ⟨rfl, rfl⟩)
    go_ret
    exact ⟨by simp, (Below.refl _ _).alloc (Nat.le_refl _) _⟩
  | true =>
    obtain ⟨f1, f2⟩ := inR_iff.1 hf
    go_enter Try.func144, Try.ntmps144
    go_wp2_with (first
      | (go_at_call 74; refine (isStep_any _ _).mono ?_; rintro e w' ⟨rfl, rfl⟩)
      | (go_at_call 58; refine (inRange_any _ _ _ _).mono ?_; rintro e w' ⟨rfl, rfl⟩))
    go_ret
    exact ⟨by simp, (Below.refl _ _).alloc (Nat.le_refl _) _⟩

theorem chs_Move (A : Option Addr) (l : List Nt) (c : Nat) (b : Int) (w : World) (hn : l.length ≤ 1048576) (hA : RA w A l) :
    Calls Try.prog 79 #[.slice A l.length c, .iface 82 (.agg #[.int .i64 b])] w fun e w' => RetScore w (canon (chgL (moveN b) l)) (goodB l && (inR b (-2000) 2000 && goodB (canon (chgL (moveN b) l)))) e w' := by
  refine changeSheet_any 82 141 (.agg #[.int .i64 b]) (inR b (-2000) 2000) (moveN b) A l c w hn hA (fun w => by kernel_rfl) (fun args w => enters_of Try.func141 (by kernel_rfl) rfl args w)
    (Lib.hid fun _ W hA => suits_Move A l c b W hn hA) (Lib.hid fun hg hs x W hx => ?_)
  · obtain ⟨b1, b2⟩ := inR_iff.1 hs
    have hv := (noteN_iff x).1 (((goodB_iff l).1 hg).valid x hx)
    exact changed_move b x.1 x.2.1 x.2.2 W b1 b2 hv.2.2.1 hv.2.2.2.1 hv.2.2.2.2

set_option maxRecDepth 100000 in
set_option maxHeartbeats 1000000 in
theorem implMove_any (A : Nat) (l : List Nt) (c : Nat) (b : Int) (w : World) (hn : l.length ≤ 1048576) (hA : RA w (some ⟨A, 0, none⟩) l) :
    Calls Try.prog 46 #[.slice (some ⟨A, 0, none⟩) l.length c, .int .i64 b] w fun e w' => RetScore w (canon (chgL (moveN b) l)) (goodB l && (inR b (-2000) 2000 && goodB (canon (chgL (moveN b) l)))) e w' := by
  go_enter Try.func46, Try.ntmps46
  go_wp2_with fail
  refine (chs_Move _ l c b _ hn hA).mono ?_
  rintro e w1 ⟨v, rfl, ho, hb⟩
  go_wp2
  go_ret2
  exact ⟨v, rfl, ho, hb⟩

theorem chs_Reverse (A : Option Addr) (l : List Nt) (c : Nat) (m : Int) (w : World) (hn : l.length ≤ 1048576) (hA : RA w A l) :
    Calls Try.prog 79 #[.slice A l.length c, .iface 84 (.agg #[.int .i64 m])] w fun e w' => RetScore w (canon (chgL (revN m) l)) (goodB l && (inR m (endOf l) 2000 && goodB (canon (chgL (revN m) l)))) e w' := by
  refine changeSheet_any 84 142 (.agg #[.int .i64 m]) (inR m (endOf l) 2000) (revN m) A l c w hn hA (fun w => by kernel_rfl) (fun args w => enters_of Try.func142 (by kernel_rfl) rfl args w)
    (Lib.hid fun _ W hA => suits_Reverse A l c m W hn hA) (Lib.hid fun hg hs x W hx => ?_)
  · obtain ⟨b1, b2⟩ := inR_iff.1 hs
    have he := endOf_bound ((goodB_iff l).1 hg)
    have hv := (noteN_iff x).1 (((goodB_iff l).1 hg).valid x hx)
    exact changed_rev m x.1 x.2.1 x.2.2 W (by omega) b2 hv.2.2.1 hv.2.2.2.1 hv.2.2.2.2

set_option maxRecDepth 100000 in
set_option maxHeartbeats 1000000 in
theorem implReverse_any (A : Nat) (l : List Nt) (c : Nat) (m : Int) (w : World) (hn : l.length ≤ 1048576) (hA : RA w (some ⟨A, 0, none⟩) l) :
    Calls Try.prog 48 #[.slice (some ⟨A, 0, none⟩) l.length c, .int .i64 m] w fun e w' => RetScore w (canon (chgL (revN m) l)) (goodB l && (inR m (endOf l) 2000 && goodB (canon (chgL (revN m) l)))) e w' := by
  go_enter Try.func48, Try.ntmps48
  go_wp2_with fail
  refine (chs_Reverse _ l c m _ hn hA).mono ?_
  rintro e w1 ⟨v, rfl, ho, hb⟩
  go_wp2
  go_ret2
  exact ⟨v, rfl, ho, hb⟩

theorem chs_Mirror (A : Option Addr) (l : List Nt) (c : Nat)  (w : World) (hn : l.length ≤ 1048576) (hA : RA w A l) :
    Calls Try.prog 79 #[.slice A l.length c, .iface 86 (.agg #[])] w fun e w' => RetScore w (canon (chgL mirN l)) (goodB l && (true && goodB (canon (chgL mirN l)))) e w' := by
  refine changeSheet_any 86 143 (.agg #[]) (true) mirN A l c w hn hA (fun w => by kernel_rfl) (fun args w => enters_of Try.func143 (by kernel_rfl) rfl args w)
    (Lib.hid fun _ W hA => suits_Mirror A l c  W hn hA) (Lib.hid fun hg hs x W hx => ?_)
  · have hv := (noteN_iff x).1 (((goodB_iff l).1 hg).valid x hx)
    exact changed_mir x.1 x.2.1 x.2.2 W hv.1 hv.2.1

set_option maxRecDepth 100000 in
set_option maxHeartbeats 1000000 in
theorem implMirror_any (A : Nat) (l : List Nt) (c : Nat)  (w : World) (hn : l.length ≤ 1048576) (hA : RA w (some ⟨A, 0, none⟩) l) :
    Calls Try.prog 50 #[.slice (some ⟨A, 0, none⟩) l.length c] w fun e w' => RetScore w (canon (chgL mirN l)) (goodB l && (true && goodB (canon (chgL mirN l)))) e w' := by
  go_enter Try.func50, Try.ntmps50
  go_wp2_with fail
  refine (chs_Mirror _ l c  _ hn hA).mono ?_
  rintro e w1 ⟨v, rfl, ho, hb⟩
  go_wp2
  go_ret2
  exact ⟨v, rfl, ho, hb⟩

theorem chs_Cut (A : Option Addr) (l : List Nt) (c : Nat) (f t : Int) (w : World) (hn : l.length ≤ 1048576) (hA : RA w A l) :
    Calls Try.prog 79 #[.slice A l.length c, .iface 88 (.agg #[.int .i64 f, .int .i64 t])] w fun e w' => RetScore w (canon (chgL (cutN f t) l)) (goodB l && ((inR f 0 1999 && inR t (f + 1) 2000) && goodB (canon (chgL (cutN f t) l)))) e w' := by
  refine changeSheet_any 88 144 (.agg #[.int .i64 f, .int .i64 t]) ((inR f 0 1999 && inR t (f + 1) 2000)) (cutN f t) A l c w hn hA (fun w => by kernel_rfl) (fun args w => enters_of Try.func144 (by kernel_rfl) rfl args w)
    (Lib.hid fun _ W hA => suits_Cut A l c f t W hn hA) (Lib.hid fun hg hs x W hx => ?_)
  · obtain ⟨hs1, hs2⟩ := Bool.and_eq_true_iff.1 hs
    obtain ⟨f1, f2⟩ := inR_iff.1 hs1
    obtain ⟨t1, t2⟩ := inR_iff.1 hs2
    have hv := (noteN_iff x).1 (((goodB_iff l).1 hg).valid x hx)
    exact changed_cut f t x.1 x.2.1 x.2.2 W f1 f2 (by omega) t2 hv.2.2.1 hv.2.2.2.1 hv.2.2.2.2

set_option maxRecDepth 100000 in
set_option maxHeartbeats 1000000 in
theorem implCut_any (A : Nat) (l : List Nt) (c : Nat) (f t : Int) (w : World) (hn : l.length ≤ 1048576) (hA : RA w (some ⟨A, 0, none⟩) l) :
    Calls Try.prog 52 #[.slice (some ⟨A, 0, none⟩) l.length c, .int .i64 f, .int .i64 t] w fun e w' => RetScore w (canon (chgL (cutN f t) l)) (goodB l && ((inR f 0 1999 && inR t (f + 1) 2000) && goodB (canon (chgL (cutN f t) l)))) e w' := by
  go_enter Try.func52, Try.ntmps52
  go_wp2_with fail
  refine (chs_Cut _ l c f t _ hn hA).mono ?_
  rintro e w1 ⟨v, rfl, ho, hb⟩
  go_wp2
  go_ret2
  exact ⟨v, rfl, ho, hb⟩
end Go.Proofs.Ytjjohenpapfabaa
