/- The tracks that are used: the model's and the program's functions have one answer, in memory of their own. -/
import Derived.Test.YtkfgmkgbicahgaaDoorHQuick
import Derived.Test.YtkfgmkgbicahgaaDoorHShP
import Derived.Test.YtkfgmkgbicahgaaDoorMisP
import Derived.Test.YtkfgmkgbicahgaaDoorPut
import Derived.Test.YtkfgmkgbicahgaaDoorSrtC
namespace Go.Proofs.YtkfgmkgbicahgaaDoor.H
open Go.RowKit Go.Sort
set_option linter.unusedVariables false
set_option linter.unusedSimpArgs false

def allT (_ : Nt) : Bool := true
/-- The tracks of all holes. -/
def tracksL (l : List Nt) : List Int := atF allT l

set_option maxRecDepth 100000 in
set_option maxHeartbeats 2000000 in
theorem laTracks_any (A : Option Addr) (l : List Nt) (c : Nat) (w : World) (hn : l.length ≤ 100000) (hA : RA w A l) :
    Calls Tryd.prog 63 #[.slice A l.length c] w fun e w' => ∃ v, e = .returned v ∧ OwnI w' w.heap.size 3 v (tracksL l) ∧ Below w.heap.size w w' := by
  go_enter Tryd.func63, Tryd.ntmps63
  go_wp2_with fail
  go_loopw [3, 8] (fun a i wr => ∃ k : Nat, k ≤ l.length ∧ i = .int .i64 k ∧ OwnI wr w.heap.size 3 a (atF allT (l.take k)) ∧ Below w.heap.size w wr)
    (fun _ i _ => l.length - (intOf i).toNat)
  case atStart => exact ⟨0, Nat.zero_le _, rfl, OwnI.nil _ _ _, Below.refl _ _⟩
  case round =>
    obtain ⟨k, hk, rfl, hown, hb⟩ := hrel
    by_cases hlt : k < l.length
    · have hx : l[k]? = some l[k] := List.getElem?_eq_getElem hlt
      generalize l[k] = x at hx
      have hs := atF_snoc allT l k x hx
      obtain ⟨p, s, n⟩ := x
      simp only at hs
      obtain ⟨g, o, rfl, hgb, h0, h1, h2⟩ := (hA.below hb) k _ hx
      simp only at h0 h1 h2
      have i1 : (0 : Int) ≤ (k : Int) := by omega
      have i2 : (k : Int) < (l.length : Int) := by omega
      have HS := Lib.hid hs
      have HO := Lib.hid hown
      clear hs hx hown
      have hsz := atF_length allT l k hk
      have hinc := Lib.hid (atF_inc allT l k hk)
      have hnb : Below wr.heap.size wr (wr.alloc (.cells #[.int .i64 p, .int .i64 s, .int .i64 n] 29)) := (Below.refl _ _).alloc (Nat.le_refl _) _
      go_wp2_with fail
      generalize wr.alloc (.cells #[.int .i64 p, .int .i64 s, .int .i64 n] 29) = W1 at *
      refine (l1Put_any _ _ p w.heap.size _ (by omega) (by have := hb.size; have := hnb.size; omega) (HO.out.below hnb (Nat.le_refl _)) hinc.out).mono ?_
      rintro e w3 ⟨v3, rfl, ho3, hb3⟩
      go_wp2_with fail
      go_roundw
      case rel =>
        refine ⟨k + 1, by omega, by go_num, ?_, hb.trans ((hnb.trans (hb3.mono hnb.size)).mono hb.size)⟩
        rw [HS.out, if_pos (show allT (p, s, n) = true from rfl)]
        exact ho3
      case measure => simp [intOf]; omega
    · obtain rfl : k = l.length := by omega
      go_wp2
      go_ret
      rw [List.take_length] at hown
      exact ⟨_, rfl, hown, hb⟩

set_option maxRecDepth 100000 in
set_option maxHeartbeats 4000000 in
theorem implTracks_any (A : Option Addr) (l : List Nt) (c : Nat) (w : World) (hn : l.length ≤ 1048576) (hA : RA w A l) :
    Calls Tryd.prog 65 #[.slice A l.length c] w fun e w' => RetI w (tracksL l) (goodB l) e w' := by
  cases hg : goodB l with
  | false =>
    have HG := isSheet_quick A l c false hn hg
    clear hg
    go_enter Tryd.func65, Tryd.ntmps65
    go_wp2_with fail
    refine (HG.out _ hA).mono ?_
    rintro e w1 ⟨rfl, hb1⟩
    go_wp2
    go_ret2
    exact ⟨_, rfl, by simpa using OwnI.nil _ _ _, hb1⟩
  | true =>
    have HG := isSheet_quick A l c true hn hg
    have h60 := ((goodB_iff l).1 hg).2
    clear hg
    go_enter Tryd.func65, Tryd.ntmps65
    go_wp2_with fail
    refine (HG.out _ hA).mono ?_
    rintro e w1 ⟨rfl, hb1⟩
    have hA1 := hA.below hb1
    go_wp2_with fail
    go_loopw [4, 12] (fun a i wr => ∃ k : Nat, k ≤ l.length ∧ i = .int .i64 k ∧ OwnI wr w1.heap.size 3 a (psF allT (l.take k)) ∧ Below w1.heap.size w1 wr)
      (fun _ i _ => l.length - (intOf i).toNat)
    case atStart => exact ⟨0, Nat.zero_le _, rfl, OwnI.nil _ _ _, Below.refl _ _⟩
    case round =>
      obtain ⟨k, hk, rfl, hown, hb⟩ := hrel
      have HO := Lib.hid hown
      clear hown
      by_cases hlt : k < l.length
      · have hx : l[k]? = some l[k] := List.getElem?_eq_getElem hlt
        generalize l[k] = x at hx
        have hs := psF_snoc allT l k x hx
        obtain ⟨p, s, n⟩ := x
        simp only at hs
        obtain ⟨g, o, rfl, hgb, h0, h1, h2⟩ := (hA1.below hb) k _ hx
        simp only at h0 h1 h2
        have i1 : (0 : Int) ≤ (k : Int) := by omega
        have i2 : (k : Int) < (l.length : Int) := by omega
        have HS := Lib.hid hs
        clear hs hx
        have hsz : (psF allT (l.take k)).length ≤ 60 := by have := psF_length allT (l.take k); simp at this; omega
        have hbr0 : Below wr.heap.size wr (wr.alloc (.cells #[.int .i64 p, .int .i64 s, .int .i64 n] 29)) := (Below.refl _ _).alloc (Nat.le_refl _) _
        have hz0 : (wr.alloc (.cells #[.int .i64 p, .int .i64 s, .int .i64 n] 29)).heap.size = wr.heap.size + 1 := by simp
        have hbr3 := Lib.hid (show Below wr.heap.size wr ((wr.alloc (.cells #[.int .i64 p, .int .i64 s, .int .i64 n] 29)).alloc (.cells #[.int .i64 p] 3)) from hbr0.alloc hbr0.size _)
        have ho3 := Lib.hid (HO.out.below hbr3.out (Nat.le_refl _))
        have hc3 := Lib.hid (one_new (wr.alloc (.cells #[.int .i64 p, .int .i64 s, .int .i64 n] 29)) p)
        rw [hz0] at hc3
        clear hz0 hbr0
        go_wp2_with (at_builtin; go_loud (refine wpList_appI _ rfl (.tmp 16) (.tmp 19) rfl w1.heap.size _ _ rfl ho3.out (some ⟨wr.heap.size + 1, 0, none⟩) 1 1 [p] rfl rfl (fun h => by cases h) (fun j y hy => one_at hc3.out hy) (by simp; omega) (Nat.le_trans hb.size hbr3.out.size) ?_; intro v4 w4 ho4 hg4 hv4))
        go_roundw
        case rel =>
          refine ⟨k + 1, by omega, by go_num, ?_, (hb.trans (hbr3.out.mono hb.size)).grown hg4 (Nat.le_trans hb.size hbr3.out.size) (fun j hj => (ho3.out.lt j hj).1)⟩
          rw [HS.out, if_pos (show allT (p, s, n) = true from rfl)]
          exact ho4
        case measure => simp [intOf]; omega
      · obtain rfl : k = l.length := by omega
        rw [List.take_length] at HO
        have hl := psF_length allT l
        go_wp2_with (first
          | (go_at_call 88; refine (sortI_any _ _ w1.heap.size _ (by omega) HO.out).mono ?_; rintro e w3 ⟨rfl, ho3, hg3⟩)
          | (go_at_call 89; refine (compactI_any _ _ w1.heap.size _ (by rw [List.length_mergeSort]; omega) ho3).mono ?_; rintro e w4 ⟨v4, rfl, ho4, hg4⟩))
        go_ret2
        rw [compact_atF] at ho4
        have hb3 := hb.grown hg3 hb.size (fun j hj => (HO.out.lt j hj).1)
        refine ⟨_, rfl, by simpa [tracksL] using ho4.mono hb1.size, hb1.trans ((hb3.grown hg4 hb3.size (fun j hj => (ho3.lt j hj).1)).mono hb1.size)⟩

theorem tracksL_length (l : List Nt) : (tracksL l).length ≤ l.length := by
  have := atF_length allT l l.length (Nat.le_refl _)
  rw [List.take_length] at this
  exact this
end Go.Proofs.YtkfgmkgbicahgaaDoor.H
