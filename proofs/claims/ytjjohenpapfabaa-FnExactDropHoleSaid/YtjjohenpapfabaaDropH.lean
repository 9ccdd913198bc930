/- Contracts: DropHole of the model and of the program. -/
import Derived.Test.YtjjohenpapfabaaDel
namespace Go.Proofs.Ytjjohenpapfabaa
open Go.RowKit
set_option linter.unusedVariables false
set_option linter.unusedSimpArgs false

def dropB (l : List Nt) (i : Int) : Bool := goodB l && inR i 0 ((l.length : Int) - 1)

set_option maxRecDepth 100000 in
set_option maxHeartbeats 1000000 in
theorem implDropHole_no (A : Nat) (l : List Nt) (c : Nat) (i : Int) (w : World) (hn : l.length ≤ 1048576) (hA : RA w (some ⟨A, 0, none⟩) l) (hbad : dropB l i = false) :
    Calls Try.prog 35 #[.slice (some ⟨A, 0, none⟩) l.length c, .int .i64 i] w fun e w' => ∃ v, e = .returned (.tuple #[v, .bool false]) ∧ Own w' w.heap.size 34 v [] ∧ Below w.heap.size w w' := by
  cases hg : goodB l with
  | false =>
    have HG := isSheet_quick (some ⟨A, 0, none⟩) l c false hn hg
    clear hg hbad
    go_enter Try.func35, Try.ntmps35
    go_wp2_with (go_at_call 28; refine (HG.out _ hA).mono ?_; rintro e w1 ⟨rfl, hb1⟩)
    go_ret2
    exact ⟨_, rfl, Own.nil _ _ _, hb1⟩
  | true =>
    have hi : inR i 0 ((l.length : Int) - 1) = false := by simpa [dropB, hg] using hbad
    have HG := isSheet_quick (some ⟨A, 0, none⟩) l c true hn hg
    clear hg hbad
    go_enter Try.func35, Try.ntmps35
    go_wp2_with (first
      | (go_at_call 28; refine (HG.out _ hA).mono ?_; rintro e w1 ⟨rfl, hb1⟩)
      | (go_at_call 58; refine (inRange_any _ _ _ _).mono ?_; rintro e w2 ⟨rfl, rfl⟩))
    go_ret2
    exact ⟨_, rfl, Own.nil _ _ _, hb1⟩

set_option maxRecDepth 100000 in
set_option maxHeartbeats 1000000 in
theorem specDropHole_no (A : Nat) (l : List Nt) (c : Nat) (i : Int) (w : World) (hn : l.length ≤ 1048576) (hc : l.length ≤ c) (hc' : c ≤ 9223372036854775807) (hA : RA w (some ⟨A, 0, none⟩) l) (hbad : dropB l i = false) :
    Calls Try.prog 34 #[.slice (some ⟨A, 0, none⟩) l.length c, .int .i64 i] w fun e w' => ∃ v, e = .returned (.tuple #[v, .bool false]) ∧ Own w' w.heap.size 34 v [] ∧ Below w.heap.size w w' := by
  cases hg : goodB l with
  | false =>
    have HG := shGood_quick (some ⟨A, 0, none⟩) l c false hn hc hc' hg
    clear hg hbad
    go_enter Try.func34, Try.ntmps34
    go_wp2_with (go_at_call 64; refine (HG.out _ hA).mono ?_; rintro e w1 ⟨rfl, hb1⟩)
    go_ret2
    exact ⟨_, rfl, Own.nil _ _ _, hb1⟩
  | true =>
    have hi : inR i 0 ((l.length : Int) - 1) = false := by simpa [dropB, hg] using hbad
    have HG := shGood_quick (some ⟨A, 0, none⟩) l c true hn hc hc' hg
    clear hg hbad
    go_enter Try.func34, Try.ntmps34
    go_wp2_with (first
      | (go_at_call 64; refine (HG.out _ hA).mono ?_; rintro e w1 ⟨rfl, hb1⟩)
      | (go_at_call 54; refine (l1In_any _ _ _ _).mono ?_; rintro e w2 ⟨rfl, rfl⟩))
    go_ret2
    exact ⟨_, rfl, Own.nil _ _ _, hb1⟩

set_option maxRecDepth 100000 in
set_option maxHeartbeats 1000000 in
theorem implDropHole_yes (A : Nat) (l : List Nt) (c k m : Nat) (w : World) (hn : l.length ≤ 1048576) (hc' : c ≤ 9223372036854775807) (hA : RA w (some ⟨A, 0, none⟩) l) (hg : goodB l = true) (hl : l.length = k + 1 + m) :
    Calls Try.prog 35 #[.slice (some ⟨A, 0, none⟩) l.length c, .int .i64 k] w fun e w' => ∃ v, e = .returned (.tuple #[v, .bool true]) ∧ Own w' w.heap.size 34 v (l.take k ++ l.drop (k + 1)) ∧ Below w.heap.size w w' := by
  have HG := isSheet_quick (some ⟨A, 0, none⟩) l c true hn hg
  have hi : inR (k : Int) 0 ((l.length : Int) - 1) = true := inR_true (by omega) (by omega)
  have i1 : (1 : Int) ≤ (l.length : Int) := by omega
  have hkb : (k : Int) ≤ 1048576 := by omega
  have hk0 : (0 : Int) ≤ (k : Int) := by omega
  have HL := Lib.hid hl
  clear hg hl
  go_enter Try.func35, Try.ntmps35
  go_wp2_with (first
    | (go_at_call 28; refine (HG.out _ hA).mono ?_; rintro e w1 ⟨rfl, hb1⟩)
    | (go_at_call 58; refine (inRange_any _ _ _ _).mono ?_; rintro e w2 ⟨rfl, rfl⟩))
  refine (cloneHole_any A _ l c _ rfl hn hc' (hA.below hb1)).mono ?_
  rintro e w2 ⟨v, rfl, ho2, hb2⟩
  have hB2 := hb1.trans (hb2.mono hb1.size)
  obtain ⟨g, c2, rfl⟩ := ho2.some (by rw [HL.out]; omega)
  have ho2 := ho2.mono hb1.size
  rw [HL.out] at ho2 ⊢
  have hgR := ho2.room.2.2.2.1
  have HO := Lib.hid ho2
  clear ho2
  go_wp2_with fail
  refine (delete_any g k m c2 l w.heap.size w.heap.size w _ HL.out hn HO.out hB2 hgR).mono ?_
  rintro e w3 ⟨v3, rfl, ho3, hB3⟩
  go_wp2
  go_ret2
  exact ⟨_, rfl, ho3, hB3⟩

set_option maxRecDepth 100000 in
set_option maxHeartbeats 2000000 in
theorem shDrop_any (A : Nat) (l : List Nt) (c k m : Nat) (w : World) (hn : l.length ≤ 1048576) (hc : l.length ≤ c) (hc' : c ≤ 9223372036854775807) (hA : RA w (some ⟨A, 0, none⟩) l) (hl : l.length = k + 1 + m) :
    Calls Try.prog 70 #[.slice (some ⟨A, 0, none⟩) l.length c, .int .i64 k] w fun e w' => ∃ v, e = .returned v ∧ Own w' w.heap.size 34 v (l.take k ++ l.drop (k + 1)) ∧ Below w.heap.size w w' := by
  have i1 : (1 : Int) ≤ (l.length : Int) := by omega
  have b0 : (0 : Int) ≤ (k : Int) := by omega
  have b1 : (k : Int) ≤ (c : Int) := by omega
  have b2 : (k : Int) + 1 ≤ (c : Int) := by omega
  have b4 : (0 : Int) ≤ (k : Int) + 1 := by omega
  have b3 : (k : Int) + 1 ≤ (l.length : Int) := by omega
  have hw : IntKind.i64.wrap ((k : Int) + 1) = (k : Int) + 1 := IntWalk.i64_in _ (by omega)
  have hw2 : ((k : Int) + 1).toNat = k + 1 := by omega
  have HL := Lib.hid hl
  have htk : (l.take k).length = k := by rw [List.length_take]; omega
  have HT := Lib.hid htk
  have hdk : (l.drop (k + 1)).length = m := by rw [List.length_drop]; omega
  have HD := Lib.hid hdk
  clear hl htk hdk
  go_enter Try.func70, Try.ntmps70
  go_wp2_with fail
  have hB := Lib.hid (show Below w.heap.size w (w.drew.alloc (.cells #[] 34)) from (Below.refl _ _).drew.alloc (Nat.le_refl _) _)
  have hO := Lib.hid (Own.empty (base := w.heap.size) (t := 34) (heap_alloc_new w.drew (.cells #[] 34)) (by simp))
  have HA := Lib.hid (hA.below hB.out)
  go_region_law (first
    | (refine step_appHole rfl (.tmp 5) (.tmp 8) rfl w.heap.size _ [] rfl hO.out (some ⟨A, 0, none⟩) k c (l.take k) rfl HT.out (fun h => by cases h) (HA.out.take k) (by simp; have := HL.out; omega) hB.out.size ?_; intro v2 w2 ho2 hg2; have HO2 := Lib.hid ho2; have HB2 := Lib.hid (hB.out.grown hg2 hB.out.size (fun j hj => (hO.out.lt j hj).1)); clear ho2 hg2)
    | (refine step_appHole rfl (.tmp 9) (.tmp 13) rfl w.heap.size _ _ rfl HO2.out _ (l.length - (k + 1)) _ (l.drop (k + 1)) rfl (by rw [HD.out, HL.out]; omega) (by intro h; first | (cases h; done) | (split at h <;> cases h)) ((hA.below HB2.out).dropO (c := c) hc (by intro h; first | rfl | simp [h])) (by simp; have := HL.out; omega) HB2.out.size ?_; intro v3 w3 ho3 hg3; have HO3 := Lib.hid ho3; have HB3 := Lib.hid (HB2.out.grown hg3 HB2.out.size (fun j hj => (HO2.out.lt j hj).1)); clear ho3 hg3))
  all_goals go_wp2
  all_goals
    go_ret
    exact ⟨_, rfl, by simpa using HO3.out, HB3.out⟩

set_option maxRecDepth 100000 in
set_option maxHeartbeats 2000000 in
theorem specDropHole_yes (A : Nat) (l : List Nt) (c k m : Nat) (w : World) (hn : l.length ≤ 1048576) (hc : l.length ≤ c) (hc' : c ≤ 9223372036854775807) (hA : RA w (some ⟨A, 0, none⟩) l) (hg : goodB l = true) (hl : l.length = k + 1 + m) :
    Calls Try.prog 34 #[.slice (some ⟨A, 0, none⟩) l.length c, .int .i64 k] w fun e w' => ∃ v, e = .returned (.tuple #[v, .bool true]) ∧ Own w' w.heap.size 34 v (l.take k ++ l.drop (k + 1)) ∧ Below w.heap.size w w' := by
  have HG := shGood_quick (some ⟨A, 0, none⟩) l c true hn hc hc' hg
  have hi : inR (k : Int) 0 ((l.length : Int) - 1) = true := inR_true (by omega) (by omega)
  have i1 : (1 : Int) ≤ (l.length : Int) := by omega
  have HL := Lib.hid hl
  clear hg hl
  go_enter Try.func34, Try.ntmps34
  go_wp2_with (first
    | (go_at_call 64; refine (HG.out _ hA).mono ?_; rintro e w1 ⟨rfl, hb1⟩)
    | (go_at_call 54; refine (l1In_any _ _ _ _).mono ?_; rintro e w2 ⟨rfl, rfl⟩)
    | (go_at_call 70; refine (shDrop_any A l c k m _ hn hc hc' (hA.below hb1) HL.out).mono ?_; rintro e w3 ⟨v3, rfl, ho3, hb3⟩))
  go_ret2
  exact ⟨_, rfl, ho3.mono hb1.size, hb1.trans (hb3.mono hb1.size)⟩

theorem dropHole_both (l : List Nt) (i : Int) (hbig : l.length ≤ 1048576) : ∃ (G : List Nt) (ok : Bool), G.length ≤ 1048576 ∧
    (∀ (A : Nat) (c : Nat) (W : World), l.length ≤ c → c ≤ 9223372036854775807 → RA W (some ⟨A, 0, none⟩) l → Calls Try.prog 34 #[.slice (some ⟨A, 0, none⟩) l.length c, .int .i64 i] W fun e W' => ∃ v, e = .returned (.tuple #[v, .bool ok]) ∧ Own W' W.heap.size 34 v G ∧ Below W.heap.size W W') ∧
    (∀ (A : Nat) (c : Nat) (W : World), l.length ≤ c → c ≤ 9223372036854775807 → RA W (some ⟨A, 0, none⟩) l → Calls Try.prog 35 #[.slice (some ⟨A, 0, none⟩) l.length c, .int .i64 i] W fun e W' => ∃ v, e = .returned (.tuple #[v, .bool ok]) ∧ Own W' W.heap.size 34 v G ∧ Below W.heap.size W W') := by
  cases hc : dropB l i with
  | false => exact ⟨[], false, by simp, fun A c W h1 h2 hA => specDropHole_no A l c i W hbig h1 h2 hA hc, fun A c W _ _ hA => implDropHole_no A l c i W hbig hA hc⟩
  | true =>
    obtain ⟨hg, hi⟩ := Bool.and_eq_true_iff.1 hc
    have hi' := inR_iff.1 hi
    obtain ⟨k, rfl⟩ : ∃ k : Nat, i = k := ⟨i.toNat, by omega⟩
    obtain ⟨m, hm⟩ : ∃ m, l.length = k + 1 + m := ⟨l.length - (k + 1), by omega⟩
    exact ⟨l.take k ++ l.drop (k + 1), true, by rw [List.length_append, List.length_take, List.length_drop]; omega, fun A c W h1 h2 hA => specDropHole_yes A l c k m W hbig h1 h2 hA hg hm, fun A c W h1 h2 hA => implDropHole_yes A l c k m W hbig h2 hA hg hm⟩
end Go.Proofs.Ytjjohenpapfabaa
