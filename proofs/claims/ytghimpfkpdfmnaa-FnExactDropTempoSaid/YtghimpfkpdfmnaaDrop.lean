/- Contracts: DropTempo of the model and of the program. -/
import Derived.Test.YtghimpfkpdfmnaaDel
namespace Go.Proofs.Ytghimpfkpdfmnaa
open Go.RowKit
set_option linter.unusedVariables false
set_option linter.unusedSimpArgs false

def dropB (l : List Nt2) (i : Int) : Bool := goodT l && inR i 1 ((l.length : Int) - 1)

set_option maxRecDepth 100000 in
set_option maxHeartbeats 1000000 in
theorem implDropTempo_no (A : Nat) (l : List Nt2) (c : Nat) (i : Int) (w : World) (hn : l.length ≤ 1048576) (hA : RA2 w (some ⟨A, 0, none⟩) l) (hbad : dropB l i = false) :
    Calls Try.prog 31 #[.slice (some ⟨A, 0, none⟩) l.length c, .int .i64 i] w fun e w' => ∃ v, e = .returned (.tuple #[v, .bool false]) ∧ Own2 w' w.heap.size 38 v [] ∧ Below w.heap.size w w' := by
  cases hg : goodT l with
  | false =>
    have HG := areTempos_quick A l c false hn hg
    clear hg hbad
    go_enter Try.func31, Try.ntmps31
    go_wp2_with (go_at_call 15; refine (HG.out _ hA).mono ?_; rintro e w1 ⟨rfl, hb1⟩)
    go_ret2
    exact ⟨_, rfl, Own2.nil _ _ _, hb1⟩
  | true =>
    have hi : inR i 1 ((l.length : Int) - 1) = false := by simpa [dropB, hg] using hbad
    have hl := (goodT.tmp hg).pos
    have HG := areTempos_quick A l c true hn hg
    clear hg hbad
    have i1 : (1 : Int) ≤ (l.length : Int) := by omega
    go_enter Try.func31, Try.ntmps31
    go_wp2_with (first
      | (go_at_call 15; refine (HG.out _ hA).mono ?_; rintro e w1 ⟨rfl, hb1⟩)
      | (go_at_call 37; refine (inRange_any _ _ _ _).mono ?_; rintro e w2 ⟨rfl, rfl⟩))
    go_ret2
    exact ⟨_, rfl, Own2.nil _ _ _, hb1⟩

set_option maxRecDepth 100000 in
set_option maxHeartbeats 1000000 in
theorem specDropTempo_no (A : Nat) (l : List Nt2) (c : Nat) (i : Int) (w : World) (hn : l.length ≤ 1048576) (hA : RA2 w (some ⟨A, 0, none⟩) l) (hbad : dropB l i = false) :
    Calls Try.prog 30 #[.slice (some ⟨A, 0, none⟩) l.length c, .int .i64 i] w fun e w' => ∃ v, e = .returned (.tuple #[v, .bool false]) ∧ Own2 w' w.heap.size 38 v [] ∧ Below w.heap.size w w' := by
  cases hg : goodT l with
  | false =>
    have HG := teGood_quick A l c false hn hg
    clear hg hbad
    go_enter Try.func30, Try.ntmps30
    go_wp2_with (go_at_call 36; refine (HG.out _ hA).mono ?_; rintro e w1 ⟨rfl, hb1⟩)
    go_ret2
    exact ⟨_, rfl, Own2.nil _ _ _, hb1⟩
  | true =>
    have hi : inR i 1 ((l.length : Int) - 1) = false := by simpa [dropB, hg] using hbad
    have hl := (goodT.tmp hg).pos
    have HG := teGood_quick A l c true hn hg
    clear hg hbad
    have i1 : (1 : Int) ≤ (l.length : Int) := by omega
    go_enter Try.func30, Try.ntmps30
    go_wp2_with (first
      | (go_at_call 36; refine (HG.out _ hA).mono ?_; rintro e w1 ⟨rfl, hb1⟩)
      | (go_at_call 54; refine (l1In_any _ _ _ _).mono ?_; rintro e w2 ⟨rfl, rfl⟩))
    go_ret2
    exact ⟨_, rfl, Own2.nil _ _ _, hb1⟩

set_option maxRecDepth 100000 in
set_option maxHeartbeats 1000000 in
theorem implDropTempo_yes (A : Nat) (l : List Nt2) (c k m : Nat) (w : World) (hn : l.length ≤ 1048576) (hc' : c ≤ 9223372036854775807) (hA : RA2 w (some ⟨A, 0, none⟩) l) (hg : goodT l = true) (hl : l.length = k + 1 + m) (hk : 1 ≤ k) :
    Calls Try.prog 31 #[.slice (some ⟨A, 0, none⟩) l.length c, .int .i64 k] w fun e w' => ∃ v, e = .returned (.tuple #[v, .bool true]) ∧ Own2 w' w.heap.size 38 v (l.take k ++ l.drop (k + 1)) ∧ Below w.heap.size w w' := by
  have HG := areTempos_quick A l c true hn hg
  have hi : inR (k : Int) 1 ((l.length : Int) - 1) = true := inR_true (by omega) (by omega)
  have i1 : (1 : Int) ≤ (l.length : Int) := by omega
  have hkb : (k : Int) ≤ 1048576 := by omega
  have hk0 : (0 : Int) ≤ (k : Int) := by omega
  have HL := Lib.hid hl
  clear hg hl
  go_enter Try.func31, Try.ntmps31
  go_wp2_with (first
    | (go_at_call 15; refine (HG.out _ hA).mono ?_; rintro e w1 ⟨rfl, hb1⟩)
    | (go_at_call 37; refine (inRange_any _ _ _ _).mono ?_; rintro e w2 ⟨rfl, rfl⟩))
  refine (cloneChange_any A _ l c _ rfl hn hc' (hA.below hb1)).mono ?_
  rintro e w2 ⟨v, rfl, ho2, hb2⟩
  have hB2 := hb1.trans (hb2.mono hb1.size)
  obtain ⟨g, c2, rfl⟩ := ho2.some (by rw [HL.out]; omega)
  have ho2 := ho2.mono hb1.size
  rw [HL.out] at ho2 ⊢
  have hgR := ho2.room.2.2.2.1
  have HO := Lib.hid ho2
  clear ho2
  go_wp2_with fail
  refine (delete_any g k m c2 l w.heap.size w.heap.size w _ HL.out hn HO.out hB2 hgR).mono ?_
  rintro e w3 ⟨v3, rfl, ho3, hB3⟩
  go_wp2
  go_ret2
  exact ⟨_, rfl, ho3, hB3⟩

set_option maxRecDepth 100000 in
set_option maxHeartbeats 2000000 in
theorem specDropTempo_yes (A : Nat) (l : List Nt2) (c k m : Nat) (w : World) (hn : l.length ≤ 1048576) (hc : l.length ≤ c) (hc' : c ≤ 9223372036854775807) (hA : RA2 w (some ⟨A, 0, none⟩) l) (hg : goodT l = true) (hl : l.length = k + 1 + m) (hk : 1 ≤ k) :
    Calls Try.prog 30 #[.slice (some ⟨A, 0, none⟩) l.length c, .int .i64 k] w fun e w' => ∃ v, e = .returned (.tuple #[v, .bool true]) ∧ Own2 w' w.heap.size 38 v (l.take k ++ l.drop (k + 1)) ∧ Below w.heap.size w w' := by
  have HG := teGood_quick A l c true hn hg
  have hi : inR (k : Int) 1 ((l.length : Int) - 1) = true := inR_true (by omega) (by omega)
  have i1 : (1 : Int) ≤ (l.length : Int) := by omega
  have b1 : (k : Int) ≤ (c : Int) := by omega
  have b2 : (k : Int) + 1 ≤ (c : Int) := by omega
  have b4 : (0 : Int) ≤ (k : Int) + 1 := by omega
  have b3 : (k : Int) + 1 ≤ (l.length : Int) := by omega
  have hw : IntKind.i64.wrap ((k : Int) + 1) = (k : Int) + 1 := IntWalk.i64_in _ (by omega)
  have hw2 : ((k : Int) + 1).toNat = k + 1 := by omega
  have HL := Lib.hid hl
  have htk : (l.take k).length = k := by rw [List.length_take]; omega
  have HT := Lib.hid htk
  have hdk : (l.drop (k + 1)).length = m := by rw [List.length_drop]; omega
  have HD := Lib.hid hdk
  clear hg hl htk hdk
  go_enter Try.func30, Try.ntmps30
  go_wp2_with (first
    | (go_at_call 36; refine (HG.out _ hA).mono ?_; rintro e w1 ⟨rfl, hb1⟩)
    | (go_at_call 54; refine (l1In_any _ _ _ _).mono ?_; rintro e w2 ⟨rfl, rfl⟩))
  have hB := Lib.hid (show Below w.heap.size w (w1.drew.alloc (.cells #[] 38)) from hb1.drew.alloc (by simpa using hb1.size) _)
  have hO := Lib.hid (Own2.empty (base := w.heap.size) (t := 38) (heap_alloc_new w1.drew (.cells #[] 38)) (by simpa using hb1.size))
  have HA := Lib.hid (hA.below hB.out)
  go_region_law (first
    | (refine step_appChange rfl (.tmp 17) (.tmp 20) rfl w.heap.size _ [] rfl hO.out (some ⟨A, 0, none⟩) k c (l.take k) rfl HT.out (fun h => by cases h) (HA.out.take k) (by simp; have := HL.out; omega) hB.out.size ?_; intro v2 w2 ho2 hg2; have HO2 := Lib.hid ho2; have HB2 := Lib.hid (hB.out.grown hg2 hB.out.size (fun j hj => (hO.out.lt j hj).1)); clear ho2 hg2)
    | (refine step_appChange rfl (.tmp 21) (.tmp 25) rfl w.heap.size _ _ rfl HO2.out _ (l.length - (k + 1)) _ (l.drop (k + 1)) rfl (by rw [HD.out, HL.out]; omega) (by intro h; first | (cases h; done) | (split at h <;> cases h)) ((hA.below HB2.out).dropO (c := c) hc (by intro h; first | rfl | simp [h])) (by simp; have := HL.out; omega) HB2.out.size ?_; intro v3 w3 ho3 hg3; have HO3 := Lib.hid ho3; have HB3 := Lib.hid (HB2.out.grown hg3 HB2.out.size (fun j hj => (HO2.out.lt j hj).1)); clear ho3 hg3))
  all_goals go_wp2
  all_goals
    go_ret2
    exact ⟨_, rfl, by simpa using HO3.out, HB3.out⟩

theorem dropTempo_both (l : List Nt2) (i : Int) (hbig : l.length ≤ 1048576) : ∃ (G : List Nt2) (ok : Bool), G.length ≤ 1048576 ∧
    (∀ (A : Nat) (c : Nat) (W : World), l.length ≤ c → c ≤ 9223372036854775807 → RA2 W (some ⟨A, 0, none⟩) l → Calls Try.prog 30 #[.slice (some ⟨A, 0, none⟩) l.length c, .int .i64 i] W fun e W' => ∃ v, e = .returned (.tuple #[v, .bool ok]) ∧ Own2 W' W.heap.size 38 v G ∧ Below W.heap.size W W') ∧
    (∀ (A : Nat) (c : Nat) (W : World), l.length ≤ c → c ≤ 9223372036854775807 → RA2 W (some ⟨A, 0, none⟩) l → Calls Try.prog 31 #[.slice (some ⟨A, 0, none⟩) l.length c, .int .i64 i] W fun e W' => ∃ v, e = .returned (.tuple #[v, .bool ok]) ∧ Own2 W' W.heap.size 38 v G ∧ Below W.heap.size W W') := by
  cases hc : dropB l i with
  | false => exact ⟨[], false, by simp, fun A c W _ _ hA => specDropTempo_no A l c i W hbig hA hc, fun A c W _ _ hA => implDropTempo_no A l c i W hbig hA hc⟩
  | true =>
    obtain ⟨hg, hi⟩ := Bool.and_eq_true_iff.1 hc
    have hi' := inR_iff.1 hi
    obtain ⟨k, rfl⟩ : ∃ k : Nat, i = k := ⟨i.toNat, by omega⟩
    obtain ⟨m, hm⟩ : ∃ m, l.length = k + 1 + m := ⟨l.length - (k + 1), by omega⟩
    exact ⟨l.take k ++ l.drop (k + 1), true, by rw [List.length_append, List.length_take, List.length_drop]; omega, fun A c W h1 h2 hA => specDropTempo_yes A l c k m W hbig h1 h2 hA hg hm (by omega), fun A c W h1 h2 hA => implDropTempo_yes A l c k m W hbig h2 hA hg hm (by omega)⟩

end Go.Proofs.Ytghimpfkpdfmnaa
