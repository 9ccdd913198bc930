/- Contracts: ScaleTempos of the model; both sides together. -/
import Derived.Test.YtjjohenpapfabaaScaleI
namespace Go.Proofs.Ytjjohenpapfabaa
open Go.RowKit
set_option linter.unusedVariables false
set_option linter.unusedSimpArgs false

set_option maxRecDepth 100000 in
set_option maxHeartbeats 4000000 in
theorem specScale_yes (A : Option Addr) (l : List Nt2) (c : Nat) (p : Int) (w : World) (hn : l.length ≤ 1048576) (hA : RA2 w A l) (hg : goodT l = true) (hi : inR p 1 400 = true) :
    Calls Try.prog 16 #[.slice A l.length c, .int .i64 p] w fun e w' => ∃ v, e = .returned (.tuple #[v, .bool (goodT (scL p l))]) ∧ Own2 w' w.heap.size 63 v (onlyT (scL p l)) ∧ Below w.heap.size w w' := by
  have HG := quick4 (c := c) (A := A) hg (fun w hA => teGood_any _ l c w hn hA)
  have ht := Lib.hid (goodT.tmp hg)
  have hl1 := ht.out.pos
  have hl2 := ht.out.few
  obtain ⟨p1, p2⟩ := inR_iff.1 hi
  clear hg
  go_enter Try.func16, Try.ntmps16
  go_wp2_with (first
    | (go_at_call 53; refine (HG.out _ hA).mono ?_; rintro e w1 ⟨rfl, hb1⟩)
    | (go_at_call 54; refine (l1In_any _ _ _ _).mono ?_; rintro e w2 ⟨rfl, rfl⟩))
  have hA1 := hA.below hb1
  have HB1 := Lib.hid hb1
  clear hA hb1 hi
  go_loopw [6, 19] (fun a i wr => ∃ (k : Nat) (v : Value), k ≤ l.length ∧ i = .int .i64 k ∧ a = v ∧ Own2 wr w1.heap.size 63 v (scL p (l.take k)) ∧ Below w1.heap.size w1 wr)
    (fun _ i _ => l.length - (intOf i).toNat)
  case atStart => exact ⟨0, _, Nat.zero_le _, rfl, rfl, by simpa [scL] using Own2.nil _ _ _, Below.refl _ _⟩
  case round =>
    obtain ⟨k, v, hk, rfl, hvv, hown, hb⟩ := hrel
    replace hvv := hvv.symm
    subst hvv
    by_cases hkl : k < l.length
    · have hx : l[k]? = some l[k] := List.getElem?_eq_getElem hkl
      generalize l[k] = x at hx
      obtain ⟨a, y⟩ := x
      have hlx := ht.out.last k hkl
      rw [lst_of hx] at hlx
      simp only at hlx
      obtain ⟨s1, s2, s3, s4⟩ := sc_bound p1 p2 hlx.1 hlx.2
      have hsn := scL_snoc p l k _ hx
      have hlen : (scL p (l.take k)).length ≤ 20 := by rw [scL_length]; simp; omega
      obtain ⟨g1, o, rfl, hgb, h0, h1⟩ := (hA1.below hb) k _ hx
      simp only at h0 h1
      have i1 : (0 : Int) ≤ (k : Int) := by omega
      have i2 : (k : Int) < (l.length : Int) := by omega
      have HSN := Lib.hid hsn
      have HO := Lib.hid hown
      have HLEN := Lib.hid hlen
      clear hsn hx hown hlen hlx
      unfold sc at s3 s4
      go_wp2_with (at_builtin; refine wpList_appChange _ rfl (.tmp 23) (.tmp 33) rfl w1.heap.size v _ rfl ((HO.out.alloc _).alloc _) (some ⟨wr.heap.size + 1, 0, none⟩) 1 1 [(a, sc p y)] rfl rfl (fun h => by cases h) (RA2.one (heap_two4 _ _ _)) (by have := HLEN.out; omega) (by simp; have := hb.size; omega) ?_; intro v4 w4 ho4 hg4; have HO4 := Lib.hid ho4; have HB4 := Lib.hid (((hb.alloc hb.size _).alloc (by simp; have := hb.size; omega) _).grown hg4 (by simp; have := hb.size; omega) (fun j hj => (HO.out.lt j hj).1)); clear ho4 hg4)
      go_roundw
      case rel => exact ⟨k + 1, _, by omega, by go_num, rfl, by rw [HSN.out]; exact HO4.out, HB4.out⟩
      case measure => simp [intOf]; omega
    · obtain rfl : k = l.length := by omega
      rw [List.take_length] at hown
      have hown2 := hown.mono HB1.out.size
      have hbb := HB1.out.trans (hb.mono HB1.out.size)
      go_wp2_with fail
      refine (teIf_any _ (scL p l) w.heap.size w.heap.size w _ (by rw [scL_length]; exact hn) hown2 hbb (Nat.le_refl _)).mono ?_
      rintro e w3 ⟨u, rfl, ho3, hb3⟩
      go_wp2
      go_ret2
      exact ⟨_, rfl, ho3, hb3⟩

theorem scaleTempos_both (l : List Nt2) (p : Int) (hbig : l.length ≤ 1048576) : ∃ (G : List Nt2) (ok : Bool), G.length ≤ 1048576 ∧
    (∀ (A : Nat) (c : Nat) (W : World), l.length ≤ c → c ≤ 9223372036854775807 → RA2 W (some ⟨A, 0, none⟩) l → Calls Try.prog 16 #[.slice (some ⟨A, 0, none⟩) l.length c, .int .i64 p] W fun e W' => ∃ v, e = .returned (.tuple #[v, .bool ok]) ∧ Own2 W' W.heap.size 63 v G ∧ Below W.heap.size W W') ∧
    (∀ (A : Nat) (c : Nat) (W : World), l.length ≤ c → c ≤ 9223372036854775807 → RA2 W (some ⟨A, 0, none⟩) l → Calls Try.prog 18 #[.slice (some ⟨A, 0, none⟩) l.length c, .int .i64 p] W fun e W' => ∃ v, e = .returned (.tuple #[v, .bool ok]) ∧ Own2 W' W.heap.size 63 v G ∧ Below W.heap.size W W') := by
  cases hc : (goodT l && inR p 1 400) with
  | false => exact ⟨[], false, by simp, fun A c W h1 h2 hA => specScale_no A l c p W hbig hA hc, fun A c W _ _ hA => implScale_no A l c p W hbig hA hc⟩
  | true =>
    obtain ⟨hg, hi⟩ := Bool.and_eq_true_iff.1 hc
    exact ⟨onlyT (scL p l), goodT (scL p l), Nat.le_trans (onlyT_len _) (by rw [scL_length]; exact hbig), fun A c W h1 h2 hA => specScale_yes _ l c p W hbig hA hg hi, fun A c W h1 h2 hA => implScale_yes A l c p W hbig h2 hA hg hi⟩
end Go.Proofs.Ytjjohenpapfabaa
