/- In how many steps a track is open: the model's and the program's functions have one answer. -/
import Derived.Test.YtkfgmkgbicahgaaQuick
import Derived.Test.YtkfgmkgbicahgaaShP
namespace Go.Proofs.Ytkfgmkgbicahgaa
open Go.RowKit
set_option linter.unusedVariables false
set_option linter.unusedSimpArgs false

def sumT (t : Int) (l : List Nt) : Int := l.foldl (fun a x => if x.1 = t then a + (x.2.2 - x.2.1) else a) 0
theorem sumT_snoc (t : Int) (l : List Nt) (k : Nat) (x : Nt) (h : l[k]? = some x) : sumT t (l.take (k + 1)) = if x.1 = t then sumT t (l.take k) + (x.2.2 - x.2.1) else sumT t (l.take k) := by
  unfold sumT; rw [List.take_add_one, h, Option.toList_some, List.foldl_append]; rfl
theorem sumT_bound (t : Int) {l : List Nt} (hg : Good l) : ∀ k, k ≤ l.length → 0 ≤ sumT t (l.take k) ∧ sumT t (l.take k) ≤ 2000 * k := by
  intro k
  induction k with
  | zero => intro _; simp [sumT]
  | succ k ih =>
    intro hk
    have h := ih (by omega)
    have hx : l[k]? = some l[k] := List.getElem?_eq_getElem (by omega)
    have hv := (noteN_iff _).1 (hg.1 k _ (by omega) hx).1
    rw [sumT_snoc t l k _ hx]
    split <;> omega

set_option maxRecDepth 100000 in
set_option maxHeartbeats 2000000 in
theorem specOpenTime_any (A : Option Addr) (l : List Nt) (c : Nat) (t : Int) (w : World) (hn : l.length ≤ 1048576) (hc : l.length ≤ c) (hc' : c ≤ 9223372036854775807) (hA : RA w A l) :
    Calls Try.prog 15 #[.slice A l.length c, .int .i64 t] w fun e w' => e = .returned (.tuple #[.int .i64 (if (goodB l && inR t 0 19) = true then sumT t l else 0), .bool (goodB l && inR t 0 19)]) ∧ Below w.heap.size w w' := by
  cases hg : goodB l with
  | false =>
    have HG := shGood_quick A l c false hn hc hc' hg
    clear hg
    go_enter Try.func15, Try.ntmps15
    go_wp2_with fail
    refine (HG.out _ hA).mono ?_
    rintro e w1 ⟨rfl, hb1⟩
    go_wp2
    go_ret2
    exact ⟨rfl, hb1⟩
  | true =>
    have HG := shGood_quick A l c true hn hc hc' hg
    have hgood := (goodB_iff l).1 hg
    have h60 := hgood.2
    clear hg
    cases hr : inR t 0 19 with
    | false =>
      go_enter Try.func15, Try.ntmps15
      go_wp2_with fail
      refine (HG.out _ hA).mono ?_
      rintro e w1 ⟨rfl, hb1⟩
      go_wp2_with (go_at_call 26; refine (l1In_any _ _ _ _).mono ?_; rintro e w2 ⟨rfl, rfl⟩)
      go_ret2
      exact ⟨by simp [hr], hb1⟩
    | true =>
      have HR := Lib.hid hr
      go_enter Try.func15, Try.ntmps15
      go_wp2_with fail
      refine (HG.out _ hA).mono ?_
      rintro e w1 ⟨rfl, hb1⟩
      have hA1 := hA.below hb1
      go_wp2_with (go_at_call 26; refine (l1In_any _ _ _ _).mono ?_; rintro e w2 ⟨rfl, rfl⟩)
      clear hr
      go_loopw [6, 19] (fun a i wr => ∃ k : Nat, k ≤ l.length ∧ i = .int .i64 k ∧ a = .int .i64 (sumT t (l.take k)) ∧ Below w1.heap.size w1 wr)
        (fun _ i _ => l.length - (intOf i).toNat)
      case atStart => exact ⟨0, Nat.zero_le _, rfl, rfl, Below.refl _ _⟩
      case round =>
        obtain ⟨k, hk, rfl, rfl, hb⟩ := hrel
        by_cases hlt : k < l.length
        · have hx : l[k]? = some l[k] := List.getElem?_eq_getElem hlt
          generalize l[k] = x at hx
          have hs := sumT_snoc t l k x hx
          have hv := (noteN_iff x).1 (hgood.1 k x hlt hx).1
          have hbd := sumT_bound t hgood k (by omega)
          generalize sumT t (l.take k) = S at *
          obtain ⟨p, s, n⟩ := x
          simp only at hs hv
          obtain ⟨g, o, rfl, hgb, h0, h1, h2⟩ := (hA1.below hb) k _ hx
          simp only at h0 h1 h2
          have i1 : (0 : Int) ≤ (k : Int) := by omega
          have i2 : (k : Int) < (l.length : Int) := by omega
          have HS := Lib.hid hs
          clear hs hx
          by_cases hp : p = t
          · subst hp
            go_wp2
            go_roundw
            case rel =>
              refine ⟨k + 1, by omega, by go_num, ?_, hb.alloc hb.size _⟩
              rw [HS.out, if_pos rfl]
            case measure => simp [intOf]; omega
          · go_wp2
            go_roundw
            case rel =>
              refine ⟨k + 1, by omega, by go_num, ?_, hb.alloc hb.size _⟩
              rw [HS.out, if_neg hp]
            case measure => simp [intOf]; omega
        · obtain rfl : k = l.length := by omega
          rw [List.take_length]
          have HE := Lib.hid (show sumT t l = sumT t l from rfl)
          go_wp2
          go_ret2
          exact ⟨by simp [HR.out], hb1.trans (hb.mono hb1.size)⟩

set_option maxRecDepth 100000 in
set_option maxHeartbeats 2000000 in
theorem implOpenTime_any (A : Option Addr) (l : List Nt) (c : Nat) (t : Int) (w : World) (hn : l.length ≤ 1048576) (hc : l.length ≤ c) (hc' : c ≤ 9223372036854775807) (hA : RA w A l) :
    Calls Try.prog 16 #[.slice A l.length c, .int .i64 t] w fun e w' => e = .returned (.tuple #[.int .i64 (if (goodB l && inR t 0 19) = true then sumT t l else 0), .bool (goodB l && inR t 0 19)]) ∧ Below w.heap.size w w' := by
  cases hg : goodB l with
  | false =>
    have HG := isSheet_quick A l c false hn hg
    clear hg
    go_enter Try.func16, Try.ntmps16
    go_wp2_with fail
    refine (HG.out _ hA).mono ?_
    rintro e w1 ⟨rfl, hb1⟩
    go_wp2
    go_ret2
    exact ⟨rfl, hb1⟩
  | true =>
    have HG := isSheet_quick A l c true hn hg
    have hgood := (goodB_iff l).1 hg
    have h60 := hgood.2
    clear hg
    cases hr : inR t 0 19 with
    | false =>
      go_enter Try.func16, Try.ntmps16
      go_wp2_with fail
      refine (HG.out _ hA).mono ?_
      rintro e w1 ⟨rfl, hb1⟩
      go_wp2_with (go_at_call 27; refine (isTrack_any _ _).mono ?_; rintro e w2 ⟨rfl, rfl⟩)
      go_ret2
      exact ⟨by simp [hr], hb1⟩
    | true =>
      have HR := Lib.hid hr
      go_enter Try.func16, Try.ntmps16
      go_wp2_with fail
      refine (HG.out _ hA).mono ?_
      rintro e w1 ⟨rfl, hb1⟩
      have hA1 := hA.below hb1
      go_wp2_with (go_at_call 27; refine (isTrack_any _ _).mono ?_; rintro e w2 ⟨rfl, rfl⟩)
      clear hr
      go_loopw [6, 19] (fun a i wr => ∃ k : Nat, k ≤ l.length ∧ i = .int .i64 k ∧ a = .int .i64 (sumT t (l.take k)) ∧ Below w1.heap.size w1 wr)
        (fun _ i _ => l.length - (intOf i).toNat)
      case atStart => exact ⟨0, Nat.zero_le _, rfl, rfl, Below.refl _ _⟩
      case round =>
        obtain ⟨k, hk, rfl, rfl, hb⟩ := hrel
        by_cases hlt : k < l.length
        · have hx : l[k]? = some l[k] := List.getElem?_eq_getElem hlt
          generalize l[k] = x at hx
          have hs := sumT_snoc t l k x hx
          have hv := (noteN_iff x).1 (hgood.1 k x hlt hx).1
          have hbd := sumT_bound t hgood k (by omega)
          generalize sumT t (l.take k) = S at *
          obtain ⟨p, s, n⟩ := x
          simp only at hs hv
          obtain ⟨g, o, rfl, hgb, h0, h1, h2⟩ := (hA1.below hb) k _ hx
          simp only at h0 h1 h2
          have i1 : (0 : Int) ≤ (k : Int) := by omega
          have i2 : (k : Int) < (l.length : Int) := by omega
          have HS := Lib.hid hs
          clear hs hx
          by_cases hp : p = t
          · subst hp
            go_wp2
            go_roundw
            case rel =>
              refine ⟨k + 1, by omega, by go_num, ?_, hb.alloc hb.size _⟩
              rw [HS.out, if_pos rfl]
            case measure => simp [intOf]; omega
          · go_wp2
            go_roundw
            case rel =>
              refine ⟨k + 1, by omega, by go_num, ?_, hb.alloc hb.size _⟩
              rw [HS.out, if_neg hp]
            case measure => simp [intOf]; omega
        · obtain rfl : k = l.length := by omega
          rw [List.take_length]
          have HE := Lib.hid (show sumT t l = sumT t l from rfl)
          go_wp2
          go_ret2
          exact ⟨by simp [HR.out], hb1.trans (hb.mono hb1.size)⟩

/-- Both sides of OpenTime. -/
theorem openTime_both (l : List Nt) (t : Int) (hbig : l.length ≤ 1048576) : ∃ (va : Int) (vb : Bool),
    Hid (∀ (A : Nat) (c : Nat) (W : World), l.length ≤ c → c ≤ 9223372036854775807 → RA W (some ⟨A, 0, none⟩) l → Calls Try.prog 15 #[.slice (some ⟨A, 0, none⟩) l.length c, .int .i64 t] W fun e W' => e = .returned (.tuple #[.int .i64 va, .bool vb]) ∧ Below W.heap.size W W') ∧
    Hid (∀ (A : Nat) (c : Nat) (W : World), l.length ≤ c → c ≤ 9223372036854775807 → RA W (some ⟨A, 0, none⟩) l → Calls Try.prog 16 #[.slice (some ⟨A, 0, none⟩) l.length c, .int .i64 t] W fun e W' => e = .returned (.tuple #[.int .i64 va, .bool vb]) ∧ Below W.heap.size W W') :=
  ⟨if (goodB l && inR t 0 19) = true then sumT t l else 0, goodB l && inR t 0 19,
    Lib.hid fun A c W h1 h2 hA => specOpenTime_any _ l c t W hbig h1 h2 hA, Lib.hid fun A c W h1 h2 hA => implOpenTime_any _ l c t W hbig h1 h2 hA⟩
end Go.Proofs.Ytkfgmkgbicahgaa
