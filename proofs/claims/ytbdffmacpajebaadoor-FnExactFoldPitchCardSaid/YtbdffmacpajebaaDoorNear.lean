/- The nearest pitch that differs by a multiple: the model's and the program's functions have one answer. -/
import Derived.Test.YtbdffmacpajebaaDoorTrP
import Derived.Test.YtbdffmacpajebaaDoorAbs
import Derived.Test.YtbdffmacpajebaaDoorInsG
import Derived.Test.YtbdffmacpajebaaDoorInsF
import Derived.Lib.QuietBelow
namespace Go.Proofs.YtbdffmacpajebaaDoor
open Go.RowKit
set_option linter.unusedVariables false
set_option linter.unusedSimpArgs false

theorem nearS_no {p n x : Int} {s : Option Int} (h : ¬ (x - p).tmod n = 0) : nearS p n s x = s := by unfold nearS; rw [if_neg h]
theorem nearS_new {p n x : Int} (h : (x - p).tmod n = 0) : nearS p n none x = some x := by unfold nearS; rw [if_pos h]
theorem nearS_less {p n x y : Int} (h : (x - p).tmod n = 0) (hl : (x - p).natAbs < (y - p).natAbs) : nearS p n (some y) x = some x := by unfold nearS; rw [if_pos h]; simp [hl]
theorem nearS_more {p n x y : Int} (h : (x - p).tmod n = 0) (hl : ¬ (x - p).natAbs < (y - p).natAbs) : nearS p n (some y) x = some y := by unfold nearS; rw [if_pos h]; simp; omega
theorem tmod_bound (a n : Int) (h : 1 ≤ n) (h' : n ≤ 12) : -12 < a.tmod n ∧ a.tmod n < 12 := by
  have := Int.tmod_lt_of_pos a (show 0 < n by omega)
  have h2 := Int.lt_tmod_of_pos a (show 0 < n by omega)
  omega

/-- The answer of the nearest pitch that differs by a multiple. -/
def nearR (l : List Int) (r p n : Int) : Array Value := if (gdI l r && inR p 24 96) = true then #[.int .i64 ((nearL p n l).getD 0), .bool (nearL p n l).isSome] else #[.int .i64 0, .bool false]

set_option maxRecDepth 100000 in
set_option maxHeartbeats 4000000 in
theorem trNearest_any (A : Option Addr) (l : List Int) (c : Nat) (r p n : Int) (w : World) (hn : l.length ≤ 1048576) (hA : RI w A l) (hl : ∀ x ∈ l, 24 ≤ x ∧ x ≤ 96) (hp : -1000 ≤ p) (hp' : p ≤ 1000) (hn1 : 1 ≤ n) (hn2 : n ≤ 12) :
    Calls Tryd.prog 38 #[.agg #[.slice A l.length c, .int .i64 r], .int .i64 p, .int .i64 n] w fun e w' => e = .returned (.int .i64 ((nearL p n l).getD (-1))) ∧ Below w.heap.size w w' := by
  have hb0 : Below w.heap.size w (w.alloc (.cells #[.slice A l.length c, .int .i64 r] 28)) := (Below.refl w.heap.size w).alloc (Nat.le_refl _) _
  obtain ⟨x0, x1, hz⟩ := Box.new w A l.length c r 28
  have hA := hA.below hb0
  go_enter Tryd.func38, Tryd.ntmps38
  go_wp2_with fail
  generalize w.alloc (.cells #[.slice A l.length c, .int .i64 r] 28) = W at *
  go_loopw [7, 13] (fun b i wr => ∃ k : Nat, k ≤ l.length ∧ i = .int .i64 k ∧ b = .int .i64 ((nearL p n (l.take k)).getD (-1)) ∧ wr = W)
    (fun _ i _ => l.length - (intOf i).toNat)
  case atStart => exact ⟨0, Nat.zero_le _, rfl, rfl, rfl⟩
  case round =>
    obtain ⟨k, hk, rfl, rfl, rfl⟩ := hrel
    by_cases hlt : k < l.length
    · have hx : l[k]? = some l[k] := List.getElem?_eq_getElem hlt
      generalize l[k] = x at hx
      have hs := nearL_snoc p n l k x hx
      have hxb := hl x (List.mem_of_getElem? hx)
      obtain ⟨g, o, rfl, hgb, h0⟩ := hA k _ hx
      have i1 : (0 : Int) ≤ (k : Int) := by omega
      have i2 : (k : Int) < (l.length : Int) := by omega
      have htb := tmod_bound (x - p) n hn1 hn2
      have hsb : ∀ y, nearL p n (l.take k) = some y → 24 ≤ y ∧ y ≤ 96 := fun y hy => hl y (nearL_take p n l k y hy)
      generalize nearL p n (l.take k) = s at *
      clear hx
      by_cases hm : (x - p).tmod n = 0
      · cases s with
        | none =>
          have HS := Lib.hid (hs.trans (nearS_new hm))
          clear hs hsb
          go_wp2_with fail
          go_roundw
          case rel => exact ⟨k + 1, by omega, by go_num, (by first | (rw [HS.out]; done) | (rw [HS.out]; rfl) | (rw [HS.out]; simp)), by first | rfl | trivial⟩
          case measure => simp [intOf]; omega
        | some y =>
          have hyb := hsb y rfl
          by_cases hd : (x - p).natAbs < (y - p).natAbs
          · have HS := Lib.hid (hs.trans (nearS_less hm hd))
            clear hs hsb
            go_wp2_with (go_at_call 59; refine (l1Abs_any _ _ (by omega) (by omega)).mono ?_; rintro e w' ⟨rfl, rfl⟩)
            go_roundw
            case rel => exact ⟨k + 1, by omega, by go_num, (by first | (rw [HS.out]; done) | (rw [HS.out]; rfl) | (rw [HS.out]; simp)), by first | rfl | trivial⟩
            case measure => simp [intOf]; omega
          · have HS := Lib.hid (hs.trans (nearS_more hm hd))
            clear hs hsb
            go_wp2_with (go_at_call 59; refine (l1Abs_any _ _ (by omega) (by omega)).mono ?_; rintro e w' ⟨rfl, rfl⟩)
            go_roundw
            case rel => exact ⟨k + 1, by omega, by go_num, (by first | (rw [HS.out]; done) | (rw [HS.out]; rfl) | (rw [HS.out]; simp)), by first | rfl | trivial⟩
            case measure => simp [intOf]; omega
      · have HS := Lib.hid (hs.trans (nearS_no hm))
        clear hs hsb
        go_wp2_with fail
        go_roundw
        case rel => exact ⟨k + 1, by omega, by go_num, (by first | (rw [HS.out]; done) | (rw [HS.out]; rfl) | (rw [HS.out]; simp)), by first | rfl | trivial⟩
        case measure => simp [intOf]; omega
    · obtain rfl : k = l.length := by omega
      go_wp2
      go_ret
      rw [List.take_length]
      exact ⟨rfl, hb0⟩

set_option maxRecDepth 100000 in
set_option maxHeartbeats 4000000 in
theorem nearest_any (A : Option Addr) (l : List Int) (c : Nat) (r p n : Int) (w : World) (hn : l.length ≤ 1048576) (hA : RI w A l) (hL : Lim w) (hn1 : 1 ≤ n) (hn2 : n ≤ 12) :
    Calls Tryd.prog 40 #[.agg #[.slice A l.length c, .int .i64 r], .int .i64 p, .int .i64 n] w fun e w' => e = .returned (.tuple (nearR l r p n)) ∧ Below w.heap.size w w' := by
  have hb0 : Below w.heap.size w (w.alloc (.cells #[.slice A l.length c, .int .i64 r] 28)) := (Below.refl w.heap.size w).alloc (Nat.le_refl _) _
  obtain ⟨x0, x1, hz⟩ := Box.new w A l.length c r 28
  have hA := hA.below hb0
  have hL := hL.below hb0
  cases hg : gdI l r with
  | false =>
    have HI := Lib.hid (fun W (hA : RI W A l) (hL : Lim W) => isIns_any A l c r W hn hA hL)
    rw [hg] at HI
    have HR := Lib.hid (show nearR l r p n = #[.int .i64 0, .bool false] by unfold nearR; rw [hg]; rfl)
    clear hg
    go_enter Tryd.func40, Tryd.ntmps40
    go_wp2_with fail
    refine (HI.out _ hA hL).mono ?_
    rintro e w1 ⟨rfl, hb1⟩
    go_wp2
    go_ret2
    exact ⟨(by first | (rw [HR.out]; done) | (rw [HR.out]; rfl)), hb0.trans (hb1.mono hb0.size)⟩
  | true =>
    have hl : ∀ x ∈ l, 24 ≤ x ∧ x ≤ 96 := fun x hx => ((gdI_iff l r).1 hg).2.1.range hx
    have HI := Lib.hid (fun W (hA : RI W A l) (hL : Lim W) => isIns_any A l c r W hn hA hL)
    rw [hg] at HI
    cases hp : inR p 24 96 with
    | false =>
      have HR := Lib.hid (show nearR l r p n = #[.int .i64 0, .bool false] by unfold nearR; rw [hg, hp]; rfl)
      clear hg
      go_enter Tryd.func40, Tryd.ntmps40
      go_wp2_with fail
      refine (HI.out _ hA hL).mono ?_
      rintro e w1 ⟨rfl, hb1⟩
      go_wp2_with (go_at_call 60; refine (isPitch_any _ _).mono ?_; rintro e w2 ⟨rfl, rfl⟩)
      go_ret2
      exact ⟨(by first | (rw [HR.out]; done) | (rw [HR.out]; rfl)), hb0.trans (hb1.mono hb0.size)⟩
    | true =>
      have hpb : 24 ≤ p ∧ p ≤ 96 := by simpa [inR] using hp
      have HR := Lib.hid (show nearR l r p n = #[.int .i64 ((nearL p n l).getD 0), .bool (nearL p n l).isSome] by unfold nearR; rw [hg, hp]; rfl)
      have HP := Lib.hid hp
      clear hg hp
      go_enter Tryd.func40, Tryd.ntmps40
      go_wp2_with fail
      generalize w.alloc (.cells #[.slice A l.length c, .int .i64 r] 28) = W at *
      refine (HI.out _ hA hL).mono ?_
      rintro e w1 ⟨rfl, hb1⟩
      have hA := hA.below hb1
      have hB := hb0.trans (hb1.mono hb0.size)
      have y0 := (hb1.cell (p := ⟨w.heap.size, 0, none⟩) hz).trans x0
      have y1 := (hb1.cell (p := ⟨w.heap.size, 1, none⟩) hz).trans x1
      go_wp2_with (go_at_call 60; refine (isPitch_any _ _).mono ?_; rw [HP.out]; rintro e w2 ⟨rfl, rfl⟩)
      clear y0 y1
      go_loopw [8, 9, 23] (fun b f i wr => ∃ k : Nat, k ≤ l.length ∧ i = .int .i64 k ∧ b = .int .i64 ((nearL p n (l.take k)).getD 0) ∧ f = .bool (nearL p n (l.take k)).isSome ∧ wr = w1)
        (fun _ _ i _ => l.length - (intOf i).toNat)
      case atStart => exact ⟨0, Nat.zero_le _, rfl, rfl, rfl, rfl⟩
      case round =>
        obtain ⟨k, hk, rfl, rfl, rfl, rfl⟩ := hrel
        by_cases hlt : k < l.length
        · have hx : l[k]? = some l[k] := List.getElem?_eq_getElem hlt
          generalize l[k] = x at hx
          have hs := nearL_snoc p n l k x hx
          have hxb := hl x (List.mem_of_getElem? hx)
          obtain ⟨g, o, rfl, hgb, h0⟩ := hA k _ hx
          have i1 : (0 : Int) ≤ (k : Int) := by omega
          have i2 : (k : Int) < (l.length : Int) := by omega
          have htb := tmod_bound (x - p) n hn1 hn2
          have hsb : ∀ y, nearL p n (l.take k) = some y → 24 ≤ y ∧ y ≤ 96 := fun y hy => hl y (nearL_take p n l k y hy)
          generalize nearL p n (l.take k) = s at *
          clear hx
          by_cases hm : (x - p).tmod n = 0
          · cases s with
            | none =>
              have HS := Lib.hid (hs.trans (nearS_new hm))
              clear hs hsb
              go_wp2_with fail
              go_roundw
              case rel => exact ⟨k + 1, by omega, by go_num, (by first | (rw [HS.out]; done) | (rw [HS.out]; rfl) | (rw [HS.out]; simp)), (by first | (rw [HS.out]; done) | (rw [HS.out]; rfl) | (rw [HS.out]; simp)), by first | rfl | trivial⟩
              case measure => simp [intOf]; omega
            | some y =>
              have hyb := hsb y rfl
              by_cases hd : (x - p).natAbs < (y - p).natAbs
              · have HS := Lib.hid (hs.trans (nearS_less hm hd))
                clear hs hsb
                go_wp2_with (go_at_call 61; refine (apart_any _ _ _ (by omega) (by omega) (by omega) (by omega)).mono ?_; rintro e w' ⟨rfl, rfl⟩)
                go_roundw
                case rel => exact ⟨k + 1, by omega, by go_num, (by first | (rw [HS.out]; done) | (rw [HS.out]; rfl) | (rw [HS.out]; simp)), (by first | (rw [HS.out]; done) | (rw [HS.out]; rfl) | (rw [HS.out]; simp)), by first | rfl | trivial⟩
                case measure => simp [intOf]; omega
              · have HS := Lib.hid (hs.trans (nearS_more hm hd))
                clear hs hsb
                go_wp2_with (go_at_call 61; refine (apart_any _ _ _ (by omega) (by omega) (by omega) (by omega)).mono ?_; rintro e w' ⟨rfl, rfl⟩)
                go_roundw
                case rel => exact ⟨k + 1, by omega, by go_num, (by first | (rw [HS.out]; done) | (rw [HS.out]; rfl) | (rw [HS.out]; simp)), (by first | (rw [HS.out]; done) | (rw [HS.out]; rfl) | (rw [HS.out]; simp)), by first | rfl | trivial⟩
                case measure => simp [intOf]; omega
          · have HS := Lib.hid (hs.trans (nearS_no hm))
            clear hs hsb
            go_wp2_with fail
            go_roundw
            case rel => exact ⟨k + 1, by omega, by go_num, (by rw [HS.out]), (by rw [HS.out]), by first | rfl | trivial⟩
            case measure => simp [intOf]; omega
        · obtain rfl : k = l.length := by omega
          rw [List.take_length] at *
          go_wp2
          go_ret2
          exact ⟨(by first | (rw [HR.out]; done) | (rw [HR.out]; rfl)), hB⟩
end Go.Proofs.YtbdffmacpajebaaDoor
