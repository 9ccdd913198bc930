/- FullTranspositions: the model's and the program's functions have one answer, in memory of their own. -/
import Derived.Test.YtbdffmacpajebaaDoorLoss
import Derived.ChangeKeysEq
import Derived.Laws.StructEq
import Derived.Deep.RegionHeld3
import Derived.Deep.DeepCutAuto
namespace Go.Proofs.YtbdffmacpajebaaDoor
open Go.RowKit Go.Sort
set_option linter.unusedVariables false
set_option linter.unusedSimpArgs false

/-- The cells of an array of bools. -/
def boolL (f : Nat → Bool) : List Value := (List.range 30).map fun j => Value.bool (f j)
theorem boolL_length (f : Nat → Bool) : (boolL f).length = 30 := by simp [boolL]
theorem Bools.range {w : World} {g : Nat} {f : Nat → Bool} (h : Bools w g f) : w.rangeAt g 0 (boolL f) := by
  intro j v hv
  have hj : j < 30 := by have := (List.getElem?_eq_some_iff.1 hv).1; rw [boolL_length] at this; exact this
  rw [Nat.zero_add, World.rowIs.cell h hj]
  simp [boolL, hj] at hv
  rw [← hv]
/-- Whether all places of an array are false. -/
theorem part30 (f : Nat → Bool) (j : Nat) (hj : j < 30) (w : World) : (part 4 (boolV f) (j * Tryd.prog.cellsOf 4)).run Tryd.prog w = .ok (.bool (f j)) w := by
  have hz : Tryd.prog.cellsOf 4 = 1 := by kernel_rfl
  have ha : ∀ w, (isAgg 4).run Tryd.prog w = .ok false w := Tryd.isAgg4
  have h := boolV_get f j hj
  simp [part, go_sem, ha, hz, h]
theorem eqItems30 (d : Nat) (f g : Nat → Bool) (w : World) : ∀ (is : List Nat), (∀ j ∈ is, j < 30) → (Op.eqItems (d + 1) 4 (Tryd.prog.cellsOf 4) (boolV f) (boolV g) is).run Tryd.prog w = .ok (is.all fun j => f j == g j) w
  | [], _ => by simp [Op.eqItems]
  | j :: is, h => by
    have ih := eqItems30 d f g w is (fun i hi => h i (List.mem_cons_of_mem _ hi))
    have hj := h j (by simp)
    simp only [Op.eqItems, Sem.run_bind, part30 f j hj, part30 g j hj, Result.andThen_ok, run_equalIn_bool' w d 4 (f j) (g j) Tryd.underlying4, List.all_cons]
    cases hq : (f j == g j) with
    | true => simpa using ih
    | false => simp
theorem eqZero (f : Nat → Bool) (b : Bool) (h : (List.range 30).all (fun j => f j == false) = b) (w : World) :
    (Op.equalIn 10000 65 (.agg (boolV f)) (.agg (boolL fun _ => false).toArray)).run Tryd.prog w = .ok b w := by
  rw [show (boolL fun _ => false).toArray = boolV (fun _ => false) from rfl]
  cases hi : Tryd.prog.info? 4 with
  | none =>
    have hs : (Tryd.prog.info? 4).isSome = true := by kernel_rfl
    rw [hi] at hs
    cases hs
  | some i =>
    rw [run_equalIn_array w 9999 (boolV f) (boolV fun _ => false) Tryd.underlying65 hi, eqItems30 9998 f (fun _ => false) w (List.range 30) (fun j hj => List.mem_range.1 hj)]
    rw [h]

set_option maxRecDepth 100000 in
set_option maxHeartbeats 2000000 in
theorem specFull_any (A : Option Addr) (l : List Int) (c : Nat) (r : Int) (M : Option Addr) (m : List Nt) (d : Nat) (w : World) (hn : l.length ≤ 1048576) (hA : RI w A l) (hm : m.length ≤ 1048576) (hd : m.length ≤ d) (hd' : d ≤ 9223372036854775807) (hM : RA w M m) :
    Calls Tryd.prog 29 #[.agg #[.slice A l.length c, .int .i64 r], .slice M m.length d] w fun e w' => RetI w (fullL l m 49) (gdI l r && goodB m) e w' := by
  have hb0 : Below w.heap.size w (w.alloc (.cells #[.slice A l.length c, .int .i64 r] 28)) := (Below.refl w.heap.size w).alloc (Nat.le_refl _) _
  obtain ⟨x0, x1, hz⟩ := Box.new w A l.length c r 28
  have hA := hA.below hb0
  have hM := hM.below hb0
  go_enter Tryd.func29, Tryd.ntmps29
  go_wp2_with fail
  generalize w.alloc (.cells #[.slice A l.length c, .int .i64 r] 28) = W at *
  refine (inAsked_any _ _ _ _ _ _ _ _ hn hA hm hd hd' hM).mono ?_
  rintro e w1 ⟨rfl, hb1⟩
  have hB1 := hb0.trans (hb1.mono hb0.size)
  have y0 := (hb1.cell (p := ⟨w.heap.size, 0, none⟩) hz).trans x0
  have y1 := (hb1.cell (p := ⟨w.heap.size, 1, none⟩) hz).trans x1
  have hz1 := Nat.lt_of_lt_of_le hz hb1.size
  cases hg : (gdI l r && goodB m) with
  | false =>
    go_wp2
    go_ret2
    rw [hg]
    exact ⟨_, rfl, by simpa using OwnI.nil w1 w.heap.size 3, hB1⟩
  | true =>
    have hgood : Good m := (goodB_iff m).1 (by simp at hg; exact hg.2)
    have HG := Lib.hid hg
    have hA := hA.below hb1
    have hM := hM.below hb1
    clear hg x0 x1
    go_wp2_with fail
    go_loopw [6, 7] (fun a i wr => ∃ (k : Nat) (b : Int), Hid ((k : Int) - 24 = b) ∧ k ≤ 49 ∧ -24 ≤ b ∧ b ≤ 25 ∧ i = .int .i64 b ∧ OwnI wr w1.heap.size 3 a (fullL l m k) ∧ Below w1.heap.size w1 wr)
      (fun _ i _ => (25 - intOf i).toNat)
    case atStart => exact ⟨0, -24, Lib.hid rfl, by omega, by omega, by omega, rfl, OwnI.nil _ _ _, Below.refl _ _⟩
    case round =>
      obtain ⟨k, b, HK, hk, hb24, hb25, rfl, hown, hb⟩ := hrel
      have HO := Lib.hid hown
      clear hown
      by_cases hlt : b ≤ 24
      · have hs := fullL_succ l m k b HK.out
        have hlen := fullL_length l m k
        have hk1 : k + 1 ≤ 49 := by have := HK.out; omega
        have v0 := (hb.cell (p := ⟨w.heap.size, 0, none⟩) hz1).trans y0
        have v1 := (hb.cell (p := ⟨w.heap.size, 1, none⟩) hz1).trans y1
        have HT := Lib.hid (trLoss_any A l c r M m d b wr hn (hA.below hb) (hM.below hb) hgood (by omega) (by omega))
        clear y0 y1
        by_cases hq : lossI l m b = 0
        · rw [if_pos hq] at hs
          rw [hq] at HT
          have HS := Lib.hid hs
          clear hs hq
          go_wp2_with (first
            | (go_at_call 43; refine HT.out.mono ?_; rintro e w2 ⟨rfl, hb2⟩; have hbr := Lib.hid (show Below wr.heap.size wr (w2.alloc (.cells #[.int .i64 b] 3)) from hb2.alloc hb2.size _); have ho3 := Lib.hid (HO.out.below hbr.out (Nat.le_refl _)); have hc3 := Lib.hid (one_new w2 b))
            | (at_builtin; refine wpList_appI _ rfl (.tmp 21) (.tmp 23) rfl w1.heap.size _ _ rfl ho3.out (some ⟨w2.heap.size, 0, none⟩) 1 1 [b] rfl rfl (fun h => by cases h) (fun j y hy => one_at hc3.out hy) (by omega) (Nat.le_trans hb.size hbr.out.size) ?_; intro v4 w4 ho4 hg4 hv4))
          go_roundw
          case rel =>
            refine ⟨k + 1, b + 1, Lib.hid (by have := HK.out; omega), hk1, by omega, by omega, by go_num, ?_, (hb.trans (hbr.out.mono hb.size)).grown hg4 (Nat.le_trans hb.size hbr.out.size) (fun j hj => (ho3.out.lt j hj).1)⟩
            rw [HS.out]
            exact ho4
          case measure => simp [intOf]; omega
        · rw [if_neg hq] at hs
          have HS := Lib.hid hs
          clear hs
          generalize lossI l m b = q at *
          go_wp2_with (go_at_call 43; refine HT.out.mono ?_; rintro e w2 ⟨rfl, hb2⟩)
          go_roundw
          case rel =>
            refine ⟨k + 1, b + 1, Lib.hid (by have := HK.out; omega), hk1, by omega, by omega, by go_num, ?_, hb.trans (hb2.mono hb.size)⟩
            rw [HS.out]
            exact HO.out.below hb2 (Nat.le_refl _)
          case measure => simp [intOf]; omega
      · obtain rfl : b = 25 := by omega
        obtain rfl : k = 49 := by have := HK.out; omega
        go_wp2
        go_ret2
        rw [HG.out]
        exact ⟨_, rfl, by simpa using HO.out.mono hB1.size, hB1.trans (hb.mono hB1.size)⟩

set_option maxRecDepth 100000 in
set_option maxHeartbeats 2000000 in
theorem implFull_any (A : Option Addr) (l : List Int) (c : Nat) (r : Int) (M : Option Addr) (m : List Nt) (d : Nat) (w : World) (hn : l.length ≤ 1048576) (hA : RI w A l) (hm : m.length ≤ 1048576) (hM : RA w M m) (hL : Lim w) :
    Calls Tryd.prog 30 #[.agg #[.slice A l.length c, .int .i64 r], .slice M m.length d] w fun e w' => RetI w (fullL l m 49) (gdI l r && goodB m) e w' := by
  have hb0 : Below w.heap.size w (w.alloc (.cells #[.slice A l.length c, .int .i64 r] 28)) := (Below.refl w.heap.size w).alloc (Nat.le_refl _) _
  obtain ⟨x0, x1, hz⟩ := Box.new w A l.length c r 28
  have hA := hA.below hb0
  have hM := hM.below hb0
  have hL := hL.below hb0
  go_enter Tryd.func30, Tryd.ntmps30
  go_wp2_with fail
  generalize w.alloc (.cells #[.slice A l.length c, .int .i64 r] 28) = W at *
  refine (isIns_any _ _ _ _ _ hn hA hL).mono ?_
  rintro e w1 ⟨rfl, hb1⟩
  have hB1 := hb0.trans (hb1.mono hb0.size)
  cases hg : gdI l r with
  | false =>
    go_wp2
    go_ret2
    rw [hg, Bool.false_and]
    exact ⟨_, rfl, by simpa using OwnI.nil w1 w.heap.size 3, hB1⟩
  | true =>
    have HG := Lib.hid hg
    clear hg
    go_wp2_with fail
    refine (isScore_any _ _ _ _ hm (hM.below hb1)).mono ?_
    rintro e w2 ⟨rfl, hb2⟩
    have hb12 := hb1.trans (hb2.mono hb1.size)
    have hB2 := hB1.trans (hb2.mono hB1.size)
    cases hgb : goodB m with
    | false =>
      have HB := Lib.hid hgb
      go_wp2
      go_ret2
      rw [HG.out, HB.out, Bool.and_false]
      exact ⟨_, rfl, by simpa using OwnI.nil w2 w.heap.size 3, hB2⟩
    | true =>
      have hgood := (goodB_iff m).1 hgb
      have h30 := hgood.2
      have HB := Lib.hid hgb
      clear hgb
      have y0 := (hb12.cell (p := ⟨w.heap.size, 0, none⟩) hz).trans x0
      have y1 := (hb12.cell (p := ⟨w.heap.size, 1, none⟩) hz).trans x1
      have hz1 := Nat.lt_of_lt_of_le hz hb12.size
      have hA := hA.below hb12
      have hM := hM.below hb12
      clear hb1 hb2 hb12 hL x0 x1
      have hzv := (zero_of_info info30).1
      have BZ := Bools.new w2 (fun _ => false)
      have hbz : Below w2.heap.size w2 (w2.alloc (.cells (boolV fun _ => false) 65)) := (Below.refl _ _).alloc (Nat.le_refl _) _
      go_wp2_with fail
      clear hzv
      generalize w2.alloc (.cells (boolV fun _ => false) 65) = V at *
      have y0 := (hbz.cell (p := ⟨w.heap.size, 0, none⟩) hz1).trans y0
      have y1 := (hbz.cell (p := ⟨w.heap.size, 1, none⟩) hz1).trans y1
      have hzV := Nat.lt_of_lt_of_le hz1 hbz.size
      have hA := hA.below hbz
      have hM := hM.below hbz
      have hB2 := hB2.trans (hbz.mono hB2.size)
      generalize w2.heap.size = gz at *
      go_loopw [6, 8] (fun a i wr => ∃ (k : Nat) (b : Int), Hid ((k : Int) - 24 = b) ∧ k ≤ 49 ∧ -24 ≤ b ∧ b ≤ 25 ∧ i = .int .i64 b ∧ OwnI wr V.heap.size 3 a (fullL l m k) ∧ Below V.heap.size V wr)
        (fun _ i _ => (25 - intOf i).toNat)
      case atStart => exact ⟨0, -24, Lib.hid rfl, by omega, by omega, by omega, rfl, OwnI.nil _ _ _, Below.refl _ _⟩
      case round =>
        obtain ⟨k, b, HK, hk, hb24, hb25, rfl, hown, hb⟩ := hrel
        have HO := Lib.hid hown
        clear hown
        by_cases hlt : b ≤ 24
        · have hs := fullL_succ l m k b HK.out
          have hlen := fullL_length l m k
          have hk1 : k + 1 ≤ 49 := by have := HK.out; omega
          have v0 := (hb.cell (p := ⟨w.heap.size, 0, none⟩) hzV).trans y0
          have v1 := (hb.cell (p := ⟨w.heap.size, 1, none⟩) hzV).trans y1
          have hzr : w.heap.size < wr.heap.size := Nat.lt_of_lt_of_le hzV hb.size
          have BR := BZ.below hb BZ.lt
          have hgr := BR.lt
          have CZ : wr.rangeAt gz 0 (boolL fun _ => false) := BR.range
          have hu65 : Tryd.prog.underlying 65 = some (.array 30 4) := Tryd.underlying65
          have hi65 : (Tryd.prog.info? 65).map (·.size) = some (boolL fun _ => false).length := by rw [boolL_length]; exact (zero_of_info info30).2
          have HAr := Lib.hid (show RI wr.drew A l from hA.below hb.drew)
          have HMr := Lib.hid (show RA wr.drew M m from hM.below hb.drew)
          have HT := Lib.hid (fun W (h1 : RI W A l) (h2 : RA W M m) => lostWith_any A l c r M m d b W hn h1 h2 hgood (by omega) (by omega))
          have hgt : Tryd.prog.eqGuardType Tryd.prog.depth 65 = false := by kernel_rfl
          have hnl := none_lost l m b h30
          clear y0 y1 BR
          by_cases hq : lossI l m b = 0
          · rw [if_pos hq] at hs
            have HEQ := eqZero (lostL l m b) true (by rw [List.all_eq_true]; intro j hj; rw [hnl.2 hq j (List.mem_range.1 hj)]; rfl)
            have HS := Lib.hid hs
            clear hs hnl
            generalize lostL l m b = F at *
            go_upto_region 8 with fail
            have v0d : wr.drew.cell? ⟨w.heap.size, 0, none⟩ = some (.slice A l.length c) := v0
            have v1d : wr.drew.cell? ⟨w.heap.size, 1, none⟩ = some (.int .i64 r) := v1
            have CZd : wr.drew.rangeAt gz 0 (boolL fun _ => false) := CZ
            go_region_held3 (fun w' => w'.cell? ⟨w.heap.size, 0, none⟩ = some (.slice A l.length c) ∧ w'.cell? ⟨w.heap.size, 1, none⟩ = some (.int .i64 r) ∧ w'.rangeAt gz 0 (boolL fun _ => false))
              (first | exact ⟨v0d, v1d, CZd⟩ | exact ⟨V0, V1, CZ3⟩)
              (first | (go_at_call 49; refine (HT.out _ HAr.out HMr.out).mono ?_; rintro e w3 ⟨rfl, hb3⟩; have CZ3 : w3.rangeAt gz 0 (boolL fun _ => false) := (fun j v hj => (hb3.cell (p := ⟨gz, 0 + j, none⟩) hgr).trans (CZ j v hj)); have V0 := (hb3.cell (p := ⟨w.heap.size, 0, none⟩) hzr).trans v0; have V1 := (hb3.cell (p := ⟨w.heap.size, 1, none⟩) hzr).trans v1))
            all_goals
              have hbw3 : Below wr.heap.size wr w3 := (Below.refl _ wr).drew.trans hb3
              have hbr := Lib.hid (show Below wr.heap.size wr (w3.alloc (.cells #[.int .i64 b] 3)) from hbw3.alloc hbw3.size _)
              have ho3 := Lib.hid (HO.out.below hbr.out (Nat.le_refl _))
              have hc3 := Lib.hid (one_new w3 b)
              clear V0 V1 CZ3 v0 v1 v0d v1d CZd CZ hb3 hbw3 HEQ
              go_wp2_with (at_builtin; refine wpList_appI _ rfl (.tmp 27) (.tmp 29) rfl V.heap.size _ _ rfl ho3.out (some ⟨w3.heap.size, 0, none⟩) 1 1 [b] rfl rfl (fun h => by cases h) (fun j y hy => one_at hc3.out hy) (by omega) (Nat.le_trans hb.size hbr.out.size) ?_; intro v4 w4 ho4 hg4 hv4)
              go_roundw
              case rel =>
                refine ⟨k + 1, b + 1, Lib.hid (by have := HK.out; omega), hk1, by omega, by omega, by go_num, ?_, (hb.trans (hbr.out.mono hb.size)).grown hg4 (Nat.le_trans hb.size hbr.out.size) (fun j hj => (ho3.out.lt j hj).1)⟩
                rw [HS.out]
                exact ho4
              case measure => simp [intOf]; omega
          · rw [if_neg hq] at hs
            have HEQ := eqZero (lostL l m b) false (by
              cases hc : (List.range 30).all (fun j => lostL l m b j == false) with
              | false => rfl
              | true =>
                rw [List.all_eq_true] at hc
                exact absurd (hnl.1 fun j hj => by simpa using hc j (List.mem_range.2 hj)) hq)
            have HS := Lib.hid hs
            clear hs hnl hq
            generalize lostL l m b = F at *
            go_upto_region 8 with fail
            have v0d : wr.drew.cell? ⟨w.heap.size, 0, none⟩ = some (.slice A l.length c) := v0
            have v1d : wr.drew.cell? ⟨w.heap.size, 1, none⟩ = some (.int .i64 r) := v1
            have CZd : wr.drew.rangeAt gz 0 (boolL fun _ => false) := CZ
            go_region_held3 (fun w' => w'.cell? ⟨w.heap.size, 0, none⟩ = some (.slice A l.length c) ∧ w'.cell? ⟨w.heap.size, 1, none⟩ = some (.int .i64 r) ∧ w'.rangeAt gz 0 (boolL fun _ => false))
              (first | exact ⟨v0d, v1d, CZd⟩ | exact ⟨V0, V1, CZ3⟩)
              (first | (go_at_call 49; refine (HT.out _ HAr.out HMr.out).mono ?_; rintro e w3 ⟨rfl, hb3⟩; have CZ3 : w3.rangeAt gz 0 (boolL fun _ => false) := (fun j v hj => (hb3.cell (p := ⟨gz, 0 + j, none⟩) hgr).trans (CZ j v hj)); have V0 := (hb3.cell (p := ⟨w.heap.size, 0, none⟩) hzr).trans v0; have V1 := (hb3.cell (p := ⟨w.heap.size, 1, none⟩) hzr).trans v1))
            all_goals
              have hbw3 := Lib.hid (show Below wr.heap.size wr w3 from (Below.refl _ wr).drew.trans hb3)
              clear V0 V1 CZ3 v0 v1 v0d v1d CZd CZ hb3 HEQ
              go_wp2
              go_roundw
              case rel =>
                refine ⟨k + 1, b + 1, Lib.hid (by have := HK.out; omega), hk1, by omega, by omega, by go_num, ?_, hb.trans (hbw3.out.mono hb.size)⟩
                rw [HS.out]
                exact HO.out.below hbw3.out (Nat.le_refl _)
              case measure => simp [intOf]; omega
        · obtain rfl : b = 25 := by omega
          obtain rfl : k = 49 := by have := HK.out; omega
          go_wp2
          go_ret2
          rw [HG.out, HB.out, Bool.and_true]
          exact ⟨_, rfl, by simpa using HO.out.mono hB2.size, hB2.trans (hb.mono hB2.size)⟩
end Go.Proofs.YtbdffmacpajebaaDoor
