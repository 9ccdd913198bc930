/- The text of a score: the program's function. -/
import Derived.Test.YtfcinddpnikloaaDoorBld
import Derived.Test.YtfcinddpnikloaaDoorIsScore
import Derived.OwnWalk
import Derived.Deep.DeepCutAuto
namespace Go.Proofs.YtfcinddpnikloaaDoor
open Go.RowKit Go.Sort
set_option linter.unusedVariables false
set_option linter.unusedSimpArgs false

theorem pitchR_nm (p : Int) (h : 24 ≤ p) (h' : p ≤ 96) : pitchR p = #[.string (bs (nm p)), .bool true] := by
  unfold pitchR
  rw [if_pos (by simp [inR]; omega)]
  rfl

/-- What stands between two operations of a round: the note's cells, the tables, the builder. -/
structure St (w0 : World) (xb : Nat) (s n : Int) (b : Nat) (t : List UInt8) (w : World) : Prop where
  x1 : w.cell? ⟨xb, 1, none⟩ = some (.int .i64 s)
  x2 : w.cell? ⟨xb, 2, none⟩ = some (.int .i64 n)
  tabs : Tabs w
  bd : Bd b t w
  bel : Below b w0 w
  szb : b ≤ w.heap.size
theorem St.below {w0 : World} {xb : Nat} {s n : Int} {b : Nat} {t : List UInt8} {w w' : World} (h : St w0 xb s n b t w) (hb : Below w.heap.size w w') : St w0 xb s n b t w' where
  x1 := (hb.cell (p := ⟨xb, 1, none⟩) (World.block_lt_of_cell? w _ h.x1)).trans h.x1
  x2 := (hb.cell (p := ⟨xb, 2, none⟩) (World.block_lt_of_cell? w _ h.x2)).trans h.x2
  tabs := h.tabs.below hb
  bd := h.bd.below hb
  bel := h.bel.trans (hb.mono h.szb)
  szb := Nat.le_trans h.szb hb.size

set_option maxRecDepth 100000 in
set_option maxHeartbeats 4000000 in
theorem implText_any (A : Option Addr) (l : List Nt) (c : Nat) (w : World) (hn : l.length ≤ 1048576) (hA : RA w A l) (hT : Tabs w) :
    Calls Tryd.prog 8 #[.slice A l.length c] w fun e w' => e = .returned (.tuple (textR l)) ∧ Below w.heap.size w w' := by
  cases hgb : goodB l with
  | false =>
    rw [show textR l = #[.string ⟨#[]⟩, .bool false] from by simp [textR, hgb]]
    go_enter Tryd.func8, Tryd.ntmps8
    go_wp2_with fail
    refine (isScore_any _ _ _ _ hn hA).mono ?_
    rintro e w1 ⟨rfl, hb1⟩
    go_wp2
    go_ret2
    exact ⟨rfl, hb1⟩
  | true =>
    have hg := (goodB_iff l).1 hgb
    have h30 := hg.2
    have HR := Lib.hid (show textR l = #[.string (bs (textOf l)), .bool true] from by simp [textR, hgb])
    go_enter Tryd.func8, Tryd.ntmps8
    go_wp2_with fail
    refine (isScore_any _ _ _ _ hn hA).mono ?_
    rintro e w1 ⟨rfl, hb1⟩
    have hA1 := hA.below hb1
    have hT1 := hT.below hb1
    have hB0 := Bd.fresh w1
    have hbb : Below w1.heap.size w1 (w1.alloc (.cells #[.pointer none, .slice none 0 0] 46)) := (Below.refl _ _).alloc (Nat.le_refl _) _
    clear hA hT
    go_wp2
    go_loopw [14] (fun i wr => ∃ k : Nat, k ≤ l.length ∧ i = .int .i64 k ∧ Bd w1.heap.size (textOf (l.take k)) wr ∧ Below w1.heap.size w1 wr)
      (fun i _ => l.length - (intOf i).toNat)
    case atStart => exact ⟨0, Nat.zero_le _, rfl, hB0, hbb⟩
    case round =>
      obtain ⟨k, hk, rfl, hB, hb⟩ := hrel
      clear hB0 hbb
      by_cases hlt : k < l.length
      · have hx : l[k]? = some l[k] := List.getElem?_eq_getElem hlt
        generalize l[k] = x at hx
        have hs := textOf_snoc l k x hx
        have hv := (noteN_iff x).1 (hg.1 k x hlt hx).1
        obtain ⟨p, s, n⟩ := x
        simp only at hs hv
        obtain ⟨g, o, rfl, hgb, h0, h1, h2⟩ := (hA1.below hb) k _ hx
        simp only at h0 h1 h2
        have i1 : (0 : Int) ≤ (k : Int) := by omega
        have i2 : (k : Int) < (l.length : Int) := by omega
        have hTr := hT1.below hb
        have sN : (bs (nm p)).size ≤ 3 := by rw [bs_size]; exact nm_len p (by omega) (by omega)
        have s1 : (bs (dec s)).size ≤ 3 := by rw [bs_size]; exact dec_len s (by omega)
        have s2 : (bs (dec n)).size ≤ 3 := by rw [bs_size]; exact dec_len n (by omega)
        have sT := textOf_len l hg k hk
        have sL := lineOf_len (p, s, n) (by exact (noteN_iff (p, s, n)).2 hv)
        have HSN := Lib.hid hs
        have HE := Lib.hid (show bs (nm p) ++ bs [32] ++ bs (dec s) ++ bs [32] ++ bs (dec n) ++ bs [10] = bs (lineOf (p, s, n)) by simp only [bs_append, lineOf])
        have CN := Lib.hid (fun (W : World) (hW : Tabs W) => by have := implPitch_any p W hW.names; rwa [pitchR_nm p (by omega) (by omega)] at this)
        have C1 := Lib.hid (fun (W : World) (hW : Tabs W) => itoa_k s W (by omega) (by omega) hW.pow)
        have C2 := Lib.hid (fun (W : World) (hW : Tabs W) => itoa_k n W (by omega) (by omega) hW.pow)
        have CW := Lib.hid (fun (W : World) (hW : Bd w1.heap.size (textOf (l.take k)) W) => by have := writeString_k w1.heap.size (textOf (l.take k)) (lineOf (p, s, n)) W hW (by omega); rwa [← hs, ← HE.out] at this)
        have hx1 : (wr.alloc (.cells #[.int .i64 p, .int .i64 s, .int .i64 n] 40)).heap.size = wr.heap.size + 1 := by simp
        have hxc : ∀ j, (wr.alloc (.cells #[.int .i64 p, .int .i64 s, .int .i64 n] 40)).cell? ⟨wr.heap.size, j, none⟩ = #[Value.int .i64 p, .int .i64 s, .int .i64 n][j]? := fun j => World.cell?_alloc_new wr _ _ j
        have hbV : Below wr.heap.size wr (wr.alloc (.cells #[.int .i64 p, .int .i64 s, .int .i64 n] 40)) := (Below.refl _ _).alloc (Nat.le_refl _) _
        have hTV := hTr.below hbV
        have hBV := hB.below hbV
        clear hs hx
        go_upto_region 8 with fail
        have hbX := hb.trans (hbV.mono hb.size)
        have hzx : wr.heap.size < (wr.alloc (.cells #[.int .i64 p, .int .i64 s, .int .i64 n] 40)).heap.size := by simp
        generalize wr.alloc (.cells #[.int .i64 p, .int .i64 s, .int .i64 n] 40) = V at *
        generalize wr.heap.size = xb at *
        have x1 := (hxc 1).trans rfl
        have x2 := (hxc 2).trans rfl
        refine (CN.out _ hTV).mono ?_
        rintro e V2 ⟨rfl, hb2⟩
        have y1 : V2.cell? ⟨xb, 1, none⟩ = some (.int .i64 s) := (hb2.cell (p := ⟨xb, 1, none⟩) hzx).trans x1
        have y2 : V2.cell? ⟨xb, 2, none⟩ = some (.int .i64 n) := (hb2.cell (p := ⟨xb, 2, none⟩) hzx).trans x2
        have hz2 : xb < V2.heap.size := Nat.lt_of_lt_of_le hzx hb2.size
        have HS := Lib.hid ((St.mk y1 y2 (hTV.below hb2) (hBV.below hb2) (hbX.trans (hb2.mono hbX.size)) (Nat.le_trans hbX.size hb2.size) : St w1 xb s n w1.heap.size (textOf (l.take k)) V2).below ((Below.refl _ V2).drew))
        have q1 := HS.out.x1
        have q2 := HS.out.x2
        clear hbV hTV hBV hTr hB hxc x1 x2 hx1 hzx hb2 hbX h0 h1 h2 CN
        generalize hL : ((lineOf (p, s, n)).length : Int) = L at *
        generalize bs (lineOf (p, s, n)) = BL at *
        generalize bs (nm p) = N at *
        generalize bs (dec s) = D1 at *
        generalize bs (dec n) = D2 at *
        generalize textOf (l.take k) = T0 at *
        generalize hTT : textOf (l.take (k + 1)) = T1 at *
        have HTT := Lib.hid hTT
        clear HSN HE hL hTT
        have z1 : ¬ 9223372036854775807 < N.size + 1 := by omega
        have z2 : ¬ 9223372036854775807 < N.size + 1 + D1.size := by omega
        have z3 : ¬ 9223372036854775807 < N.size + 1 + D1.size + 1 := by omega
        have z4 : ¬ 9223372036854775807 < N.size + 1 + D1.size + 1 + D2.size := by omega
        have z5 : ¬ 9223372036854775807 < N.size + 1 + D1.size + 1 + D2.size + 1 := by omega
        go_wp2_with fail
        go_region_law (first
          | (go_simp; go_at_call_of 21 s; refine (C1.out _ HS.out.tabs).mono ?_; rintro e w3 ⟨rfl, hb3⟩; have HS := Lib.hid (HS.out.below hb3); have q1 := HS.out.x1; have q2 := HS.out.x2; clear hb3; dsimp only)
          | (go_simp; go_at_call_of 21 n; refine (C2.out _ HS.out.tabs).mono ?_; rintro e w3 ⟨rfl, hb3⟩; have HS := Lib.hid (HS.out.below hb3); have q1 := HS.out.x1; have q2 := HS.out.x2; clear hb3; dsimp only)
          | (go_simp; go_at_call 20; refine (CW.out _ HS.out.bd).mono ?_; rintro e w4 ⟨rfl, hB4, hb4⟩; have hb4 := HS.out.bel.trans hb4; dsimp only))
        all_goals
          go_wp2
          go_roundw
          case rel => exact ⟨k + 1, by omega, by go_num, by rw [HTT.out]; exact hB4, hb4⟩
          case measure => simp [intOf]; omega
      · obtain rfl : k = l.length := by omega
        go_wp2_with (go_at_call 22; refine (string_k _ _ _ hB).mono ?_; rintro e w3 ⟨rfl, hb3⟩)
        go_ret2
        rw [HR.out]
        exact ⟨rfl, hb1.trans ((hb.trans hb3).mono hb1.size)⟩
end Go.Proofs.YtfcinddpnikloaaDoor
