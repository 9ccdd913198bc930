/- The text of a voice: the program's function, the model's VoiceText. -/
import Derived.Test.YtfcinddpnikloaaDoorVText
import Derived.Test.YtfcinddpnikloaaDoorAppS
import Derived.Test.YtfcinddpnikloaaDoorBld
import Derived.Test.YtfcinddpnikloaaDoorTextI
import Derived.OwnWalk
import Derived.Deep.DeepCutAuto
namespace Go.Proofs.YtfcinddpnikloaaDoor
open Go.RowKit Go.Sort
set_option linter.unusedVariables false
set_option linter.unusedSimpArgs false

def vtextR (l : List Nt) : Array Value := if goodV l = true then #[.string (bs (vT l)), .bool true] else #[.string ⟨#[]⟩, .bool false]

set_option maxRecDepth 100000 in
set_option maxHeartbeats 1000000 in
theorem specVText_any (A : Option Addr) (l : List Nt) (c : Nat) (w : World) (hn : l.length ≤ 1048576) (hA : RA w A l) :
    Calls Tryd.prog 11 #[.slice A l.length c] w fun e w' => e = .returned (.tuple (vtextR l)) ∧ Below w.heap.size w w' := by
  cases hgb : goodV l with
  | false =>
    rw [show vtextR l = #[.string ⟨#[]⟩, .bool false] from by simp [vtextR, hgb]]
    go_enter Tryd.func11, Tryd.ntmps11
    go_wp2_with fail
    refine (noGood_any _ _ _ _ hn hA).mono ?_
    rintro e w1 ⟨rfl, hb1⟩
    go_wp2
    go_ret2
    exact ⟨rfl, hb1⟩
  | true =>
    have hg := (goodV_iff l).1 hgb
    rw [show vtextR l = #[.string (bs (vT l)), .bool true] from by simp [vtextR, hgb]]
    go_enter Tryd.func11, Tryd.ntmps11
    go_wp2_with fail
    refine (noGood_any _ _ _ _ hn hA).mono ?_
    rintro e w1 ⟨rfl, hb1⟩
    go_wp2_with (go_at_call 25; refine (noText_any _ _ _ _ (hA.below hb1) hg.1 hg.2).mono ?_; rintro e w2 ⟨rfl, hb2⟩)
    go_ret2
    exact ⟨rfl, hb1.trans (hb2.mono hb1.size)⟩

set_option maxHeartbeats 1000000 in
theorem nameOfEvent_any (p n d : Int) (w : World) (hT : Tabs w) (hp : p = 0 ∨ 24 ≤ p ∧ p ≤ 96) :
    Calls Tryd.prog 28 #[.agg #[.int .i64 p, .int .i64 n, .int .i64 d]] w fun e w' => e = .returned (.string (bs (nameE p))) ∧ Below w.heap.size w w' := by
  have hb0 : Below w.heap.size w (w.alloc (.cells #[.int .i64 p, .int .i64 n, .int .i64 d] 58)) := (Below.refl w.heap.size w).alloc (Nat.le_refl _) _
  have hx0 : (w.alloc (.cells #[.int .i64 p, .int .i64 n, .int .i64 d] 58)).cell? ⟨w.heap.size, 0, none⟩ = some (.int .i64 p) := (World.cell?_alloc_new w _ _ 0).trans rfl
  have hz : w.heap.size < (w.alloc (.cells #[.int .i64 p, .int .i64 n, .int .i64 d] 58)).heap.size := by simp
  go_enter Tryd.func28, Tryd.ntmps28
  go_wp2_with fail
  generalize w.alloc (.cells #[.int .i64 p, .int .i64 n, .int .i64 d] 58) = V at *
  refine (isRest_any _ _ _ _).mono ?_
  rintro e w1 ⟨rfl, hb1⟩
  have hB := hb0.trans (hb1.mono hb0.size)
  have x1 := (hb1.cell (p := ⟨w.heap.size, 0, none⟩) hz).trans hx0
  rcases hp with rfl | hp
  · go_wp2
    go_ret
    exact ⟨rfl, hB⟩
  · have hd : decide (p = 0) = false := by simp; omega
    rw [hd]
    have hN := hT.below hB
    have hC := implPitch_any p w1 hN.names
    rw [pitchR_nm p hp.1 hp.2] at hC
    have HN := Lib.hid (show nameE p = nm p from if_neg (by omega))
    go_wp2_with (go_at_call 19; refine hC.mono ?_; rintro e w2 ⟨rfl, hb2⟩)
    go_ret
    rw [HN.out]
    exact ⟨rfl, hB.trans (hb2.mono hB.size)⟩

/-- What stands between two operations of a round. -/
structure Sv (w0 : World) (xb : Nat) (p n d : Int) (b : Nat) (v : Value) (ws : List (List UInt8)) (w : World) : Prop where
  x0 : w.cell? ⟨xb, 0, none⟩ = some (.int .i64 p)
  x1 : w.cell? ⟨xb, 1, none⟩ = some (.int .i64 n)
  x2 : w.cell? ⟨xb, 2, none⟩ = some (.int .i64 d)
  tabs : Tabs w
  own : OwnS w b v ws
  bel : Below b w0 w
  szb : b ≤ w.heap.size
theorem Sv.below {w0 : World} {xb : Nat} {p n d : Int} {b : Nat} {v : Value} {ws : List (List UInt8)} {w w' : World} (h : Sv w0 xb p n d b v ws w) (hb : Below w.heap.size w w') : Sv w0 xb p n d b v ws w' where
  x0 := (hb.cell (p := ⟨xb, 0, none⟩) (World.block_lt_of_cell? w _ h.x0)).trans h.x0
  x1 := (hb.cell (p := ⟨xb, 1, none⟩) (World.block_lt_of_cell? w _ h.x1)).trans h.x1
  x2 := (hb.cell (p := ⟨xb, 2, none⟩) (World.block_lt_of_cell? w _ h.x2)).trans h.x2
  tabs := h.tabs.below hb
  own := h.own.below hb (Nat.le_refl _)
  bel := h.bel.trans (hb.mono h.szb)
  szb := Nat.le_trans h.szb hb.size

set_option maxRecDepth 100000 in
set_option maxHeartbeats 4000000 in
theorem implVText_any (A : Option Addr) (l : List Nt) (c : Nat) (w : World) (hn : l.length ≤ 1048576) (hA : RA w A l) (hT : Tabs w) :
    Calls Tryd.prog 13 #[.slice A l.length c] w fun e w' => e = .returned (.tuple (vtextR l)) ∧ Below w.heap.size w w' := by
  cases hgb : goodV l with
  | false =>
    rw [show vtextR l = #[.string ⟨#[]⟩, .bool false] from by simp [vtextR, hgb]]
    go_enter Tryd.func13, Tryd.ntmps13
    go_wp2_with fail
    refine (implIsVoice_any' _ _ _ _ hn hA).mono ?_
    rintro e w1 ⟨rfl, hb1⟩
    go_wp2
    go_ret2
    exact ⟨rfl, hb1⟩
  | true =>
    have hg := (goodV_iff l).1 hgb
    have h20 := hg.2
    have HR := Lib.hid (show vtextR l = #[.string (bs (vT l)), .bool true] from by simp [vtextR, hgb])
    go_enter Tryd.func13, Tryd.ntmps13
    go_wp2_with fail
    refine (implIsVoice_any' _ _ _ _ hn hA).mono ?_
    rintro e w1 ⟨rfl, hb1⟩
    have hA1 := hA.below hb1
    have hT1 := hT.below hb1
    clear hA hT
    go_wp2
    go_loopw [4, 12] (fun v i wr => ∃ k : Nat, k ≤ l.length ∧ i = .int .i64 k ∧ OwnS wr w1.heap.size v ((l.take k).map wordOf) ∧ Below w1.heap.size w1 wr)
      (fun _ i _ => l.length - (intOf i).toNat)
    case atStart => exact ⟨0, Nat.zero_le _, rfl, OwnS.nil _ _, Below.refl _ _⟩
    case round =>
      obtain ⟨k, hk, rfl, hO, hb⟩ := hrel
      by_cases hlt : k < l.length
      · have hx : l[k]? = some l[k] := List.getElem?_eq_getElem hlt
        generalize l[k] = x at hx
        have hs : (l.take (k + 1)).map wordOf = (l.take k).map wordOf ++ [wordOf x] := by rw [List.take_add_one, hx]; simp
        have hv := evN_facts (hg.1 _ (List.mem_of_getElem? hx))
        obtain ⟨p, n, d⟩ := x
        obtain ⟨hvp, hvn, hvd⟩ := hv
        obtain ⟨g, o, rfl, hgb, h0, h1, h2⟩ := (hA1.below hb) k _ hx
        simp only at h0 h1 h2 hvp hvn hvd
        have i1 : (0 : Int) ≤ (k : Int) := by omega
        have i2 : (k : Int) < (l.length : Int) := by omega
        have hTr := hT1.below hb
        have hlk : ((l.take k).map wordOf).length ≤ 20 := by rw [List.length_map, List.length_take]; omega
        have sN : (bs (nameE p)).size ≤ 3 := by rw [bs_size]; exact nameE_len p hvp
        have s1 : (bs (dec n)).size ≤ 3 := by rw [bs_size]; exact dec_len n (by omega)
        have s2 : (bs (dec d)).size ≤ 3 := by rw [bs_size]; exact dec_len d (by omega)
        have HS1 := Lib.hid hs
        have HE := Lib.hid (show bs (nameE p) ++ bs [42] ++ bs (dec n) ++ bs [47] ++ bs (dec d) = bs (wordOf (p, n, d)) by simp only [bs_append, wordOf])
        have CN := Lib.hid (fun (W : World) (hW : Tabs W) => nameOfEvent_any p n d W hW hvp)
        have C1 := Lib.hid (fun (W : World) (hW : Tabs W) => itoa_k n W (by omega) (by omega) hW.pow)
        have C2 := Lib.hid (fun (W : World) (hW : Tabs W) => itoa_k d W (by omega) (by omega) hW.pow)
        have hxc : ∀ j, (wr.alloc (.cells #[.int .i64 p, .int .i64 n, .int .i64 d] 58)).cell? ⟨wr.heap.size, j, none⟩ = #[Value.int .i64 p, .int .i64 n, .int .i64 d][j]? := fun j => World.cell?_alloc_new wr _ _ j
        have hbV : Below wr.heap.size wr (wr.alloc (.cells #[.int .i64 p, .int .i64 n, .int .i64 d] 58)) := (Below.refl _ _).alloc (Nat.le_refl _) _
        have hTV := hTr.below hbV
        have hOV := hO.below hbV (Nat.le_refl _)
        have hbX := hb.trans (hbV.mono hb.size)
        clear hs hx hO hTr
        go_upto_region 7 with fail
        generalize wr.alloc (.cells #[.int .i64 p, .int .i64 n, .int .i64 d] 58) = V at *
        generalize wr.heap.size = xb at *
        have HS := Lib.hid ((Sv.mk ((hxc 0).trans rfl) ((hxc 1).trans rfl) ((hxc 2).trans rfl) hTV hOV hbX hbX.size : Sv w1 xb p n d w1.heap.size _ _ V).below ((Below.refl _ V).drew))
        have q0 := HS.out.x0
        have q1 := HS.out.x1
        have q2 := HS.out.x2
        clear hbV hTV hOV hxc hbX h0 h1 h2
        generalize hW : wordOf (p, n, d) = WW at *
        generalize bs (nameE p) = N at *
        generalize bs (dec n) = D1 at *
        generalize bs (dec d) = D2 at *
        generalize hL0 : (l.take k).map wordOf = L0 at *
        clear hW hL0
        have z1 : ¬ 9223372036854775807 < N.size + 1 := by omega
        have z2 : ¬ 9223372036854775807 < N.size + 1 + D1.size := by omega
        have z3 : ¬ 9223372036854775807 < N.size + 1 + D1.size + 1 := by omega
        have z4 : ¬ 9223372036854775807 < N.size + 1 + D1.size + 1 + D2.size := by omega
        go_region_law (first
          | (go_simp; go_at_call 28; refine (CN.out _ HS.out.tabs).mono ?_; rintro e w3 ⟨rfl, hb3⟩; have HS := Lib.hid (HS.out.below hb3); have q0 := HS.out.x0; have q1 := HS.out.x1; have q2 := HS.out.x2; clear hb3; dsimp only)
          | (go_simp; go_at_call_of 21 n; refine (C1.out _ HS.out.tabs).mono ?_; rintro e w3 ⟨rfl, hb3⟩; have HS := Lib.hid (HS.out.below hb3); have q0 := HS.out.x0; have q1 := HS.out.x1; have q2 := HS.out.x2; clear hb3; dsimp only)
          | (go_simp; go_at_call_of 21 d; refine (C2.out _ HS.out.tabs).mono ?_; rintro e w3 ⟨rfl, hb3⟩; have HS := Lib.hid (HS.out.below hb3); have q0 := HS.out.x0; have q1 := HS.out.x1; have q2 := HS.out.x2; clear hb3; dsimp only)
          | (refine step_appS rfl (.tmp 16) (.tmp 29) rfl w1.heap.size _ _ rfl (HS.out.own.below ((Below.refl _ _).alloc (Nat.le_refl _) _) (Nat.le_refl _)) _ WW rfl (by rw [← HE.out]; exact (World.cell?_alloc_new _ _ _ 0).trans rfl) (by omega) (Nat.le_trans HS.out.szb (by simp)) ?_; intro v4 w4 ho4 hg4; have hb4 := (HS.out.bel.alloc HS.out.szb _).grown hg4 (Nat.le_trans HS.out.szb (by simp)) (fun j hj => (HS.out.own.lt j hj).1)))
        all_goals
          go_wp2
          go_roundw
          case rel => exact ⟨k + 1, by omega, by go_num, by rw [HS1.out]; exact ho4, hb4⟩
          case measure => simp [intOf]; omega
      · obtain rfl : k = l.length := by omega
        have hv0 := vT_len l hg.1 l.length (Nat.le_refl _)
        rw [List.take_length] at hv0 hO
        go_wp2_with (go_at_call 29; refine (join_any _ _ _ [32] _ hO (by rw [List.length_map]; omega) (by show (vT l).length ≤ _; omega)).mono ?_; rintro e w3 ⟨rfl, hb3⟩)
        go_ret2
        rw [HR.out]
        exact ⟨rfl, hb1.trans ((hb.trans (hb3.mono hb.size)).mono hb1.size)⟩
end Go.Proofs.YtfcinddpnikloaaDoor
