/- The walk of the law of FoldScore. -/
import Derived.Test.YtogklldofhcohaaDoorM7q
import Derived.Test.YtogklldofhcohaaDoorM5q
import Derived.Deep.DeepCutAuto
namespace Go.Proofs.YtogklldofhcohaaDoor
open Go.ChangeShapes Go.WideShapes Go.ChangeAt Go.RowKit
set_option linter.unusedVariables false
set_option linter.unusedSimpArgs false

set_option maxRecDepth 100000 in
set_option maxHeartbeats 8000000 in
theorem scLaw_core (A : Option Addr) (l : List Int) (c : Nat) (r : Int) (M : Option Addr) (m : List Nt) (d : Nat) (w : World) (hlc : l.length ≤ c) (hcm : c ≤ maxLen) (hA : RI w A l) (hmd : m.length ≤ d) (hdm : d ≤ maxLen) (hM : RA w M m) (hL : Lim w) (G : List Nt) (na : Int) (ok : Bool) (hG : G.length ≤ 1048576)
    (HS : Hid (∀ (A : Option Addr) (c : Nat) (M : Option Addr) (d : Nat) (W : World), RI W A l → m.length ≤ d → d ≤ 9223372036854775807 → RA W M m → Calls Tryd.prog 7 #[.agg #[.slice A l.length c, .int .i64 r], .slice M m.length d] W fun e W' => ∃ v, e = .returned (.tuple #[v, .int .i64 na, .bool ok]) ∧ Own W' W.heap.size 47 v G ∧ Below W.heap.size W W'))
    (HI : Hid (∀ (A : Option Addr) (c : Nat) (M : Option Addr) (d : Nat) (W : World), RI W A l → RA W M m → m.length ≤ d → d ≤ 9223372036854775807 → Lim W → Calls Tryd.prog 10 #[.agg #[.slice A l.length c, .int .i64 r], .slice M m.length d] W fun e W' => ∃ v, e = .returned (.tuple #[v, .int .i64 na, .bool ok]) ∧ Own W' W.heap.size 47 v G ∧ Below W.heap.size W W'))
    (hbig : l.length + m.length ≤ 1048576) :
    Calls Tryd.prog 3 #[.agg #[.slice A l.length c, .int .i64 r], .slice M m.length d] w fun e w' => e = .returned (.bool true) ∧ Below w.heap.size w w' := by
  unfold maxLen at hcm hdm
  have hbl : l.length ≤ 1048576 := by omega
  have hbm : m.length ≤ 1048576 := by omega
  have hb0 : Below w.heap.size w (w.alloc (.cells #[.slice A l.length c, .int .i64 r] 24)) := (Below.refl w.heap.size w).alloc (Nat.le_refl _) _
  have hx0 : Box (w.alloc (.cells #[.slice A l.length c, .int .i64 r] 24)) w.heap.size A l.length c r := Box.new w A l.length c r 24
  have hA := hA.below hb0
  have hM := hM.below hb0
  have hL := hL.below hb0
  have hleft1 : ¬ ((1048576 : Int) - l.length < 0) := by omega
  have hleft2 : ¬ ((1048576 : Int) - l.length - m.length < 0) := by omega
  go_enter Tryd.func3, Tryd.ntmps3
  go_wp2_with fail
  generalize (w.alloc (.cells #[.slice A l.length c, .int .i64 r] 24)) = W at *
  refine (szIns_any _ _ _ _ _ _ (by omega) (by omega) (by omega)).mono ?_
  rintro e w1 ⟨rfl, hBx⟩
  rw [if_neg (by omega)]
  go_wp2_with fail
  refine (szNoteS_any _ _ _ _ _ (by omega) (by omega) (by omega)).mono ?_
  rintro e w1' ⟨rfl, rfl⟩
  rw [if_neg (by omega)]
  obtain ⟨c0, c1, cz⟩ := hx0
  have k0 := (hBx.cell (p := ⟨w.heap.size, 0, none⟩) cz).trans c0
  have k1 := (hBx.cell (p := ⟨w.heap.size, 1, none⟩) cz).trans c1
  go_wp2_with fail
  refine (toIns_any _ _ _ _ _ hbl (hA.below hBx)).mono ?_
  rintro e wa ⟨ga, hga, rfl, hoa, hb⟩
  have hBx := hBx.trans (hb.mono hBx.size)
  clear hb k0 k1
  go_wp2_with fail
  refine (toNoteS_any _ _ _ _ hbm (hM.below hBx)).mono ?_
  rintro e wb ⟨rfl, hob, hb⟩
  have hBx := hBx.trans (hb.mono hBx.size)
  have hoa := hoa.below hb (Nat.le_refl _)
  have hzb0 := hBx.size
  clear hb
  go_wp2_with fail
  refine (HS.out _ _ _ _ _ hoa.ra (Nat.le_refl _) (by omega) hob.ra).mono ?_
  rintro e w3 ⟨v0, rfl, hv0, hb⟩
  have hBx := hBx.trans (hb.mono hBx.size)
  have lt0 : ∀ j, v0.ownBlock = some j → W.heap.size ≤ j ∧ j < w3.heap.size := fun j hj => ⟨Nat.le_trans hzb0 (hv0.lt j hj).1, (hv0.lt j hj).2⟩
  have hzb3 := hBx.size
  clear hb hoa hob hga
  have LT0 := Lib.hid lt0
  clear lt0
  have k0 := (hBx.cell (p := ⟨w.heap.size, 0, none⟩) cz).trans c0
  have k1 := (hBx.cell (p := ⟨w.heap.size, 1, none⟩) cz).trans c1
  go_wp2_with fail
  refine (toIns_any _ _ _ _ _ hbl (hA.below hBx)).mono ?_
  rintro e w4 ⟨g4, hg4, rfl, ho4, hb⟩
  have hBx := hBx.trans (hb.mono hBx.size)
  have hv0 := hv0.below hb (Nat.le_refl _)
  have hz44 : g4 < w4.heap.size := (ho4.lt _ rfl).2
  clear hb k0 k1
  have hbx : Below w4.heap.size w4 (w4.alloc (.cells #[.slice (some ⟨g4, 0, none⟩) l.length l.length, .int .i64 r] 31)) := (Below.refl _ _).alloc (Nat.le_refl _) _
  obtain ⟨X0, X1, Xz⟩ := Box.new w4 (some ⟨g4, 0, none⟩) l.length l.length r 31
  go_wp2_with fail
  have hBx := hBx.trans (hbx.mono hBx.size)
  have hv0 := hv0.below hbx (Nat.le_refl _)
  have ho4 := ho4.below hbx (Nat.le_refl _)
  have hz4 := (ho4.lt _ rfl).2
  have hzb := hBx.size
  generalize (w4.alloc (.cells #[.slice (some ⟨g4, 0, none⟩) l.length l.length, .int .i64 r] 31)) = W5 at *
  clear hbx
  refine (toNoteS_any _ _ _ _ hbm (hM.below hBx)).mono ?_
  rintro e w5 ⟨rfl, hn5, hb⟩
  have hBx := hBx.trans (hb.mono hBx.size)
  have hv0 := hv0.below hb (Nat.le_refl _)
  have ho4 := ho4.below hb (Nat.le_refl _)
  have X0 := (hb.cell (p := ⟨w4.heap.size, 0, none⟩) Xz).trans X0
  have X1 := (hb.cell (p := ⟨w4.heap.size, 1, none⟩) Xz).trans X1
  have hz5 := (hn5.lt _ rfl).2
  clear hb
  go_wp2_with fail
  refine (HI.out _ _ _ _ _ ho4.ra hn5.ra (Nat.le_refl _) (by omega) (hL.below hBx)).mono ?_
  rintro e w6 ⟨v1, rfl, hv1, hb⟩
  have lt1 : ∀ j, v1.ownBlock = some j → w5.heap.size ≤ j ∧ j < w6.heap.size := hv1.lt
  have LT1 := Lib.hid lt1
  clear lt1
  have hBx := hBx.trans (hb.mono hBx.size)
  have hv0 := hv0.below hb (Nat.le_refl _)
  have ho4 := ho4.below hb (Nat.le_refl _)
  have hn5 := hn5.below hb (Nat.le_refl _)
  have hzw5 : w4.heap.size < w5.heap.size := by have := hz5; omega
  have X0 := (hb.cell (p := ⟨w4.heap.size, 0, none⟩) hzw5).trans X0
  have X1 := (hb.cell (p := ⟨w4.heap.size, 1, none⟩) hzw5).trans X1
  have hzw6 : w4.heap.size < w6.heap.size := Nat.lt_of_lt_of_le hzw5 hb.size
  clear hb
  obtain ⟨A0, c0', hf0, hr0⟩ := hv0.form
  obtain ⟨A1, c1', hf1, hr1⟩ := hv1.form
  subst hf0
  subst hf1
  go_wp2_with fail
  refine (eqNoteS_any _ _ _ _ _ _ _ (by omega) (by omega) hr1 hr0).mono ?_
  rintro e w7 ⟨rfl, hb⟩
  have hBx := hBx.trans (hb.mono hBx.size)
  have hv0 := hv0.below hb (Nat.le_refl _)
  have hv1 := hv1.below hb (Nat.le_refl _)
  have ho4 := ho4.below hb (Nat.le_refl _)
  have hn5 := hn5.below hb (Nat.le_refl _)
  have X0 := (hb.cell (p := ⟨w4.heap.size, 0, none⟩) hzw6).trans X0
  have X1 := (hb.cell (p := ⟨w4.heap.size, 1, none⟩) hzw6).trans X1
  have hzw7 : w4.heap.size < w7.heap.size := Nat.lt_of_lt_of_le hzw6 hb.size
  have k0 := (hBx.cell (p := ⟨w.heap.size, 0, none⟩) cz).trans c0
  have k1 := (hBx.cell (p := ⟨w.heap.size, 1, none⟩) cz).trans c1
  clear hr0 hr1 hb
  go_upto_region 14 with fail
  have hA7d : RI w7.drew A l := hA.below hBx.drew
  have ho7d : OwnI w7.drew w3.heap.size 3 (.slice (some ⟨g4, 0, none⟩) l.length l.length) l := ho4
  have X0d : w7.drew.cell? ⟨w4.heap.size, 0, none⟩ = some (.slice (some ⟨g4, 0, none⟩) l.length l.length) := X0
  have X1d : w7.drew.cell? ⟨w4.heap.size, 1, none⟩ = some (.int .i64 r) := X1
  have hzw7d : w4.heap.size < w7.drew.heap.size := hzw7
  go_cut [68] (fun b wx => b = .bool false ∧ Below w7.heap.size w7 wx)
  case first =>
    go_region_with (first
      | (go_at_call 8; refine (toIns_any _ _ _ _ _ hbl hA7d).mono ?_; rintro e wp ⟨gp, hgp, rfl, hop, hbp⟩; have X0p := (hbp.cell (p := ⟨w4.heap.size, 0, none⟩) hzw7d).trans X0d; have X1p := (hbp.cell (p := ⟨w4.heap.size, 1, none⟩) hzw7d).trans X1d; have ho7p := ho7d.below hbp (Nat.le_refl _))
      | (go_at_call 12; refine (eqIns_any _ _ _ _ _ _ _ _ _ (by omega) (by omega) ho7p.ra hop.ra).mono ?_; rintro e wq ⟨rfl, hbq⟩))
    all_goals
      go_wp2_with fail
      go_meet
      case rel => exact ⟨by simp, ((Below.refl _ _).drew.trans hbp).trans (hbq.mono hbp.size)⟩
  case rest =>
    obtain ⟨rfl, hb⟩ := hcut
    have hBx := hBx.trans (hb.mono hBx.size)
    have hv0 := hv0.below hb (Nat.le_refl _)
    have hv1 := hv1.below hb (Nat.le_refl _)
    have ho4 := ho4.below hb (Nat.le_refl _)
    have hn5 := hn5.below hb (Nat.le_refl _)
    have X0 := (hb.cell (p := ⟨w4.heap.size, 0, none⟩) hzw7).trans X0
    have X1 := (hb.cell (p := ⟨w4.heap.size, 1, none⟩) hzw7).trans X1
    have hzw7 : w4.heap.size < wc.heap.size := Nat.lt_of_lt_of_le hzw7 hb.size
    clear hb k0 k1 hA7d ho7d X0d X1d hzw7d
    go_wp2_with fail
    refine (toNoteS_any _ _ _ _ hbm (hM.below hBx)).mono ?_
    rintro e w8 ⟨rfl, hn8, hb⟩
    have hBx := hBx.trans (hb.mono hBx.size)
    have hv0 := hv0.below hb (Nat.le_refl _)
    have hv1 := hv1.below hb (Nat.le_refl _)
    have ho4 := ho4.below hb (Nat.le_refl _)
    have hn5 := hn5.below hb (Nat.le_refl _)
    have X0 := (hb.cell (p := ⟨w4.heap.size, 0, none⟩) hzw7).trans X0
    have X1 := (hb.cell (p := ⟨w4.heap.size, 1, none⟩) hzw7).trans X1
    have hzw8 : w4.heap.size < w8.heap.size := Nat.lt_of_lt_of_le hzw7 hb.size
    clear hb
    go_wp2_with fail
    refine (eqNoteS_any _ _ _ _ _ _ _ (by omega) (by omega) hn5.ra hn8.ra).mono ?_
    rintro e w9 ⟨rfl, hb⟩
    have hBx := hBx.trans (hb.mono hBx.size)
    have hv0 := hv0.below hb (Nat.le_refl _)
    have hv1 := hv1.below hb (Nat.le_refl _)
    have ho4 := ho4.below hb (Nat.le_refl _)
    have hn5 := hn5.below hb (Nat.le_refl _)
    have X0 := (hb.cell (p := ⟨w4.heap.size, 0, none⟩) hzw8).trans X0
    have X1 := (hb.cell (p := ⟨w4.heap.size, 1, none⟩) hzw8).trans X1
    clear hb hn8
    go_wp2_with fail
    refine (markIns_any _ l _ r 1 _ _ hbl (by omega) (by omega) ho4).mono ?_
    rintro e wm ⟨rfl, _, hg⟩
    have hBx := hBx.grown hg hBx.size (fun j hj => by simp [Value.ownBlock] at hj; subst hj; omega)
    have hv0 := hv0.grown hg (.inr fun h => by have := LT0.out g4 h; omega)
    have hv1 := hv1.grown hg (.inr fun h => by have := LT1.out g4 h; omega)
    have hn5 := hn5.grown hg (.inr (by simp [Value.ownBlock]; omega))
    clear hg X0 X1 ho4
    go_wp2_with fail
    refine (markNoteS_wide _ m (1 + (l.length : Int)) _ _ hbm (by omega) (by omega) hn5).mono ?_
    rintro e wn ⟨rfl, _, hg⟩
    have hBx := hBx.grown hg hBx.size (fun j hj => by simp [Value.ownBlock] at hj; subst hj; exact hzb)
    have hv0 := hv0.grown hg (.inr fun h => by have := LT0.out W5.heap.size h; omega)
    have hv1 := hv1.grown hg (.inr fun h => by have := LT1.out W5.heap.size h; omega)
    clear hg hn5
    obtain ⟨A0', c0'', hf0, hr0⟩ := hv0.form
    obtain ⟨A1', c1'', hf1, hr1⟩ := hv1.form
    injection hf0 with e1 e2 e3
    injection hf1 with e4 e5 e6
    subst e1 e3 e4 e6
    clear e2 e5
    go_wp2_with fail
    refine (eqNoteS_any _ _ _ _ _ _ _ (by omega) (by omega) hr1 hr0).mono ?_
    rintro e wo ⟨rfl, hb⟩
    have hBx := hBx.trans (hb.mono hBx.size)
    have hv0 := hv0.below hb (Nat.le_refl _)
    have hv1 := hv1.below hb (Nat.le_refl _)
    clear hr0 hr1 hb
    go_wp2_with fail
    refine (markNoteS_any _ G 1 _ _ hG (by omega) (by omega) hv1).mono ?_
    rintro e wp ⟨rfl, hma, hg⟩
    have hBx := hBx.grown hg hBx.size (fun j hj => by have := LT1.out j hj; omega)
    have hv0 := hv0.grown hg (by
      cases h : (Value.slice A0 G.length c0').ownBlock with
      | none => exact .inl rfl
      | some j => exact .inr fun h' => by have a := LT0.out _ h; have b := LT1.out _ h'.symm; omega)
    clear hg
    go_wp2_with fail
    refine (heldNoteS_any _ 1 G.length _ _ hG (by omega) (by omega) hma.ra).mono ?_
    rintro e wq ⟨rfl, rfl⟩
    have k0 := (hBx.cell (p := ⟨w.heap.size, 0, none⟩) cz).trans c0
    have k1 := (hBx.cell (p := ⟨w.heap.size, 1, none⟩) cz).trans c1
    go_wp2_with fail
    refine (toIns_any _ _ _ _ _ hbl (hA.below hBx)).mono ?_
    rintro e wr ⟨gr, hgr, rfl, hor, hb⟩
    have hBx := hBx.trans (hb.mono hBx.size)
    have hv0 := hv0.below hb (Nat.le_refl _)
    have hma := hma.below hb (Nat.le_refl _)
    clear hb k0 k1
    go_wp2_with fail
    refine (toNoteS_any _ _ _ _ hbm (hM.below hBx)).mono ?_
    rintro e ws ⟨rfl, hns, hb⟩
    have hBx := hBx.trans (hb.mono hBx.size)
    have hv0 := hv0.below hb (Nat.le_refl _)
    have hma := hma.below hb (Nat.le_refl _)
    have hor := hor.below hb (Nat.le_refl _)
    clear hb
    go_wp2_with fail
    refine (HI.out _ _ _ _ _ hor.ra hns.ra (Nat.le_refl _) (by omega) (hL.below hBx)).mono ?_
    rintro e wt ⟨v2, rfl, hv2, hb⟩
    have hBx := hBx.trans (hb.mono hBx.size)
    have hv0 := hv0.below hb (Nat.le_refl _)
    have hma := hma.below hb (Nat.le_refl _)
    clear hb hor hns
    obtain ⟨A2, c2, hf2, hr2⟩ := hv2.form
    subst hf2
    go_wp2_with fail
    refine (eqNoteS_any _ _ _ _ _ _ _ (by omega) (by omega) hr2 hv0.ra).mono ?_
    rintro e wu ⟨rfl, hb⟩
    have hBx := hBx.trans (hb.mono hBx.size)
    have hma := hma.below hb (Nat.le_refl _)
    clear hr2 hb
    go_wp2_with fail
    refine (heldNoteS_any _ 1 G.length _ _ hG (by omega) (by omega) hma.ra).mono ?_
    rintro e wv ⟨rfl, rfl⟩
    go_wp2
    go_ret
    exact ⟨rfl, hb0.trans (hBx.mono hb0.size)⟩
end Go.Proofs.YtogklldofhcohaaDoor
