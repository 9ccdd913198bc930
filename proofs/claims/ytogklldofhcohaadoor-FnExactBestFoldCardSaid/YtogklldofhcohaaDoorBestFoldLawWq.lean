/- The walk of the law of BestFold. -/
import Derived.Test.YtogklldofhcohaaDoorBestFq
import Derived.Test.YtogklldofhcohaaDoorM5q
import Derived.Deep.DeepCutAuto
namespace Go.Proofs.YtogklldofhcohaaDoor
open Go.ChangeShapes Go.WideShapes Go.ChangeAt Go.RowKit
set_option linter.unusedVariables false
set_option linter.unusedSimpArgs false

set_option maxRecDepth 100000 in
set_option maxHeartbeats 8000000 in
theorem bestFLaw_core (A : Option Addr) (l : List Int) (c : Nat) (r : Int) (M : Option Addr) (m : List Nt) (d : Nat) (w : World) (hlc : l.length ≤ c) (hcm : c ≤ maxLen) (hA : RI w A l) (hmd : m.length ≤ d) (hdm : d ≤ maxLen) (hM : RA w M m) (hL : Lim w) (va : Int) (vb : Int) (vc : Bool)
    (HR : Hid (bestFR l r m = #[.int .i64 va, .int .i64 vb, .bool vc])) (hbig : l.length + m.length ≤ 1048576) :
    Calls Tryd.prog 4 #[.agg #[.slice A l.length c, .int .i64 r], .slice M m.length d] w fun e w' => e = .returned (.bool true) ∧ Below w.heap.size w w' := by
  unfold maxLen at hcm hdm
  have hbl : l.length ≤ 1048576 := by omega
  have hbm : m.length ≤ 1048576 := by omega
  have hb0 : Below w.heap.size w (w.alloc (.cells #[.slice A l.length c, .int .i64 r] 24)) := (Below.refl w.heap.size w).alloc (Nat.le_refl _) _
  have hx0 : Box (w.alloc (.cells #[.slice A l.length c, .int .i64 r] 24)) w.heap.size A l.length c r := Box.new w A l.length c r 24
  have hA := hA.below hb0
  have hM := hM.below hb0
  have hL := hL.below hb0
  have hleft1 : ¬ ((1048576 : Int) - l.length < 0) := by omega
  have hleft2 : ¬ ((1048576 : Int) - l.length - m.length < 0) := by omega
  go_enter Tryd.func4, Tryd.ntmps4
  go_wp2_with fail
  generalize (w.alloc (.cells #[.slice A l.length c, .int .i64 r] 24)) = W at *
  refine (szIns_any _ _ _ _ _ _ (by omega) (by omega) (by omega)).mono ?_
  rintro e w1 ⟨rfl, hBx⟩
  rw [if_neg (by omega)]
  go_wp2_with fail
  refine (szNoteS_any _ _ _ _ _ (by omega) (by omega) (by omega)).mono ?_
  rintro e w1' ⟨rfl, rfl⟩
  rw [if_neg (by omega)]
  obtain ⟨c0, c1, cz⟩ := hx0
  have k0 := (hBx.cell (p := ⟨w.heap.size, 0, none⟩) cz).trans c0
  have k1 := (hBx.cell (p := ⟨w.heap.size, 1, none⟩) cz).trans c1
  go_wp2_with fail
  refine (toIns_any _ _ _ _ _ hbl (hA.below hBx)).mono ?_
  rintro e wa ⟨ga, hga, rfl, hoa, hb⟩
  have hBx := hBx.trans (hb.mono hBx.size)
  clear hb k0 k1
  go_wp2_with fail
  refine (toNoteS_any _ _ _ _ hbm (hM.below hBx)).mono ?_
  rintro e wb ⟨rfl, hob, hb⟩
  have hBx := hBx.trans (hb.mono hBx.size)
  have hoa := hoa.below hb (Nat.le_refl _)
  have hzb0 := hBx.size
  clear hb
  go_wp2_with fail
  refine (specBestF_any _ _ _ _ _ _ _ _ hbl hoa.ra hbm (Nat.le_refl _) (by omega) hob.ra).mono ?_
  rintro e w3 ⟨rfl, hb⟩
  rw [HR.out]
  have hBx := hBx.trans (hb.mono hBx.size)
  have hzb3 := hBx.size
  clear hb hoa hob hga
  have k0 := (hBx.cell (p := ⟨w.heap.size, 0, none⟩) cz).trans c0
  have k1 := (hBx.cell (p := ⟨w.heap.size, 1, none⟩) cz).trans c1
  go_wp2_with fail
  refine (toIns_any _ _ _ _ _ hbl (hA.below hBx)).mono ?_
  rintro e w4 ⟨g4, hg4, rfl, ho4, hb⟩
  have hBx := hBx.trans (hb.mono hBx.size)
  have hz44 : g4 < w4.heap.size := (ho4.lt _ rfl).2
  clear hb k0 k1
  have hbx : Below w4.heap.size w4 (w4.alloc (.cells #[.slice (some ⟨g4, 0, none⟩) l.length l.length, .int .i64 r] 31)) := (Below.refl _ _).alloc (Nat.le_refl _) _
  obtain ⟨X0, X1, Xz⟩ := Box.new w4 (some ⟨g4, 0, none⟩) l.length l.length r 31
  go_wp2_with fail
  have hBx := hBx.trans (hbx.mono hBx.size)
  have ho4 := ho4.below hbx (Nat.le_refl _)
  have hz4 := (ho4.lt _ rfl).2
  have hzb := hBx.size
  generalize (w4.alloc (.cells #[.slice (some ⟨g4, 0, none⟩) l.length l.length, .int .i64 r] 31)) = W5 at *
  clear hbx
  refine (toNoteS_any _ _ _ _ hbm (hM.below hBx)).mono ?_
  rintro e w5 ⟨rfl, hn5, hb⟩
  have hBx := hBx.trans (hb.mono hBx.size)
  have ho4 := ho4.below hb (Nat.le_refl _)
  have X0 := (hb.cell (p := ⟨w4.heap.size, 0, none⟩) Xz).trans X0
  have X1 := (hb.cell (p := ⟨w4.heap.size, 1, none⟩) Xz).trans X1
  have hz5 := (hn5.lt _ rfl).2
  clear hb
  go_wp2_with fail
  refine (implBestF_any _ _ _ _ _ _ _ _ hbl ho4.ra hbm hn5.ra (hL.below hBx)).mono ?_
  rintro e w6 ⟨rfl, hb⟩
  rw [HR.out]
  have hBx := hBx.trans (hb.mono hBx.size)
  have ho4 := ho4.below hb (Nat.le_refl _)
  have hn5 := hn5.below hb (Nat.le_refl _)
  have hzw5 : w4.heap.size < w5.heap.size := by have := hz5; omega
  have X0 := (hb.cell (p := ⟨w4.heap.size, 0, none⟩) hzw5).trans X0
  have X1 := (hb.cell (p := ⟨w4.heap.size, 1, none⟩) hzw5).trans X1
  have hzw6 : w4.heap.size < w6.heap.size := Nat.lt_of_lt_of_le hzw5 hb.size
  clear hb
  have k0 := (hBx.cell (p := ⟨w.heap.size, 0, none⟩) cz).trans c0
  have k1 := (hBx.cell (p := ⟨w.heap.size, 1, none⟩) cz).trans c1
  go_upto_region 14 with fail
  have hA7d : RI w6.drew A l := hA.below hBx.drew
  have ho7d : OwnI w6.drew w3.heap.size 3 (.slice (some ⟨g4, 0, none⟩) l.length l.length) l := ho4
  have X0d : w6.drew.cell? ⟨w4.heap.size, 0, none⟩ = some (.slice (some ⟨g4, 0, none⟩) l.length l.length) := X0
  have X1d : w6.drew.cell? ⟨w4.heap.size, 1, none⟩ = some (.int .i64 r) := X1
  have hzw6d : w4.heap.size < w6.drew.heap.size := hzw6
  go_cut [61] (fun b wx => b = .bool false ∧ Below w6.heap.size w6 wx)
  case first =>
    go_region_with (first
      | (go_at_call 8; refine (toIns_any _ _ _ _ _ hbl hA7d).mono ?_; rintro e wp ⟨gp, hgp, rfl, hop, hbp⟩; have X0p := (hbp.cell (p := ⟨w4.heap.size, 0, none⟩) hzw6d).trans X0d; have X1p := (hbp.cell (p := ⟨w4.heap.size, 1, none⟩) hzw6d).trans X1d; have ho7p := ho7d.below hbp (Nat.le_refl _))
      | (go_at_call 12; refine (eqIns_any _ _ _ _ _ _ _ _ _ (by omega) (by omega) ho7p.ra hop.ra).mono ?_; rintro e wq ⟨rfl, hbq⟩))
    all_goals
      go_wp2_with fail
      go_meet
      case rel => exact ⟨by simp, ((Below.refl _ _).drew.trans hbp).trans (hbq.mono hbp.size)⟩
  case rest =>
    obtain ⟨rfl, hb⟩ := hcut
    have hBx := hBx.trans (hb.mono hBx.size)
    have ho4 := ho4.below hb (Nat.le_refl _)
    have hn5 := hn5.below hb (Nat.le_refl _)
    have X0 := (hb.cell (p := ⟨w4.heap.size, 0, none⟩) hzw6).trans X0
    have X1 := (hb.cell (p := ⟨w4.heap.size, 1, none⟩) hzw6).trans X1
    have hzw6 : w4.heap.size < wc.heap.size := Nat.lt_of_lt_of_le hzw6 hb.size
    clear hb k0 k1 hA7d ho7d X0d X1d hzw6d
    go_wp2_with fail
    refine (toNoteS_any _ _ _ _ hbm (hM.below hBx)).mono ?_
    rintro e w8 ⟨rfl, hn8, hb⟩
    have hBx := hBx.trans (hb.mono hBx.size)
    have ho4 := ho4.below hb (Nat.le_refl _)
    have hn5 := hn5.below hb (Nat.le_refl _)
    have X0 := (hb.cell (p := ⟨w4.heap.size, 0, none⟩) hzw6).trans X0
    have X1 := (hb.cell (p := ⟨w4.heap.size, 1, none⟩) hzw6).trans X1
    have hzw8 : w4.heap.size < w8.heap.size := Nat.lt_of_lt_of_le hzw6 hb.size
    clear hb
    go_wp2_with fail
    refine (eqNoteS_any _ _ _ _ _ _ _ (by omega) (by omega) hn5.ra hn8.ra).mono ?_
    rintro e w9 ⟨rfl, hb⟩
    have hBx := hBx.trans (hb.mono hBx.size)
    have ho4 := ho4.below hb (Nat.le_refl _)
    have hn5 := hn5.below hb (Nat.le_refl _)
    have X0 := (hb.cell (p := ⟨w4.heap.size, 0, none⟩) hzw8).trans X0
    have X1 := (hb.cell (p := ⟨w4.heap.size, 1, none⟩) hzw8).trans X1
    go_wp2
    go_ret
    exact ⟨rfl, hb0.trans (hBx.mono hb0.size)⟩
end Go.Proofs.YtogklldofhcohaaDoor
