/- Contracts: the model's sum of lengths, the program's ticks and edges. -/
import Derived.Test.YtecbeicppfcofaaVoice
import Derived.Test.YtecbeicppfcofaaAppI
import Derived.OwnWalk
import Derived.Deep.DeepCutAuto
namespace Go.Proofs.Ytecbeicppfcofaa
open Go.RowKit
set_option linter.unusedVariables false
set_option linter.unusedSimpArgs false

set_option maxHeartbeats 1000000 in
theorem ticksOf_any (p n d : Int) (w : World) (hx : okT (p, n, d)) :
    Calls Try.prog 79 #[.agg #[.int .i64 p, .int .i64 n, .int .i64 d]] w fun e w' => e = .returned (.int .i64 (tk (p, n, d))) ∧ Below w.heap.size w w' := by
  have hb := hx.bounds
  obtain ⟨h1, h2, h3, h4⟩ := hx
  simp only at h1 h2 h3 hb
  have hq : (720720 : Int).tdiv d = 720720 / d := Int.tdiv_eq_ediv_of_nonneg (by omega)
  have hq1 : 0 ≤ 720720 / d := Int.ediv_nonneg (by omega) (by omega)
  have hq2 : 720720 / d ≤ 720720 := Int.ediv_le_self _ (by omega)
  have ht : n * (720720 / d) = tk (p, n, d) := rfl
  have hdz : (d == 0) = false := by simp; omega
  clear h3
  generalize tk (p, n, d) = t at *
  generalize 720720 / d = q at *
  go_enter Try.func79, Try.ntmps79
  go_wp2_with fail
  go_region
  all_goals
    go_wp2
    go_ret
    exact ⟨ret_int (by first | exact ht | omega), by first | exact ((Below.refl _ _).alloc (Nat.le_refl _) _).drew | exact (Below.refl _ _).drew.alloc (Nat.le_refl _) _⟩

set_option maxRecDepth 100000 in
set_option maxHeartbeats 2000000 in
theorem noSum_any (A : Option Addr) (l : List Nt) (m c : Nat) (w : World) (hm : l.length = m) (hn : m ≤ 20) (hok : ∀ x ∈ l, okT x) (hA : RA w A l) :
    Calls Try.prog 47 #[.slice A m c] w fun e w' => e = .returned (.tuple #[.int .i64 (low (tks l) 720720).1, .int .i64 (low (tks l) 720720).2]) ∧ Below w.heap.size w w' := by
  subst hm
  go_enter Try.func47, Try.ntmps47
  go_wp2
  go_loopw [4, 5, 10] (fun a b i wr => ∃ k : Nat, k ≤ l.length ∧ i = .int .i64 k ∧ a = .int .i64 (low (tks (l.take k)) 720720).1 ∧ b = .int .i64 (low (tks (l.take k)) 720720).2 ∧ Below w.heap.size w wr)
    (fun _ _ i _ => l.length - (intOf i).toNat)
  case atStart =>
    have : low (tks (l.take 0)) 720720 = (0, 1) := low_zero (by omega)
    refine ⟨0, Nat.zero_le _, rfl, ?_, ?_, Below.refl _ _⟩ <;> rw [this]
  case round =>
    obtain ⟨k, hk, rfl, rfl, rfl, hb⟩ := hrel
    by_cases hlt : k < l.length
    · have hx : l[k]? = some l[k] := List.getElem?_eq_getElem hlt
      generalize l[k] = x at hx
      have hox := hok x (List.mem_of_getElem? hx)
      have htk := tks_take hx
      have hbd := tks_bounds (l := l.take k) (fun y hy => hok y (List.mem_of_mem_take hy))
      have hlen : (l.take k).length ≤ 20 := by rw [List.length_take]; omega
      have hT0 : 0 ≤ tks (l.take k) := hbd.1
      have hT1 : tks (l.take k) ≤ 30000000000 := by omega
      have hadd := low_add hT0 hox
      have hls := low_spec hT0 (show (0 : Int) < 720720 by omega)
      have hxb := hox.bounds
      have hx4 := hox.2.2.2
      have hx1 := hox.1
      have hx2 := hox.2.1
      rw [← htk] at hadd
      obtain ⟨p, n, d⟩ := x
      simp only at hadd hxb hx1 hx2
      obtain ⟨g, o, rfl, hg, h0, h1, h2⟩ := (hA.below hb) k _ hx
      simp only at h0 h1 h2
      have i1 : (0 : Int) ≤ (k : Int) := by omega
      have i2 : (k : Int) < (l.length : Int) := by omega
      have a0 := hls.2.2.2.1
      have b0 := hls.2.2.2.2.1
      have a1 := hls.2.2.2.2.2.1
      have b1 := hls.2.2.2.2.2.2.1
      clear hls hox hok
      generalize hL : low (tks (l.take k)) 720720 = L at *
      obtain ⟨a, b⟩ := L
      simp only at hadd a0 b0 a1 b1
      have m1 : 0 ≤ a * d := Int.mul_nonneg a0 (by omega)
      have m2 : a * d ≤ 30000000000 * 720720 := Int.mul_le_mul (by omega) hxb.2.2 (by omega) (by omega)
      have m3 : 0 ≤ n * b := Int.mul_nonneg hx1 (by omega)
      have m4 : n * b ≤ 1500000000 * 720720 := Int.mul_le_mul (by omega) b1 (by omega) (by omega)
      have m5 : 0 < b * d := Int.mul_pos b0 hx2
      have m6 : b * d ≤ 720720 * 720720 := Int.mul_le_mul b1 hxb.2.2 (by omega) (by omega)
      have HNP := Lib.hid (noPart_any (a * d + n * b) (b * d) · (by omega) m5 (by omega) (by omega))
      have HADD := Lib.hid hadd
      have HTK := Lib.hid htk
      have HL := Lib.hid hL
      clear hadd htk hx hL hbd hT0 hT1
      generalize hu : a * d = u at *
      generalize hv : n * b = v at *
      generalize hz : b * d = z at *
      go_wp2_with (go_at_call 61; refine (HNP.out _).mono ?_; rintro e w1 ⟨rfl, hb1⟩; rw [HADD.out])
      go_roundw
      case rel => exact ⟨k + 1, by omega, by go_num, rfl, rfl, (hb.alloc hb.size _).trans (hb1.mono (by simp; have := hb.size; omega))⟩
      case measure => simp [intOf]; omega
    · obtain rfl : k = l.length := by omega
      go_wp2
      go_ret2
      exact ⟨by simp only [List.take_length]; rfl, hb⟩

/-- The starts of the first events and the end of the last of them, in ticks. -/
def edgesTo (l : List Nt) (k : Nat) : List Int := (List.range (k + 1)).map fun j => tks (l.take j)
theorem edgesTo_length (l : List Nt) (k : Nat) : (edgesTo l k).length = k + 1 := by simp [edgesTo]
theorem edgesTo_succ (l : List Nt) (k : Nat) : edgesTo l (k + 1) = edgesTo l k ++ [tks (l.take (k + 1))] := by
  simp [edgesTo, List.range_succ]
theorem edgesTo_get (l : List Nt) (k j : Nat) (h : j ≤ k) : (edgesTo l k)[j]? = some (tks (l.take j)) := by
  rw [edgesTo, List.getElem?_map, List.getElem?_range (by omega)]; rfl
theorem edgesTo_zero (l : List Nt) : edgesTo l 0 = [0] := by simp [edgesTo, tks]

set_option maxRecDepth 100000 in
set_option maxHeartbeats 4000000 in
theorem edgesOf_any (A : Option Addr) (l : List Nt) (c : Nat) (w : World) (hn : l.length ≤ 20) (hok : ∀ x ∈ l, okT x) (hA : RA w A l) :
    Calls Try.prog 49 #[.slice A l.length c] w fun e w' => ∃ v, e = .returned v ∧ OwnI w' w.heap.size 3 v (edgesTo l l.length) ∧ Below w.heap.size w w' := by
  have hl0 := OwnI.lit w w.heap.size [0] #[.int .i64 0] rfl (by simp) (Nat.le_refl _)
  have hb0 : Below w.heap.size w (w.alloc (.cells #[.int .i64 0] 3)) := (Below.refl w.heap.size w).alloc (Nat.le_refl _) _
  go_enter Try.func49, Try.ntmps49
  go_wp2
  go_loopw [3, 9] (fun a i wr => ∃ (k : Nat), k ≤ l.length ∧ i = .int .i64 k ∧ OwnI wr w.heap.size 3 a (edgesTo l k) ∧ Below w.heap.size w wr)
    (fun _ i _ => l.length - (intOf i).toNat)
  case atStart => exact ⟨0, Nat.zero_le _, rfl, by rw [edgesTo_zero]; exact hl0, hb0⟩
  case round =>
    obtain ⟨k, hk, rfl, hown, hb⟩ := hrel
    clear hl0 hb0
    by_cases hlt : k < l.length
    · have hx : l[k]? = some l[k] := List.getElem?_eq_getElem hlt
      generalize l[k] = x at hx
      have hox := hok x (List.mem_of_getElem? hx)
      have htk := tks_take hx
      have hes := edgesTo_succ l k
      rw [htk] at hes
      have hbd := tks_bounds (l := l.take k) (fun y hy => hok y (List.mem_of_mem_take hy))
      have hlen : (l.take k).length ≤ 20 := by rw [List.length_take]; omega
      have hT0 : 0 ≤ tks (l.take k) := hbd.1
      have hT1 : tks (l.take k) ≤ 30000000000 := by omega
      have hxb := hox.bounds
      have hx4 := hox.2.2.2
      obtain ⟨p, n, d⟩ := x
      obtain ⟨g, o, rfl, hg, h0, h1, h2⟩ := (hA.below hb) k _ hx
      simp only at h0 h1 h2
      obtain ⟨E, ce, rfl, hRI, hce, hcm, hE, hEb⟩ := hown.form
      obtain ⟨ge, oe, rfl, hge, hcell⟩ := hRI k _ (edgesTo_get l k k (Nat.le_refl _))
      obtain ⟨ge', hge', hgb⟩ := hEb _ rfl
      simp only [Addr.mk.injEq, and_true] at hge'
      obtain ⟨rfl, rfl⟩ := hge'
      rw [Nat.zero_add] at hcell
      obtain ⟨m, hm⟩ : ∃ m, m = k + 1 := ⟨_, rfl⟩
      have hel : (edgesTo l k).length = m := by rw [edgesTo_length, hm]
      rw [hel] at hown hce ⊢
      have i1 : (0 : Int) ≤ (k : Int) := by omega
      have i2 : (k : Int) < (l.length : Int) := by omega
      have i3 : (k : Int) < (m : Int) := by omega
      have HM := Lib.hid hm
      clear hm
      have HES := Lib.hid hes
      have HOX := Lib.hid hox
      have hnb : Below wr.heap.size wr (wr.alloc (.cells #[.int .i64 p, .int .i64 n, .int .i64 d] 52)) := (Below.refl _ _).alloc (Nat.le_refl _) _
      have hO1 := hown.below hnb (Nat.le_refl _)
      have hcell1 := (hnb.cell (p := ⟨ge, k, none⟩) hge).trans hcell
      have hxc : ∀ j, (wr.alloc (.cells #[.int .i64 p, .int .i64 n, .int .i64 d] 52)).cell? ⟨wr.heap.size, j, none⟩ = #[Value.int .i64 p, .int .i64 n, .int .i64 d][j]? := fun j => World.cell?_alloc_new wr _ _ j
      have hz1 : (wr.alloc (.cells #[.int .i64 p, .int .i64 n, .int .i64 d] 52)).heap.size = wr.heap.size + 1 := by simp
      go_upto_region 5 with fail
      generalize wr.alloc (.cells #[.int .i64 p, .int .i64 n, .int .i64 d] 52) = W at *
      have x0 := (hxc 0).trans rfl
      have x1 := (hxc 1).trans rfl
      have x2 := (hxc 2).trans rfl
      have HO1 := Lib.hid hO1
      have hbW := hb.trans (hnb.mono hb.size)
      clear hes hx hox hA hok hown hRI hEb hE hxc hcell h0 h1 h2 htk hbd hO1
      generalize hT : tks (l.take k) = T at *
      generalize ht : tk (p, n, d) = t at *
      have HT := Lib.hid (show ∀ W : World, Calls Try.prog 79 #[.agg #[.int .i64 p, .int .i64 n, .int .i64 d]] W fun e w' => e = .returned (.int .i64 t) ∧ Below W.heap.size W w' from fun W => by have := ticksOf_any p n d W HOX.out; rwa [ht] at this)
      have hwr : IntKind.i64.wrap (T + t) = T + t := IntWalk.i64_in _ (by omega)
      have hgeW : ge < W.heap.size := by omega
      have hcd : W.drew.cell? ⟨ge, k, none⟩ = some (.int .i64 T) := hcell1
      have x0d : W.drew.cell? ⟨wr.heap.size, 0, none⟩ = some (.int .i64 p) := x0
      have x1d : W.drew.cell? ⟨wr.heap.size, 1, none⟩ = some (.int .i64 n) := x1
      have x2d : W.drew.cell? ⟨wr.heap.size, 2, none⟩ = some (.int .i64 d) := x2
      go_region_law (first
          | (go_simp; (refine (HT.out _).mono ?_; rintro e w2 ⟨rfl, hb2⟩; have hBW := Lib.hid (show Below W.heap.size W w2 from (Below.refl _ W).drew.trans hb2); have s1 : w2.cell? ⟨ge, k, none⟩ = some (.int .i64 T) := (hBW.out.cell (p := ⟨ge, k, none⟩) hgeW).trans hcell1; have HB3 := Lib.hid (hBW.out.alloc hBW.out.size (.cells #[.int .i64 (T + t)] 3)); have HO3 := Lib.hid (HO1.out.below HB3.out (Nat.le_refl _)); have HC3 := Lib.hid (one_new w2 (T + t)); clear hb2; dsimp only))
          | (refine step_appI rfl (.tmp 14) (.tmp 22) rfl w.heap.size _ _ rfl HO3.out _ 1 1 [T + t] rfl rfl (fun h => by cases h) (fun j y hy => one_at HC3.out hy) (by have := HM.out; omega) (Nat.le_trans hbW.size HB3.out.size) ?_; intro v4 w4 ho4 hg4; have hb4 := Lib.hid ((hbW.trans (HB3.out.mono hbW.size)).grown hg4 (Nat.le_trans hbW.size HB3.out.size) (fun j hj => (HO3.out.lt j hj).1))))
      all_goals
        go_wp2
        go_roundw
        case rel => exact ⟨k + 1, by omega, by go_num, by rw [HES.out]; exact ho4, hb4.out⟩
        case measure => simp [intOf]; omega
    · obtain rfl : k = l.length := by omega
      go_wp2
      go_ret
      exact ⟨_, rfl, hown, hb⟩

end Go.Proofs.Ytecbeicppfcofaa
