/- Contracts: rounded steps of the model and of the program, the farthest of them. -/
import Derived.Test.YtecbeicppfcofaaStart
namespace Go.Proofs.Ytecbeicppfcofaa
open Go.RowKit
set_option linter.unusedVariables false
set_option linter.unusedSimpArgs false

theorem mul_bounds {t g : Int} (ht : 0 ≤ t) (ht' : t ≤ 30000000000) (hg : 1 ≤ g) (hg' : g ≤ 48) : 0 ≤ t * g ∧ t * g ≤ 1440000000000 := by
  refine ⟨Int.mul_nonneg ht (by omega), ?_⟩
  have := Int.mul_le_mul ht' hg' (by omega) (by omega)
  omega
theorem stepOf_bounds {t g : Int} (ht : 0 ≤ t) (ht' : t ≤ 30000000000) (hg : 1 ≤ g) (hg' : g ≤ 48) : 0 ≤ stepOf t g ∧ stepOf t g ≤ 3000000 ∧ stepOf t g * 720720 - t * g ≤ 360360 ∧ t * g - stepOf t g * 720720 ≤ 360360 := by
  have hb := mul_bounds ht ht' hg hg'
  unfold stepOf
  have : 2 * t * g = 2 * (t * g) := by rw [Int.mul_assoc]
  rw [this]
  generalize t * g = u at *
  omega

set_option maxHeartbeats 1000000 in
theorem isGrid_any (g : Int) (w : World) :
    Calls Try.prog 55 #[.int .i64 g] w fun e w' => e = .returned (.bool (inR g 1 48)) ∧ w = w' := by
  go_enter Try.func55, Try.ntmps55
  go_wp2_with (go_at_call 51; refine (inRange_any _ _ _ _).mono ?_; rintro e w' ⟨rfl, rfl⟩)
  go_ret; exact ⟨rfl, rfl⟩
set_option maxHeartbeats 1000000 in
theorem noGrid_any (g : Int) (w : World) :
    Calls Try.prog 52 #[.int .i64 g] w fun e w' => e = .returned (.bool (inR g 1 48)) ∧ w = w' := by
  go_enter Try.func52, Try.ntmps52
  go_wp2_with (go_at_call 50; refine (l1In_any _ _ _ _).mono ?_; rintro e w' ⟨rfl, rfl⟩)
  go_ret; exact ⟨rfl, rfl⟩

set_option maxHeartbeats 1000000 in
theorem roundedStep_any (t g : Int) (w : World) (ht : 0 ≤ t) (ht' : t ≤ 30000000000) (hg : 1 ≤ g) (hg' : g ≤ 48) :
    Calls Try.prog 56 #[.int .i64 t, .int .i64 g] w fun e w' => e = .returned (.int .i64 (stepOf t g)) ∧ w = w' := by
  have hb := mul_bounds ht ht' hg hg'
  have hs := stepOf_bounds ht ht' hg hg'
  have hv : 2 * t * g = 2 * (t * g) := by rw [Int.mul_assoc]
  have hq : (2 * (t * g) + 720720).tdiv 1441440 = stepOf t g := by
    rw [Int.tdiv_eq_ediv_of_nonneg (by omega)]
    unfold stepOf
    rw [hv, show (2 : Int) * 720720 = 1441440 by decide]
  generalize stepOf t g = s at *
  generalize t * g = u at *
  go_enter Try.func56, Try.ntmps56
  go_wp2
  go_ret
  exact ⟨ret_int (by first | exact hq | rfl), rfl⟩

set_option maxRecDepth 100000 in
set_option maxHeartbeats 1000000 in
theorem noStep_any (g : Nat) (l : List Nt) (c k : Nat) (r : Int) (w : World) (h20 : l.length ≤ 20) (hok : ∀ x ∈ l, okT x) (hT : 0 ≤ tks (l.take k) ∧ tks (l.take k) ≤ 30000000000) (hk : k ≤ l.length) (hc : l.length ≤ c) (hc' : c ≤ 9223372036854775807) (hr : 1 ≤ r) (hr' : r ≤ 48) (hA : RA w (some ⟨g, 0, none⟩) l) :
    Calls Try.prog 53 #[.slice (some ⟨g, 0, none⟩) l.length c, .int .i64 (k : Int), .int .i64 r] w fun e w' => e = .returned (.int .i64 (stepOf (tks (l.take k)) r)) ∧ Below w.heap.size w w' := by
  have HN := Lib.hid (fun W hA => noSum_any (some ⟨g, 0, none⟩) (l.take k) k c W (by rw [List.length_take]; omega) (by omega) (fun x hx => hok x (List.mem_of_mem_take hx)) hA)
  have hs := low_spec hT.1 (show (0 : Int) < 720720 by omega)
  have hrd := round_low (T := tks (l.take k)) (g := r) hT.1
  have hst := stepOf_bounds hT.1 hT.2 hr hr'
  have HA := Lib.hid hA
  have a0 := hs.2.2.2.1
  have b0 := hs.2.2.2.2.1
  have a1 := hs.2.2.2.2.2.1
  have b1 := hs.2.2.2.2.2.2.1
  have hfin : (2 * tks (l.take k) * r + 720720) / (2 * 720720) = stepOf (tks (l.take k)) r := rfl
  rw [hfin] at hrd
  clear hs hok hA hfin
  generalize (low (tks (l.take k)) 720720).1 = a at *
  generalize (low (tks (l.take k)) 720720).2 = b at *
  generalize stepOf (tks (l.take k)) r = s at *
  have hb := mul_bounds (t := a) (g := r) a0 (by omega) hr hr'
  have hv : 2 * a * r = 2 * (a * r) := by rw [Int.mul_assoc]
  have hq : (2 * (a * r) + b).tdiv (2 * b) = s := by
    rw [Int.tdiv_eq_ediv_of_nonneg (by omega), ← hv]
    exact hrd
  have hz : (2 * b == 0) = false := by rw [beq_eq_false_iff_ne]; omega
  clear hrd
  generalize a * r = u at *
  have i1 : (0 : Int) ≤ (k : Int) := by omega
  have i2 : (k : Int) ≤ (c : Int) := by omega
  go_enter Try.func53, Try.ntmps53
  go_wp2_with fail
  refine (HN.out _ (HA.out.take k)).mono ?_
  rintro e w2 ⟨rfl, hb2⟩
  go_wp2
  go_ret
  exact ⟨ret_int (by first | exact hq | rfl), hb2⟩

/-- The greatest distance of times from their rounded steps, in ticks. -/
def fstep (g a t : Int) : Int := max (max a (offT t g)) (-(offT t g))
def farL (g : Int) (l : List Int) : Int := l.foldl (fstep g) 0
theorem farL_snoc (g : Int) (l : List Int) (t : Int) : farL g (l ++ [t]) = fstep g (farL g l) t := by simp [farL]
theorem farL_take {g : Int} {l : List Int} {k : Nat} {t : Int} (h : l[k]? = some t) : farL g (l.take (k + 1)) = fstep g (farL g (l.take k)) t := by
  rw [List.take_add_one, h]
  exact farL_snoc g _ t
theorem farL_le (g : Int) (l : List Int) (a : Int) (h : 0 ≤ a ∧ a ≤ 360360) : 0 ≤ l.foldl (fstep g) a ∧ l.foldl (fstep g) a ≤ 360360 := by
  induction l generalizing a with
  | nil => exact h
  | cons t l ih =>
    refine ih _ ?_
    have := off_bounds t g
    unfold fstep
    omega
theorem farL_bounds (g : Int) (l : List Int) : 0 ≤ farL g l ∧ farL g l ≤ 360360 := farL_le g l 0 (by omega)

set_option maxRecDepth 100000 in
set_option maxHeartbeats 2000000 in
theorem farthest_any (A : Option Addr) (l : List Int) (m c : Nat) (g : Int) (w : World) (hm : l.length = m) (hn : m ≤ 1048576) (hl : ∀ t ∈ l, 0 ≤ t ∧ t ≤ 30000000000) (hg : 1 ≤ g) (hg' : g ≤ 48) (hA : RI w A l) :
    Calls Try.prog 60 #[.slice A m c, .int .i64 g] w fun e w' => e = .returned (.int .i64 (farL g l)) ∧ w = w' := by
  subst hm
  go_enter Try.func60, Try.ntmps60
  go_wp2
  go_loop [5, 11] (fun a i => ∃ k : Nat, k ≤ l.length ∧ i = .int .i64 k ∧ a = .int .i64 (farL g (l.take k)))
    (fun _ i => l.length - (intOf i).toNat)
  case atStart => exact ⟨0, Nat.zero_le _, rfl, rfl⟩
  case round =>
    obtain ⟨k, hk, rfl, rfl⟩ := hrel
    by_cases hlt : k < l.length
    · have hx : l[k]? = some l[k] := List.getElem?_eq_getElem hlt
      generalize l[k] = t at hx
      have hft := farL_take (g := g) hx
      have hfb := farL_bounds g (l.take k)
      obtain ⟨t0, t1⟩ := hl t (List.mem_of_getElem? hx)
      obtain ⟨ga, o, rfl, hga, h0⟩ := hA k _ hx
      have hb := mul_bounds t0 t1 hg hg'
      have hs := stepOf_bounds t0 t1 hg hg'
      have ho := off_bounds t g
      have hod : t * g - stepOf t g * 720720 = offT t g := rfl
      have HR := Lib.hid (fun W => roundedStep_any t g W t0 t1 hg hg')
      have HF := Lib.hid hft
      have i1 : (0 : Int) ≤ (k : Int) := by omega
      have i2 : (k : Int) < (l.length : Int) := by omega
      unfold fstep at HF
      clear hft hx hl hA
      generalize farL g (l.take k) = F at *
      generalize hG : offT t g = D at *
      generalize stepOf t g = s at *
      generalize hu : t * g = u at *
      go_wp2_with (go_at_call 56; refine (HR.out _).mono ?_; rintro e w1 ⟨rfl, rfl⟩)
      all_goals
        go_round
        case rel => exact ⟨k + 1, by omega, by go_num, by rw [HF.out]; congr 1; omega⟩
        case measure => simp [intOf]; omega
    · obtain rfl : k = l.length := by omega
      go_wp2
      go_ret
      exact ⟨by simp only [List.take_length]; rfl, rfl⟩

end Go.Proofs.Ytecbeicppfcofaa
