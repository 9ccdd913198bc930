/- BestTransposition: the model's and the program's functions have one answer. -/
import Derived.Test.YtbdffmacpajebaaDoorLoss
import Derived.Test.YtbdffmacpajebaaDoorMark
import Derived.LoopN
import Derived.OwnWalk
namespace Go.Proofs.YtbdffmacpajebaaDoor
open Go.RowKit Go.Sort
set_option linter.unusedVariables false
set_option linter.unusedSimpArgs false

/-- The answer of BestTransposition. -/
def bestR (l : List Int) (r : Int) (m : List Nt) : Array Value :=
  if (gdI l r && goodB m) = true then #[.int .i64 (bestL (lossI l m) (ordL 24)).1, .int .i64 (bestL (lossI l m) (ordL 24)).2, .bool true] else #[.int .i64 0, .int .i64 0, .bool false]
theorem bestR_form (l : List Int) (r : Int) (m : List Nt) : ∃ x y z, bestR l r m = #[.int .i64 x, .int .i64 y, .bool z] := by unfold bestR; split <;> exact ⟨_, _, _, rfl⟩

/-- The order in which they are looked at, as one list. -/
def ordZ (k : Nat) : List Int := 0 :: ordL k
theorem ordZ_length (k : Nat) : (ordZ k).length = k * 2 + 1 := by simp [ordZ, ordL_length]
theorem ordZ_succ (k : Nat) : ordZ (k + 1) = ordZ k ++ [-((k : Int) + 1), (k : Int) + 1] := by simp [ordZ, ordL_succ]

theorem two_new (w1 : World) (a b : Int) : (w1.alloc (.cells #[.int .i64 a, .int .i64 b] 3)).cell? ⟨w1.heap.size, 0, none⟩ = some (.int .i64 a) ∧ (w1.alloc (.cells #[.int .i64 a, .int .i64 b] 3)).cell? ⟨w1.heap.size, 1, none⟩ = some (.int .i64 b) := by
  constructor <;> (rw [World.cell?_alloc_new]; rfl)
theorem two_at {w : World} {b : Nat} {n k : Int} (h : w.cell? ⟨b, 0, none⟩ = some (.int .i64 n) ∧ w.cell? ⟨b, 1, none⟩ = some (.int .i64 k)) {j : Nat} {y : Int} (hy : [n, k][j]? = some y) : ∃ ad, (some ⟨b, 0, none⟩ : Option Addr) = some ad ∧ w.cell? (ad.add j) = some (.int .i64 y) := by
  match j with
  | 0 => simp at hy; subst hy; exact ⟨_, rfl, by rw [Addr.add_lit]; exact h.1⟩
  | 1 => simp at hy; subst hy; exact ⟨_, rfl, by rw [Addr.add_lit]; exact h.2⟩
  | j + 2 => simp at hy

set_option maxRecDepth 100000 in
set_option maxHeartbeats 2000000 in
theorem trOrder_any (n : Nat) (w : World) (hn : n ≤ 100) :
    Calls Tryd.prog 51 #[.int .i64 (n : Int)] w fun e w' => ∃ v, e = .returned v ∧ OwnI w' w.heap.size 3 v (ordZ n) ∧ Below w.heap.size w w' := by
  have hb0 : Below w.heap.size w (w.alloc (.cells #[.int .i64 0] 3)) := (Below.refl w.heap.size w).alloc (Nat.le_refl _) _
  have ho0 : OwnI (w.alloc (.cells #[.int .i64 0] 3)) w.heap.size 3 (.slice (some ⟨w.heap.size, 0, none⟩) 1 1) (ordZ 0) := by
    have h := World.ownsRow_lit (base := w.heap.size) (e := 3) (size := 1) w #[.int .i64 0] 1 (Nat.le_refl _) (by unfold maxLen; omega) rfl
    exact h
  go_enter Tryd.func51, Tryd.ntmps51
  go_wp2_with fail
  generalize w.alloc (.cells #[.int .i64 0] 3) = W at *
  go_loopw [3, 4] (fun a i wr => ∃ k : Nat, k ≤ n ∧ i = .int .i64 ((k : Int) + 1) ∧ OwnI wr w.heap.size 3 a (ordZ k) ∧ Below w.heap.size w wr)
    (fun _ i _ => n + 1 - (intOf i).toNat)
  case atStart => exact ⟨0, Nat.zero_le _, rfl, ho0, hb0⟩
  case round =>
    obtain ⟨k, hk, rfl, hown, hb⟩ := hrel
    have HO := Lib.hid hown
    clear hown
    by_cases hlt : k < n
    · have HS := Lib.hid (ordZ_succ k)
      have hlen := ordZ_length k
      have hbr := Lib.hid (show Below wr.heap.size wr (wr.alloc (.cells #[.int .i64 (-((k : Int) + 1)), .int .i64 ((k : Int) + 1)] 3)) from (Below.refl _ _).alloc (Nat.le_refl _) _)
      have ho3 := Lib.hid (HO.out.below hbr.out (Nat.le_refl _))
      have hc3 := Lib.hid (two_new wr (-((k : Int) + 1)) ((k : Int) + 1))
      have t1 : (k : Int) + 1 ≤ (n : Int) := by omega
      go_wp2_with (at_builtin; refine wpList_appI _ rfl (.tmp 11) (.tmp 15) rfl w.heap.size _ _ rfl ho3.out (some ⟨wr.heap.size, 0, none⟩) 2 2 [-((k : Int) + 1), (k : Int) + 1] rfl rfl (fun h => by cases h) (fun j y hy => two_at hc3.out hy) (by omega) (Nat.le_trans hb.size hbr.out.size) ?_; intro v4 w4 ho4 hg4 hv4)
      go_roundw
      case rel =>
        refine ⟨k + 1, by omega, by first | go_num | (congr 1; omega), ?_, (hb.trans (hbr.out.mono hb.size)).grown hg4 (Nat.le_trans hb.size hbr.out.size) (fun j hj => (ho3.out.lt j hj).1)⟩
        rw [HS.out]
        exact ho4
      case measure => simp [intOf]; omega
    · obtain rfl : k = n := by omega
      have t1 : ¬ (k : Int) + 1 ≤ (k : Int) := by omega
      go_wp2
      go_ret
      exact ⟨_, rfl, HO.out, hb⟩

/-- What is best when the first k transpositions have been looked at. -/
def stZ (f : Int → Int) (n k : Nat) : Int × Int := match k with
  | 0 => (0, -1)
  | k + 1 => bestL f ((ordL n).take k)
theorem stZ_end (f : Int → Int) (n : Nat) : stZ f n (ordZ n).length = bestL f (ordL n) := by
  rw [ordZ_length, ← ordL_length]
  simp [stZ]
theorem ordZ_bound (n : Nat) (x : Int) (h : x ∈ ordZ n) : -(n : Int) ≤ x ∧ x ≤ n := by
  unfold ordZ at h
  rcases List.mem_cons.1 h with rfl | h
  · omega
  · exact ordL_bound n x h
theorem stZ_step (f : Int → Int) (n k : Nat) (x : Int) (h : (ordZ n)[k]? = some x) (hf : ∀ x, 0 ≤ f x) :
    stZ f n (k + 1) = if (stZ f n k).2 < 0 ∨ f x < (stZ f n k).2 then (x, f x) else stZ f n k := by
  cases k with
  | zero =>
    simp [ordZ] at h
    subst h
    rw [if_pos (.inl (by simp [stZ]))]
    simp [stZ, bestL]
  | succ k =>
    have h' : (ordL n)[k]? = some x := by simpa [ordZ] using h
    have hb : ¬ (stZ f n (k + 1)).2 < 0 := by
      have := bestL_inv f (fun s => 0 ≤ s.2) ((ordL n).take k) (hf 0) (fun x _ => hf x)
      simp only [stZ]; omega
    show bestL f ((ordL n).take (k + 1)) = _
    rw [bestL_snoc f (ordL n) k x h']
    by_cases hq : f x < (bestL f ((ordL n).take k)).2
    · rw [if_pos hq, if_pos (.inr hq)]
    · rw [if_neg hq, if_neg (by rintro (h | h); exact hb h; exact hq h)]
      rfl
theorem stZ_bound (f : Int → Int) (n k : Nat) (hf : ∀ x, 0 ≤ f x ∧ f x ≤ 30) : -1 ≤ (stZ f n k).2 ∧ (stZ f n k).2 ≤ 30 := by
  cases k with
  | zero => simp [stZ]
  | succ k =>
    have := bestL_inv f (fun s => 0 ≤ s.2 ∧ s.2 ≤ 30) ((ordL n).take k) (hf 0) (fun x _ => hf x)
    simp only [stZ]; omega

set_option maxRecDepth 100000 in
set_option maxHeartbeats 2000000 in
theorem specBest_any (A : Option Addr) (l : List Int) (c : Nat) (r : Int) (M : Option Addr) (m : List Nt) (d : Nat) (w : World) (hn : l.length ≤ 1048576) (hA : RI w A l) (hm : m.length ≤ 1048576) (hd : m.length ≤ d) (hd' : d ≤ 9223372036854775807) (hM : RA w M m) :
    Calls Tryd.prog 31 #[.agg #[.slice A l.length c, .int .i64 r], .slice M m.length d] w fun e w' => e = .returned (.tuple (bestR l r m)) ∧ Below w.heap.size w w' := by
  have hb0 : Below w.heap.size w (w.alloc (.cells #[.slice A l.length c, .int .i64 r] 28)) := (Below.refl w.heap.size w).alloc (Nat.le_refl _) _
  obtain ⟨x0, x1, hz⟩ := Box.new w A l.length c r 28
  have hA := hA.below hb0
  have hM := hM.below hb0
  go_enter Tryd.func31, Tryd.ntmps31
  go_wp2_with fail
  generalize w.alloc (.cells #[.slice A l.length c, .int .i64 r] 28) = W at *
  refine (inAsked_any _ _ _ _ _ _ _ _ hn hA hm hd hd' hM).mono ?_
  rintro e w1 ⟨rfl, hb1⟩
  have hB1 := hb0.trans (hb1.mono hb0.size)
  have y0 := (hb1.cell (p := ⟨w.heap.size, 0, none⟩) hz).trans x0
  have y1 := (hb1.cell (p := ⟨w.heap.size, 1, none⟩) hz).trans x1
  have hz1 := Nat.lt_of_lt_of_le hz hb1.size
  cases hg : (gdI l r && goodB m) with
  | false =>
    have HR := Lib.hid (show bestR l r m = #[.int .i64 0, .int .i64 0, .bool false] by unfold bestR; rw [hg]; rfl)
    go_wp2
    go_ret3
    exact ⟨(by first | (rw [HR.out]; done) | (rw [HR.out]; rfl)), hB1⟩
  | true =>
    have hgood : Good m := (goodB_iff m).1 (by simp at hg; exact hg.2)
    have h30 := hgood.2
    have HR := Lib.hid (show bestR l r m = #[.int .i64 (bestL (lossI l m) (ordL 24)).1, .int .i64 (bestL (lossI l m) (ordL 24)).2, .bool true] by unfold bestR; rw [hg]; rfl)
    have hA := hA.below hb1
    have hM := hM.below hb1
    clear hg x0 x1
    have HQ := Lib.hid (fun W => trOrder_any 24 W (by omega))
    go_wp2_with fail
    refine (HQ.out _).mono ?_
    rintro e w2 ⟨v2, rfl, ho2, hb2⟩
    have hlen := ordZ_length 24
    obtain ⟨A2, c2, hf2, hr2⟩ := ho2.form2
    rw [hlen] at hf2
    subst hf2
    have y0 := (hb2.cell (p := ⟨w.heap.size, 0, none⟩) hz1).trans y0
    have y1 := (hb2.cell (p := ⟨w.heap.size, 1, none⟩) hz1).trans y1
    have hz2 := Nat.lt_of_lt_of_le hz1 hb2.size
    have hA := hA.below hb2
    have hM := hM.below hb2
    have hB2 := hB1.trans (hb2.mono hB1.size)
    have hf0 : ∀ x, 0 ≤ lossI l m x ∧ lossI l m x ≤ 30 := fun x => by have := lossI_bound l m x; omega
    have HEND := Lib.hid (stZ_end (lossI l m) 24)
    rw [hlen] at HEND
    clear ho2 hb1 hb2
    go_wp2_with fail
    go_loopw [7, 8, 18] (fun a q i wr => ∃ k : Nat, k ≤ 49 ∧ i = .int .i64 k ∧ a = .int .i64 (stZ (lossI l m) 24 k).1 ∧ q = .int .i64 (stZ (lossI l m) 24 k).2 ∧ Below w2.heap.size w2 wr)
      (fun _ _ i _ => 49 - (intOf i).toNat)
    case atStart => exact ⟨0, Nat.zero_le _, rfl, rfl, rfl, Below.refl _ _⟩
    case round =>
      obtain ⟨k, hk, rfl, rfl, rfl, hb⟩ := hrel
      by_cases hlt : k < 49
      · have hx : (ordZ 24)[k]? = some (ordZ 24)[k] := List.getElem?_eq_getElem (by omega)
        generalize (ordZ 24)[k] = x at hx
        have hs := stZ_step (lossI l m) 24 k x hx (fun x => (hf0 x).1)
        have hxb := ordZ_bound 24 x (List.mem_of_getElem? hx)
        have hsb := stZ_bound (lossI l m) 24 k hf0
        obtain ⟨g, o, rfl, hgb, h0⟩ := (hr2.below hb) k _ hx
        have i1 : (0 : Int) ≤ (k : Int) := by omega
        have i2 : (k : Int) < (49 : Int) := by omega
        have v0 := (hb.cell (p := ⟨w.heap.size, 0, none⟩) hz2).trans y0
        have v1 := (hb.cell (p := ⟨w.heap.size, 1, none⟩) hz2).trans y1
        have HT := Lib.hid (trLoss_any A l c r M m d x wr hn (hA.below hb) (hM.below hb) hgood (by omega) (by omega))
        have hqb := hf0 x
        clear hx y0 y1
        generalize stZ (lossI l m) 24 k = s at *
        obtain ⟨s1, s2⟩ := s
        simp only at hs hsb
        generalize lossI l m x = q at *
        by_cases h1 : s2 < 0
        · have HS := Lib.hid (hs.trans (if_pos (.inl h1)))
          clear hs
          go_wp2_with (go_at_call 43; refine HT.out.mono ?_; rintro e w3 ⟨rfl, hb3⟩)
          go_roundw
          case rel => exact ⟨k + 1, by omega, by go_num, (by rw [HS.out]), (by rw [HS.out]), hb.trans (hb3.mono hb.size)⟩
          case measure => simp [intOf]; omega
        · by_cases h2 : q < s2
          · have HS := Lib.hid (hs.trans (if_pos (.inr h2)))
            clear hs
            go_wp2_with (go_at_call 43; refine HT.out.mono ?_; rintro e w3 ⟨rfl, hb3⟩)
            go_roundw
            case rel => exact ⟨k + 1, by omega, by go_num, (by rw [HS.out]), (by rw [HS.out]), hb.trans (hb3.mono hb.size)⟩
            case measure => simp [intOf]; omega
          · have HS := Lib.hid (hs.trans (if_neg (by omega)))
            clear hs
            go_wp2_with (go_at_call 43; refine HT.out.mono ?_; rintro e w3 ⟨rfl, hb3⟩)
            go_roundw
            case rel => exact ⟨k + 1, by omega, by go_num, (by rw [HS.out]), (by rw [HS.out]), hb.trans (hb3.mono hb.size)⟩
            case measure => simp [intOf]; omega
      · obtain rfl : k = 49 := by omega
        have he := HEND.out
        rw [he]
        generalize bestL (lossI l m) (ordL 24) = s at *
        go_wp2
        go_ret3
        exact ⟨(by first | (rw [HR.out]; done) | (rw [HR.out]; rfl)), hB2.trans (hb.mono hB2.size)⟩
end Go.Proofs.YtbdffmacpajebaaDoor
