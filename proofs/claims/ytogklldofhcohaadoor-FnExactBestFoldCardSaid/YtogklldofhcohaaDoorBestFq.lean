/- BestFold, FoldScore: the model's and the program's functions have one answer. -/
import Derived.Test.YtogklldofhcohaaDoorM7q
import Derived.Deep.RegionHeld3
namespace Go.Proofs.YtogklldofhcohaaDoor
open Go.RowKit Go.Sort
set_option linter.unusedVariables false
set_option linter.unusedSimpArgs false

/-- The answer of BestFold. -/
def bestFR (l : List Int) (r : Int) (m : List Nt) : Array Value :=
  if (gdI l r && goodB m) = true then #[.int .i64 (bestL (leftI l m) (ordL 11)).1, .int .i64 (bestL (leftI l m) (ordL 11)).2, .bool true] else #[.int .i64 0, .int .i64 0, .bool false]
theorem bestFR_form (l : List Int) (r : Int) (m : List Nt) : ∃ x y z, bestFR l r m = #[.int .i64 x, .int .i64 y, .bool z] := by unfold bestFR; split <;> exact ⟨_, _, _, rfl⟩

set_option maxRecDepth 100000 in
set_option maxHeartbeats 2000000 in
theorem specBestF_any (A : Option Addr) (l : List Int) (c : Nat) (r : Int) (M : Option Addr) (m : List Nt) (d : Nat) (w : World) (hn : l.length ≤ 1048576) (hA : RI w A l) (hm : m.length ≤ 1048576) (hd : m.length ≤ d) (hd' : d ≤ 9223372036854775807) (hM : RA w M m) :
    Calls Tryd.prog 16 #[.agg #[.slice A l.length c, .int .i64 r], .slice M m.length d] w fun e w' => e = .returned (.tuple (bestFR l r m)) ∧ Below w.heap.size w w' := by
  have hb0 : Below w.heap.size w (w.alloc (.cells #[.slice A l.length c, .int .i64 r] 31)) := (Below.refl w.heap.size w).alloc (Nat.le_refl _) _
  obtain ⟨x0, x1, hz⟩ := Box.new w A l.length c r 31
  have hA := hA.below hb0
  have hM := hM.below hb0
  go_enter Tryd.func16, Tryd.ntmps16
  go_wp2_with fail
  generalize w.alloc (.cells #[.slice A l.length c, .int .i64 r] 31) = W at *
  refine (inAsked_any _ _ _ _ _ _ _ _ hn hA hm hd hd' hM).mono ?_
  rintro e w1 ⟨rfl, hb1⟩
  have hB1 := hb0.trans (hb1.mono hb0.size)
  have y0 := (hb1.cell (p := ⟨w.heap.size, 0, none⟩) hz).trans x0
  have y1 := (hb1.cell (p := ⟨w.heap.size, 1, none⟩) hz).trans x1
  have hz1 := Nat.lt_of_lt_of_le hz hb1.size
  cases hg : (gdI l r && goodB m) with
  | false =>
    have HR := Lib.hid (show bestFR l r m = #[.int .i64 0, .int .i64 0, .bool false] by unfold bestFR; rw [hg]; rfl)
    go_wp2
    go_ret3
    exact ⟨(by first | (rw [HR.out]; done) | (rw [HR.out]; rfl)), hB1⟩
  | true =>
    have hgood : Good m := (goodB_iff m).1 (by simp at hg; exact hg.2)
    have h30 := hgood.2
    have hlr : ∀ x ∈ l, 24 ≤ x ∧ x ≤ 96 := fun x hx => ((gdI_iff l r).1 (by simp at hg; exact hg.1)).2.1.range hx
    have HR := Lib.hid (show bestFR l r m = #[.int .i64 (bestL (leftI l m) (ordL 11)).1, .int .i64 (bestL (leftI l m) (ordL 11)).2, .bool true] by unfold bestFR; rw [hg]; rfl)
    have hA := hA.below hb1
    have hM := hM.below hb1
    clear hg x0 x1
    have HQ := Lib.hid (fun W => trOrder_any 11 W (by omega))
    go_wp2_with fail
    refine (HQ.out _).mono ?_
    rintro e w2 ⟨v2, rfl, ho2, hb2⟩
    have hlen := ordZ_length 11
    obtain ⟨A2, c2, hf2, hr2⟩ := ho2.form2
    rw [hlen] at hf2
    subst hf2
    have y0 := (hb2.cell (p := ⟨w.heap.size, 0, none⟩) hz1).trans y0
    have y1 := (hb2.cell (p := ⟨w.heap.size, 1, none⟩) hz1).trans y1
    have hz2 := Nat.lt_of_lt_of_le hz1 hb2.size
    have hA := hA.below hb2
    have hM := hM.below hb2
    have hB2 := hB1.trans (hb2.mono hB1.size)
    have hf0 : ∀ x, 0 ≤ leftI l m x ∧ leftI l m x ≤ 30 := fun x => by have := leftI_bound l m x; omega
    have HEND := Lib.hid (stZ_end (leftI l m) 11)
    rw [hlen] at HEND
    clear ho2 hb1 hb2
    go_wp2_with fail
    go_loopw [7, 8, 19] (fun a q i wr => ∃ k : Nat, k ≤ 23 ∧ i = .int .i64 k ∧ a = .int .i64 (stZ (leftI l m) 11 k).1 ∧ q = .int .i64 (stZ (leftI l m) 11 k).2 ∧ Below w2.heap.size w2 wr)
      (fun _ _ i _ => 23 - (intOf i).toNat)
    case atStart => exact ⟨0, Nat.zero_le _, rfl, rfl, rfl, Below.refl _ _⟩
    case round =>
      obtain ⟨k, hk, rfl, rfl, rfl, hb⟩ := hrel
      by_cases hlt : k < 23
      · have hx : (ordZ 11)[k]? = some (ordZ 11)[k] := List.getElem?_eq_getElem (by omega)
        generalize (ordZ 11)[k] = x at hx
        have hs := stZ_step (leftI l m) 11 k x hx (fun x => (hf0 x).1)
        have hxb := ordZ_bound 11 x (List.mem_of_getElem? hx)
        have hsb := stZ_bound (leftI l m) 11 k hf0
        obtain ⟨g, o, rfl, hgb, h0⟩ := (hr2.below hb) k _ hx
        have i1 : (0 : Int) ≤ (k : Int) := by omega
        have i2 : (k : Int) < (23 : Int) := by omega
        have v0 := (hb.cell (p := ⟨w.heap.size, 0, none⟩) hz2).trans y0
        have v1 := (hb.cell (p := ⟨w.heap.size, 1, none⟩) hz2).trans y1
        have HT := Lib.hid (trFold_any A l c r M m d x wr hn (hA.below hb) (hM.below hb) hgood hlr (by omega) (by omega))
        have hqb := hf0 x
        clear hx y0 y1
        generalize stZ (leftI l m) 11 k = s at *
        obtain ⟨s1, s2⟩ := s
        simp only at hs hsb
        generalize leftI l m x = q at *
        by_cases h1 : s2 < 0
        · have HS := Lib.hid (hs.trans (if_pos (.inl h1)))
          clear hs
          go_wp2_with (go_at_call 20; refine HT.out.mono ?_; rintro e w3 ⟨v3, rfl, ho3, hb3⟩; obtain ⟨A3, c3, hf3, _⟩ := ho3.form; subst hf3; clear ho3)
          go_roundw
          case rel => exact ⟨k + 1, by omega, by go_num, (by rw [HS.out]), (by rw [HS.out]), hb.trans (hb3.mono hb.size)⟩
          case measure => simp [intOf]; omega
        · by_cases h2 : q < s2
          · have HS := Lib.hid (hs.trans (if_pos (.inr h2)))
            clear hs
            go_wp2_with (go_at_call 20; refine HT.out.mono ?_; rintro e w3 ⟨v3, rfl, ho3, hb3⟩; obtain ⟨A3, c3, hf3, _⟩ := ho3.form; subst hf3; clear ho3)
            go_roundw
            case rel => exact ⟨k + 1, by omega, by go_num, (by rw [HS.out]), (by rw [HS.out]), hb.trans (hb3.mono hb.size)⟩
            case measure => simp [intOf]; omega
          · have HS := Lib.hid (hs.trans (if_neg (by omega)))
            clear hs
            go_wp2_with (go_at_call 20; refine HT.out.mono ?_; rintro e w3 ⟨v3, rfl, ho3, hb3⟩; obtain ⟨A3, c3, hf3, _⟩ := ho3.form; subst hf3; clear ho3)
            go_roundw
            case rel => exact ⟨k + 1, by omega, by go_num, (by rw [HS.out]), (by rw [HS.out]), hb.trans (hb3.mono hb.size)⟩
            case measure => simp [intOf]; omega
      · obtain rfl : k = 23 := by omega
        have he := HEND.out
        rw [he]
        generalize bestL (leftI l m) (ordL 11) = s at *
        go_wp2
        go_ret3
        exact ⟨(by first | (rw [HR.out]; done) | (rw [HR.out]; rfl)), hB2.trans (hb.mono hB2.size)⟩
theorem egCloF (args : Array Value) (w : World) : (callFunc 31 args).run Tryd.prog w = .ok (.enter 31 args) w :=
  enters_of Tryd.func31 (by kernel_rfl) rfl args w

set_option maxRecDepth 100000 in
set_option maxHeartbeats 4000000 in
theorem cloF_any (bi bl : Nat) (A : Option Addr) (l : List Int) (c : Nat) (r : Int) (M : Option Addr) (m : List Nt) (d : Nat) (b : Int) (w : World) (hn : l.length ≤ 1048576) (hgi : gdI l r = true) (hg : Good m) (h : Held w bi bl A l c r M m d) (hL : Lim w) (hb1 : -100 ≤ b) (hb2 : b ≤ 100) :
    Calls Tryd.prog 31 #[.int .i64 b, .pointer (some ⟨bl, 0, none⟩), .pointer (some ⟨bi, 0, none⟩)] w fun e w' => e = .returned (.int .i64 (leftI l m b)) ∧ Below w.heap.size w w' := by
  obtain ⟨i0, i1, l0, hi, hl, ri, ra⟩ := h
  have h30 := hg.2
  have hq := leftI_bound l m b
  have hfl := foldL_thirty l m b
  have HQ := Lib.hid (show (m.length : Int) - ((foldL l m b).length : Int) = leftI l m b from rfl)
  have HF := Lib.hid (show Calls Tryd.prog 25 #[.agg #[.slice A l.length c, .int .i64 r], .slice M m.length d, .int .i64 b] w.drew fun e w' => ∃ v, e = .returned v ∧ Own w' w.drew.heap.size 47 v (foldL l m b) ∧ Below w.drew.heap.size w.drew w' from folded_any A l c r M m d b w.drew hn hgi (ri.below (Below.refl _ _).drew) (ra.below (Below.refl _ _).drew) (hL.below (Below.refl _ _).drew) hg hb1 hb2)
  have d0 : w.drew.cell? ⟨bi, 0, none⟩ = some (.slice A l.length c) := i0
  have d1 : w.drew.cell? ⟨bi, 1, none⟩ = some (.int .i64 r) := i1
  have d2 : w.drew.cell? ⟨bl, 0, none⟩ = some (.slice M m.length d) := l0
  clear hgi
  go_enter Tryd.func31, Tryd.ntmps31
  go_wp2_with fail
  go_region_held3 (fun w' => w'.cell? ⟨bi, 0, none⟩ = some (.slice A l.length c) ∧ w'.cell? ⟨bi, 1, none⟩ = some (.int .i64 r) ∧ w'.cell? ⟨bl, 0, none⟩ = some (.slice M m.length d))
    (first | exact ⟨d0, d1, d2⟩ | exact ⟨e0, e1, e2⟩)
    (first | (go_at_call 25; refine HF.out.mono ?_; rintro e w3 ⟨v3, rfl, ho3, hb3⟩; have e0 := (hb3.cell (p := ⟨bi, 0, none⟩) hi).trans i0; have e1 := (hb3.cell (p := ⟨bi, 1, none⟩) hi).trans i1; have e2 := (hb3.cell (p := ⟨bl, 0, none⟩) hl).trans l0; obtain ⟨A3, c3, hf3, _⟩ := ho3.form; subst hf3; clear ho3))
  all_goals
    go_wp2
    go_ret
    exact ⟨ret_int (by rw [IntWalk.i64_in _ (by omega)]; exact HQ.out), (Below.refl _ w).drew.trans hb3⟩

set_option maxRecDepth 100000 in
set_option maxHeartbeats 4000000 in
theorem leastF_any (n : Nat) (bi bl : Nat) (A : Option Addr) (l : List Int) (c : Nat) (r : Int) (M : Option Addr) (m : List Nt) (d : Nat) (w : World) (hn : l.length ≤ 1048576) (hgi : gdI l r = true) (hg : Good m) (h : Held w bi bl A l c r M m d) (hL : Lim w) (hn1 : n ≤ 50) :
    Calls Tryd.prog 30 #[.int .i64 (n : Int), .func (.func 31) #[] #[.pointer (some ⟨bl, 0, none⟩), .pointer (some ⟨bi, 0, none⟩)]] w fun e w' => e = .returned (.tuple #[.int .i64 (bestL (leftI l m) (ordL n)).1, .int .i64 (bestL (leftI l m) (ordL n)).2]) ∧ Below w.heap.size w w' := by
  have hfn := egCloF
  have h30 := hg.2
  have hf0 : ∀ x, 0 ≤ leftI l m x ∧ leftI l m x ≤ 30 := fun x => by have := leftI_bound l m x; omega
  have HC := Lib.hid (fun (b : Int) (W : World) (h : Held W bi bl A l c r M m d) (hL : Lim W) (h1 : -100 ≤ b) (h2 : b ≤ 100) => cloF_any bi bl A l c r M m d b W hn hgi hg h hL h1 h2)
  have H2 := Lib.hid (fun k => bestL_two (leftI l m) k)
  have HI := Lib.hid (fun k => bestL_inv (leftI l m) (fun s => 0 ≤ s.2 ∧ s.2 ≤ 30) (ordL k) (hf0 0) (fun x _ => hf0 x))
  have HZ := Lib.hid (show bestL (leftI l m) (ordL 0) = (0, leftI l m 0) from rfl)
  generalize hF : leftI l m = F at *
  clear hF hgi
  go_enter Tryd.func30, Tryd.ntmps30
  go_wp2_with (go_at_call 31; refine (HC.out _ _ h hL (by omega) (by omega)).mono ?_; rintro e w1 ⟨rfl, hb1⟩)
  have h1 := h.below hb1
  have hL1 := hL.below hb1
  go_loopw [6, 7, 8] (fun a q i wr => ∃ k : Nat, k ≤ n ∧ i = .int .i64 ((k : Int) + 1) ∧ a = .int .i64 (bestL F (ordL k)).1 ∧ q = .int .i64 (bestL F (ordL k)).2 ∧ Below w1.heap.size w1 wr)
    (fun _ _ i _ => n + 1 - (intOf i).toNat)
  case atStart => exact ⟨0, Nat.zero_le _, rfl, (by rw [HZ.out]), (by rw [HZ.out]), Below.refl _ _⟩
  case round =>
    obtain ⟨k, hk, rfl, rfl, rfl, hb⟩ := hrel
    by_cases hlt : k < n
    · have t1 : (k : Int) + 1 ≤ (n : Int) := by omega
      have hR := h1.below hb
      have hLR := hL1.below hb
      have hix0 := index_two0
      have hix1 := index_two1
      have hs := H2.out k
      have hsb := HI.out k
      have hv1 := hf0 (-((k : Int) + 1))
      have hv2 := hf0 ((k : Int) + 1)
      generalize bestL F (ordL k) = s at *
      obtain ⟨s1, s2⟩ := s
      simp only at hsb
      by_cases p1 : F (-((k : Int) + 1)) < s2
      · rw [bestS_less p1] at hs
        by_cases p2 : F ((k : Int) + 1) < F (-((k : Int) + 1))
        · rw [bestS_less p2] at hs
          have HS := Lib.hid hs
          clear hs
          go_wp2_with fail
          refine wp_loop_rounds 3 ?_
          rw [rounds_succ]
          go_wp2_with (go_at_call 31; refine (HC.out _ wr hR hLR (by omega) (by omega)).mono ?_; rintro e w3 ⟨rfl, hb3⟩)
          have hR3 := hR.below hb3
          have hLR3 := hLR.below hb3
          rw [rounds_succ]
          go_wp2_with (go_at_call 31; refine (HC.out _ w3 hR3 hLR3 (by omega) (by omega)).mono ?_; rintro e w4 ⟨rfl, hb4⟩)
          have hb34 := hb.trans ((hb3.trans (hb4.mono hb3.size)).mono hb.size)
          rw [rounds_succ]
          go_wp2
          go_roundw
          case rel => exact ⟨k + 1, by omega, by first | go_num | (congr 1; omega), (by rw [HS.out]), (by rw [HS.out]), hb34⟩
          case measure => simp [intOf]; omega
        · rw [bestS_more p2] at hs
          have HS := Lib.hid hs
          clear hs
          go_wp2_with fail
          refine wp_loop_rounds 3 ?_
          rw [rounds_succ]
          go_wp2_with (go_at_call 31; refine (HC.out _ wr hR hLR (by omega) (by omega)).mono ?_; rintro e w3 ⟨rfl, hb3⟩)
          have hR3 := hR.below hb3
          have hLR3 := hLR.below hb3
          rw [rounds_succ]
          go_wp2_with (go_at_call 31; refine (HC.out _ w3 hR3 hLR3 (by omega) (by omega)).mono ?_; rintro e w4 ⟨rfl, hb4⟩)
          have hb34 := hb.trans ((hb3.trans (hb4.mono hb3.size)).mono hb.size)
          rw [rounds_succ]
          go_wp2
          go_roundw
          case rel => exact ⟨k + 1, by omega, by first | go_num | (congr 1; omega), (by rw [HS.out]), (by rw [HS.out]), hb34⟩
          case measure => simp [intOf]; omega
      · rw [bestS_more p1] at hs
        by_cases p2 : F ((k : Int) + 1) < s2
        · rw [bestS_less p2] at hs
          have HS := Lib.hid hs
          clear hs
          go_wp2_with fail
          refine wp_loop_rounds 3 ?_
          rw [rounds_succ]
          go_wp2_with (go_at_call 31; refine (HC.out _ wr hR hLR (by omega) (by omega)).mono ?_; rintro e w3 ⟨rfl, hb3⟩)
          have hR3 := hR.below hb3
          have hLR3 := hLR.below hb3
          rw [rounds_succ]
          go_wp2_with (go_at_call 31; refine (HC.out _ w3 hR3 hLR3 (by omega) (by omega)).mono ?_; rintro e w4 ⟨rfl, hb4⟩)
          have hb34 := hb.trans ((hb3.trans (hb4.mono hb3.size)).mono hb.size)
          rw [rounds_succ]
          go_wp2
          go_roundw
          case rel => exact ⟨k + 1, by omega, by first | go_num | (congr 1; omega), (by rw [HS.out]), (by rw [HS.out]), hb34⟩
          case measure => simp [intOf]; omega
        · rw [bestS_more p2] at hs
          have HS := Lib.hid hs
          clear hs
          go_wp2_with fail
          refine wp_loop_rounds 3 ?_
          rw [rounds_succ]
          go_wp2_with (go_at_call 31; refine (HC.out _ wr hR hLR (by omega) (by omega)).mono ?_; rintro e w3 ⟨rfl, hb3⟩)
          have hR3 := hR.below hb3
          have hLR3 := hLR.below hb3
          rw [rounds_succ]
          go_wp2_with (go_at_call 31; refine (HC.out _ w3 hR3 hLR3 (by omega) (by omega)).mono ?_; rintro e w4 ⟨rfl, hb4⟩)
          have hb34 := hb.trans ((hb3.trans (hb4.mono hb3.size)).mono hb.size)
          rw [rounds_succ]
          go_wp2
          go_roundw
          case rel => exact ⟨k + 1, by omega, by first | go_num | (congr 1; omega), (by rw [HS.out]), (by rw [HS.out]), hb34⟩
          case measure => simp [intOf]; omega
    · obtain rfl : k = n := by omega
      have t1 : ¬ (k : Int) + 1 ≤ (k : Int) := by omega
      go_wp2
      go_ret2
      exact ⟨rfl, hb1.trans (hb.mono hb1.size)⟩

set_option maxRecDepth 100000 in
set_option maxHeartbeats 2000000 in
theorem implBestF_any (A : Option Addr) (l : List Int) (c : Nat) (r : Int) (M : Option Addr) (m : List Nt) (d : Nat) (w : World) (hn : l.length ≤ 1048576) (hA : RI w A l) (hm : m.length ≤ 1048576) (hM : RA w M m) (hL : Lim w) :
    Calls Tryd.prog 17 #[.agg #[.slice A l.length c, .int .i64 r], .slice M m.length d] w fun e w' => e = .returned (.tuple (bestFR l r m)) ∧ Below w.heap.size w w' := by
  have hb0 : Below w.heap.size w (w.alloc (.cells #[.slice A l.length c, .int .i64 r] 31)) := (Below.refl w.heap.size w).alloc (Nat.le_refl _) _
  obtain ⟨x0, x1, hz⟩ := Box.new w A l.length c r 31
  have hs0 : (w.alloc (.cells #[.slice A l.length c, .int .i64 r] 31)).heap.size = w.heap.size + 1 := by simp
  have hmf : ∀ (fn : Fn) (first cap : Array Value) (w : World), (Instr.makeFunc fn first cap).run Tryd.prog w = .ok (.func fn first cap) w := fun _ _ _ _ => rfl
  go_enter Tryd.func17, Tryd.ntmps17
  go_wp2_with fail
  generalize w.alloc (.cells #[.slice A l.length c, .int .i64 r] 31) = V at *
  have hbv : Below V.heap.size V (V.alloc (.cells #[.slice M m.length d] 28)) := (Below.refl _ _).alloc (Nat.le_refl _) _
  have l0 : (V.alloc (.cells #[.slice M m.length d] 28)).cell? ⟨V.heap.size, 0, none⟩ = some (.slice M m.length d) := by rw [World.cell?_alloc_new]; rfl
  have hzl : V.heap.size < (V.alloc (.cells #[.slice M m.length d] 28)).heap.size := by simp
  have x0 := (hbv.cell (p := ⟨w.heap.size, 0, none⟩) hz).trans x0
  have x1 := (hbv.cell (p := ⟨w.heap.size, 1, none⟩) hz).trans x1
  have hB0 := hb0.trans (hbv.mono hb0.size)
  rw [hs0] at l0 hzl
  generalize V.alloc (.cells #[.slice M m.length d] 28) = W at *
  have hH : Held W w.heap.size (w.heap.size + 1) A l c r M m d := ⟨x0, x1, l0, by omega, hzl, hA.below hB0, hM.below hB0⟩
  have hL := hL.below hB0
  clear x0 x1 l0 hb0 hbv hz hs0
  refine (isIns_any _ _ _ _ _ hn hH.ri hL).mono ?_
  rintro e w1 ⟨rfl, hb1⟩
  have hH := hH.below hb1
  have hL := hL.below hb1
  have hB1 := hB0.trans (hb1.mono hB0.size)
  cases hg : gdI l r with
  | false =>
    have HR := Lib.hid (show bestFR l r m = #[.int .i64 0, .int .i64 0, .bool false] by unfold bestFR; rw [hg]; rfl)
    go_wp2
    go_ret3
    exact ⟨(by first | (rw [HR.out]; done) | (rw [HR.out]; rfl)), hB1⟩
  | true =>
    have HG := Lib.hid hg
    clear hg
    obtain ⟨i0, i1, l0, hi, hl, ri, ra⟩ := id hH
    go_wp2_with fail
    refine (isScore_any _ _ _ _ hm ra).mono ?_
    rintro e w2 ⟨rfl, hb2⟩
    have hH := hH.below hb2
    have hL := hL.below hb2
    have hB2 := hB1.trans (hb2.mono hB1.size)
    clear i0 i1 l0 hi hl ri ra
    cases hgb : goodB m with
    | false =>
      have HR := Lib.hid (show bestFR l r m = #[.int .i64 0, .int .i64 0, .bool false] by unfold bestFR; rw [HG.out, hgb]; rfl)
      go_wp2
      go_ret3
      exact ⟨(by first | (rw [HR.out]; done) | (rw [HR.out]; rfl)), hB2⟩
    | true =>
      have hgood := (goodB_iff m).1 hgb
      have HR := Lib.hid (show bestFR l r m = #[.int .i64 (bestL (leftI l m) (ordL 11)).1, .int .i64 (bestL (leftI l m) (ordL 11)).2, .bool true] by unfold bestFR; rw [HG.out, hgb]; rfl)
      have HQ := Lib.hid (leastF_any 11 _ _ A l c r M m d w2 hn HG.out hgood hH hL (by omega))
      generalize bestL (leftI l m) (ordL 11) = s at *
      obtain ⟨s1, s2⟩ := s
      clear hgb
      go_wp2_with (go_at_call 30; refine HQ.out.mono ?_; rintro e w3 ⟨rfl, hb3⟩)
      go_ret3
      exact ⟨(by first | (rw [HR.out]; done) | (rw [HR.out]; rfl)), hB2.trans (hb3.mono hB2.size)⟩

end Go.Proofs.YtogklldofhcohaaDoor
