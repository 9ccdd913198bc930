/- The program parts a line into words: a walk over runes with appends. -/
import Derived.Test.YtfjcnomingbneacDoorSplN
import Derived.Test.YtfjcnomingbneacDoorSpl
import Derived.WalkSmall
namespace Go.Proofs.YtfjcnomingbneacDoor
open Go.RowKit Go.Sort
set_option linter.unusedVariables false
set_option linter.unusedSimpArgs false

theorem OwnS.iterAt {w : World} {base : Nat} {v : Value} {l : List (List UInt8)} (h : OwnS w base v l) {k : Nat} (hk : k < base) (s : ByteArray) (p : Nat) : OwnS (w.iterAt k s p) base v l :=
  ownsRow_iterAt h hk s p
/-- What the words are before byte k. -/
structure Wd (s : List UInt8) (k g : Nat) (done : List (List UInt8)) : Prop where
  hk : k ≤ s.length
  hg : g ≤ k
  no10 : 10 ∉ s.take k
  no32 : 32 ∉ (s.take k).drop g
  eq : ∀ t, splitB 32 (s.take k ++ t) = done ++ splitB 32 ((s.take k).drop g ++ t)
theorem Wd.zero (s : List UInt8) : Wd s 0 0 [] := ⟨Nat.zero_le _, Nat.le_refl _, by simp, by simp, fun t => by simp⟩
theorem Wd.words {s : List UInt8} {k g : Nat} {done : List (List UInt8)} (h : Wd s k g done) : splitB 32 (s.take k) = done ++ [(s.take k).drop g] := by
  have := h.eq []
  rwa [List.append_nil, List.append_nil, splitB_no 32 _ h.no32] at this
theorem Wd.len {s : List UInt8} {k g : Nat} {done : List (List UInt8)} (h : Wd s k g done) : done.length ≤ s.length := by
  have h1 := congrArg List.length h.words
  have h2 := splitB_length 32 (s.take k)
  rw [List.length_append, List.length_singleton] at h1
  rw [List.length_take] at h2
  have := h.hk
  omega
theorem Wd.blank {s : List UInt8} {k g : Nat} {done : List (List UInt8)} (h : Wd s k g done) (hx : s[k]? = some 32) : Wd s (k + 1) (k + 1) (done ++ [(s.take k).drop g]) := by
  have hk := (List.getElem?_eq_some_iff.1 hx).1
  have ht : s.take (k + 1) = s.take k ++ [32] := by rw [List.take_add_one, hx]; rfl
  have hd : (s.take (k + 1)).drop (k + 1) = [] := List.drop_eq_nil_of_le (by rw [List.length_take]; omega)
  refine ⟨by omega, Nat.le_refl _, ?_, by rw [hd]; simp, ?_⟩
  · rw [ht, List.mem_append]
    intro hm
    rcases hm with hm | hm
    · exact h.no10 hm
    · simp at hm
  · intro t
    rw [hd, ht, List.append_assoc, h.eq, List.nil_append, List.singleton_append, splitB_at 32 _ _ h.no32]
    simp
theorem Wd.other {s : List UInt8} {k g n : Nat} {done : List (List UInt8)} (h : Wd s k g done) (hn : k + n ≤ s.length) (hno : ∀ j y, j < n → s[k + j]? = some y → y ≠ 10 ∧ y ≠ 32) : Wd s (k + n) g done := by
  have hch : ∀ c ∈ (s.drop k).take n, c ≠ 10 ∧ c ≠ 32 := by
    intro c hc
    obtain ⟨j, hj, rfl⟩ := List.getElem_of_mem hc
    rw [List.length_take] at hj
    exact hno j _ (by omega) (by rw [List.getElem_take, List.getElem_drop]; exact List.getElem?_eq_getElem _)
  have ht : s.take (k + n) = s.take k ++ (s.drop k).take n := by rw [List.take_add]
  have hd : (s.take (k + n)).drop g = (s.take k).drop g ++ (s.drop k).take n := by
    rw [ht, List.drop_append_of_le_length (by rw [List.length_take]; have := h.hk; have := h.hg; omega)]
  refine ⟨hn, by have := h.hg; omega, ?_, ?_, ?_⟩
  · rw [ht, List.mem_append]
    exact fun hm => hm.elim h.no10 (fun hm => (hch _ hm).1 rfl)
  · rw [hd, List.mem_append]
    exact fun hm => hm.elim h.no32 (fun hm => (hch _ hm).2 rfl)
  · intro t
    rw [hd, ht, List.append_assoc, h.eq, List.append_assoc]
theorem piece_extract (s : List UInt8) (g k : Nat) : (bs s).extract g k = bs ((s.take k).drop g) := by rw [bs_extract, List.drop_take]

/-- What wordsOfLine says: the words up to the first newline, and whether it is the last byte. -/
def WordsOf (s : List UInt8) (base : Nat) (w : World) (e : Ending) : Prop :=
  (10 ∉ s ∧ e = .returned (.tuple #[.slice none 0 0, .bool false])) ∨
  (∃ k v, s[k]? = some 10 ∧ 10 ∉ s.take k ∧ OwnS w base v (splitB 32 (s.take k)) ∧ e = .returned (.tuple #[v, .bool (decide (k + 1 = s.length))]))

set_option maxRecDepth 100000 in
set_option maxHeartbeats 4000000 in
theorem wordsOfLine_any (s : List UInt8) (w : World) (hs : s.length ≤ 2000000) :
    Calls Tryd.prog 25 #[.string (bs s)] w fun e w' => WordsOf s w.heap.size w' e ∧ Below w.heap.size w w' := by
  have hsz : (bs s).size = s.length := bs_size s
  have hb0 := iter_below w (bs s) 0
  have hz0 : w.heap.size + 1 ≤ (w.iter (bs s) 0).heap.size := by simp [World.iter]
  have hi0 : (w.iter (bs s) 0).heap[w.heap.size]? = some (.stringIter (bs s) 0) := World.iter_heap w (bs s) 0
  go_enter Tryd.func25, Tryd.ntmps25
  go_wp2
  go_loopw [4, 5, 10] (fun v f t wr => ∃ (k g : Nat) (done : List (List UInt8)), f = .int .i64 g ∧ Wd s k g done ∧ OwnS wr (w.heap.size + 1) v done ∧ wr.heap[w.heap.size]? = some (.stringIter (bs s) k) ∧ Below w.heap.size w wr ∧ w.heap.size + 1 ≤ wr.heap.size)
    (fun _ _ _ wr => s.length - wr.iterPos w.heap.size)
  case atStart => exact ⟨0, 0, [], rfl, Wd.zero s, OwnS.nil _ _, hi0, hb0, hz0⟩
  case round =>
    obtain ⟨k, g, done, rfl, hW, hO, hit, hb, hz⟩ := hrel
    have hdl := hW.len
    have hgk := hW.hg
    have hkl := hW.hk
    by_cases hlt : k < s.length
    · have hx : s[k]? = some s[k] := List.getElem?_eq_getElem hlt
      generalize s[k] = x at hx
      have hst := rune_step s k x hx
      have hkz : k < (bs s).size := by omega
      have hnx : ∀ ty, (Instr.next (.pointer (some ⟨w.heap.size, 0, none⟩)) true ty).run Tryd.prog wr = _ := fun ty => Lib.run_next_any_at wr w.heap.size (bs s) k ty hit hkz
      have hit1 := fun p' => Lib.iterAt_heap wr w.heap.size (bs s) k p' hit
      have hO1 := fun p' => hO.iterAt (Nat.lt_succ_self _) (bs s) p'
      have hb1 := fun p' => Lib.below_iterAt hb (Nat.le_refl _) (bs s) p'
      have hz1 := fun p' => Lib.iterAt_size wr w.heap.size (bs s) p'
      have hp0 : wr.iterPos w.heap.size = k := by simp [World.iterPos, hit]
      rcases hst with ⟨ha, hdec⟩ | ⟨ha, h128, hw1, hw2, hby⟩
      · rw [hdec] at hnx
        clear hdec
        simp only at hnx
        have hO2 := hO1 (k + 1)
        have hb2 := hb1 (k + 1)
        have hi2 := hit1 (k + 1)
        have hz2 := hz1 (k + 1)
        clear hO1 hb1 hit1 hz1
        have i3 : (0 : Int) ≤ (k : Int) := by omega
        have i4 : (k : Int) ≤ (s.length : Int) := by omega
        have i5 : (g : Int) ≤ (k : Int) := by omega
        have i6 : (0 : Int) ≤ (g : Int) := by omega
        by_cases h32 : x.toNat = 32
        · have hx32 : x = 32 := UInt8.toNat_inj.1 (by rw [h32]; rfl)
          have HW := Lib.hid (hW.blank (by rw [hx, hx32]))
          have e1 : (x.toNat : Int) = 32 := by omega
          clear hx hW hO hb hit hx32
          generalize hWV : wr.iterAt w.heap.size (bs s) (k + 1) = V at *
          have HX := Lib.hid (piece_extract s g k)
          have hbn : Below V.heap.size V (V.alloc (.cells #[.string ((bs s).extract g k)] 9)) := (Below.refl _ _).alloc (Nat.le_refl _) _
          have HO2 := Lib.hid (hO2.below hbn (Nat.le_refl _))
          have HB2 := Lib.hid (hb2.trans (hbn.mono hb2.size))
          have HI2 := Lib.hid ((hbn.block w.heap.size (by omega)).trans hi2)
          clear hbn hO2 hb2 hi2 hWV
          go_wp2_with (at_builtin; go_loud (refine wpList_appS rfl (.tmp 17) (.tmp 22) rfl (w.heap.size + 1) _ _ rfl HO2.out _ ((s.take k).drop g) rfl (by rw [← HX.out, ← hz2]; exact (World.cell?_alloc_new _ _ _ 0).trans rfl) (by omega) (by simp; omega) ?_); intro v6 w6 ho6 hg6; have hB6 := HB2.out.grown hg6 (by simp; omega) (fun j hj => Nat.le_of_succ_le (HO2.out.lt j hj).1); have hit6 := Lib.hid ((hg6.block w.heap.size (by simp; omega) (fun e => absurd (HO2.out.lt _ e.symm).1 (by omega))).trans HI2.out); have hz6 := hg6.size)
          go_roundw
          case rel => exact ⟨k + 1, k + 1, _, by go_num, HW.out, ho6, hit6.out, hB6, by simp at hz6; omega⟩
          case measure => rw [iterPos_of hit6.out, hp0]; omega
        · by_cases h10 : x.toNat = 10
          · have hx10 : x = 10 := UInt8.toNat_inj.1 (by rw [h10]; rfl)
            have HW := Lib.hid hW.words
            have HN := Lib.hid hW.no10
            have HK := Lib.hid (show s[k]? = some 10 by rw [hx, hx10])
            have e1 : ¬ ((x.toNat : Int) = 32) := by omega
            have e2 : (x.toNat : Int) = 10 := by omega
            clear hx hW hO hb hit hx10
            generalize hWV : wr.iterAt w.heap.size (bs s) (k + 1) = V at *
            have HX := Lib.hid (piece_extract s g k)
            have hbn : Below V.heap.size V (V.alloc (.cells #[.string ((bs s).extract g k)] 9)) := (Below.refl _ _).alloc (Nat.le_refl _) _
            have HO2 := Lib.hid (hO2.below hbn (Nat.le_refl _))
            have HB2 := Lib.hid (hb2.trans (hbn.mono hb2.size))
            have HI2 := Lib.hid ((hbn.block w.heap.size (by omega)).trans hi2)
            clear hbn hO2 hb2 hi2 hWV
            go_wp2_with (at_builtin; go_loud (refine wpList_appS rfl (.tmp 28) (.tmp 33) rfl (w.heap.size + 1) _ _ rfl HO2.out _ ((s.take k).drop g) rfl (by rw [← HX.out, ← hz2]; exact (World.cell?_alloc_new _ _ _ 0).trans rfl) (by omega) (by simp; omega) ?_); intro v6 w6 ho6 hg6; have hB6 := HB2.out.grown hg6 (by simp; omega) (fun j hj => Nat.le_of_succ_le (HO2.out.lt j hj).1); have hit6 := Lib.hid ((hg6.block w.heap.size (by simp; omega) (fun e => absurd (HO2.out.lt _ e.symm).1 (by omega))).trans HI2.out); have hz6 := hg6.size)
            go_ret2
            refine ⟨.inr ⟨k, v6, HK.out, HN.out, ?_, ?_⟩, hB6⟩
            · rw [HW.out]
              exact ⟨ho6.1, ho6.2.imp id fun ⟨g, cap, cur, a, b, c⟩ => ⟨g, cap, cur, a, Nat.le_of_succ_le b, c⟩⟩
            · have hke : decide ((k : Int) = (s.length : Int) - 1) = decide (k + 1 = s.length) := by
                rw [decide_eq_decide]; omega
              rw [← hke]
              rfl
          · have HW := Lib.hid (hW.other (n := 1) (by omega) (by
              intro j y hj hy
              obtain rfl : j = 0 := by omega
              rw [Nat.add_zero, hx] at hy
              injection hy with hy
              subst hy
              exact ⟨fun e => h10 (by rw [e]; rfl), fun e => h32 (by rw [e]; rfl)⟩))
            have e1 : ¬ ((x.toNat : Int) = 32) := by omega
            have e2 : ¬ ((x.toNat : Int) = 10) := by omega
            clear hx hW hO hb hit
            go_wp2
            go_roundw
            case rel => exact ⟨k + 1, g, done, rfl, HW.out, hO2, hi2, hb2, by omega⟩
            case measure => rw [iterPos_of hi2, hp0]; omega
      · generalize hd1 : (Utf8.decode (bs s) k).1 = R at *
        generalize hd2 : (Utf8.decode (bs s) k).2 = W at *
        have e1 : ¬ ((R : Int) = 32) := by omega
        have e2 : ¬ ((R : Int) = 10) := by omega
        have HW := Lib.hid (hW.other (n := W) hw2 (by
          intro j y hj hy
          have := hby j y hj hy
          exact ⟨fun e => by rw [e] at this; exact absurd this (by decide), fun e => by rw [e] at this; exact absurd this (by decide)⟩))
        have hO2 := hO1 (k + W)
        have hb2 := hb1 (k + W)
        have hi2 := hit1 (k + W)
        have hz2 := hz1 (k + W)
        clear hO1 hb1 hit1 hz1 hd1 hd2 hx hW hO hb hit hby
        go_wp2
        go_roundw
        case rel => exact ⟨k + W, g, done, rfl, HW.out, hO2, hi2, hb2, by omega⟩
        case measure => rw [iterPos_of hi2, hp0]; omega
    · have hnx : ∀ ty, (Instr.next (.pointer (some ⟨w.heap.size, 0, none⟩)) true ty).run Tryd.prog wr = _ := fun ty => Lib.run_next_end_at wr w.heap.size (bs s) k ty hit (by omega)
      have hno : 10 ∉ s := by have := hW.no10; rwa [List.take_of_length_le (by omega)] at this
      go_wp2
      go_ret2
      exact ⟨.inl ⟨hno, rfl⟩, hb⟩
end Go.Proofs.YtfjcnomingbneacDoor
