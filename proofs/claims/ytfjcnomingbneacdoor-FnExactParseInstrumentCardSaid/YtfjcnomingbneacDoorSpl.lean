/- The model splits a string at a byte. -/
import Derived.Test.YtfjcnomingbneacDoorL1R
import Derived.Test.YtfjcnomingbneacDoorAppS
namespace Go.Proofs.YtfjcnomingbneacDoor
open Go.RowKit Go.Sort
set_option linter.unusedVariables false
set_option linter.unusedSimpArgs false

theorem splitB_length (b : UInt8) (s : List UInt8) : (splitB b s).length ≤ s.length + 1 := by
  induction s with
  | nil => simp [splitB]
  | cons x s ih =>
    unfold splitB
    split
    · simp only [List.length_cons]; omega
    · split
      · simp
      · rename_i h t hc
        rw [hc] at ih
        simp only [List.length_cons] at ih ⊢
        omega
set_option maxRecDepth 100000 in
set_option maxHeartbeats 2000000 in
theorem l1Split_any (s : List UInt8) (b : UInt8) (w : World) (hs : s.length ≤ 2000000) :
    Calls Tryd.prog 40 #[.string (bs s), .int .u8 b.toNat] w fun e w' => ∃ v, e = .returned v ∧ OwnS w' w.heap.size v (splitB b s) ∧ Below w.heap.size w w' := by
  have hsz : (bs s).size = s.length := bs_size s
  have hspl := splitB_length b s
  go_enter Tryd.func40, Tryd.ntmps40
  go_wp2
  go_loopw [5, 6, 7] (fun v f i wr => ∃ (k g : Nat) (done : List (List UInt8)), k ≤ s.length ∧ g ≤ k ∧ i = .int .i64 k ∧ f = .int .i64 g ∧ OwnS wr w.heap.size v done ∧ splitB b s = done ++ splitB b (s.drop g) ∧ b ∉ (s.drop g).take (k - g) ∧ Below w.heap.size w wr)
    (fun _ _ i _ => s.length - (intOf i).toNat)
  case atStart => exact ⟨0, 0, [], Nat.zero_le _, Nat.le_refl _, rfl, rfl, OwnS.nil _ _, by simp, by simp, Below.refl _ _⟩
  case round =>
    obtain ⟨k, g, done, hk, hgk, rfl, rfl, hO, hE, hno, hb⟩ := hrel
    have hdl : done.length + (splitB b (s.drop g)).length ≤ s.length + 1 := by
      have := congrArg List.length hE
      rw [List.length_append] at this
      omega
    have hne := List.length_pos_iff.2 (splitB_ne b (s.drop g))
    by_cases hlt : k < s.length
    · have hx : s[k]? = some s[k] := List.getElem?_eq_getElem hlt
      generalize s[k] = x at hx
      have hgx : ∀ h, (bs s)[k]'h = x := fun h => bs_get s k x hx h
      have i3 : (0 : Int) ≤ (k : Int) := by omega
      have i4 : (k : Int) < (s.length : Int) := by omega
      have i5 : (g : Int) ≤ (k : Int) := by omega
      have i6 : (0 : Int) ≤ (g : Int) := by omega
      have i7 : (k : Int) ≤ (s.length : Int) := by omega
      have htk : (s.drop g).take (k + 1 - g) = (s.drop g).take (k - g) ++ [x] := by
        rw [show k + 1 - g = (k - g) + 1 by omega, List.take_add_one, List.getElem?_drop, show g + (k - g) = k by omega, hx]
        rfl
      by_cases hxb : x = b
      · have e1 : (x.toNat : Int) = (b.toNat : Int) := by rw [hxb]
        have hcut : splitB b s = done ++ [(s.drop g).take (k - g)] ++ splitB b (s.drop (k + 1)) := by
          have hsd : s.drop g = (s.drop g).take (k - g) ++ b :: s.drop (k + 1) := by
            conv => lhs; rw [← List.take_append_drop (k - g) (s.drop g), List.drop_drop, show g + (k - g) = k by omega]
            rw [List.drop_eq_getElem_cons hlt]
            have : s[k] = b := by rw [← hxb]; exact Option.some.inj ((List.getElem?_eq_getElem hlt).symm.trans hx)
            rw [this]
          rw [hE, hsd, splitB_at b _ _ hno, ← hsd]
          simp
        have HC := Lib.hid hcut
        have HOo := Lib.hid hO
        have HX := Lib.hid (bs_extract s g k)
        have hbn : Below wr.heap.size wr (wr.alloc (.cells #[.string ((bs s).extract g k)] 9)) := (Below.refl _ _).alloc (Nat.le_refl _) _
        have HO1 := Lib.hid (hO.below hbn (Nat.le_refl _))
        have HB1 := Lib.hid (hb.alloc hb.size (.cells #[.string ((bs s).extract g k)] 9))
        have hzn := hbn.size
        have hbz := hb.size
        clear hcut hE hno hx htk hO hbn
        go_wp2_with (at_builtin; go_loud (refine wpList_appS rfl (.tmp 19) (.tmp 24) rfl w.heap.size _ _ rfl HO1.out _ ((s.drop g).take (k - g)) rfl (by rw [← HX.out]; exact (World.cell?_alloc_new _ _ _ 0).trans rfl) (by omega) (by omega) ?_); intro v6 w6 ho6 hg6; have hB6 := HB1.out.grown hg6 (by omega) (fun j hj => (HO1.out.lt j hj).1))
        go_roundw
        case rel => exact ⟨k + 1, k + 1, _, by omega, Nat.le_refl _, by go_num, by go_num, ho6, HC.out, by simp, hB6⟩
        case measure => simp [intOf]; omega
      · have e1 : ¬ ((x.toNat : Int) = (b.toNat : Int)) := fun h => hxb (UInt8.toNat_inj.1 (by omega))
        have HE := Lib.hid hE
        have HN := Lib.hid (show b ∉ (s.drop g).take (k + 1 - g) by
          rw [htk, List.mem_append]
          intro h
          rcases h with h | h
          · exact hno h
          · simp only [List.mem_singleton] at h
            exact hxb h.symm)
        clear hE hno hx htk
        go_wp2
        go_roundw
        case rel => exact ⟨k + 1, g, done, by omega, by omega, by go_num, rfl, hO, HE.out, HN.out, hb⟩
        case measure => simp [intOf]; omega
    · obtain rfl : k = s.length := by omega
      have hall : (s.drop g).take (s.length - g) = s.drop g := List.take_of_length_le (by rw [List.length_drop]; omega)
      rw [hall] at hno
      have HC := Lib.hid (show splitB b s = done ++ [s.drop g] by rw [hE, splitB_no b _ hno])
      have HX := Lib.hid (show (bs s).extract g s.length = bs (s.drop g) by rw [bs_extract, hall])
      have i5 : (g : Int) ≤ (s.length : Int) := by omega
      have i6 : (0 : Int) ≤ (g : Int) := by omega
      have hbn : Below wr.heap.size wr (wr.alloc (.cells #[.string ((bs s).extract g s.length)] 9)) := (Below.refl _ _).alloc (Nat.le_refl _) _
      have HO1 := Lib.hid (hO.below hbn (Nat.le_refl _))
      have HB1 := Lib.hid (hb.alloc hb.size (.cells #[.string ((bs s).extract g s.length)] 9))
      have hzn := hbn.size
      have hbz := hb.size
      clear hE hno hO hbn hall
      go_wp2_with (at_builtin; go_loud (refine wpList_appS rfl (.tmp 28) (.tmp 32) rfl w.heap.size _ _ rfl HO1.out _ (s.drop g) rfl (by rw [← HX.out]; exact (World.cell?_alloc_new _ _ _ 0).trans rfl) (by omega) (by omega) ?_); intro v6 w6 ho6 hg6; have hB6 := HB1.out.grown hg6 (by omega) (fun j hj => (HO1.out.lt j hj).1))
      go_ret
      exact ⟨_, rfl, by rw [HC.out]; exact ho6, hB6⟩
end Go.Proofs.YtfjcnomingbneacDoor
