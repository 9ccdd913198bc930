/- The text of an instrument: both sides. -/
import Derived.Test.YtfjcnomingbneacDoorText
import Derived.Test.YtfjcnomingbneacDoorBld
import Derived.Test.YtfjcnomingbneacDoorInsF
import Derived.Test.YtfjcnomingbneacDoorInsL
import Derived.Test.YtfjcnomingbneacDoorLimR
import Derived.OwnWalk
import Derived.LoopTactic
namespace Go.Proofs.YtfjcnomingbneacDoor
open Go.RowKit Go.Sort
set_option linter.unusedVariables false
set_option linter.unusedSimpArgs false

def preI (l : List Int) : List UInt8 := l.flatMap fun p => nm p ++ [32]
def iT (l : List Int) (r : Int) : List UInt8 := preI l ++ dec r ++ [10]
theorem preI_snoc (l : List Int) (k : Nat) (p : Int) (h : l[k]? = some p) : preI (l.take (k + 1)) = preI (l.take k) ++ nm p ++ [32] := by
  rw [List.take_add_one, h]
  simp [preI, List.flatMap_append]
def okP (l : List Int) : Prop := ∀ p ∈ l, 24 ≤ p ∧ p ≤ 96
theorem gdI_facts {l : List Int} {r : Int} (h : gdI l r = true) : l.length ≤ 20 ∧ okP l ∧ 1 ≤ r ∧ r ≤ 20 := by
  have := (gdI_iff l r).1 h
  refine ⟨this.1.2, ?_, this.2.2.1, this.2.2.2⟩
  intro p hp
  obtain ⟨i, hi, rfl⟩ := List.getElem_of_mem hp
  have hU := this.2.1 i l[i] hi (List.getElem?_eq_getElem hi)
  have h1 := hU.1
  simp only [inR, Bool.and_eq_true, decide_eq_true_eq] at h1
  omega
theorem preI_len (l : List Int) (hg : okP l) : ∀ k, k ≤ l.length → (preI (l.take k)).length ≤ 4 * k := by
  intro k
  induction k with
  | zero => intro _; simp [preI]
  | succ k ih =>
    intro hk
    have hx : l[k]? = some l[k] := List.getElem?_eq_getElem (by omega)
    have hp := hg _ (List.mem_of_getElem? hx)
    have := nm_len _ hp.1 hp.2
    have := ih (by omega)
    rw [preI_snoc l k _ hx, List.length_append, List.length_append]
    simp only [List.length_cons, List.length_nil]
    omega
def itR (l : List Int) (r : Int) : Array Value := if gdI l r = true then #[.string (bs (iT l r)), .bool true] else #[.string ⟨#[]⟩, .bool false]
theorem pitchR_nm (p : Int) (h : 24 ≤ p) (h' : p ≤ 96) : pitchR p = #[.string (bs (nm p)), .bool true] := by
  unfold pitchR
  rw [if_pos (by simp [inR]; omega)]
  rfl

set_option maxRecDepth 100000 in
set_option maxHeartbeats 2000000 in
theorem inText_any (A : Option Addr) (l : List Int) (c : Nat) (r : Int) (w : World) (hA : RI w A l) (h20 : l.length ≤ 20) (hg : okP l) (hr : 1 ≤ r ∧ r ≤ 20) :
    Calls Tryd.prog 16 #[.agg #[.slice A l.length c, .int .i64 r]] w fun e w' => e = .returned (.string (bs (iT l r))) ∧ Below w.heap.size w w' := by
  have hb0 : Below w.heap.size w (w.alloc (.cells #[.slice A l.length c, .int .i64 r] 28)) := (Below.refl w.heap.size w).alloc (Nat.le_refl _) _
  have hx0 : Box (w.alloc (.cells #[.slice A l.length c, .int .i64 r] 28)) w.heap.size A l.length c r := Box.new w A l.length c r 28
  have hA0 := hA.below hb0
  go_enter Tryd.func16, Tryd.ntmps16
  go_wp2
  generalize (w.alloc (.cells #[.slice A l.length c, .int .i64 r] 28)) = W at *
  have hz0 := hb0.size
  go_loopw [3, 9] (fun s i wr => ∃ k : Nat, k ≤ l.length ∧ i = .int .i64 k ∧ s = .string (bs (preI (l.take k))) ∧ Below W.heap.size W wr)
    (fun _ i _ => l.length - (intOf i).toNat)
  case atStart => exact ⟨0, Nat.zero_le _, rfl, rfl, Below.refl _ _⟩
  case round =>
    obtain ⟨k, hk, rfl, rfl, hb⟩ := hrel
    by_cases hlt : k < l.length
    · have hx : l[k]? = some l[k] := List.getElem?_eq_getElem hlt
      generalize l[k] = p at hx
      have hp := hg _ (List.mem_of_getElem? hx)
      obtain ⟨g, o, rfl, hgb, h0⟩ := (hA0.below hb) k _ hx
      have hs := preI_snoc l k p hx
      have i1 : (0 : Int) ≤ (k : Int) := by omega
      have i2 : (k : Int) < (l.length : Int) := by omega
      have sN : (bs (nm p)).size ≤ 3 := by rw [bs_size]; exact nm_len p hp.1 hp.2
      have sT : (bs (preI (l.take k))).size ≤ 80 := by rw [bs_size]; have := preI_len l hg k hk; omega
      have HE := Lib.hid (show bs (preI (l.take k)) ++ (bs (nm p) ++ bs [32]) = bs (preI (l.take (k + 1))) by rw [hs]; simp only [bs_append, List.append_assoc])
      have CN := Lib.hid (fun W => ntName_n p W hp.1 hp.2)
      clear hs hx
      generalize hT1 : preI (l.take (k + 1)) = T1 at *
      have HT1 := Lib.hid hT1
      clear hT1
      generalize bs (nm p) = N at *
      generalize bs (preI (l.take k)) = T at *
      have z1 : ¬ 9223372036854775807 < N.size + 1 := by omega
      have z2 : ¬ 9223372036854775807 < T.size + (N.size + 1) := by omega
      go_wp2_with (go_at_call 34; refine (CN.out _).mono ?_; rintro e w1 ⟨rfl, hb1⟩)
      go_roundw
      case rel =>
        refine ⟨k + 1, by omega, by go_num, ?_, hb.trans (hb1.mono hb.size)⟩
        rw [HT1.out, ← HE.out]
        rfl
      case measure => simp [intOf]; omega
    · obtain rfl : k = l.length := by omega
      obtain ⟨x0, x1, xz⟩ := hx0.below hb
      have sD : (bs (dec r)).size ≤ 3 := by rw [bs_size]; exact dec_len r (by omega)
      have sT : (bs (preI l)).size ≤ 80 := by rw [bs_size]; have := preI_len l hg l.length (Nat.le_refl _); rw [List.take_length] at this; omega
      have HE := Lib.hid (show bs (preI l) ++ bs (dec r) ++ bs [10] = bs (iT l r) by simp only [bs_append, iT])
      have CR := Lib.hid (fun W => l1Num_n r W (by omega) (by omega))
      change Hid (∀ W, Calls Tryd.prog 35 #[.int .i64 r] W fun e w' => e = .returned (.string (bs (dec r))) ∧ Below W.heap.size W w') at CR
      rw [List.take_length]
      generalize bs (dec r) = D at *
      generalize bs (preI l) = T at *
      have z1 : ¬ 9223372036854775807 < T.size + D.size := by omega
      have z2 : ¬ 9223372036854775807 < T.size + D.size + 1 := by omega
      go_wp2_with (go_at_call 35; refine (CR.out _).mono ?_; rintro e w1 ⟨rfl, hb1⟩)
      go_ret
      refine ⟨?_, hb0.trans ((hb.trans (hb1.mono hb.size)).mono hz0)⟩
      rw [← HE.out]
      rfl

set_option maxRecDepth 100000 in
set_option maxHeartbeats 1000000 in
theorem specIText_any (A : Option Addr) (l : List Int) (c : Nat) (r : Int) (w : World) (hn : l.length ≤ 1048576) (hA : RI w A l) :
    Calls Tryd.prog 6 #[.agg #[.slice A l.length c, .int .i64 r]] w fun e w' => e = .returned (.tuple (itR l r)) ∧ Below w.heap.size w w' := by
  have hb0 : Below w.heap.size w (w.alloc (.cells #[.slice A l.length c, .int .i64 r] 28)) := (Below.refl w.heap.size w).alloc (Nat.le_refl _) _
  have hx0 : Box (w.alloc (.cells #[.slice A l.length c, .int .i64 r] 28)) w.heap.size A l.length c r := Box.new w A l.length c r 28
  have hA0 := hA.below hb0
  cases hgb : gdI l r with
  | false =>
    rw [show itR l r = #[.string ⟨#[]⟩, .bool false] from by simp [itR, hgb]]
    go_enter Tryd.func6, Tryd.ntmps6
    go_wp2_with fail
    generalize (w.alloc (.cells #[.slice A l.length c, .int .i64 r] 28)) = W at *
    refine (inGood_any _ _ _ _ _ hn hA0).mono ?_
    rintro e w1 ⟨rfl, hb1⟩
    go_wp2
    go_ret2
    exact ⟨rfl, hb0.trans (hb1.mono hb0.size)⟩
  | true =>
    obtain ⟨h20, hg, hr⟩ := gdI_facts hgb
    rw [show itR l r = #[.string (bs (iT l r)), .bool true] from by simp [itR, hgb]]
    go_enter Tryd.func6, Tryd.ntmps6
    go_wp2_with fail
    generalize (w.alloc (.cells #[.slice A l.length c, .int .i64 r] 28)) = W at *
    refine (inGood_any _ _ _ _ _ hn hA0).mono ?_
    rintro e w1 ⟨rfl, hb1⟩
    obtain ⟨x0, x1, xz⟩ := hx0.below hb1
    go_wp2_with (go_at_call 16; refine (inText_any _ _ _ _ _ (hA0.below hb1) h20 hg hr).mono ?_; rintro e w2 ⟨rfl, hb2⟩)
    go_ret2
    exact ⟨rfl, hb0.trans ((hb1.trans (hb2.mono hb1.size)).mono hb0.size)⟩

/-- What stands between two operations of a round. -/
structure Si (w0 : World) (bx : Nat) (A : Option Addr) (l : List Int) (c : Nat) (r : Int) (b : Nat) (t : List UInt8) (w : World) : Prop where
  box : Box w bx A l.length c r
  ra : RI w A l
  tabs : Tabs w
  bd : Bd b t w
  bel : Below b w0 w
  szb : b ≤ w.heap.size
theorem Si.below {w0 : World} {bx : Nat} {A : Option Addr} {l : List Int} {c : Nat} {r : Int} {b : Nat} {t : List UInt8} {w w' : World} (h : Si w0 bx A l c r b t w) (hb : Below w.heap.size w w') : Si w0 bx A l c r b t w' where
  box := h.box.below hb
  ra := h.ra.below hb
  tabs := h.tabs.below hb
  bd := h.bd.below hb
  bel := h.bel.trans (hb.mono h.szb)
  szb := Nat.le_trans h.szb hb.size
/-- Behind a write on the builder: what lay below it stands. -/
theorem Si.wrote {w0 : World} {bx : Nat} {A : Option Addr} {l : List Int} {c : Nat} {r : Int} {b : Nat} {t t' : List UInt8} {w w' : World} (h : Si w0 bx A l c r b t w) (h0 : Box w0 bx A l.length c r) (hA : RI w0 A l) (hT : Tabs w0) (hbb : b = w0.heap.size) (hb : Below b w w') (hd : Bd b t' w') : Si w0 bx A l c r b t' w' := by
  have hB := h.bel.trans hb
  subst hbb
  exact ⟨h0.below hB, hA.below hB, hT.below hB, hd, hB, hB.size⟩

set_option maxRecDepth 100000 in
set_option maxHeartbeats 4000000 in
theorem implIText_any (A : Option Addr) (l : List Int) (c : Nat) (r : Int) (w : World) (hn : l.length ≤ 1048576) (hA : RI w A l) (hT : Tabs w) (hL : Lim w) :
    Calls Tryd.prog 8 #[.agg #[.slice A l.length c, .int .i64 r]] w fun e w' => e = .returned (.tuple (itR l r)) ∧ Below w.heap.size w w' := by
  have hb0 : Below w.heap.size w (w.alloc (.cells #[.slice A l.length c, .int .i64 r] 28)) := (Below.refl w.heap.size w).alloc (Nat.le_refl _) _
  have hx0 : Box (w.alloc (.cells #[.slice A l.length c, .int .i64 r] 28)) w.heap.size A l.length c r := Box.new w A l.length c r 28
  have hA0 := hA.below hb0
  have hT0 := hT.below hb0
  have hL0 := hL.below hb0
  have hz0 := hb0.size
  cases hgb : gdI l r with
  | false =>
    rw [show itR l r = #[.string ⟨#[]⟩, .bool false] from by simp [itR, hgb]]
    go_enter Tryd.func8, Tryd.ntmps8
    go_wp2_with fail
    generalize (w.alloc (.cells #[.slice A l.length c, .int .i64 r] 28)) = W at *
    refine (isIns_any _ _ _ _ _ hn hA0 hL0).mono ?_
    rintro e w1 ⟨rfl, hb1⟩
    go_wp2
    go_ret2
    exact ⟨rfl, hb0.trans (hb1.mono hb0.size)⟩
  | true =>
    obtain ⟨h20, hg, hr⟩ := gdI_facts hgb
    have HR := Lib.hid (show itR l r = #[.string (bs (iT l r)), .bool true] from by simp [itR, hgb])
    go_enter Tryd.func8, Tryd.ntmps8
    go_wp2_with fail
    generalize (w.alloc (.cells #[.slice A l.length c, .int .i64 r] 28)) = W at *
    refine (isIns_any _ _ _ _ _ hn hA0 hL0).mono ?_
    rintro e w1 ⟨rfl, hb1⟩
    have hX1 := hx0.below hb1
    have hA1 := hA0.below hb1
    have hT1 := hT0.below hb1
    have hB1 := hb0.trans (hb1.mono hb0.size)
    clear hx0 hA0 hT0 hL0 hA hT hL hb0
    have hbb : Below w1.heap.size w1 (w1.alloc (.cells #[.pointer none, .slice none 0 0] 43)) := (Below.refl _ _).alloc (Nat.le_refl _) _
    have hS0 : Si w1 w.heap.size A l c r w1.heap.size [] (w1.alloc (.cells #[.pointer none, .slice none 0 0] 43)) := ⟨hX1.below hbb, hA1.below hbb, hT1.below hbb, Bd.fresh w1, hbb, hbb.size⟩
    obtain ⟨y0, y1, yz⟩ := hX1.below hbb
    obtain ⟨v0, v1, vz⟩ := id hX1
    go_wp2
    clear y0 y1 yz v0 v1 vz
    go_loopw [15] (fun i wr => ∃ k : Nat, k ≤ l.length ∧ i = .int .i64 k ∧ Si w1 w.heap.size A l c r w1.heap.size (preI (l.take k)) wr)
      (fun i _ => l.length - (intOf i).toNat)
    case atStart => exact ⟨0, Nat.zero_le _, rfl, hS0⟩
    case round =>
      obtain ⟨k, hk, rfl, hS⟩ := hrel
      clear hS0 hbb
      by_cases hlt : k < l.length
      · have hx : l[k]? = some l[k] := List.getElem?_eq_getElem hlt
        generalize l[k] = p at hx
        have hp := hg _ (List.mem_of_getElem? hx)
        obtain ⟨g, o, hAe, hgb, h0⟩ := hS.ra k _ hx
        have hs := preI_snoc l k p hx
        have hpl := preI_len l hg k hk
        have i1 : (0 : Int) ≤ (k : Int) := by omega
        have i2 : (k : Int) < (l.length : Int) := by omega
        have sN : (bs (nm p)).size ≤ 3 := by rw [bs_size]; exact nm_len p hp.1 hp.2
        have lN : (nm p).length ≤ 3 := nm_len p hp.1 hp.2
        have HE := Lib.hid (show bs (nm p) ++ bs [32] = bs (nm p ++ [32]) by simp only [bs_append])
        have CN := Lib.hid (fun (W : World) (hW : Tabs W) => by have := implPitch_any p W hW.names; rwa [pitchR_nm p (by omega) (by omega)] at this)
        have CW := Lib.hid (fun (W : World) (hW : Bd w1.heap.size (preI (l.take k)) W) => by have := writeString_k w1.heap.size (preI (l.take k)) (nm p ++ [32]) W hW (by simp; omega); rwa [← List.append_assoc, ← hs, ← HE.out] at this)
        clear hs hx HE
        subst hAe
        generalize bs (nm p) = N at *
        have z1 : ¬ 9223372036854775807 < N.size + 1 := by omega
        go_wp2_with fail
        refine (CN.out _ hS.tabs).mono ?_
        rintro e w2 ⟨rfl, hb2⟩
        have hS2 := hS.below hb2
        go_wp2_with fail
        refine (CW.out _ hS2.bd).mono ?_
        rintro e w3 ⟨rfl, hd3, hb3⟩
        have hS3 := hS2.wrote hX1 hA1 hT1 rfl hb3 hd3
        go_wp2
        go_roundw
        case rel => exact ⟨k + 1, by omega, by go_num, hS3⟩
        case measure => simp [intOf]; omega
      · obtain rfl : k = l.length := by omega
        have hpl := preI_len l hg l.length (Nat.le_refl _)
        rw [List.take_length] at hS hpl
        obtain ⟨x0, x1, xz⟩ := hS.box
        have lD := dec_len r (by omega)
        have sD : (bs (dec r)).size ≤ 3 := by rw [bs_size]; exact lD
        have HE := Lib.hid (show bs (dec r) ++ bs [10] = bs (dec r ++ [10]) by simp only [bs_append])
        have CR := Lib.hid (fun (W : World) (hW : Tabs W) => itoa_k r W (by omega) (by omega) hW.pow)
        have CW := Lib.hid (fun (W : World) (hW : Bd w1.heap.size (preI l) W) => by have := writeString_k w1.heap.size (preI l) (dec r ++ [10]) W hW (by simp; omega); rwa [← List.append_assoc, ← HE.out] at this)
        clear HE
        generalize bs (dec r) = D at *
        have z1 : ¬ 9223372036854775807 < D.size + 1 := by omega
        go_wp2_with fail
        refine (CR.out _ hS.tabs).mono ?_
        rintro e w2 ⟨rfl, hb2⟩
        have hS2 := hS.below hb2
        go_wp2_with fail
        refine (CW.out _ hS2.bd).mono ?_
        rintro e w3 ⟨rfl, hd3, hb3⟩
        have hS3 := hS2.wrote hX1 hA1 hT1 rfl hb3 hd3
        go_wp2_with fail
        refine (string_k _ _ _ hS3.bd).mono ?_
        rintro e w4 ⟨rfl, hb4⟩
        go_wp2
        go_ret2
        rw [HR.out, show iT l r = preI l ++ (dec r ++ [10]) from List.append_assoc _ _ _]
        exact ⟨rfl, hB1.trans ((hS3.bel.trans hb4).mono hB1.size)⟩
end Go.Proofs.YtfjcnomingbneacDoor
