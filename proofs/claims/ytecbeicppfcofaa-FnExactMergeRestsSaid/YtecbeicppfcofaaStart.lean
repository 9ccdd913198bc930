/- Contracts: the length of a voice and the starts of its events. -/
import Derived.Test.YtecbeicppfcofaaSum
namespace Go.Proofs.Ytecbeicppfcofaa
open Go.RowKit
set_option linter.unusedVariables false
set_option linter.unusedSimpArgs false

def voiceLengthR (l : List Nt) : Array Value := if goodV l = true then #[.int .i64 (low (tks l) 720720).1, .int .i64 (low (tks l) 720720).2, .bool true] else #[.int .i64 0, .int .i64 0, .bool false]
theorem voiceLengthR_form (l : List Nt) : ∃ a b d, voiceLengthR l = #[.int .i64 a, .int .i64 b, .bool d] := by unfold voiceLengthR; split <;> exact ⟨_, _, _, rfl⟩
def eventStartR (l : List Nt) (i : Int) : Array Value := if (goodV l && inR i 0 ((l.length : Int) - 1)) = true then #[.int .i64 (low (tks (l.take i.toNat)) 720720).1, .int .i64 (low (tks (l.take i.toNat)) 720720).2, .bool true] else #[.int .i64 0, .int .i64 0, .bool false]
theorem eventStartR_form (l : List Nt) (i : Int) : ∃ a b d, eventStartR l i = #[.int .i64 a, .int .i64 b, .bool d] := by unfold eventStartR; split <;> exact ⟨_, _, _, rfl⟩

/-- What the edges of a voice are, read behind edgesOf. -/
theorem edges_cell {w : World} {base t : Nat} {v : Value} {l : List Nt} {k : Nat} (h : OwnI w base t v (edgesTo l l.length)) (hk : k ≤ l.length) :
    ∃ g c, v = .slice (some ⟨g, 0, none⟩) (l.length + 1) c ∧ g < w.heap.size ∧ w.cell? ⟨g, k, none⟩ = some (.int .i64 (tks (l.take k))) := by
  obtain ⟨E, ce, rfl, hRI, hce, hcm, hE, hEb⟩ := h.form
  obtain ⟨ge, oe, rfl, hge, hcell⟩ := hRI k _ (edgesTo_get l l.length k hk)
  obtain ⟨ge', hge', hgb⟩ := hEb _ rfl
  simp only [Addr.mk.injEq, and_true] at hge'
  obtain ⟨rfl, rfl⟩ := hge'
  rw [Nat.zero_add] at hcell
  exact ⟨ge, ce, by rw [edgesTo_length], hge, hcell⟩

set_option maxRecDepth 100000 in
set_option maxHeartbeats 1000000 in
theorem specVoiceLength_any (g : Nat) (l : List Nt) (c : Nat) (w : World) (hn : l.length ≤ 1048576) (hc : l.length ≤ c) (hc' : c ≤ 9223372036854775807) (hA : RA w (some ⟨g, 0, none⟩) l) :
    Calls Try.prog 18 #[.slice (some ⟨g, 0, none⟩) l.length c] w fun e w' => e = .returned (.tuple (voiceLengthR l)) ∧ Below w.heap.size w w' := by
  cases hg : goodV l with
  | false =>
    have hr : voiceLengthR l = #[.int .i64 0, .int .i64 0, .bool false] := by simp [voiceLengthR, hg]
    rw [hr]
    go_enter Try.func18, Try.ntmps18
    go_wp2_with fail
    refine (noGood_any _ _ _ _ hn hA).mono ?_
    rintro e w1 ⟨rfl, hb1⟩
    go_wp2
    go_ret3
    exact ⟨rfl, hb1⟩
  | true =>
    have hr : voiceLengthR l = #[.int .i64 (low (tks l) 720720).1, .int .i64 (low (tks l) 720720).2, .bool true] := by simp [voiceLengthR, hg]
    rw [hr]
    have h20 := ((goodV_iff l).1 hg).2
    have hok := okT_of hg
    have HN := Lib.hid (fun W hA => noSum_any (some ⟨g, 0, none⟩) l l.length c W rfl h20 hok hA)
    have HA := Lib.hid hA
    clear hr hok hA
    generalize (low (tks l) 720720).1 = a at *
    generalize (low (tks l) 720720).2 = b at *
    go_enter Try.func18, Try.ntmps18
    go_wp2_with fail
    refine (noGood_any _ _ _ _ hn HA.out).mono ?_
    rintro e w1 ⟨rfl, hb1⟩
    go_wp2_with fail
    refine (HN.out _ (HA.out.below hb1)).mono ?_
    rintro e w2 ⟨rfl, hb2⟩
    go_wp2
    go_ret3
    exact ⟨rfl, hb1.trans (hb2.mono hb1.size)⟩

set_option maxRecDepth 100000 in
set_option maxHeartbeats 1000000 in
theorem implVoiceLength_any (g : Nat) (l : List Nt) (c : Nat) (w : World) (hn : l.length ≤ 1048576) (hc : l.length ≤ c) (hc' : c ≤ 9223372036854775807) (hA : RA w (some ⟨g, 0, none⟩) l) :
    Calls Try.prog 19 #[.slice (some ⟨g, 0, none⟩) l.length c] w fun e w' => e = .returned (.tuple (voiceLengthR l)) ∧ Below w.heap.size w w' := by
  cases hg : goodV l with
  | false =>
    have hr : voiceLengthR l = #[.int .i64 0, .int .i64 0, .bool false] := by simp [voiceLengthR, hg]
    rw [hr]
    go_enter Try.func19, Try.ntmps19
    go_wp2_with fail
    refine (implIsVoice_any' _ _ _ _ hn hA).mono ?_
    rintro e w1 ⟨rfl, hb1⟩
    go_wp2
    go_ret3
    exact ⟨rfl, hb1⟩
  | true =>
    have hr : voiceLengthR l = #[.int .i64 (low (tks l) 720720).1, .int .i64 (low (tks l) 720720).2, .bool true] := by simp [voiceLengthR, hg]
    rw [hr]
    have h20 := ((goodV_iff l).1 hg).2
    have hok := okT_of hg
    have ht := tks_of hg l.length
    have hcl := fun (w : World) (base t : Nat) (v : Value) (h : OwnI w base t v (edgesTo l l.length)) => edges_cell h (Nat.le_refl l.length)
    rw [List.take_length] at ht hcl
    have HE := Lib.hid (fun W hA => edgesOf_any (some ⟨g, 0, none⟩) l c W h20 hok hA)
    have HL := Lib.hid (fun W => lowestTerms_any (tks l) 720720 W ht.1 (by omega) (by omega) (by omega))
    have HA := Lib.hid hA
    have HCL := Lib.hid hcl
    clear hr hok hA hcl
    generalize hL : low (tks l) 720720 = L at *
    obtain ⟨a, b⟩ := L
    simp only at HL ⊢
    generalize tks l = T at *
    have i1 : (0 : Int) ≤ (l.length : Int) := by omega
    have i2 : (l.length : Int) < (l.length : Int) + 1 := by omega
    go_enter Try.func19, Try.ntmps19
    go_wp2_with fail
    refine (implIsVoice_any' _ _ _ _ hn HA.out).mono ?_
    rintro e w1 ⟨rfl, hb1⟩
    go_wp2_with fail
    refine (HE.out _ (HA.out.below hb1)).mono ?_
    rintro e w2 ⟨v, rfl, ho, hb2⟩
    obtain ⟨ge, ce, rfl, hge, hcell⟩ := HCL.out _ _ _ _ ho
    clear ho
    go_wp2_with fail
    refine (HL.out _).mono ?_
    rintro e w3 ⟨rfl, hb3⟩
    go_wp2
    go_ret3
    exact ⟨rfl, (hb1.trans (hb2.mono hb1.size)).trans (hb3.mono (Nat.le_trans hb1.size hb2.size))⟩

set_option maxRecDepth 100000 in
set_option maxHeartbeats 1000000 in
theorem specEventStart_any (g : Nat) (l : List Nt) (c : Nat) (i : Int) (w : World) (hn : l.length ≤ 1048576) (hc : l.length ≤ c) (hc' : c ≤ 9223372036854775807) (hA : RA w (some ⟨g, 0, none⟩) l) :
    Calls Try.prog 20 #[.slice (some ⟨g, 0, none⟩) l.length c, .int .i64 i] w fun e w' => e = .returned (.tuple (eventStartR l i)) ∧ Below w.heap.size w w' := by
  cases hg : goodV l with
  | false =>
    have hr : eventStartR l i = #[.int .i64 0, .int .i64 0, .bool false] := by simp [eventStartR, hg]
    rw [hr]
    go_enter Try.func20, Try.ntmps20
    go_wp2_with fail
    refine (noGood_any _ _ _ _ hn hA).mono ?_
    rintro e w1 ⟨rfl, hb1⟩
    go_wp2
    go_ret3
    exact ⟨rfl, hb1⟩
  | true =>
    have h20 := ((goodV_iff l).1 hg).2
    cases hi : inR i 0 ((l.length : Int) - 1) with
    | false =>
      have hr : eventStartR l i = #[.int .i64 0, .int .i64 0, .bool false] := by simp [eventStartR, hi]
      rw [hr]
      go_enter Try.func20, Try.ntmps20
      go_wp2_with fail
      refine (noGood_any _ _ _ _ hn hA).mono ?_
      rintro e w1 ⟨rfl, hb1⟩
      go_wp2_with fail
      refine (l1In_any _ _ _ _).mono ?_
      rintro e w2 ⟨rfl, rfl⟩
      go_wp2
      go_ret3
      exact ⟨rfl, hb1⟩
    | true =>
      have hi' : 0 ≤ i ∧ i ≤ (l.length : Int) - 1 := by simpa [inR] using hi
      obtain ⟨k, rfl⟩ : ∃ k : Nat, i = k := ⟨i.toNat, by omega⟩
      have hk : k < l.length := by omega
      have hr : eventStartR l k = #[.int .i64 (low (tks (l.take k)) 720720).1, .int .i64 (low (tks (l.take k)) 720720).2, .bool true] := by simp [eventStartR, hg, hi]
      rw [hr]
      have hok := okT_of hg
      have HN := Lib.hid (fun W hA => noSum_any (some ⟨g, 0, none⟩) (l.take k) k c W (by rw [List.length_take]; omega) (by omega) (fun x hx => hok x (List.mem_of_mem_take hx)) hA)
      have HA := Lib.hid hA
      clear hr hok hA
      generalize (low (tks (l.take k)) 720720).1 = a at *
      generalize (low (tks (l.take k)) 720720).2 = b at *
      have i1 : (0 : Int) ≤ (k : Int) := by omega
      have i2 : (k : Int) ≤ (c : Int) := by omega
      go_enter Try.func20, Try.ntmps20
      go_wp2_with fail
      refine (noGood_any _ _ _ _ hn HA.out).mono ?_
      rintro e w1 ⟨rfl, hb1⟩
      go_wp2_with fail
      refine (l1In_any _ _ _ _).mono ?_
      rintro e w2 ⟨rfl, rfl⟩
      go_wp2_with fail
      refine (HN.out _ ((HA.out.below hb1).take k)).mono ?_
      rintro e w2 ⟨rfl, hb2⟩
      go_wp2
      go_ret3
      exact ⟨rfl, hb1.trans (hb2.mono hb1.size)⟩

set_option maxRecDepth 100000 in
set_option maxHeartbeats 1000000 in
theorem implEventStart_any (g : Nat) (l : List Nt) (c : Nat) (i : Int) (w : World) (hn : l.length ≤ 1048576) (hc : l.length ≤ c) (hc' : c ≤ 9223372036854775807) (hA : RA w (some ⟨g, 0, none⟩) l) :
    Calls Try.prog 21 #[.slice (some ⟨g, 0, none⟩) l.length c, .int .i64 i] w fun e w' => e = .returned (.tuple (eventStartR l i)) ∧ Below w.heap.size w w' := by
  cases hg : goodV l with
  | false =>
    have hr : eventStartR l i = #[.int .i64 0, .int .i64 0, .bool false] := by simp [eventStartR, hg]
    rw [hr]
    go_enter Try.func21, Try.ntmps21
    go_wp2_with fail
    refine (implIsVoice_any' _ _ _ _ hn hA).mono ?_
    rintro e w1 ⟨rfl, hb1⟩
    go_wp2
    go_ret3
    exact ⟨rfl, hb1⟩
  | true =>
    have h20 := ((goodV_iff l).1 hg).2
    cases hi : inR i 0 ((l.length : Int) - 1) with
    | false =>
      have hr : eventStartR l i = #[.int .i64 0, .int .i64 0, .bool false] := by simp [eventStartR, hi]
      rw [hr]
      go_enter Try.func21, Try.ntmps21
      go_wp2_with fail
      refine (implIsVoice_any' _ _ _ _ hn hA).mono ?_
      rintro e w1 ⟨rfl, hb1⟩
      go_wp2_with fail
      refine (inRange_any _ _ _ _).mono ?_
      rintro e w2 ⟨rfl, rfl⟩
      go_wp2
      go_ret3
      exact ⟨rfl, hb1⟩
    | true =>
      have hi' : 0 ≤ i ∧ i ≤ (l.length : Int) - 1 := by simpa [inR] using hi
      obtain ⟨k, rfl⟩ : ∃ k : Nat, i = k := ⟨i.toNat, by omega⟩
      have hk : k < l.length := by omega
      have hr : eventStartR l k = #[.int .i64 (low (tks (l.take k)) 720720).1, .int .i64 (low (tks (l.take k)) 720720).2, .bool true] := by simp [eventStartR, hg, hi]
      rw [hr]
      have hok := okT_of hg
      have ht := tks_of hg k
      have HE := Lib.hid (fun W hA => edgesOf_any (some ⟨g, 0, none⟩) l c W h20 hok hA)
      have HL := Lib.hid (fun W => lowestTerms_any (tks (l.take k)) 720720 W ht.1 (by omega) (by omega) (by omega))
      have HA := Lib.hid hA
      have HCL := Lib.hid (fun (w : World) (base t : Nat) (v : Value) (h : OwnI w base t v (edgesTo l l.length)) => edges_cell h (Nat.le_of_lt hk))
      clear hr hok hA
      generalize hL : low (tks (l.take k)) 720720 = L at *
      obtain ⟨a, b⟩ := L
      simp only at HL ⊢
      generalize tks (l.take k) = T at *
      have i1 : (0 : Int) ≤ (k : Int) := by omega
      have i2 : (k : Int) < (l.length : Int) + 1 := by omega
      go_enter Try.func21, Try.ntmps21
      go_wp2_with fail
      refine (implIsVoice_any' _ _ _ _ hn HA.out).mono ?_
      rintro e w1 ⟨rfl, hb1⟩
      go_wp2_with fail
      refine (inRange_any _ _ _ _).mono ?_
      rintro e w2 ⟨rfl, rfl⟩
      go_wp2_with fail
      refine (HE.out _ (HA.out.below hb1)).mono ?_
      rintro e w2 ⟨v, rfl, ho, hb2⟩
      obtain ⟨ge, ce, rfl, hge, hcell⟩ := HCL.out _ _ _ _ ho
      clear ho
      go_wp2_with fail
      refine (HL.out _).mono ?_
      rintro e w3 ⟨rfl, hb3⟩
      go_wp2
      go_ret3
      exact ⟨rfl, (hb1.trans (hb2.mono hb1.size)).trans (hb3.mono (Nat.le_trans hb1.size hb2.size))⟩

end Go.Proofs.Ytecbeicppfcofaa
