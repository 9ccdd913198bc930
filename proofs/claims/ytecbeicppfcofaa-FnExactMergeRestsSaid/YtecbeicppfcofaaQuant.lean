/- Contracts: the notes of a voice on a grid. -/
import Derived.Test.YtecbeicppfcofaaStep
import Derived.Test.YtecbeicppfcofaaNtGood
import Derived.Test.YtecbeicppfcofaaIsScore
namespace Go.Proofs.Ytecbeicppfcofaa
open Go.RowKit Go.Sort
set_option linter.unusedVariables false
set_option linter.unusedSimpArgs false

theorem Own.mono {w : World} {base base' t : Nat} {v : Value} {l : List Nt} (h : Own w base t v l) (hb : base' ≤ base) : Own w base' t v l :=
  ⟨h.1, h.2.imp id fun ⟨g, cap, cur, a, b, c⟩ => ⟨g, cap, cur, a, Nat.le_trans hb b, c⟩⟩

set_option maxHeartbeats 1000000 in
theorem scoreOnly_any (v : Value) (l : List Nt) (base : Nat) (w : World) (hn : l.length ≤ 1048576) (hv : Own w base 66 v l) :
    Calls Try.prog 58 #[v] w fun e w' => ∃ u, e = .returned (.tuple #[u, .bool (goodB l)]) ∧ Own w' base 66 u (if goodB l = true then l else []) ∧ Below w.heap.size w w' := by
  have hv0 := hv
  obtain ⟨A, c, rfl, hA⟩ := hv.form
  clear hv
  cases hgb : goodB l with
  | false =>
    go_enter Try.func58, Try.ntmps58
    go_wp2_with fail
    refine (isScore_any _ _ _ _ hn hA).mono ?_
    rintro e w1 ⟨rfl, hb1⟩
    go_wp2
    go_ret2
    exact ⟨_, rfl, by simpa using Own.nil _ _ _, hb1⟩
  | true =>
    go_enter Try.func58, Try.ntmps58
    go_wp2_with fail
    refine (isScore_any _ _ _ _ hn hA).mono ?_
    rintro e w1 ⟨rfl, hb1⟩
    have ho := hv0.below hb1 (Nat.le_refl _)
    go_wp2
    go_ret2
    exact ⟨_, rfl, by simpa using ho, hb1⟩

/-- The note that an event gives, if it gives one. -/
def qn (p s e : Int) : List Nt := if 0 < p ∧ s < e then [(p, s, e - s)] else []
def quantTo (g : Int) (l : List Nt) : Nat → List Nt
  | 0 => []
  | k + 1 => quantTo g l k ++ (match l[k]? with
    | some x => qn x.1 (stepOf (tks (l.take k)) g) (stepOf (tks (l.take (k + 1))) g)
    | none => [])
theorem quantTo_succ {g : Int} {l : List Nt} {k : Nat} {x : Nt} (h : l[k]? = some x) : quantTo g l (k + 1) = quantTo g l k ++ qn x.1 (stepOf (tks (l.take k)) g) (stepOf (tks (l.take (k + 1))) g) := by
  simp [quantTo, h]
theorem quantTo_length (g : Int) (l : List Nt) (k : Nat) : (quantTo g l k).length ≤ k := by
  induction k with
  | zero => simp [quantTo]
  | succ k ih =>
    rw [quantTo, List.length_append]
    have : (match l[k]? with
      | some x => qn x.1 (stepOf (tks (l.take k)) g) (stepOf (tks (l.take (k + 1))) g)
      | none => []).length ≤ 1 := by
      split
      · unfold qn; split <;> simp
      · simp
    omega
def quantiseB (l : List Nt) (g : Int) : Bool := (goodV l && inR g 1 48) && goodB (quantTo g l l.length)
def quantiseG (l : List Nt) (g : Int) : List Nt := if quantiseB l g = true then quantTo g l l.length else []
theorem quantiseG_length (l : List Nt) (g : Int) (h : l.length ≤ 1048576) : (quantiseG l g).length ≤ 1048576 := by
  unfold quantiseG
  split
  · have := quantTo_length g l l.length; omega
  · simp

set_option maxRecDepth 100000 in
set_option maxHeartbeats 4000000 in
theorem specQuantiseVoice_any (g : Nat) (l : List Nt) (c : Nat) (r : Int) (w : World) (hn : l.length ≤ 1048576) (hc : l.length ≤ c) (hc' : c ≤ 9223372036854775807) (hA : RA w (some ⟨g, 0, none⟩) l) :
    Calls Try.prog 22 #[.slice (some ⟨g, 0, none⟩) l.length c, .int .i64 r] w fun e w' => ∃ v, e = .returned (.tuple #[v, .bool (quantiseB l r)]) ∧ Own w' w.heap.size 66 v (quantiseG l r) ∧ Below w.heap.size w w' := by
  cases hg : goodV l with
  | false =>
    have hr : quantiseB l r = false := by simp [quantiseB, hg]
    have hr2 : quantiseG l r = [] := by simp [quantiseG, hr]
    rw [hr, hr2]
    go_enter Try.func22, Try.ntmps22
    go_wp2_with fail
    refine (noGood_any _ _ _ _ hn hA).mono ?_
    rintro e w1 ⟨rfl, hb1⟩
    go_wp2
    go_ret2
    exact ⟨_, rfl, Own.nil _ _ _, hb1⟩
  | true =>
    cases hi : inR r 1 48 with
    | false =>
      have hr : quantiseB l r = false := by simp [quantiseB, hi]
      have hr2 : quantiseG l r = [] := by simp [quantiseG, hr]
      rw [hr, hr2]
      go_enter Try.func22, Try.ntmps22
      go_wp2_with fail
      refine (noGood_any _ _ _ _ hn hA).mono ?_
      rintro e w1 ⟨rfl, hb1⟩
      go_wp2_with (go_at_call 52; refine (noGrid_any _ _).mono ?_; rintro e w2 ⟨rfl, rfl⟩)
      go_ret2
      exact ⟨_, rfl, Own.nil _ _ _, hb1⟩
    | true =>
      have hi' : 1 ≤ r ∧ r ≤ 48 := by simpa [inR] using hi
      have hB : quantiseB l r = goodB (quantTo r l l.length) := by simp [quantiseB, hg, hi]
      have h20 := ((goodV_iff l).1 hg).2
      have hok := okT_of hg
      have HT := Lib.hid (tks_of hg)
      have HS := Lib.hid (fun (k : Nat) (hk : k ≤ l.length) W hA => noStep_any g l c k r W h20 hok (by have := tks_of hg k; omega) hk hc hc' hi'.1 hi'.2 hA)
      have HA := Lib.hid hA
      have HB := Lib.hid hB
      clear hok hA hB
      go_enter Try.func22, Try.ntmps22
      go_wp2_with fail
      refine (noGood_any _ _ _ _ hn HA.out).mono ?_
      rintro e w1 ⟨rfl, hb1⟩
      have HA1 := Lib.hid (HA.out.below hb1)
      go_wp2_with fail
      refine (noGrid_any _ _).mono ?_
      rintro e w2 ⟨rfl, rfl⟩
      go_wp2_with fail
      go_loopw [6, 21] (fun p a wr => ∃ k : Nat, k ≤ l.length ∧ a = .int .i64 (k : Int) ∧ Own wr w1.heap.size 66 p (quantTo r l k) ∧ Below w1.heap.size w1 wr)
        (fun _ a _ => l.length - (intOf a).toNat)
      case atStart => exact ⟨0, Nat.zero_le _, rfl, Own.nil _ _ _, Below.refl _ _⟩
      case round =>
        obtain ⟨k, hk, rfl, hown, hb⟩ := hrel
        by_cases hkl : k < l.length
        · have j1 : (k : Int) < (l.length : Int) := by omega
          have j2 : (0 : Int) ≤ (k : Int) := by omega
          have hx : l[k]? = some l[k] := List.getElem?_eq_getElem hkl
          generalize l[k] = x at hx
          have hq := quantTo_succ (g := r) hx
          have hql := quantTo_length r l k
          have HS0 := Lib.hid (HS.out k hk)
          have HS1 := Lib.hid (show ∀ W, RA W (some ⟨g, 0, none⟩) l → Calls Try.prog 53 #[.slice (some ⟨g, 0, none⟩) l.length c, .int .i64 ((k : Int) + 1), .int .i64 r] W fun e w' => e = .returned (.int .i64 (stepOf (tks (l.take (k + 1))) r)) ∧ Below W.heap.size W w' from fun W h => HS.out (k + 1) (by omega) W h)
          have hs0 := stepOf_bounds (HT.out k).1 (by have := HT.out k; omega) hi'.1 hi'.2
          have hs1 := stepOf_bounds (HT.out (k + 1)).1 (by have := HT.out (k + 1); omega) hi'.1 hi'.2
          obtain ⟨p, n, d⟩ := x
          obtain ⟨g', o', hgo, hg', h0, h1, h2⟩ := (HA1.out.below hb) k _ hx
          simp only [Option.some.injEq, Addr.mk.injEq, and_true] at hgo
          obtain ⟨rfl, rfl⟩ := hgo
          simp only [Nat.zero_add] at h0 h1 h2 hq
          generalize stepOf (tks (l.take k)) r = s at *
          generalize stepOf (tks (l.take (k + 1))) r = t at *
          have HQ := Lib.hid hq
          have HO := Lib.hid hown
          have hnb : Below wr.heap.size wr (wr.alloc (.cells #[.int .i64 p, .int .i64 n, .int .i64 d] 52)) := (Below.refl _ _).alloc (Nat.le_refl _) _
          have p0 : (wr.alloc (.cells #[.int .i64 p, .int .i64 n, .int .i64 d] 52)).cell? ⟨wr.heap.size, 0, none⟩ = some (.int .i64 p) := by rw [World.cell?_alloc_new]; rfl
          have hz1 : (wr.alloc (.cells #[.int .i64 p, .int .i64 n, .int .i64 d] 52)).heap.size = wr.heap.size + 1 := by simp
          have hs0' := hs0.2.1
          have hs1' := hs1.2.1
          have hs0'' := hs0.1
          have hs1'' := hs1.1
          clear hq hx hown hs0 hs1
          go_wp2_with fail
          generalize wr.alloc (.cells #[.int .i64 p, .int .i64 n, .int .i64 d] 52) = W at *
          refine (HS0.out _ ((HA1.out.below hb).below hnb)).mono ?_
          rintro e w3 ⟨rfl, hb3⟩
          have hnb3 := hnb.trans (hb3.mono hnb.size)
          go_wp2_with fail
          refine (HS1.out _ ((HA1.out.below hb).below hnb3)).mono ?_
          rintro e w4 ⟨rfl, hb4⟩
          have hnb4 := hnb3.trans (hb4.mono hnb3.size)
          have HB4 := Lib.hid hnb4
          have hBB := Lib.hid (hb.trans (hnb4.mono hb.size))
          have p4 := (hb4.cell (p := ⟨wr.heap.size, 0, none⟩) (by have := hb3.size; show wr.heap.size < _; omega)).trans ((hb3.cell (p := ⟨wr.heap.size, 0, none⟩) (by show wr.heap.size < _; omega)).trans p0)
          have HO4 := Lib.hid (HO.out.below hnb4 (Nat.le_refl _))
          clear p0 h0 h1 h2 hb3 hnb3 hb4 hnb hnb4
          by_cases hp : 0 < p
          · by_cases hst : s < t
            · have e1 : qn p s t = [(p, s, t - s)] := by simp [qn, hp, hst]
              rw [e1] at HQ
              have HO5 := Lib.hid (HO4.out.below (B := w4.heap.size) ((Below.refl _ _).alloc (Nat.le_refl _) (.cells #[.int .i64 p, .int .i64 s, .int .i64 (t - s)] 66)) (Nat.le_refl _))
              have HB5 := Lib.hid (hBB.out.alloc hBB.out.size (.cells #[.int .i64 p, .int .i64 s, .int .i64 (t - s)] 66))
              go_wp2_with (at_builtin; go_loud (refine wpList_appN _ rfl (.tmp 43) (.tmp 51) rfl w1.heap.size _ _ rfl HO5.out _ 1 1 [(p, s, t - s)] rfl rfl (fun h => by cases h) (RA.one (heap_alloc_new _ _)) (by omega) HB5.out.size ?_); intro v6 w6 ho6 hg6; have hB6 := Lib.hid (HB5.out.grown hg6 HB5.out.size (fun j hj => (HO5.out.lt j hj).1)))
              go_roundw
              case rel => exact ⟨k + 1, by omega, by go_num, by rw [HQ.out]; exact ho6, hB6.out⟩
              case measure => simp [intOf]; omega
            · have e1 : qn p s t = [] := by simp [qn, hst]
              rw [e1, List.append_nil] at HQ
              go_wp2
              go_roundw
              case rel => exact ⟨k + 1, by omega, by go_num, by rw [HQ.out]; exact HO4.out, hBB.out⟩
              case measure => simp [intOf]; omega
          · have e1 : qn p s t = [] := by simp [qn, hp]
            rw [e1, List.append_nil] at HQ
            go_wp2
            go_roundw
            case rel => exact ⟨k + 1, by omega, by go_num, by rw [HQ.out]; exact HO4.out, hBB.out⟩
            case measure => simp [intOf]; omega
        · obtain rfl : k = l.length := by omega
          have hql := quantTo_length r l l.length
          have hB2 := Lib.hid (hb1.trans (hb.mono hb1.size))
          obtain ⟨O, oc, rfl, hO, hoc, hocm⟩ := hown.form'
          unfold maxLen at hocm
          have HW := Lib.hid hown
          clear hown
          cases hgb : goodB (quantTo r l l.length) with
          | false =>
            go_wp2_with (go_at_call 54; refine (ntGood_any _ _ _ _ (by omega) hoc (by omega) hO).mono ?_; rintro e w3 ⟨rfl, hb3⟩)
            go_ret2
            have hG : quantiseG l r = [] := by simp [quantiseG, HB.out, hgb]
            rw [HB.out, hgb, hG]
            exact ⟨_, rfl, Own.nil _ _ _, hB2.out.trans (hb3.mono hB2.out.size)⟩
          | true =>
            go_wp2_with (go_at_call 54; refine (ntGood_any _ _ _ _ (by omega) hoc (by omega) hO).mono ?_; rintro e w3 ⟨rfl, hb3⟩)
            go_ret2
            have hG : quantiseG l r = quantTo r l l.length := by simp [quantiseG, HB.out, hgb]
            rw [HB.out, hgb, hG]
            exact ⟨_, rfl, (HW.out.below hb3 (Nat.le_refl _)).mono hb1.size, hB2.out.trans (hb3.mono hB2.out.size)⟩

end Go.Proofs.Ytecbeicppfcofaa
