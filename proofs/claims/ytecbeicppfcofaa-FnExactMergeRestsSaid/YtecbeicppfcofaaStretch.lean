/- Contracts: stretched voices. -/
import Derived.Test.YtecbeicppfcofaaQuant
import Derived.Test.YtecbeicppfcofaaEApp
import Derived.Deep.AppendLies
namespace Go.Proofs.Ytecbeicppfcofaa
open Go.RowKit Go.Sort
set_option linter.unusedVariables false
set_option linter.unusedSimpArgs false

def strE (n d : Int) (x : Nt) : Nt := (x.1, (low (x.2.1 * n) (x.2.2 * d)).1, (low (x.2.1 * n) (x.2.2 * d)).2)
def strL (n d : Int) (l : List Nt) : List Nt := l.map (strE n d)
theorem strL_length (n d : Int) (l : List Nt) : (strL n d l).length = l.length := by simp [strL]
theorem strL_get (n d : Int) (l : List Nt) (k : Nat) (x : Nt) (h : l[k]? = some x) : (strL n d l)[k]? = some (strE n d x) := by simp [strL, h]
theorem strL_take (n d : Int) (l : List Nt) (k : Nat) (x : Nt) (h : l[k]? = some x) : strL n d (l.take (k + 1)) = strL n d (l.take k) ++ [strE n d x] := by
  rw [List.take_add_one, h]; simp [strL]
def stretchB (l : List Nt) (n d : Int) : Bool := (goodV l && (inR n 1 16 && inR d 1 16)) && goodV (strL n d l)
def stretchG (l : List Nt) (n d : Int) : List Nt := if stretchB l n d = true then strL n d l else []
theorem stretchG_length (l : List Nt) (n d : Int) (h : l.length ≤ 1048576) : (stretchG l n d).length ≤ 1048576 := by
  unfold stretchG
  split
  · rw [strL_length]; exact h
  · simp

/-- A call returned events of its own, or nil and false; below the heap's old size nothing has turned. -/
def RetEv (B : World) (l : List Nt) (ok : Bool) (e : Ending) (w' : World) : Prop :=
  ∃ v, e = .returned (.tuple #[v, .bool ok]) ∧ Own w' B.heap.size 52 v (if ok = true then l else []) ∧ Below B.heap.size B w'
theorem RetEv.mono {B B' : World} {l : List Nt} {ok : Bool} {e : Ending} {w' : World} (h : RetEv B' l ok e w') (hb : Below B.heap.size B B') : RetEv B l ok e w' := by
  obtain ⟨v, he, ho, hbl⟩ := h
  exact ⟨v, he, ho.mono hb.size, hb.trans (hbl.mono hb.size)⟩

set_option maxHeartbeats 1000000 in
theorem noIf_any (v : Value) (l : List Nt) (base : Nat) (w : World) (hn : l.length ≤ 1048576) (hv : Own w base 52 v l) :
    Calls Try.prog 63 #[v] w fun e w' => ∃ u, e = .returned (.tuple #[u, .bool (goodV l)]) ∧ Own w' base 52 u (if goodV l = true then l else []) ∧ Below w.heap.size w w' := by
  have hv0 := hv
  obtain ⟨A, c, rfl, hA⟩ := hv.form
  clear hv
  cases hgb : goodV l with
  | false =>
    go_enter Try.func63, Try.ntmps63
    go_wp2_with fail
    refine (noGood_any _ _ _ _ hn hA).mono ?_
    rintro e w1 ⟨rfl, hb1⟩
    go_wp2
    go_ret2
    exact ⟨_, rfl, by simpa using Own.nil _ _ _, hb1⟩
  | true =>
    go_enter Try.func63, Try.ntmps63
    go_wp2_with fail
    refine (noGood_any _ _ _ _ hn hA).mono ?_
    rintro e w1 ⟨rfl, hb1⟩
    have ho := hv0.below hb1 (Nat.le_refl _)
    go_wp2
    go_ret2
    exact ⟨_, rfl, by simpa using ho, hb1⟩

set_option maxHeartbeats 1000000 in
theorem voiceOnly_any (v : Value) (l : List Nt) (base : Nat) (w : World) (hn : l.length ≤ 1048576) (hv : Own w base 52 v l) :
    Calls Try.prog 69 #[v] w fun e w' => ∃ u, e = .returned (.tuple #[u, .bool (goodV l)]) ∧ Own w' base 52 u (if goodV l = true then l else []) ∧ Below w.heap.size w w' := by
  have hv0 := hv
  obtain ⟨A, c, rfl, hA⟩ := hv.form
  clear hv
  cases hgb : goodV l with
  | false =>
    go_enter Try.func69, Try.ntmps69
    go_wp2_with fail
    refine (implIsVoice_any' _ _ _ _ hn hA).mono ?_
    rintro e w1 ⟨rfl, hb1⟩
    go_wp2
    go_ret2
    exact ⟨_, rfl, by simpa using Own.nil _ _ _, hb1⟩
  | true =>
    go_enter Try.func69, Try.ntmps69
    go_wp2_with fail
    refine (implIsVoice_any' _ _ _ _ hn hA).mono ?_
    rintro e w1 ⟨rfl, hb1⟩
    have ho := hv0.below hb1 (Nat.le_refl _)
    go_wp2
    go_ret2
    exact ⟨_, rfl, by simpa using ho, hb1⟩

set_option maxRecDepth 100000 in
set_option maxHeartbeats 4000000 in
theorem specStretchVoice_any (g : Nat) (l : List Nt) (c : Nat) (sn sd : Int) (w : World) (hn : l.length ≤ 1048576) (hc : l.length ≤ c) (hc' : c ≤ 9223372036854775807) (hA : RA w (some ⟨g, 0, none⟩) l) :
    Calls Try.prog 35 #[.slice (some ⟨g, 0, none⟩) l.length c, .int .i64 sn, .int .i64 sd] w fun e w' => ∃ v, e = .returned (.tuple #[v, .bool (stretchB l sn sd)]) ∧ Own w' w.heap.size 52 v (stretchG l sn sd) ∧ Below w.heap.size w w' := by
  cases hall : (goodV l && (inR sn 1 16 && inR sd 1 16)) with
  | false =>
    have hr : stretchB l sn sd = false := by simp only [stretchB, hall, Bool.false_and]
    have hr2 : stretchG l sn sd = [] := by simp [stretchG, hr]
    rw [hr, hr2]
    cases hg : goodV l with
    | false =>
      go_enter Try.func35, Try.ntmps35
      go_wp2_with fail
      refine (noGood_any _ _ _ _ hn hA).mono ?_
      rintro e w1 ⟨rfl, hb1⟩
      go_wp2
      go_ret2
      exact ⟨_, rfl, Own.nil _ _ _, hb1⟩
    | true =>
      rw [hg, Bool.true_and] at hall
      cases h1 : inR sn 1 16 with
      | false =>
        go_enter Try.func35, Try.ntmps35
        go_wp2_with fail
        refine (noGood_any _ _ _ _ hn hA).mono ?_
        rintro e w1 ⟨rfl, hb1⟩
        go_wp2_with (go_at_call 50; refine (l1In_any _ _ _ _).mono ?_; rintro e w2 ⟨rfl, rfl⟩)
        go_ret2
        exact ⟨_, rfl, Own.nil _ _ _, hb1⟩
      | true =>
        rw [h1, Bool.true_and] at hall
        go_enter Try.func35, Try.ntmps35
        go_wp2_with fail
        refine (noGood_any _ _ _ _ hn hA).mono ?_
        rintro e w1 ⟨rfl, hb1⟩
        go_wp2_with (go_at_call 50; refine (l1In_any _ _ _ _).mono ?_; rintro e w2 ⟨rfl, rfl⟩)
        go_ret2
        exact ⟨_, rfl, Own.nil _ _ _, hb1⟩
  | true =>
    have hB : stretchB l sn sd = goodV (strL sn sd l) := by simp only [stretchB, hall, Bool.true_and]
    obtain ⟨hg, h12⟩ := Bool.and_eq_true_iff.1 hall
    obtain ⟨h1, h2⟩ := Bool.and_eq_true_iff.1 h12
    have k1 : 1 ≤ sn ∧ sn ≤ 16 := by simpa [inR] using h1
    have k2 : 1 ≤ sd ∧ sd ≤ 16 := by simpa [inR] using h2
    have h20 := ((goodV_iff l).1 hg).2
    have HEV := Lib.hid ((goodV_iff l).1 hg).1
    have HA := Lib.hid hA
    have HB := Lib.hid hB
    clear hA hB hall h12
    go_enter Try.func35, Try.ntmps35
    go_wp2_with fail
    refine (noGood_any _ _ _ _ hn HA.out).mono ?_
    rintro e w1 ⟨rfl, hb1⟩
    have HA1 := Lib.hid (HA.out.below hb1)
    go_wp2_with fail
    refine (l1In_any _ _ _ _).mono ?_
    rintro e w2 ⟨rfl, rfl⟩
    go_wp2_with fail
    refine (l1In_any _ _ _ _).mono ?_
    rintro e w2 ⟨rfl, rfl⟩
    go_wp2_with fail
    go_loopw [8, 28] (fun p a wr => ∃ k : Nat, k ≤ l.length ∧ a = .int .i64 (k : Int) ∧ Own wr w1.heap.size 52 p (strL sn sd (l.take k)) ∧ Below w1.heap.size w1 wr)
      (fun _ a _ => l.length - (intOf a).toNat)
    case atStart => exact ⟨0, Nat.zero_le _, rfl, Own.nil _ _ _, Below.refl _ _⟩
    case round =>
      obtain ⟨k, hk, rfl, hown, hb⟩ := hrel
      by_cases hkl : k < l.length
      · have j1 : (k : Int) < (l.length : Int) := by omega
        have j2 : (0 : Int) ≤ (k : Int) := by omega
        have hx : l[k]? = some l[k] := List.getElem?_eq_getElem hkl
        generalize l[k] = x at hx
        have hq := strL_take sn sd l k x hx
        have hql : (strL sn sd (l.take k)).length ≤ 20 := by rw [strL_length, List.length_take]; omega
        have hev := (evN_iff x).1 (HEV.out x (List.mem_of_getElem? hx))
        obtain ⟨p, n, d⟩ := x
        obtain ⟨g', o', hgo, hg', h0, h1', h2'⟩ := (HA1.out.below hb) k _ hx
        simp only [Option.some.injEq, Addr.mk.injEq, and_true] at hgo
        obtain ⟨rfl, rfl⟩ := hgo
        simp only [Nat.zero_add] at h0 h1' h2' hev
        have m1 : 0 ≤ n * sn := Int.mul_nonneg (by omega) (by omega)
        have m2 : n * sn ≤ 99 * 16 := Int.mul_le_mul hev.2.1.2 k1.2 (by omega) (by omega)
        have m3 : 0 < d * sd := Int.mul_pos (by omega) (by omega)
        have m4 : d * sd ≤ 16 * 16 := Int.mul_le_mul hev.2.2.1.2 k2.2 (by omega) (by omega)
        have HNP := Lib.hid (fun W => noPart_any (n * sn) (d * sd) W m1 m3 (by omega) (by omega))
        have hse : strE sn sd (p, n, d) = (p, (low (n * sn) (d * sd)).1, (low (n * sn) (d * sd)).2) := rfl
        rw [hse] at hq
        generalize (low (n * sn) (d * sd)).1 = a at *
        generalize (low (n * sn) (d * sd)).2 = b at *
        generalize hu : n * sn = u at *
        generalize hv : d * sd = v at *
        have HQ := Lib.hid hq
        have HO := Lib.hid hown
        have hnb : Below wr.heap.size wr (wr.alloc (.cells #[.int .i64 p, .int .i64 n, .int .i64 d] 52)) := (Below.refl _ _).alloc (Nat.le_refl _) _
        have p0 : (wr.alloc (.cells #[.int .i64 p, .int .i64 n, .int .i64 d] 52)).cell? ⟨wr.heap.size, 0, none⟩ = some (.int .i64 p) := by rw [World.cell?_alloc_new]; rfl
        have hz1 : (wr.alloc (.cells #[.int .i64 p, .int .i64 n, .int .i64 d] 52)).heap.size = wr.heap.size + 1 := by simp
        clear hq hx hown hse hev
        go_wp2_with (first
          | (go_at_call 61; refine (HNP.out _).mono ?_; rintro e w4 ⟨rfl, hb4⟩; have hnb4 := Lib.hid (hnb.trans (hb4.mono hnb.size)); have hBB := Lib.hid (hb.trans (hnb4.out.mono hb.size)); have p4 := (hb4.cell (p := ⟨wr.heap.size, 0, none⟩) (by show wr.heap.size < _; omega)).trans p0; have HO4 := Lib.hid (HO.out.below hnb4.out (Nat.le_refl _)); have HO5 := Lib.hid (HO4.out.below (B := w4.heap.size) ((Below.refl _ _).alloc (Nat.le_refl _) (.cells #[.int .i64 p, .int .i64 a, .int .i64 b] 52)) (Nat.le_refl _)); have HB5 := Lib.hid (hBB.out.alloc hBB.out.size (.cells #[.int .i64 p, .int .i64 a, .int .i64 b] 52)))
          | (at_builtin; go_loud (refine wpList_appE _ rfl (.tmp 44) (.tmp 50) rfl w1.heap.size _ _ rfl HO5.out _ 1 1 [(p, a, b)] rfl rfl (fun h => by cases h) (RA.one (heap_alloc_new _ _)) (by omega) HB5.out.size ?_); intro v6 w6 ho6 hg6; have hB6 := Lib.hid (HB5.out.grown hg6 HB5.out.size (fun j hj => (HO5.out.lt j hj).1))))
        go_roundw
        case rel => exact ⟨k + 1, by omega, by go_num, by rw [HQ.out]; exact ho6, hB6.out⟩
        case measure => simp [intOf]; omega
      · obtain rfl : k = l.length := by omega
        rw [List.take_length] at hown
        have hB2 := Lib.hid (hb1.trans (hb.mono hb1.size))
        have HSO := Lib.hid (noIf_any _ _ _ _ (by rw [strL_length]; omega) hown)
        obtain ⟨O, oc, rfl, hO⟩ := hown.form
        clear hO hown
        go_wp2_with (go_at_call 63; refine HSO.out.mono ?_; rintro e w3 ⟨u, rfl, ho3, hb3⟩)
        go_ret2
        refine ⟨_, by rw [HB.out]; rfl, ?_, hB2.out.trans (hb3.mono hB2.out.size)⟩
        have hG : stretchG l sn sd = if goodV (strL sn sd l) = true then strL sn sd l else [] := by simp [stretchG, HB.out]
        rw [hG]
        exact ho3.mono hb1.size

end Go.Proofs.Ytecbeicppfcofaa
