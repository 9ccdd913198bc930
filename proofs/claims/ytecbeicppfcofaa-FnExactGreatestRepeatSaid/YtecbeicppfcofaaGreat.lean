/- Contracts: the greatest repeat time without fast repeats. -/
import Derived.Test.YtecbeicppfcofaaSteps
import Derived.Test.YtecbeicppfcofaaFast
import Derived.Test.YtecbeicppfcofaaAppI
import Derived.Test.YtecbeicppfcofaaNtGood
import Derived.Test.YtecbeicppfcofaaIsScore
namespace Go.Proofs.Ytecbeicppfcofaa
open Go.RowKit Go.Sort Go.Maps
set_option linter.unusedVariables false
set_option linter.unusedSimpArgs false

def grF (l : List Nt) (ps : List (Int × Int)) (a : Int) : Int := ps.foldl (fun a q => min a (apart l q.1 q.2)) a
theorem grF_lt (l : List Nt) (ps : List (Int × Int)) (a r : Int) : grF l ps a < r ↔ a < r ∨ ∃ q ∈ ps, apart l q.1 q.2 < r := by
  induction ps generalizing a with
  | nil => simp [grF]
  | cons q ps ih =>
    unfold grF at *
    rw [List.foldl_cons, ih]
    simp only [List.mem_cons, exists_eq_or_imp]
    constructor
    · rintro (h | h)
      · have : a < r ∨ apart l q.1 q.2 < r := by omega
        rcases this with h | h
        · exact .inl h
        · exact .inr (.inl h)
      · exact .inr (.inr h)
    · rintro (h | h | h)
      · exact .inl (by omega)
      · exact .inl (by omega)
      · exact .inr h
def great (l : List Nt) : Int := grF l (pairsL l l.length) 20
theorem grF_snoc (l : List Nt) (ps : List (Int × Int)) (k : Nat) (q : Int × Int) (a : Int) (h : ps[k]? = some q) : grF l (ps.take (k + 1)) a = min (grF l (ps.take k) a) (apart l q.1 q.2) := by
  rw [List.take_add_one, h]
  simp [grF]
theorem fast_iff (l : List Nt) (r : Int) (h : r ≤ 20) : 0 < (fastL r l l.length).length ↔ great l < r := by
  unfold great
  rw [grF_lt, List.length_pos_iff_exists_mem]
  unfold fastL
  simp only [List.mem_filter, decide_eq_true_eq]
  constructor
  · rintro ⟨q, h1, h2⟩; exact .inr ⟨q, h1, h2⟩
  · rintro (h' | ⟨q, h1, h2⟩)
    · omega
    · exact ⟨q, h1, h2⟩
theorem great_le (l : List Nt) : great l ≤ 20 := by
  have := grF_lt l (pairsL l l.length) 20 21
  unfold great
  have h := this.2 (.inl (by omega))
  omega
theorem apart_bounds {l : List Nt} (hg : Good l) {a b : Int} (h : (a, b) ∈ pairsL l l.length) : -1000 ≤ apart l a b ∧ apart l a b ≤ 1000 := by
  have hm := pairsL_mem l a b l.length h
  have get : ∀ i : Nat, i < l.length → 0 ≤ (l.getD i (0, 0, 0)).2.1 ∧ (l.getD i (0, 0, 0)).2.1 ≤ 999 := by
    intro i hi
    have hx : l[i]? = some l[i] := List.getElem?_eq_getElem hi
    have hv := (noteN_iff l[i]).1 (hg.1 i _ hi hx).1
    have e : l.getD i (0, 0, 0) = l[i] := by simp [List.getD, hx]
    rw [e]
    exact ⟨hv.2.2.1, hv.2.2.2.1⟩
  have h1 := get a.toNat (by omega)
  have h2 := get b.toNat (by omega)
  unfold apart
  omega
theorem great_ge {l : List Nt} (hg : Good l) : -1000 ≤ great l := by
  rcases Int.lt_or_le (great l) (-1000) with h | h
  · unfold great at h
    rw [grF_lt] at h
    rcases h with h | ⟨q, h1, h2⟩
    · omega
    · have := apart_bounds hg (a := q.1) (b := q.2) h1
      omega
  · exact h
def greatR (l : List Nt) : Array Value := if goodB l = true then #[.int .i64 (great l), .bool true] else #[.int .i64 0, .bool false]
theorem greatR_form (l : List Nt) : ∃ a b, greatR l = #[.int .i64 a, .bool b] := by unfold greatR; split <;> exact ⟨_, _, rfl⟩

/-- What a slice of pairs looks like, and where its pairs lie. -/
theorem OwnP.form {w : World} {base : Nat} {v : Value} {ps : List (Int × Int)} (h : OwnP w base v ps) : ∃ A c, v = .slice A ps.length c ∧ ∀ (j : Nat) (q : Int × Int), ps[j]? = some q → ∃ gv g, A = some ⟨gv, 0, none⟩ ∧ gv < w.heap.size ∧ g < w.heap.size ∧ w.cell? ⟨gv, j, none⟩ = some (ps2 g) ∧ w.cell? ⟨g, 0, none⟩ = some (.int .i64 q.1) ∧ w.cell? ⟨g, 1, none⟩ = some (.int .i64 q.2) := by
  obtain ⟨gs, h1, h2, hr, h4, h5⟩ := h
  rcases hr.2 with ⟨rfl, hn⟩ | ⟨g0, cap, cur, rfl, hg, hh, hnc, hm, hs, ht⟩
  · refine ⟨none, 0, by rw [hn], fun j q hj => ?_⟩
    have := (List.getElem?_eq_some_iff.1 hj).1
    omega
  · refine ⟨_, _, rfl, fun j q hj => ?_⟩
    have hjl := (List.getElem?_eq_some_iff.1 hj).1
    have hgj : gs[j]? = some (gs[j]'(by omega)) := List.getElem?_eq_getElem _
    generalize gs[j]'(by omega) = g at hgj
    have hlt : g0 < w.heap.size := by
      rcases Nat.lt_or_ge g0 w.heap.size with h' | h'
      · exact h'
      · rw [Array.getElem?_eq_none h'] at hh; cases hh
    have hin := h5 j g q hgj hj
    refine ⟨g0, g, rfl, hlt, (hin.lt g rfl).2, ?_, hin.ra.at (j := 0) rfl, hin.ra.at (j := 1) rfl⟩
    rw [hr.cellAt _ (by omega)]
    simp [hgj]

set_option maxRecDepth 100000 in
set_option maxHeartbeats 2000000 in
theorem specGreatestRepeat_any (A : Option Addr) (l : List Nt) (c : Nat) (w : World) (hn : l.length ≤ 1048576) (hc : l.length ≤ c) (hc' : c ≤ 9223372036854775807) (hA : RA w A l) :
    Calls Try.prog 40 #[.slice A l.length c] w fun e w' => e = .returned (.tuple (greatR l)) ∧ Below w.heap.size w w' := by
  cases hgb : goodB l with
  | false =>
    have hr : greatR l = #[.int .i64 0, .bool false] := by simp [greatR, hgb]
    rw [hr]
    go_enter Try.func40, Try.ntmps40
    go_wp2_with fail
    refine (ntGood_any _ _ _ _ hn hc hc' hA).mono ?_
    rintro e w1 ⟨rfl, hb1⟩
    go_wp2
    go_ret2
    exact ⟨rfl, hb1⟩
  | true =>
    have hg := (goodB_iff l).1 hgb
    have hr : greatR l = #[.int .i64 (great l), .bool true] := by simp [greatR, hgb]
    rw [hr]
    have hle := great_le l
    have hge := great_ge hg
    have HFI := Lib.hid (fast_iff l)
    have HF := Lib.hid (fun (r : Int) W h => inFast_any A l c r W hn h hg)
    have HA := Lib.hid hA
    generalize great l = G at *
    clear hr hA
    go_enter Try.func40, Try.ntmps40
    go_wp2_with fail
    refine (ntGood_any _ _ _ _ hn hc hc' HA.out).mono ?_
    rintro e w1 ⟨rfl, hb1⟩
    have HA1 := Lib.hid (HA.out.below hb1)
    go_wp2_with fail
    go_loopw [4] (fun v wr => ∃ r : Int, v = .int .i64 r ∧ G ≤ r ∧ r ≤ 20 ∧ Below w1.heap.size w1 wr)
      (fun v _ => (intOf v - G).toNat)
    case atStart => exact ⟨20, rfl, hle, Int.le_refl _, Below.refl _ _⟩
    case round =>
      obtain ⟨r, rfl, hr1, hr2, hb⟩ := hrel
      have hfi := HFI.out r hr2
      have HC := Lib.hid ((HF.out r _ (HA1.out.below hb)))
      generalize fastL r l l.length = F at *
      by_cases hG : G < r
      · have hpos : (0 : Int) < (F.length : Int) := by have := hfi.2 hG; omega
        clear hfi
        go_wp2_with (go_at_call 70; refine HC.out.mono ?_; rintro e w2 ⟨v, rfl, ho, hb2⟩; obtain ⟨V, cv, rfl, _⟩ := ho.form)
        go_roundw
        case rel => exact ⟨r - 1, by first | rfl | go_num, by omega, by omega, hb.trans (hb2.mono hb.size)⟩
        case measure => simp [intOf]; omega
      · have hpos : ¬ (0 : Int) < (F.length : Int) := fun h => hG (hfi.1 (by omega))
        obtain rfl : r = G := by omega
        clear hfi
        go_wp2_with (go_at_call 70; refine HC.out.mono ?_; rintro e w2 ⟨v, rfl, ho, hb2⟩; obtain ⟨V, cv, rfl, _⟩ := ho.form)
        go_ret2
        exact ⟨rfl, hb1.trans (hb.trans (hb2.mono hb.size) |>.mono hb1.size)⟩

set_option maxRecDepth 100000 in
set_option maxHeartbeats 2000000 in
theorem implGreatestRepeat_any (A : Option Addr) (l : List Nt) (c : Nat) (w : World) (hn : l.length ≤ 1048576) (hc : l.length ≤ c) (hc' : c ≤ 9223372036854775807) (hA : RA w A l) :
    Calls Try.prog 42 #[.slice A l.length c] w fun e w' => e = .returned (.tuple (greatR l)) ∧ Below w.heap.size w w' := by
  cases hgb : goodB l with
  | false =>
    have hr : greatR l = #[.int .i64 0, .bool false] := by simp [greatR, hgb]
    rw [hr]
    go_enter Try.func42, Try.ntmps42
    go_wp2_with fail
    refine (isScore_any _ _ _ _ hn hA).mono ?_
    rintro e w1 ⟨rfl, hb1⟩
    go_wp2
    go_ret2
    exact ⟨rfl, hb1⟩
  | true =>
    have hg := (goodB_iff l).1 hgb
    have h30 := hg.2
    have hr : greatR l = #[.int .i64 (great l), .bool true] := by simp [greatR, hgb]
    rw [hr]
    have HR := Lib.hid (fun W h => repeated_any A l c W hn h hg)
    have HS := Lib.hid (fun g a b W h => steps_any A l c g a b W hn h hg)
    have HAB := Lib.hid (fun a b => apart_bounds hg (a := a) (b := b))
    have HME := Lib.hid (fun a b => pairsL_mem l a b l.length)
    have hpl := pairsL_length l l.length
    have HG := Lib.hid (show great l = grF l (pairsL l l.length) 20 from rfl)
    have HA := Lib.hid hA
    generalize great l = G at *
    clear hr hA
    go_enter Try.func42, Try.ntmps42
    go_wp2_with fail
    refine (isScore_any _ _ _ _ hn HA.out).mono ?_
    rintro e w1 ⟨rfl, hb1⟩
    go_wp2_with fail
    refine (HR.out _ (HA.out.below hb1)).mono ?_
    rintro e w2 ⟨v, rfl, ho, hb2⟩
    have hB2 := hb1.trans (hb2.mono hb1.size)
    have HA2 := Lib.hid (HA.out.below hB2)
    obtain ⟨V, cv, rfl, hcells⟩ := ho.form
    have HCE := Lib.hid hcells
    generalize pairsL l l.length = P at *
    clear ho hcells hb1 hb2
    go_wp2_with fail
    go_loopw [4, 13] (fun a i wr => ∃ k : Nat, k ≤ P.length ∧ i = .int .i64 k ∧ a = .int .i64 (grF l (P.take k) 20) ∧ Below w2.heap.size w2 wr)
      (fun _ i _ => P.length - (intOf i).toNat)
    case atStart => exact ⟨0, Nat.zero_le _, rfl, rfl, Below.refl _ _⟩
    case round =>
      obtain ⟨k, hk, rfl, rfl, hb⟩ := hrel
      by_cases hlt : k < P.length
      · have hq : P[k]? = some P[k] := List.getElem?_eq_getElem hlt
        generalize P[k] = q at hq
        have hsn := grF_snoc l P k q 20 hq
        obtain ⟨gv, g, rfl, hgv, hgg, cv0, c0, c1⟩ := HCE.out k q hq
        obtain ⟨qa, qb⟩ := q
        have hmem := List.mem_of_getElem? hq
        have hqb := HME.out qa qb hmem
        have hab := HAB.out qa qb hmem
        simp only at c0 c1 hsn
        have cvr := (hb.cell (p := ⟨gv, k, none⟩) hgv).trans cv0
        have c0r := (hb.cell (p := ⟨g, 0, none⟩) hgg).trans c0
        have c1r := (hb.cell (p := ⟨g, 1, none⟩) hgg).trans c1
        have HST := Lib.hid (HS.out g qa qb _ (HA2.out.below hb) (by omega) (by omega) (by omega) (by omega) c0r c1r)
        have i1 : (0 : Int) ≤ (k : Int) := by omega
        have i2 : (k : Int) < (P.length : Int) := by omega
        have HSN := Lib.hid hsn
        clear hsn hq hmem c0r c1r cv0 c0 c1
        generalize apart l qa qb = t at *
        generalize grF l (P.take k) 20 = m at *
        go_wp2_with (go_at_call 74; refine HST.out.mono ?_; rintro e w3 ⟨rfl, hb3⟩)
        all_goals
          go_roundw
          case rel => exact ⟨k + 1, by omega, by go_num, by rw [HSN.out]; congr 1; omega, hb.trans (hb3.mono hb.size)⟩
          case measure => simp [intOf]; omega
      · obtain rfl : k = P.length := by omega
        have hG := HG.out
        go_wp2
        go_ret2
        exact ⟨by rw [hG]; simp only [List.take_length]; rfl, hB2.trans (hb.mono hB2.size)⟩

end Go.Proofs.Ytecbeicppfcofaa
