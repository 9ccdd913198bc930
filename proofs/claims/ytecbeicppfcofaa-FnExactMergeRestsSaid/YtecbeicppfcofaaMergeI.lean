/- The program's merged rests. -/
import Derived.Test.YtecbeicppfcofaaMrgR
import Derived.Deep.DeepCutAuto
namespace Go.Proofs.Ytecbeicppfcofaa
open Go.RowKit Go.Maps
set_option linter.unusedVariables false
set_option linter.unusedSimpArgs false

def mergeB (l : List Nt) : Bool := goodV l && goodV (mrgL l)
def mergeG (l : List Nt) : List Nt := if mergeB l = true then mrgL l else []
theorem mergeG_length (l : List Nt) (h : l.length ≤ 1048576) : (mergeG l).length ≤ 1048576 := by
  unfold mergeG mergeB
  split
  · rename_i hb
    have := ((goodV_iff _).1 (Bool.and_eq_true_iff.1 hb).2).2
    omega
  · simp

/-- What the program's map says when the rests up to k are done with. -/
def DelIs (D : DataW Unit) (l : List Nt) (k : Nat) : Prop := IsMap D ∧ ∀ c : Nat, Maps.has D (.int .i64 (c : Int)) = ((rsM l).2.2 c && !(rsM (l.take k)).2.2 c) ∧
  (Maps.has D (.int .i64 (c : Int)) = true → D.atKey (.int .i64 (c : Int)) (.lit (.int .i64 0)) = .lit (.int .i64 ((rsM l).2.1 c)))
theorem DelIs.zero {D : DataW Unit} {l : List Nt} (h : MapIs D (rsM l)) : DelIs D l 0 :=
  ⟨h.1, fun c => ⟨by rw [(h.2 c).1]; simp [rsM], fun _ => (h.2 c).2⟩⟩
theorem DelIs.note {D : DataW Unit} {l : List Nt} {k : Nat} {x : Nt} (h : DelIs D l k) (hx : l[k]? = some x) (h0 : x.1 ≠ 0) : DelIs D l (k + 1) := by
  refine ⟨h.1, fun c => ?_⟩
  have : (rsM (l.take (k + 1))).2.2 = (rsM (l.take k)).2.2 := by rw [rsM_take hx]; unfold stepR; rw [if_neg h0]
  rw [this]
  exact h.2 c
theorem DelIs.more {D : DataW Unit} {l : List Nt} {k : Nat} {x : Nt} (h : DelIs D l k) (hx : l[k]? = some x) (h0 : x.1 = 0) (hs : (rsM (l.take k)).2.2 (rsM (l.take k)).1 = true) : DelIs D l (k + 1) := by
  refine ⟨h.1, fun c => ?_⟩
  have : (rsM (l.take (k + 1))).2.2 c = (rsM (l.take k)).2.2 c := by
    rw [rsM_take hx]; unfold stepR; rw [if_pos h0]
    by_cases hc : c = (rsM (l.take k)).1
    · subst hc; simp [hs]
    · simp [hc]
  rw [this]
  exact h.2 c
theorem DelIs.first {D : DataW Unit} {l : List Nt} {k : Nat} {x : Nt} (h : DelIs D l k) (hx : l[k]? = some x) (h0 : x.1 = 0) : DelIs (D.del (.int .i64 ((rsM (l.take k)).1 : Int))) l (k + 1) := by
  refine ⟨h.1.del _, fun c => ?_⟩
  have e : (rsM (l.take (k + 1))).2.2 c = ((rsM (l.take k)).2.2 c || decide (c = (rsM (l.take k)).1)) := by rw [rsM_take hx]; unfold stepR; rw [if_pos h0]
  rw [e]
  by_cases hc : c = (rsM (l.take k)).1
  · subst hc
    rw [has_del_same]
    simp
  · have hne : Lit.int .i64 (c : Int) ≠ Lit.int .i64 ((rsM (l.take k)).1 : Int) := fun e => hc (by injection e with _ e; omega)
    rw [has_del_other hne, atKey_del_other hne]
    simpa [hc] using h.2 c
/-- A rest is among all rests. -/
theorem rs_here {l : List Nt} {k : Nat} {x : Nt} (hx : l[k]? = some x) (h0 : x.1 = 0) : (rsM l).2.2 (rsM (l.take k)).1 = true := by
  have hk := (List.getElem?_eq_some_iff.1 hx).1
  have h := rs_has l (k + 1) l.length (rsM (l.take k)).1 hk (Nat.le_refl _) (by rw [rsM_take hx]; unfold stepR; rw [if_pos h0]; simp)
  rwa [List.take_length] at h

set_option maxRecDepth 100000 in
set_option maxHeartbeats 4000000 in
theorem implMergeRests_any (g : Nat) (l : List Nt) (c : Nat) (w : World) (hn : l.length ≤ 1048576) (hc : l.length ≤ c) (hc' : c ≤ 9223372036854775807) (hA : RA w (some ⟨g, 0, none⟩) l) :
    Calls Try.prog 38 #[.slice (some ⟨g, 0, none⟩) l.length c] w fun e w' => ∃ v, e = .returned (.tuple #[v, .bool (mergeB l)]) ∧ Own w' w.heap.size 52 v (mergeG l) ∧ Below w.heap.size w w' := by
  cases hg : goodV l with
  | false =>
    have hr : mergeB l = false := by simp [mergeB, hg]
    have hr2 : mergeG l = [] := by simp [mergeG, hr]
    rw [hr, hr2]
    go_enter Try.func38, Try.ntmps38
    go_wp2_with fail
    refine (implIsVoice_any' _ _ _ _ hn hA).mono ?_
    rintro e w1 ⟨rfl, hb1⟩
    go_wp2
    go_ret2
    exact ⟨_, rfl, Own.nil _ _ _, hb1⟩
  | true =>
    have hB : mergeB l = goodV (mrgL l) := by simp [mergeB, hg]
    have h20 := ((goodV_iff l).1 hg).2
    have HEV := Lib.hid ((goodV_iff l).1 hg).1
    have HRT := Lib.hid (rs_total hg l.length)
    have htl := tks_of hg l.length
    rw [List.take_length] at htl HRT
    have HST := Lib.hid (stM_ok hg)
    have HRB := Lib.hid (fun W hA => restsByNotes_any (some ⟨g, 0, none⟩) l c W hg hA)
    have HA := Lib.hid hA
    have HB := Lib.hid hB
    clear hA hB
    go_enter Try.func38, Try.ntmps38
    go_wp2_with fail
    refine (implIsVoice_any' _ _ _ _ hn HA.out).mono ?_
    rintro e w0 ⟨rfl, hb0⟩
    go_wp2_with fail
    refine (HRB.out _ (HA.out.below hb0)).mono ?_
    rintro e w1 ⟨rfl, ⟨D0, hm0, his0⟩, hb1', hlt0⟩
    have hb1 := hb0.trans (hb1'.mono hb0.size)
    have HA1 := Lib.hid (HA.out.below hb1)
    have hdel0 := DelIs.zero his0
    clear his0 hb1'
    go_wp2_with fail
    go_loopw [5, 6, 18] (fun a m i wr => ∃ (k : Nat) (D : DataW Unit), k ≤ l.length ∧ i = .int .i64 k ∧ a = .int .i64 ((rsM (l.take k)).1 : Int) ∧ Own wr w1.heap.size 52 m (impM l k) ∧ wr.ownsMap Try.prog 3 (plainElem Try.prog 3) w0.heap.size 100 D ∧ DelIs D l k ∧ Below w.heap.size w wr ∧ w1.heap.size ≤ wr.heap.size)
      (fun _ _ i _ => l.length - (intOf i).toNat)
    case atStart => exact ⟨0, D0, Nat.zero_le _, rfl, rfl, Own.nil _ _ _, hm0, hdel0, hb1, Nat.le_refl _⟩
    case round =>
      obtain ⟨k, D, hk, rfl, rfl, hown, hmap, hdel, hb, hsz⟩ := hrel
      clear hm0 hdel0
      by_cases hlt : k < l.length
      · have hx : l[k]? = some l[k] := List.getElem?_eq_getElem hlt
        generalize l[k] = x at hx
        have hrc := rs_count l k
        have hev := (evN_iff x).1 (HEV.out x (List.mem_of_getElem? hx))
        have himl : (impM l k).length ≤ k := by
          have h := (HST.out k).2.1
          unfold impM
          unfold flush at h
          rw [List.length_append] at h ⊢
          cases hs : (stM (l.take k)).2 with
          | none => rw [hs] at h; simpa using h
          | some t => rw [hs] at h; simpa using h
        have HX := Lib.hid hx
        obtain ⟨p, n, d⟩ := x
        obtain ⟨g', o', hgo, hg', h0, h1, h2⟩ := (HA.out.below hb) k _ hx
        simp only [Option.some.injEq, Addr.mk.injEq, and_true] at hgo
        obtain ⟨rfl, rfl⟩ := hgo
        simp only [Nat.zero_add] at h0 h1 h2
        have j1 : (k : Int) < (l.length : Int) := by omega
        have j2 : (0 : Int) ≤ (k : Int) := by omega
        have HO := Lib.hid hown
        have HDL := Lib.hid hdel
        have hnb : Below wr.heap.size wr (wr.alloc (.cells #[.int .i64 p, .int .i64 n, .int .i64 d] 52)) := (Below.refl _ _).alloc (Nat.le_refl _) _
        have q0 : (wr.alloc (.cells #[.int .i64 p, .int .i64 n, .int .i64 d] 52)).cell? ⟨wr.heap.size, 0, none⟩ = some (.int .i64 p) := by rw [World.cell?_alloc_new]; rfl
        have q1 : (wr.alloc (.cells #[.int .i64 p, .int .i64 n, .int .i64 d] 52)).cell? ⟨wr.heap.size, 1, none⟩ = some (.int .i64 n) := by rw [World.cell?_alloc_new]; rfl
        have q2 : (wr.alloc (.cells #[.int .i64 p, .int .i64 n, .int .i64 d] 52)).cell? ⟨wr.heap.size, 2, none⟩ = some (.int .i64 d) := by rw [World.cell?_alloc_new]; rfl
        have hz1 : (wr.alloc (.cells #[.int .i64 p, .int .i64 n, .int .i64 d] 52)).heap.size = wr.heap.size + 1 := by simp
        clear hx hown hdel
        go_wp2_with fail
        generalize wr.alloc (.cells #[.int .i64 p, .int .i64 n, .int .i64 d] 52) = W at *
        refine (isRest_any _ _ _ _).mono ?_
        rintro e w2 ⟨rfl, hb2⟩
        have hnb2 := hnb.trans (hb2.mono hnb.size)
        have q0 := (hb2.cell (p := ⟨wr.heap.size, 0, none⟩) (by show wr.heap.size < _; omega)).trans q0
        have q1 := (hb2.cell (p := ⟨wr.heap.size, 1, none⟩) (by show wr.heap.size < _; omega)).trans q1
        have q2 := (hb2.cell (p := ⟨wr.heap.size, 2, none⟩) (by show wr.heap.size < _; omega)).trans q2
        have hbw := hb.trans (hnb2.mono hb.size)
        have HM2 := Lib.hid (ownsMap_below hmap hnb2)
        have HO2 := Lib.hid (HO.out.below hnb2 (Nat.le_refl _))
        have hs2 : w1.heap.size ≤ w2.heap.size := Nat.le_trans hsz hnb2.size
        clear hb2 hnb hnb2 h0 h1 h2 hmap
        by_cases h0 : p = 0
        · have hd : decide (p = 0) = true := by simp [h0]
          have hkey := keyI ((rsM (l.take k)).1 : Int) (by omega) (by omega)
          have hdc := HDL.out.2 (rsM (l.take k)).1
          have hop := rs_open (l.take k)
          have hhere := rs_here HX.out h0
          cases hs : (stM (l.take k)).2 with
          | none =>
            have hhas : Maps.has D (.int .i64 ((rsM (l.take k)).1 : Int)) = true := by rw [hdc.1, hhere, hop.1, hs]; rfl
            have hat0 := hdc.2 hhas
            have himp := impM_first HX.out h0 hs
            have hdl := DelIs.first HDL.out HX.out h0
            have hr1 : (rsM (l.take (k + 1))).1 = (rsM (l.take k)).1 := by rw [rsM_take HX.out]; unfold stepR; rw [if_pos h0]
            have hrt := HRT.out (rsM (l.take k)).1
            rw [← hr1] at hdl
            have HIM := Lib.hid himp
            have HDF := Lib.hid hdl
            have HR1 := Lib.hid hr1
            have HP0 := Lib.hid h0
            clear himp hdl hr1 hdc hop hhere hs h0
            generalize hT : (rsM l).2.1 (rsM (l.take k)).1 = T at *
            have HRO := Lib.hid (fun W => restOf_any T W hrt.1 (by omega))
            have hre : restE T = (0, (restE T).2.1, (restE T).2.2) := rfl
            rw [hre] at HIM
            generalize (restE T).2.1 = rx at *
            generalize (restE T).2.2 = ry at *
            clear hre
            go_wp2_with (first
              | (at_lookup; refine wpList_lookup_own_ok_int _ rfl _ _ 75 rfl 3 3 .i64 mapLaw Try.underlying75 Try.underlying3 (zeroInt _) w0.heap.size 100 D rfl HM2.out _ _ rfl hkey ?_; intro cL hat hwc; rw [hhas]; (obtain rfl : T = cL := by have e := hat0.symm.trans hat; injection e with e; injection e); clear hat hwc)
              | (go_at_call 68; refine (HRO.out _).mono ?_; rintro e w3 ⟨rfl, hb3⟩; have HB4 := Lib.hid (show Below w2.heap.size w2 (w3.alloc (.cells #[.int .i64 0, .int .i64 rx, .int .i64 ry] 52)) from hb3.alloc hb3.size _); have HO4 := Lib.hid (HO2.out.below HB4.out (Nat.le_refl _)); have HM4 := Lib.hid (ownsMap_below HM2.out HB4.out))
              | (at_delete; go_loud (refine wpList_delete_own _ rfl _ _ 75 3 rfl 3 mapLaw Try.underlying75 _ w0.heap.size 100 D rfl HM6.out _ _ rfl hkey ?_); intro w7 hmap7 hturn7; have HM7 := Lib.hid hmap7; have HG7 := Lib.hid hturn7.grown; clear hmap7 hturn7)
              | (at_builtin; go_loud (refine wpList_appE _ rfl (.tmp 39) (.tmp 42) rfl w1.heap.size _ _ rfl HO4.out _ 1 1 [(0, rx, ry)] rfl rfl (fun h => by cases h) (RA.one (heap_alloc_new _ _)) (by omega) (Nat.le_trans hs2 HB4.out.size) ?_); intro v6 w6 ho6 hg6; have HV6 := Lib.hid (fun j hj => (HO4.out.lt j hj).1); have HM6 := Lib.hid (HM4.out.kept hg6 (fun e => by have := HV6.out _ e.symm; omega)); have HB6 := Lib.hid ((hbw.trans (HB4.out.mono hbw.size)).grown hg6 (Nat.le_trans hbw.size HB4.out.size) (fun j hj => by have := HV6.out j hj; have := hb1.size; omega)); have hz6 := hg6.size))
            go_roundw
            case rel =>
              refine ⟨k + 1, _, by omega, by go_num, by rw [HR1.out], ?_, HM7.out, by rw [HR1.out] at HDF; exact HDF.out, HB6.out.grown HG7.out HB6.out.size (fun j hj => by injection hj with hj; have := hb0.size; omega), ?_⟩
              · rw [HIM.out]
                exact ho6.grown HG7.out (by
                  cases hv : v6.ownBlock with
                  | none => exact .inl rfl
                  | some j => exact .inr fun e => by injection e with e; have := (ho6.lt j hv).1; omega)
              · have := HG7.out.size; have := HB4.out.size; omega
            case measure => simp [intOf]; omega
          | some t =>
            have hhas : Maps.has D (.int .i64 ((rsM (l.take k)).1 : Int)) = false := by rw [hdc.1, hop.1, hs]; simp
            have himp := impM_more HX.out h0 hs
            have hdl := DelIs.more HDL.out HX.out h0 (by rw [hop.1, hs]; rfl)
            have hr1 : (rsM (l.take (k + 1))).1 = (rsM (l.take k)).1 := by rw [rsM_take HX.out]; unfold stepR; rw [if_pos h0]
            have HIM := Lib.hid himp
            have HDF := Lib.hid hdl
            have HR1 := Lib.hid hr1
            have HP0 := Lib.hid h0
            clear himp hdl hr1 hdc hop hhere hs h0
            go_wp2_with (first
              | (at_lookup; refine wpList_lookup_own_ok_int _ rfl _ _ 75 rfl 3 3 .i64 mapLaw Try.underlying75 Try.underlying3 (zeroInt _) w0.heap.size 100 D rfl HM2.out _ _ rfl hkey ?_; intro cL hat hwc; rw [hhas]; clear hat))
            go_roundw
            case rel => exact ⟨k + 1, _, by omega, by go_num, by rw [HR1.out], by rw [HIM.out]; exact HO2.out, HM2.out, HDF.out, hbw, hs2⟩
            case measure => simp [intOf]; omega
        · have hd : decide (p = 0) = false := by simp [h0]
          have himp := impM_note HX.out h0
          have hdl := DelIs.note HDL.out HX.out h0
          have hr1 : (rsM (l.take (k + 1))).1 = (rsM (l.take k)).1 + 1 := by rw [rsM_take HX.out]; unfold stepR; rw [if_neg h0]
          have HIM := Lib.hid himp
          have HDF := Lib.hid hdl
          have HR1 := Lib.hid hr1
          have HP0 := Lib.hid h0
          have HB4 := Lib.hid (show Below w2.heap.size w2 (w2.alloc (.cells #[.int .i64 p, .int .i64 n, .int .i64 d] 52)) from (Below.refl _ _).alloc (Nat.le_refl _) _)
          have HO4 := Lib.hid (HO2.out.below HB4.out (Nat.le_refl _))
          have HM4 := Lib.hid (ownsMap_below HM2.out HB4.out)
          clear himp hdl hr1 h0
          go_wp2_with (first
            | (at_builtin; go_loud (refine wpList_appE _ rfl (.tmp 25) (.tmp 27) rfl w1.heap.size _ _ rfl HO4.out _ 1 1 [(p, n, d)] rfl rfl (fun h => by cases h) (RA.one (heap_alloc_new _ _)) (by omega) (Nat.le_trans hs2 HB4.out.size) ?_); intro v6 w6 ho6 hg6; have HV6 := Lib.hid (fun j hj => (HO4.out.lt j hj).1); have HM6 := Lib.hid (HM4.out.kept hg6 (fun e => by have := HV6.out _ e.symm; omega)); have HB6 := Lib.hid ((hbw.trans (HB4.out.mono hbw.size)).grown hg6 (Nat.le_trans hbw.size HB4.out.size) (fun j hj => by have := HV6.out j hj; have := hb1.size; omega)); have hz6 := hg6.size))
          go_roundw
          case rel => exact ⟨k + 1, _, by omega, by go_num, by rw [HR1.out]; rfl, by rw [HIM.out]; exact ho6, HM6.out, HDF.out, HB6.out, by have := HB4.out.size; omega⟩
          case measure => simp [intOf]; omega
      · obtain rfl : k = l.length := by omega
        rw [impM_all] at hown
        have hml : (mrgL l).length ≤ 1048576 := by
          have h := (HST.out l.length).2.1
          rw [List.take_length] at h
          unfold mrgL
          omega
        have HSO := Lib.hid (voiceOnly_any _ _ _ _ hml hown)
        obtain ⟨O, oc, rfl, hO⟩ := hown.form
        clear hO hown hmap hdel
        go_wp2_with (go_at_call 69; refine HSO.out.mono ?_; rintro e w3 ⟨u, rfl, ho3, hb3⟩)
        go_ret2
        refine ⟨_, by rw [HB.out]; rfl, ?_, hb.trans (hb3.mono hb.size)⟩
        have hG : mergeG l = if goodV (mrgL l) = true then mrgL l else [] := by simp [mergeG, HB.out]
        rw [hG]
        exact ho3.mono hb1.size

end Go.Proofs.Ytecbeicppfcofaa
