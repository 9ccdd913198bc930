/- The model's merged rests. -/
import Derived.Test.YtecbeicppfcofaaMergeI
import Derived.Deep.RegionWith
namespace Go.Proofs.Ytecbeicppfcofaa
open Go.RowKit Go.Maps
set_option linter.unusedVariables false
set_option linter.unusedSimpArgs false

theorem mrg_note {l : List Nt} {k : Nat} {x : Nt} (h : l[k]? = some x) (h0 : x.1 ≠ 0) : mrgL (l.take (k + 1)) = mrgL (l.take k) ++ [x] := by
  unfold mrgL
  rw [stM_take h]
  unfold stepS
  rw [if_neg h0]
  simp [flush]
theorem mrg_new {l : List Nt} {k : Nat} {x : Nt} (hg : goodV l = true) (h : l[k]? = some x) (h0 : x.1 = 0) (hs : (stM (l.take k)).2 = none) : mrgL (l.take (k + 1)) = mrgL (l.take k) ++ [x] ∧ ∀ y, (mrgL (l.take k)).getLast? = some y → 0 < y.1 := by
  have hok := (stM_ok hg k).1
  have hev := ((goodV_iff l).1 hg).1 x (List.mem_of_getElem? h)
  unfold mrgL
  rw [stM_take h]
  unfold stepS
  rw [if_pos h0]
  constructor
  · unfold flush
    rw [hs]
    simp [restE_self hev h0]
  · unfold flush
    rw [hs]
    simpa using hok.1
theorem mrg_more {l : List Nt} {k : Nat} {x : Nt} {t : Int} (hg : goodV l = true) (h : l[k]? = some x) (h0 : x.1 = 0) (hs : (stM (l.take k)).2 = some t) :
    ∃ init, mrgL (l.take k) = init ++ [restE t] ∧ mrgL (l.take (k + 1)) = init ++ [restE (t + tk x)] ∧ 0 ≤ t ∧ t ≤ 1500000000 := by
  have hok := stM_ok hg k
  have ht := tks_of hg k
  refine ⟨(stM (l.take k)).1, ?_, ?_, hok.1.2 t hs, ?_⟩
  · unfold mrgL flush; rw [hs]
  · unfold mrgL
    rw [stM_take h]
    unfold stepS flush
    rw [if_pos h0, hs]
    rfl
  · have := hok.2.2
    rw [hs] at this
    simp at this
    omega
theorem mrg_length {l : List Nt} (hg : goodV l = true) (k : Nat) : (mrgL (l.take k)).length ≤ k := (stM_ok hg k).2.1

theorem RA.two {w : World} {b : Nat} {p s n p' s' n' : Int} {t : TypeId} {fr : Nat × Nat} (h : w.heap[b]? = some (.cells #[.int .i64 p, .int .i64 s, .int .i64 n, .int .i64 p', .int .i64 s', .int .i64 n'] t fr)) : RA w (some ⟨b, 0, none⟩) [(p, s, n), (p', s', n')] := by
  intro i x hx
  match i with
  | 0 =>
    simp at hx
    subst hx
    refine ⟨b, 0, rfl, (Array.getElem?_eq_some_iff.1 h).1, ?_, ?_, ?_⟩
    · rw [cell_of_row w b _ _ _ _ h]; rfl
    · rw [cell_of_row w b _ _ _ _ h]; rfl
    · rw [cell_of_row w b _ _ _ _ h]; rfl
  | 1 =>
    simp at hx
    subst hx
    refine ⟨b, 0, rfl, (Array.getElem?_eq_some_iff.1 h).1, ?_, ?_, ?_⟩
    · rw [cell_of_row w b _ _ _ _ h]; rfl
    · rw [cell_of_row w b _ _ _ _ h]; rfl
    · rw [cell_of_row w b _ _ _ _ h]; rfl
  | i + 2 => simp at hx

set_option maxRecDepth 100000 in
set_option maxHeartbeats 4000000 in
theorem specMergeRests_any (g : Nat) (l : List Nt) (c : Nat) (w : World) (hn : l.length ≤ 1048576) (hc : l.length ≤ c) (hc' : c ≤ 9223372036854775807) (hA : RA w (some ⟨g, 0, none⟩) l) :
    Calls Try.prog 37 #[.slice (some ⟨g, 0, none⟩) l.length c] w fun e w' => ∃ v, e = .returned (.tuple #[v, .bool (mergeB l)]) ∧ Own w' w.heap.size 52 v (mergeG l) ∧ Below w.heap.size w w' := by
  cases hg : goodV l with
  | false =>
    have hr : mergeB l = false := by simp [mergeB, hg]
    have hr2 : mergeG l = [] := by simp [mergeG, hr]
    rw [hr, hr2]
    go_enter Try.func37, Try.ntmps37
    go_wp2_with fail
    refine (noGood_any _ _ _ _ hn hA).mono ?_
    rintro e w1 ⟨rfl, hb1⟩
    go_wp2
    go_ret2
    exact ⟨_, rfl, Own.nil _ _ _, hb1⟩
  | true =>
    have hB : mergeB l = goodV (mrgL l) := by simp [mergeB, hg]
    have h20 := ((goodV_iff l).1 hg).2
    have HG := Lib.hid hg
    have HA := Lib.hid hA
    have HB := Lib.hid hB
    clear hA hB
    go_enter Try.func37, Try.ntmps37
    go_wp2_with fail
    refine (noGood_any _ _ _ _ hn HA.out).mono ?_
    rintro e w1 ⟨rfl, hb1⟩
    have HA1 := Lib.hid (HA.out.below hb1)
    go_wp2_with fail
    clear hg
    go_loopw [4, 15] (fun m i wr => ∃ (k : Nat), k ≤ l.length ∧ i = .int .i64 k ∧ Own wr w1.heap.size 52 m (mrgL (l.take k)) ∧ Below w1.heap.size w1 wr)
      (fun _ i _ => l.length - (intOf i).toNat)
    case atStart => exact ⟨0, Nat.zero_le _, rfl, Own.nil _ _ _, Below.refl _ _⟩
    case round =>
      obtain ⟨k, hk, rfl, hown, hb⟩ := hrel
      by_cases hlt : k < l.length
      · have hx : l[k]? = some l[k] := List.getElem?_eq_getElem hlt
        generalize l[k] = x at hx
        have hml := mrg_length HG.out k
        have hev := ((goodV_iff l).1 HG.out).1 x (List.mem_of_getElem? hx)
        have hok := (evN.okT hev).1
        have hei := (evN_iff x).1 hev
        have HX := Lib.hid hx
        have HOK := Lib.hid hok
        obtain ⟨p, n, d⟩ := x
        obtain ⟨g', o', hgo, hg', h0, h1, h2⟩ := (HA1.out.below hb) k _ hx
        simp only [Option.some.injEq, Addr.mk.injEq, and_true] at hgo
        obtain ⟨rfl, rfl⟩ := hgo
        simp only [Nat.zero_add] at h0 h1 h2
        have j1 : (k : Int) < (l.length : Int) := by omega
        have j2 : (0 : Int) ≤ (k : Int) := by omega
        have hnb : Below wr.heap.size wr (wr.alloc (.cells #[.int .i64 p, .int .i64 n, .int .i64 d] 52)) := (Below.refl _ _).alloc (Nat.le_refl _) _
        have q0 : (wr.alloc (.cells #[.int .i64 p, .int .i64 n, .int .i64 d] 52)).cell? ⟨wr.heap.size, 0, none⟩ = some (.int .i64 p) := by rw [World.cell?_alloc_new]; rfl
        have q1 : (wr.alloc (.cells #[.int .i64 p, .int .i64 n, .int .i64 d] 52)).cell? ⟨wr.heap.size, 1, none⟩ = some (.int .i64 n) := by rw [World.cell?_alloc_new]; rfl
        have q2 : (wr.alloc (.cells #[.int .i64 p, .int .i64 n, .int .i64 d] 52)).cell? ⟨wr.heap.size, 2, none⟩ = some (.int .i64 d) := by rw [World.cell?_alloc_new]; rfl
        have hz1 : (wr.alloc (.cells #[.int .i64 p, .int .i64 n, .int .i64 d] 52)).heap.size = wr.heap.size + 1 := by simp
        have hbw := hb.trans (hnb.mono hb.size)
        have hnew : (stM (l.take k)).2 = none ∨ ∃ t, (stM (l.take k)).2 = some t := by
          cases h : (stM (l.take k)).2 with
          | none => exact .inl rfl
          | some t => exact .inr ⟨t, rfl⟩
        have hnote := fun h => mrg_note (x := (p, n, d)) hx h
        have hnw := fun h hs => mrg_new (x := (p, n, d)) HG.out hx h hs
        have hmr := fun {t : Int} h hs => mrg_more (x := (p, n, d)) (t := t) HG.out hx h hs
        have HN1 := Lib.hid hnote
        have HN2 := Lib.hid hnw
        have HN3 := Lib.hid (fun (t : Int) h hs => hmr (t := t) h hs)
        clear hx hev hok hnote hnw hmr
        obtain ⟨O, oc, rfl, hO, hoc, hocm⟩ := hown.form'
        unfold maxLen at hocm
        generalize hL : mrgL (l.take k) = L at *
        have HO := Lib.hid hown
        have hbs := hbw.size
        have HO4 := Lib.hid ((HO.out.below hnb (Nat.le_refl _)).below (B := (wr.alloc (.cells #[.int .i64 p, .int .i64 n, .int .i64 d] 52)).heap.size) ((Below.refl _ _).alloc (Nat.le_refl _) (.cells #[.int .i64 p, .int .i64 n, .int .i64 d] 52)) (Nat.le_refl _))
        have HBB := Lib.hid (hbw.alloc hbs (.cells #[.int .i64 p, .int .i64 n, .int .i64 d] 52))
        have HRA := Lib.hid (show RA ((wr.alloc (.cells #[.int .i64 p, .int .i64 n, .int .i64 d] 52)).alloc (.cells #[.int .i64 p, .int .i64 n, .int .i64 d] 52)) (some ⟨wr.heap.size + 1, 0, none⟩) [(p, n, d)] from by
          have h := RA.one (heap_alloc_new (wr.alloc (.cells #[.int .i64 p, .int .i64 n, .int .i64 d] 52)) (.cells #[.int .i64 p, .int .i64 n, .int .i64 d] 52))
          rwa [hz1] at h)
        by_cases hp : p = 0
        · subst hp
          have hp : (0 : Int) = 0 := rfl
          rcases hnew with hs | ⟨t, hs⟩
          · obtain ⟨hm, hlast⟩ := HN2.out hp hs
            have HM := Lib.hid hm
            clear hm hs
            by_cases hl0 : L.length = 0
            · have hbe : ((L.length : Int) == 0) = true := by simp [hl0]
              have HL0 := Lib.hid hl0
              clear hl0 hlast
              clear q0 q1 q2
              go_wp2_with (first
                | (at_builtin; go_loud (refine wpList_appE _ rfl (.tmp 37) (.tmp 39) rfl w1.heap.size _ _ rfl HO4.out _ 1 1 [(0, n, d)] rfl rfl (fun h => by cases h) HRA.out (by omega) HBB.out.size ?_); intro v6 w6 ho6 hg6; have HV6 := Lib.hid (fun j hj => (HO4.out.lt j hj).1); have HB6 := Lib.hid (HBB.out.grown hg6 HBB.out.size (fun j hj => HV6.out j hj))))
              go_roundw
              case rel => exact ⟨k + 1, by omega, by go_num, by rw [HM.out]; exact ho6, HB6.out⟩
              case measure => simp [intOf]; omega
            · have hbe : ((L.length : Int) == 0) = false := by rw [beq_eq_false_iff_ne]; omega
              have hy : L[L.length - 1]? = some (L[L.length - 1]'(by omega)) := List.getElem?_eq_getElem _
              generalize L[L.length - 1]'(by omega) = y at hy
              have hyp := hlast y (by rw [List.getLast?_eq_getElem?]; exact hy)
              obtain ⟨yp, yn, yd⟩ := y
              simp only at hyp
              obtain ⟨g3, o3, rfl, hg3, z0, z1, z2⟩ := hO _ _ hy
              simp only at z0 z1 z2
              have i3 : (0 : Int) ≤ (L.length : Int) - 1 := by omega
              have i4 : (L.length : Int) - 1 < (L.length : Int) := by omega
              have HL0 := Lib.hid hl0
              have HY := Lib.hid hy
              have hp' : ¬ (0 : Int) < 0 := by omega
              clear hl0 hlast hy hO z1 z2
              clear q0 q1 q2
              go_wp2_with (first
                | (at_builtin; go_loud (refine wpList_appE _ rfl (.tmp 37) (.tmp 39) rfl w1.heap.size _ _ rfl HO4.out _ 1 1 [(0, n, d)] rfl rfl (fun h => by cases h) HRA.out (by omega) HBB.out.size ?_); intro v6 w6 ho6 hg6; have HV6 := Lib.hid (fun j hj => (HO4.out.lt j hj).1); have HB6 := Lib.hid (HBB.out.grown hg6 HBB.out.size (fun j hj => HV6.out j hj))))
              go_roundw
              case rel => exact ⟨k + 1, by omega, by go_num, by rw [HM.out]; exact ho6, HB6.out⟩
              case measure => simp [intOf]; omega
          · obtain ⟨init, hi1, hi2, ht0, ht1⟩ := HN3.out t hp hs
            clear hs
            have hln : L.length = init.length + 1 := by rw [hi1]; simp
            have hbe : ((L.length : Int) == 0) = false := by rw [beq_eq_false_iff_ne]; omega
            have hy : L[L.length - 1]? = some (restE t) := by rw [hi1]; simp
            have hset : L.set (L.length - 1) (restE (t + tk (0, n, d))) = init ++ [restE (t + tk (0, n, d))] := by
              rw [hi1, List.set_append_right _ _ (by simp)]
              simp
            have hrok := restE_ok ht0 ht1
            have htk : tks [restE t, (0, n, d)] = t + tk (0, n, d) := by simp [tks, restE_tk ht0]
            have hall : ∀ x ∈ [restE t, (0, n, d)], okT x := by
              intro x hx
              simp at hx
              rcases hx with rfl | rfl
              · exact hrok
              · exact HOK.out
            have hre : restE t = (0, (restE t).2.1, (restE t).2.2) := rfl
            have hre2 : restE (t + tk (0, n, d)) = (0, (low (t + tk (0, n, d)) 720720).1, (low (t + tk (0, n, d)) 720720).2) := rfl
            have HNS := Lib.hid (fun A W hR => noSum_any A [restE t, (0, n, d)] 2 2 W rfl (by omega) hall hR)
            rw [htk] at HNS
            rw [hre] at hy HNS
            rw [hre2] at hset hi2
            generalize (low (t + tk (0, n, d)) 720720).1 = ta at *
            generalize (low (t + tk (0, n, d)) 720720).2 = tb at *
            generalize (restE t).2.1 = ra at *
            generalize (restE t).2.2 = rb at *
            obtain ⟨g3, o3, rfl, hg3, z0, z1, z2⟩ := hO _ _ hy
            have ho3 : o3 = 0 := by
              rcases hown.2 with ⟨hv, _⟩ | ⟨g9, cap, cur, hv, _⟩
              · cases hv
              · injection hv with e1 e2 e3
                simp only [Option.some.injEq, Addr.mk.injEq, and_true] at e1
                exact e1.2
            subst ho3
            simp only [Nat.zero_add] at z0 z1 z2
            have i3 : (0 : Int) ≤ (L.length : Int) - 1 := by omega
            have i4 : (L.length : Int) - 1 < (L.length : Int) := by omega
            have hp' : ¬ (0 : Int) < 0 := by omega
            have hkl : L.length - 1 < L.length := by omega
            have hwr : IntKind.i64.wrap ((L.length : Int) - 1) = (L.length : Int) - 1 := IntWalk.i64_in _ (by omega)
            have hbb : (0 : Int) ≤ (L.length : Int) - 1 ∧ (L.length : Int) - 1 < (L.length : Int) := ⟨i3, i4⟩
            have HSET := Lib.hid hset
            have HI2 := Lib.hid hi2
            have HLN := Lib.hid hln
            clear hi1 hi2 hset hy hO hall htk hre hre2 hrok hln hown hL
            have hz0 : g3 < wr.heap.size := hg3
            have y0 := (hnb.cell (p := ⟨g3, (L.length - 1) * 3, none⟩) hz0).trans z0
            have y1 := (hnb.cell (p := ⟨g3, (L.length - 1) * 3 + 1, none⟩) hz0).trans z1
            have y2 := (hnb.cell (p := ⟨g3, (L.length - 1) * 3 + 2, none⟩) hz0).trans z2
            go_wp2_with fail
            have HOW := Lib.hid (HO.out.below hnb (Nat.le_refl _))
            clear HO4 HBB
            generalize wr.alloc (.cells #[.int .i64 0, .int .i64 n, .int .i64 d] 52) = W at *
            clear h0 h1 h2 z0 z1 z2
            have z0d : W.drew.cell? ⟨g3, (L.length - 1) * 3, none⟩ = some (.int .i64 0) := y0
            have z1d : W.drew.cell? ⟨g3, (L.length - 1) * 3 + 1, none⟩ = some (.int .i64 ra) := y1
            have z2d : W.drew.cell? ⟨g3, (L.length - 1) * 3 + 2, none⟩ = some (.int .i64 rb) := y2
            have q0d : W.drew.cell? ⟨wr.heap.size, 0, none⟩ = some (.int .i64 0) := q0
            have q1d : W.drew.cell? ⟨wr.heap.size, 1, none⟩ = some (.int .i64 n) := q1
            have q2d : W.drew.cell? ⟨wr.heap.size, 2, none⟩ = some (.int .i64 d) := q2
            have HAL := Lib.hid (show Below W.heap.size W (W.alloc (.cells #[.int .i64 0, .int .i64 ra, .int .i64 rb, .int .i64 0, .int .i64 n, .int .i64 d] 52)).drew from ((Below.refl _ W).alloc (Nat.le_refl _) _).drew)
            have HR2 := Lib.hid (show RA (W.alloc (.cells #[.int .i64 0, .int .i64 ra, .int .i64 rb, .int .i64 0, .int .i64 n, .int .i64 d] 52)).drew (some ⟨wr.heap.size + 1, 0, none⟩) [(0, ra, rb), (0, n, d)] from by
              have h := RA.two (heap_alloc_new W (.cells #[.int .i64 0, .int .i64 ra, .int .i64 rb, .int .i64 0, .int .i64 n, .int .i64 d] 52))
              rw [hz1] at h
              exact h)
            have HCL := Lib.hid (HNS.out _ _ HR2.out)
            clear HNS HR2
            go_region_with (go_at_call 47; refine HCL.out.mono ?_; rintro e w3 ⟨rfl, hb3⟩)
            all_goals
              have hBW := HAL.out.trans (hb3.mono HAL.out.size)
              have hO3 := HOW.out.below hBW (Nat.le_refl _)
              have hB3 := hbw.trans (hBW.mono hbw.size)
              unfold Own at hO3
              have ff := fun j => hO3.frozenAt j
              have c0 : ∃ u, w3.cell? ⟨g3, (L.length - 1) * 3, none⟩ = some u := by rw [hO3.cellAt _ (by omega)]; exact ⟨_, List.getElem?_eq_getElem (by rw [cl_length]; omega)⟩
              have c1 : ∃ u, w3.cell? ⟨g3, (L.length - 1) * 3 + 1, none⟩ = some u := by rw [hO3.cellAt _ (by omega)]; exact ⟨_, List.getElem?_eq_getElem (by rw [cl_length]; omega)⟩
              have c2 : ∃ u, w3.cell? ⟨g3, (L.length - 1) * 3 + 2, none⟩ = some u := by rw [hO3.cellAt _ (by omega)]; exact ⟨_, List.getElem?_eq_getElem (by rw [cl_length]; omega)⟩
              obtain ⟨u0, c0⟩ := c0
              obtain ⟨u1, c1⟩ := c1
              obtain ⟨u2, c2⟩ := c2
              have f0 := ff ((L.length - 1) * 3)
              have f1 := ff ((L.length - 1) * 3 + 1)
              have f2 := ff ((L.length - 1) * 3 + 2)
              have H := Lib.hid hO3
              have hgb := (hO3.lt g3 rfl).1
              clear ff hO3 y0 y1 y2 z0d z1d z2d q0 q1 q2 q0d q1d q2d
              go_wp2
              go_roundw
              case rel =>
                refine ⟨k + 1, by omega, by go_num, ?_, ((hB3.setCell hgb _).setCell hgb _).setCell hgb _⟩
                have k1 := ((H.out.stored ((L.length - 1) * 3) (.int .i64 0)).1.stored ((L.length - 1) * 3 + 1) (.int .i64 ta)).1.stored ((L.length - 1) * 3 + 2) (.int .i64 tb)
                have k2 := k1.1
                rw [cl_set _ _ (0, ta, tb) hkl, HSET.out] at k2
                unfold Own
                rw [HI2.out]
                have hL' : (init ++ [((0, ta, tb) : Nt)]).length = L.length := by rw [HLN.out]; simp
                rw [hL']
                exact k2
              case measure => simp [intOf]; omega
        · have hm := HN1.out hp
          have hp0 : 0 < p := by have := hei.1; omega
          have HM := Lib.hid hm
          clear hm
          by_cases hl0 : L.length = 0
          · have hbe : ((L.length : Int) == 0) = true := by simp [hl0]
            have HL0 := Lib.hid hl0
            clear hl0
            clear q0 q1 q2
            go_wp2_with (first
              | (at_builtin; go_loud (refine wpList_appE _ rfl (.tmp 37) (.tmp 39) rfl w1.heap.size _ _ rfl HO4.out _ 1 1 [(p, n, d)] rfl rfl (fun h => by cases h) HRA.out (by omega) HBB.out.size ?_); intro v6 w6 ho6 hg6; have HV6 := Lib.hid (fun j hj => (HO4.out.lt j hj).1); have HB6 := Lib.hid (HBB.out.grown hg6 HBB.out.size (fun j hj => HV6.out j hj))))
            go_roundw
            case rel => exact ⟨k + 1, by omega, by go_num, by rw [HM.out]; exact ho6, HB6.out⟩
            case measure => simp [intOf]; omega
          · have hbe : ((L.length : Int) == 0) = false := by rw [beq_eq_false_iff_ne]; omega
            have HL0 := Lib.hid hl0
            clear hl0
            clear q0 q1 q2
            go_wp2_with (first
              | (at_builtin; go_loud (refine wpList_appE _ rfl (.tmp 37) (.tmp 39) rfl w1.heap.size _ _ rfl HO4.out _ 1 1 [(p, n, d)] rfl rfl (fun h => by cases h) HRA.out (by omega) HBB.out.size ?_); intro v6 w6 ho6 hg6; have HV6 := Lib.hid (fun j hj => (HO4.out.lt j hj).1); have HB6 := Lib.hid (HBB.out.grown hg6 HBB.out.size (fun j hj => HV6.out j hj))))
            go_roundw
            case rel => exact ⟨k + 1, by omega, by go_num, by rw [HM.out]; exact ho6, HB6.out⟩
            case measure => simp [intOf]; omega
      · obtain rfl : k = l.length := by omega
        rw [List.take_length] at hown
        have hml := mrg_length HG.out l.length
        rw [List.take_length] at hml
        have hB2 := Lib.hid (hb1.trans (hb.mono hb1.size))
        have HSO := Lib.hid (noIf_any _ _ _ _ (by omega) hown)
        obtain ⟨O, oc, rfl, hO⟩ := hown.form
        clear hO hown
        go_wp2_with (go_at_call 63; refine HSO.out.mono ?_; rintro e w3 ⟨u, rfl, ho3, hb3⟩)
        go_ret2
        refine ⟨_, by rw [HB.out]; rfl, ?_, hB2.out.trans (hb3.mono hB2.out.size)⟩
        have hG : mergeG l = if goodV (mrgL l) = true then mrgL l else [] := by simp [mergeG, HB.out]
        rw [hG]
        exact ho3.mono hb1.size

end Go.Proofs.Ytecbeicppfcofaa
