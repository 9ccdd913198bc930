/- The walk of the law on tempos. -/
import Derived.Test.YtakmlgkcinjecaaTmpV
import Derived.Test.YtakmlgkcinjecaaQT
import Derived.Test.YtakmlgkcinjecaaDrawA
namespace Go.Proofs.Ytakmlgkcinjecaa
open Go.RowKit
set_option linter.unusedVariables false
set_option linter.unusedSimpArgs false

/-- What stands at every step of the walk: nothing old has turned, the drawn lists and the bytes are read. -/
structure Alls (w0 w : World) (R : List (Option Addr × List Nt2)) (B : List (Option Addr × Nat)) : Prop where
  below : Below w0.heap.size w0 w
  read : ∀ p ∈ R, RA2 w p.1 p.2
  bytes : ∀ p ∈ B, RB w p.1 p.2
theorem Alls.step {w0 w w' : World} {R : List (Option Addr × List Nt2)} {B : List (Option Addr × Nat)} (h : Alls w0 w R B) (hb : Below w.heap.size w w') : Alls w0 w' R B :=
  ⟨h.below.trans (hb.mono h.below.size), fun p hp => (h.read p hp).below hb, fun p hp => (h.bytes p hp).below hb⟩
theorem Alls.more {w0 w : World} {R : List (Option Addr × List Nt2)} {B : List (Option Addr × Nat)} (h : Alls w0 w R B) {A : Option Addr} {l : List Nt2} (hA : RA2 w A l) : Alls w0 w ((A, l) :: R) B :=
  ⟨h.below, fun p hp => by rcases List.mem_cons.1 hp with rfl | hp; exact hA; exact h.read p hp, h.bytes⟩
theorem Alls.r0 {w0 w : World} {A : Option Addr} {l : List Nt2} {R : List (Option Addr × List Nt2)} {B : List (Option Addr × Nat)} (h : Alls w0 w ((A, l) :: R) B) : RA2 w A l := h.read (A, l) (List.mem_cons_self ..)
theorem Alls.tail {w0 w : World} {p : Option Addr × List Nt2} {R : List (Option Addr × List Nt2)} {B : List (Option Addr × Nat)} (h : Alls w0 w (p :: R) B) : Alls w0 w R B := ⟨h.below, fun q hq => h.read q (List.mem_cons_of_mem _ hq), h.bytes⟩
theorem Alls.b0 {w0 w : World} {A : Option Addr} {n : Nat} {R : List (Option Addr × List Nt2)} {B : List (Option Addr × Nat)} (h : Alls w0 w R ((A, n) :: B)) : RB w A n := h.bytes (A, n) (List.mem_cons_self ..)
theorem Alls.btail {w0 w : World} {p : Option Addr × Nat} {R : List (Option Addr × List Nt2)} {B : List (Option Addr × Nat)} (h : Alls w0 w R (p :: B)) : Alls w0 w R B := ⟨h.below, h.read, fun q hq => h.bytes q (List.mem_cons_of_mem _ hq)⟩
/-- The added change's own variable. -/
structure Bx (w : World) (b : Nat) (p q : Int) : Prop where
  c0 : w.cell? ⟨b, 0, none⟩ = some (.int .i64 p)
  c1 : w.cell? ⟨b, 1, none⟩ = some (.int .i64 q)
  lt : b < w.heap.size
theorem Bx.step {w w' : World} {b : Nat} {p q : Int} (h : Bx w b p q) (hb : Below w.heap.size w w') : Bx w' b p q :=
  ⟨(hb.cell (p := ⟨b, 0, none⟩) h.lt).trans h.c0, (hb.cell (p := ⟨b, 1, none⟩) h.lt).trans h.c1, Nat.lt_of_lt_of_le h.lt hb.size⟩
theorem timeV_true {l : List Nt2} {s t : Int} (h : timeV l s = (t, true)) : goodT l = true ∧ 0 ≤ s ∧ s ≤ 2000 ∧ t = timeT l s := by
  unfold timeV at h
  split at h
  · rename_i hc
    obtain ⟨h1, h2⟩ := Bool.and_eq_true_iff.1 hc
    obtain ⟨h3, h4⟩ := inR_iff.1 h2
    simp only [Prod.mk.injEq] at h
    exact ⟨h1, h3, h4, h.1.symm⟩
  · simp at h
theorem betwV_true {l : List Nt2} {f t u : Int} (h : betwV l f t = (u, true)) : goodT l = true ∧ 0 ≤ f ∧ f ≤ 2000 ∧ 0 ≤ t ∧ t ≤ 2000 ∧ u = timeT l t - timeT l f := by
  unfold betwV at h
  split at h
  · rename_i hc
    unfold twoB at hc
    simp only [Bool.and_eq_true, decide_eq_true_eq] at hc
    obtain ⟨h1, h2, h3, h4⟩ := hc
    obtain ⟨a1, a2⟩ := inR_iff.1 h2
    obtain ⟨b1, b2⟩ := inR_iff.1 h3
    simp only [Prod.mk.injEq] at h
    exact ⟨h1, a1, a2, b1, b2, h.1.symm⟩
  · simp at h
/-- What an own row gives: its form, its address. -/
theorem own_parts {w : World} {base t : Nat} {v : Value} {l : List Nt2} (h : Own2 w base t v l) : ∃ A c, v = .slice A l.length c ∧ RA2 w A l ∧ c ≤ 9223372036854775807 ∧ AdOk A l := by
  obtain ⟨A, c, rfl, hA, _, hc⟩ := h.form'
  unfold maxLen at hc
  refine ⟨A, c, rfl, hA, hc, fun hne => ?_⟩
  obtain ⟨g, c', e⟩ := h.some (List.length_pos_iff.2 hne)
  injection e with e1 _ _
  exact ⟨g, e1⟩

set_option maxRecDepth 100000 in
set_option maxHeartbeats 16000000 in
theorem temposLaw_core (A : Option Addr) (n c : Nat) (B : Option Addr) (m d : Nat) (w : World) (hA : RB w A n) (hB : RB w B m) (hn1 : n ≤ 9223372036854775807) (hm1 : m ≤ 9223372036854775807) (hnm : wrap64 ((n : Int) + m) ≤ 1048576) :
    Calls Try.prog 3 #[.slice A n c, .slice B m d] w fun e w' => e = .returned (.bool true) ∧ Below w.heap.size w w' := by
  have H : Hid (Alls w w [] [(A, n), (B, m)]) := Lib.hid ⟨Below.refl _ _, fun p hp => by simp at hp, fun p hp => by
    rcases List.mem_cons.1 hp with rfl | hp
    · exact hA
    · obtain rfl : p = (B, m) := by simpa using hp
      exact hB⟩
  clear hA hB
  go_enter Try.func3, Try.ntmps3
  go_wp2_with fail
  refine (drawTimeOf_any A n c _ H.out.b0 (by omega)).mono ?_
  rintro e x1 ⟨v, l, s, rfl, ho, hl, hs0, hs1, hb⟩
  obtain ⟨A0, c0, rfl, hR, hc0, ha0⟩ := own_parts ho
  have H := Lib.hid ((H.out.step hb).more hR)
  clear hb ho hR
  have AH0 := ha0
  obtain ⟨t, ht⟩ : ∃ t, timeV l s = t := ⟨_, rfl⟩
  obtain ⟨t1, t2⟩ := t
  have HT := Lib.hid ht
  have C1 := Lib.hid (fun W (h : RA2 W A0 l) => implTimeV A0 l c0 W (by omega) h ha0 s)
  have C2 := Lib.hid (fun W (h : RA2 W A0 l) => specTimeV A0 l c0 W (by omega) h ha0 s)
  rw [ht] at C1 C2
  clear ht
  go_wp2_with fail
  refine (C1.out _ H.out.r0).mono ?_
  rintro e x2 ⟨rfl, hb⟩
  have H := Lib.hid (H.out.step hb)
  clear hb
  go_wp2_with fail
  refine (C2.out _ H.out.r0).mono ?_
  rintro e x3 ⟨rfl, hb⟩
  have H := Lib.hid (H.out.step hb)
  clear hb
  go_wp2_with fail
  refine (drawStepAt_any B m d _ H.out.btail.b0 (by omega)).mono ?_
  rintro e x4 ⟨v, a, at_, rfl, ho, hl1, hb⟩
  obtain ⟨A1, c1, rfl, hR, hc1, ha1⟩ := own_parts ho
  have H := Lib.hid ((H.out.step hb).more hR)
  clear hb ho hR
  obtain ⟨j, one, hone, hJ, C3, C4⟩ := stepV a at_ (by omega)
  have C3 := Lib.hid C3
  have C4 := Lib.hid C4
  have HJ := Lib.hid hJ
  have HONE := Lib.hid hone
  clear hJ hone
  go_wp2_with fail
  refine (C4.out A1 c1 _ H.out.r0 ha1).mono ?_
  rintro e x5 ⟨rfl, hb⟩
  have H := Lib.hid (H.out.step hb)
  clear hb
  go_wp2_with fail
  refine (C3.out A1 c1 _ H.out.r0 ha1).mono ?_
  rintro e x6 ⟨rfl, hb⟩
  have H := Lib.hid (H.out.step hb)
  clear hb
  go_wp2_with fail
  refine (drawTimeBetween_any B m d _ H.out.btail.b0 (by omega)).mono ?_
  rintro e x7 ⟨v, b, f, g, rfl, ho, hl2, hb⟩
  obtain ⟨A2, c2, rfl, hR, hc2, ha2⟩ := own_parts ho
  have H := Lib.hid ((H.out.step hb).more hR)
  clear hb ho hR
  obtain ⟨u, hu⟩ : ∃ u, betwV b f g = u := ⟨_, rfl⟩
  obtain ⟨u1, u2⟩ := u
  have HU := Lib.hid hu
  have C5 := Lib.hid (fun W (h : RA2 W A2 b) => implBetwV A2 b c2 W (by omega) h ha2 f g)
  have C6 := Lib.hid (fun W (h : RA2 W A2 b) => specBetwV A2 b c2 W (by omega) h ha2 f g)
  rw [hu] at C5 C6
  clear hu
  go_wp2_with fail
  refine (C5.out _ H.out.r0).mono ?_
  rintro e x8 ⟨rfl, hb⟩
  have H := Lib.hid (H.out.step hb)
  clear hb
  go_wp2_with fail
  refine (C6.out _ H.out.r0).mono ?_
  rintro e x9 ⟨rfl, hb⟩
  have H := Lib.hid (H.out.step hb)
  clear hb
  go_wp2_with fail
  refine (drawAdd_any B m d _ H.out.btail.b0 (by omega)).mono ?_
  rintro e x10 ⟨v, k, p, q, rfl, ho, hl3, hb⟩
  obtain ⟨A3, c3, rfl, hR, hc3, ha3⟩ := own_parts ho
  have H := Lib.hid ((H.out.step hb).more hR)
  clear hb ho hR
  obtain ⟨G, five, hGl, hG, C7, C8⟩ := addV k p q (by omega)
  have C7 := Lib.hid C7
  have C8 := Lib.hid C8
  have HG := Lib.hid hG
  clear hG
  have hbq : Below x10.heap.size x10 (x10.alloc (.cells #[.int .i64 p, .int .i64 q] 32)) := (Below.refl _ _).alloc (Nat.le_refl _) _
  have E : Hid (Bx (x10.alloc (.cells #[.int .i64 p, .int .i64 q] 32)) x10.heap.size p q) := Lib.hid ⟨by rw [World.cell?_alloc_new]; rfl, by rw [World.cell?_alloc_new]; rfl, by simp⟩
  have H := Lib.hid (H.out.step hbq)
  go_wp2_with fail
  generalize (x10.alloc (.cells #[.int .i64 p, .int .i64 q] 32)) = V0 at *
  clear hbq
  generalize x10.heap.size = bx at *
  refine (C8.out A3 c3 _ hc3 H.out.r0 ha3).mono ?_
  rintro e x11 ⟨v, rfl, ho, hb⟩
  obtain ⟨A4, c4, rfl, hR, hc4, ha4⟩ := own_parts ho
  have E := Lib.hid (E.out.step hb)
  have H := Lib.hid ((H.out.step hb).more hR)
  clear hb ho hR
  have k0 := E.out.c0
  have k1 := E.out.c1
  have k2 := E.out.lt
  go_wp2_with fail
  refine (C7.out A3 c3 _ hc3 H.out.tail.r0 ha3).mono ?_
  rintro e x12 ⟨v, rfl, ho, hb⟩
  clear k0 k1 k2
  obtain ⟨A5, c5, rfl, hR, hc5, ha5⟩ := own_parts ho
  have E := Lib.hid (E.out.step hb)
  have H := Lib.hid ((H.out.step hb).more hR)
  clear hb ho hR
  go_wp2_with fail
  refine (qTempos_same A4 A5 G c4 c5 _ (by omega) H.out.tail.r0 H.out.r0).mono ?_
  rintro e x13 ⟨rfl, hb⟩
  have E := Lib.hid (E.out.step hb)
  have H := Lib.hid (H.out.step hb)
  clear hb
  have H := Lib.hid H.out.tail
  cases one with
  | false =>
    cases u2 with
    | false =>
      cases five with
      | false =>
        cases t2 with
        | false =>
          go_wp2
          go_ret
          exact ⟨rfl, H.out.below⟩
        | true =>
          obtain ⟨hgl, hls0, hls1, hlt⟩ := timeV_true HT.out
          by_cases hs2 : s = 2000
          · subst hs2
            go_wp2
            go_ret
            exact ⟨rfl, H.out.below⟩
          · obtain ⟨sn, rfl⟩ : ∃ sn : Nat, s = sn := ⟨s.toNat, by omega⟩
            have hTl := goodT.tmp hgl
            have hbn := timeT_bnd hTl hls0 hls1
            have hsucc := timeT_succ hTl hls0
            have hlst := hTl.last _ (atT_lt hTl.pos (sn : Int))
            obtain ⟨j2, ok2, hok2, hJ2, _, D4⟩ := stepV l t1 (by omega)
            obtain rfl : ok2 = true := by rw [hok2, hgl, Bool.true_and]; exact decide_eq_true (by omega)
            have hj2 : j2 = sn := step_back hTl (by omega) (by rw [← hlt]; exact hJ2 rfl)
            subst hj2
            have D1 := Lib.hid (fun W (h : RA2 W A0 l) => implTempoV A0 l c0 W (by omega) h ha0 (j2 : Int))
            have D2 := Lib.hid (fun W (h : RA2 W A0 l) => specTempoV A0 l c0 W (by omega) h ha0 (j2 : Int))
            have D3 := Lib.hid (fun W (h : RA2 W A0 l) => implTimeV A0 l c0 W (by omega) h ha0 ((j2 : Int) + 1))
            have D4 := Lib.hid (fun W (h : RA2 W A0 l) => D4 A0 c0 W h ha0)
            rw [tempoV_yes hgl hls0 hls1] at D1 D2
            rw [timeV_yes hgl (by omega) (by omega), hsucc, ← hlt] at D3
            rw [← hlt] at hbn
            generalize lst l (atT l (j2 : Int)) = K at *
            clear hJ2 hok2 hsucc hlt hTl hgl
            go_wp2_with fail
            refine (D1.out _ H.out.tail.tail.tail.tail.r0).mono ?_
            rintro e x14 ⟨rfl, hb⟩
            have E := Lib.hid (E.out.step hb)
            have H := Lib.hid (H.out.step hb)
            clear hb
            go_wp2_with fail
            refine (D2.out _ H.out.tail.tail.tail.tail.r0).mono ?_
            rintro e x15 ⟨rfl, hb⟩
            have E := Lib.hid (E.out.step hb)
            have H := Lib.hid (H.out.step hb)
            clear hb
            go_wp2_with fail
            refine (D3.out _ H.out.tail.tail.tail.tail.r0).mono ?_
            rintro e x16 ⟨rfl, hb⟩
            have E := Lib.hid (E.out.step hb)
            have H := Lib.hid (H.out.step hb)
            clear hb
            go_wp2_with fail
            refine (D4.out _ H.out.tail.tail.tail.tail.r0).mono ?_
            rintro e x17 ⟨rfl, hb⟩
            have E := Lib.hid (E.out.step hb)
            have H := Lib.hid (H.out.step hb)
            clear hb
            go_wp2
            go_ret
            exact ⟨rfl, H.out.below⟩
      | true =>
        obtain ⟨_, hch, hGe, hgG⟩ := HG.out rfl
        have hp := ((chB_iff (p, q)).1 hch).1
        rw [← hGe] at hgG
        have hq : lst G (atT G p) = q := by rw [hGe]; exact add_at (by rw [← hGe]; exact hgG) hp.1
        have D5 := Lib.hid (fun W (h : RA2 W A4 G) => implTempoV A4 G c4 W (by omega) h ha4 p)
        have D6 := Lib.hid (fun W (h : RA2 W A4 G) => areTempos_any A4 G c4 W (by omega) h)
        rw [tempoV_yes hgG hp.1 hp.2, hq] at D5
        rw [hgG] at D6
        clear hch hGe hq hgG
        have k0 := E.out.c0
        have k1 := E.out.c1
        have k2 := E.out.lt
        go_wp2_with fail
        refine (D5.out _ H.out.r0).mono ?_
        rintro e x18 ⟨rfl, hb⟩
        clear k0 k1 k2
        have E := Lib.hid (E.out.step hb)
        have H := Lib.hid (H.out.step hb)
        clear hb
        have k0 := E.out.c0
        have k1 := E.out.c1
        have k2 := E.out.lt
        go_wp2_with fail
        refine (D6.out _ H.out.r0).mono ?_
        rintro e x19 ⟨rfl, hb⟩
        clear k0 k1 k2
        have E := Lib.hid (E.out.step hb)
        have H := Lib.hid (H.out.step hb)
        clear hb
        cases t2 with
        | false =>
          go_wp2
          go_ret
          exact ⟨rfl, H.out.below⟩
        | true =>
          obtain ⟨hgl, hls0, hls1, hlt⟩ := timeV_true HT.out
          by_cases hs2 : s = 2000
          · subst hs2
            go_wp2
            go_ret
            exact ⟨rfl, H.out.below⟩
          · obtain ⟨sn, rfl⟩ : ∃ sn : Nat, s = sn := ⟨s.toNat, by omega⟩
            have hTl := goodT.tmp hgl
            have hbn := timeT_bnd hTl hls0 hls1
            have hsucc := timeT_succ hTl hls0
            have hlst := hTl.last _ (atT_lt hTl.pos (sn : Int))
            obtain ⟨j2, ok2, hok2, hJ2, _, D4⟩ := stepV l t1 (by omega)
            obtain rfl : ok2 = true := by rw [hok2, hgl, Bool.true_and]; exact decide_eq_true (by omega)
            have hj2 : j2 = sn := step_back hTl (by omega) (by rw [← hlt]; exact hJ2 rfl)
            subst hj2
            have D1 := Lib.hid (fun W (h : RA2 W A0 l) => implTempoV A0 l c0 W (by omega) h ha0 (j2 : Int))
            have D2 := Lib.hid (fun W (h : RA2 W A0 l) => specTempoV A0 l c0 W (by omega) h ha0 (j2 : Int))
            have D3 := Lib.hid (fun W (h : RA2 W A0 l) => implTimeV A0 l c0 W (by omega) h ha0 ((j2 : Int) + 1))
            have D4 := Lib.hid (fun W (h : RA2 W A0 l) => D4 A0 c0 W h ha0)
            rw [tempoV_yes hgl hls0 hls1] at D1 D2
            rw [timeV_yes hgl (by omega) (by omega), hsucc, ← hlt] at D3
            rw [← hlt] at hbn
            generalize lst l (atT l (j2 : Int)) = K at *
            clear hJ2 hok2 hsucc hlt hTl hgl
            go_wp2_with fail
            refine (D1.out _ H.out.tail.tail.tail.tail.r0).mono ?_
            rintro e x20 ⟨rfl, hb⟩
            have E := Lib.hid (E.out.step hb)
            have H := Lib.hid (H.out.step hb)
            clear hb
            go_wp2_with fail
            refine (D2.out _ H.out.tail.tail.tail.tail.r0).mono ?_
            rintro e x21 ⟨rfl, hb⟩
            have E := Lib.hid (E.out.step hb)
            have H := Lib.hid (H.out.step hb)
            clear hb
            go_wp2_with fail
            refine (D3.out _ H.out.tail.tail.tail.tail.r0).mono ?_
            rintro e x22 ⟨rfl, hb⟩
            have E := Lib.hid (E.out.step hb)
            have H := Lib.hid (H.out.step hb)
            clear hb
            go_wp2_with fail
            refine (D4.out _ H.out.tail.tail.tail.tail.r0).mono ?_
            rintro e x23 ⟨rfl, hb⟩
            have E := Lib.hid (E.out.step hb)
            have H := Lib.hid (H.out.step hb)
            clear hb
            go_wp2
            go_ret
            exact ⟨rfl, H.out.below⟩
    | true =>
      obtain ⟨hgb, hf0, hf1, hg0, hg1, hu⟩ := betwV_true HU.out
      have hTb := goodT.tmp hgb
      have hbf := timeT_bnd hTb hf0 hf1
      have hbg := timeT_bnd hTb hg0 hg1
      have D7 := Lib.hid (fun W (h : RA2 W A2 b) => implTimeV A2 b c2 W (by omega) h ha2 f)
      have D8 := Lib.hid (fun W (h : RA2 W A2 b) => implTimeV A2 b c2 W (by omega) h ha2 g)
      rw [timeV_yes hgb hf0 hf1] at D7
      rw [timeV_yes hgb hg0 hg1] at D8
      generalize timeT b f = Tf at *
      generalize timeT b g = Tg at *
      have hu2 := hu
      clear hTb hgb hu
      subst hu2
      go_wp2_with fail
      refine (D7.out _ H.out.tail.tail.r0).mono ?_
      rintro e x24 ⟨rfl, hb⟩
      have E := Lib.hid (E.out.step hb)
      have H := Lib.hid (H.out.step hb)
      clear hb
      go_wp2_with fail
      refine (D8.out _ H.out.tail.tail.r0).mono ?_
      rintro e x25 ⟨rfl, hb⟩
      have E := Lib.hid (E.out.step hb)
      have H := Lib.hid (H.out.step hb)
      clear hb
      cases five with
      | false =>
        cases t2 with
        | false =>
          go_wp2
          go_ret
          exact ⟨rfl, H.out.below⟩
        | true =>
          obtain ⟨hgl, hls0, hls1, hlt⟩ := timeV_true HT.out
          by_cases hs2 : s = 2000
          · subst hs2
            go_wp2
            go_ret
            exact ⟨rfl, H.out.below⟩
          · obtain ⟨sn, rfl⟩ : ∃ sn : Nat, s = sn := ⟨s.toNat, by omega⟩
            have hTl := goodT.tmp hgl
            have hbn := timeT_bnd hTl hls0 hls1
            have hsucc := timeT_succ hTl hls0
            have hlst := hTl.last _ (atT_lt hTl.pos (sn : Int))
            obtain ⟨j2, ok2, hok2, hJ2, _, D4⟩ := stepV l t1 (by omega)
            obtain rfl : ok2 = true := by rw [hok2, hgl, Bool.true_and]; exact decide_eq_true (by omega)
            have hj2 : j2 = sn := step_back hTl (by omega) (by rw [← hlt]; exact hJ2 rfl)
            subst hj2
            have D1 := Lib.hid (fun W (h : RA2 W A0 l) => implTempoV A0 l c0 W (by omega) h ha0 (j2 : Int))
            have D2 := Lib.hid (fun W (h : RA2 W A0 l) => specTempoV A0 l c0 W (by omega) h ha0 (j2 : Int))
            have D3 := Lib.hid (fun W (h : RA2 W A0 l) => implTimeV A0 l c0 W (by omega) h ha0 ((j2 : Int) + 1))
            have D4 := Lib.hid (fun W (h : RA2 W A0 l) => D4 A0 c0 W h ha0)
            rw [tempoV_yes hgl hls0 hls1] at D1 D2
            rw [timeV_yes hgl (by omega) (by omega), hsucc, ← hlt] at D3
            rw [← hlt] at hbn
            generalize lst l (atT l (j2 : Int)) = K at *
            clear hJ2 hok2 hsucc hlt hTl hgl
            go_wp2_with fail
            refine (D1.out _ H.out.tail.tail.tail.tail.r0).mono ?_
            rintro e x26 ⟨rfl, hb⟩
            have E := Lib.hid (E.out.step hb)
            have H := Lib.hid (H.out.step hb)
            clear hb
            go_wp2_with fail
            refine (D2.out _ H.out.tail.tail.tail.tail.r0).mono ?_
            rintro e x27 ⟨rfl, hb⟩
            have E := Lib.hid (E.out.step hb)
            have H := Lib.hid (H.out.step hb)
            clear hb
            go_wp2_with fail
            refine (D3.out _ H.out.tail.tail.tail.tail.r0).mono ?_
            rintro e x28 ⟨rfl, hb⟩
            have E := Lib.hid (E.out.step hb)
            have H := Lib.hid (H.out.step hb)
            clear hb
            go_wp2_with fail
            refine (D4.out _ H.out.tail.tail.tail.tail.r0).mono ?_
            rintro e x29 ⟨rfl, hb⟩
            have E := Lib.hid (E.out.step hb)
            have H := Lib.hid (H.out.step hb)
            clear hb
            go_wp2
            go_ret
            exact ⟨rfl, H.out.below⟩
      | true =>
        obtain ⟨_, hch, hGe, hgG⟩ := HG.out rfl
        have hp := ((chB_iff (p, q)).1 hch).1
        rw [← hGe] at hgG
        have hq : lst G (atT G p) = q := by rw [hGe]; exact add_at (by rw [← hGe]; exact hgG) hp.1
        have D5 := Lib.hid (fun W (h : RA2 W A4 G) => implTempoV A4 G c4 W (by omega) h ha4 p)
        have D6 := Lib.hid (fun W (h : RA2 W A4 G) => areTempos_any A4 G c4 W (by omega) h)
        rw [tempoV_yes hgG hp.1 hp.2, hq] at D5
        rw [hgG] at D6
        clear hch hGe hq hgG
        have k0 := E.out.c0
        have k1 := E.out.c1
        have k2 := E.out.lt
        go_wp2_with fail
        refine (D5.out _ H.out.r0).mono ?_
        rintro e x30 ⟨rfl, hb⟩
        clear k0 k1 k2
        have E := Lib.hid (E.out.step hb)
        have H := Lib.hid (H.out.step hb)
        clear hb
        have k0 := E.out.c0
        have k1 := E.out.c1
        have k2 := E.out.lt
        go_wp2_with fail
        refine (D6.out _ H.out.r0).mono ?_
        rintro e x31 ⟨rfl, hb⟩
        clear k0 k1 k2
        have E := Lib.hid (E.out.step hb)
        have H := Lib.hid (H.out.step hb)
        clear hb
        cases t2 with
        | false =>
          go_wp2
          go_ret
          exact ⟨rfl, H.out.below⟩
        | true =>
          obtain ⟨hgl, hls0, hls1, hlt⟩ := timeV_true HT.out
          by_cases hs2 : s = 2000
          · subst hs2
            go_wp2
            go_ret
            exact ⟨rfl, H.out.below⟩
          · obtain ⟨sn, rfl⟩ : ∃ sn : Nat, s = sn := ⟨s.toNat, by omega⟩
            have hTl := goodT.tmp hgl
            have hbn := timeT_bnd hTl hls0 hls1
            have hsucc := timeT_succ hTl hls0
            have hlst := hTl.last _ (atT_lt hTl.pos (sn : Int))
            obtain ⟨j2, ok2, hok2, hJ2, _, D4⟩ := stepV l t1 (by omega)
            obtain rfl : ok2 = true := by rw [hok2, hgl, Bool.true_and]; exact decide_eq_true (by omega)
            have hj2 : j2 = sn := step_back hTl (by omega) (by rw [← hlt]; exact hJ2 rfl)
            subst hj2
            have D1 := Lib.hid (fun W (h : RA2 W A0 l) => implTempoV A0 l c0 W (by omega) h ha0 (j2 : Int))
            have D2 := Lib.hid (fun W (h : RA2 W A0 l) => specTempoV A0 l c0 W (by omega) h ha0 (j2 : Int))
            have D3 := Lib.hid (fun W (h : RA2 W A0 l) => implTimeV A0 l c0 W (by omega) h ha0 ((j2 : Int) + 1))
            have D4 := Lib.hid (fun W (h : RA2 W A0 l) => D4 A0 c0 W h ha0)
            rw [tempoV_yes hgl hls0 hls1] at D1 D2
            rw [timeV_yes hgl (by omega) (by omega), hsucc, ← hlt] at D3
            rw [← hlt] at hbn
            generalize lst l (atT l (j2 : Int)) = K at *
            clear hJ2 hok2 hsucc hlt hTl hgl
            go_wp2_with fail
            refine (D1.out _ H.out.tail.tail.tail.tail.r0).mono ?_
            rintro e x32 ⟨rfl, hb⟩
            have E := Lib.hid (E.out.step hb)
            have H := Lib.hid (H.out.step hb)
            clear hb
            go_wp2_with fail
            refine (D2.out _ H.out.tail.tail.tail.tail.r0).mono ?_
            rintro e x33 ⟨rfl, hb⟩
            have E := Lib.hid (E.out.step hb)
            have H := Lib.hid (H.out.step hb)
            clear hb
            go_wp2_with fail
            refine (D3.out _ H.out.tail.tail.tail.tail.r0).mono ?_
            rintro e x34 ⟨rfl, hb⟩
            have E := Lib.hid (E.out.step hb)
            have H := Lib.hid (H.out.step hb)
            clear hb
            go_wp2_with fail
            refine (D4.out _ H.out.tail.tail.tail.tail.r0).mono ?_
            rintro e x35 ⟨rfl, hb⟩
            have E := Lib.hid (E.out.step hb)
            have H := Lib.hid (H.out.step hb)
            clear hb
            go_wp2
            go_ret
            exact ⟨rfl, H.out.below⟩
  | true =>
    have hga : goodT a = true := by have := HONE.out; simp only [Bool.true_eq, Bool.and_eq_true] at this; exact this.1
    have hat : 0 ≤ at_ := by have := HONE.out; simp only [Bool.true_eq, Bool.and_eq_true, decide_eq_true_eq] at this; exact this.2
    have SJ := HJ.out rfl
    have hTa := goodT.tmp hga
    have hj0 := SJ.le
    have hle := time_le hTa SJ hat
    have D9 := Lib.hid (fun W (h : RA2 W A1 a) => implTimeV A1 a c1 W (by omega) h ha1 (j : Int))
    have D10 := Lib.hid (fun W (h : RA2 W A1 a) => specTimeV A1 a c1 W (by omega) h ha1 (j : Int))
    rw [timeV_yes hga (by omega) (by omega)] at D9 D10
    generalize timeT a (j : Int) = T1 at *
    go_wp2_with fail
    refine (D9.out _ H.out.tail.tail.tail.r0).mono ?_
    rintro e x36 ⟨rfl, hb⟩
    have E := Lib.hid (E.out.step hb)
    have H := Lib.hid (H.out.step hb)
    clear hb
    go_wp2_with fail
    refine (D10.out _ H.out.tail.tail.tail.r0).mono ?_
    rintro e x37 ⟨rfl, hb⟩
    have E := Lib.hid (E.out.step hb)
    have H := Lib.hid (H.out.step hb)
    clear hb
    by_cases hj2 : j < 2000
    · have hhi := SJ.hi hj2
      have D11 := Lib.hid (fun W (h : RA2 W A1 a) => implTimeV A1 a c1 W (by omega) h ha1 ((j : Int) + 1))
      rw [timeV_yes hga (by omega) (by omega)] at D11
      generalize timeT a ((j : Int) + 1) = T2 at *
      have hj3 : (j : Int) < 2000 := by omega
      clear SJ hTa hga
      go_wp2_with fail
      refine (D11.out _ H.out.tail.tail.tail.r0).mono ?_
      rintro e x38 ⟨rfl, hb⟩
      have E := Lib.hid (E.out.step hb)
      have H := Lib.hid (H.out.step hb)
      clear hb
      cases u2 with
      | false =>
        cases five with
        | false =>
          cases t2 with
          | false =>
            go_wp2
            go_ret
            exact ⟨rfl, H.out.below⟩
          | true =>
            obtain ⟨hgl, hls0, hls1, hlt⟩ := timeV_true HT.out
            by_cases hs2 : s = 2000
            · subst hs2
              go_wp2
              go_ret
              exact ⟨rfl, H.out.below⟩
            · obtain ⟨sn, rfl⟩ : ∃ sn : Nat, s = sn := ⟨s.toNat, by omega⟩
              have hTl := goodT.tmp hgl
              have hbn := timeT_bnd hTl hls0 hls1
              have hsucc := timeT_succ hTl hls0
              have hlst := hTl.last _ (atT_lt hTl.pos (sn : Int))
              obtain ⟨j2, ok2, hok2, hJ2, _, D4⟩ := stepV l t1 (by omega)
              obtain rfl : ok2 = true := by rw [hok2, hgl, Bool.true_and]; exact decide_eq_true (by omega)
              have hj2 : j2 = sn := step_back hTl (by omega) (by rw [← hlt]; exact hJ2 rfl)
              subst hj2
              have D1 := Lib.hid (fun W (h : RA2 W A0 l) => implTempoV A0 l c0 W (by omega) h ha0 (j2 : Int))
              have D2 := Lib.hid (fun W (h : RA2 W A0 l) => specTempoV A0 l c0 W (by omega) h ha0 (j2 : Int))
              have D3 := Lib.hid (fun W (h : RA2 W A0 l) => implTimeV A0 l c0 W (by omega) h ha0 ((j2 : Int) + 1))
              have D4 := Lib.hid (fun W (h : RA2 W A0 l) => D4 A0 c0 W h ha0)
              rw [tempoV_yes hgl hls0 hls1] at D1 D2
              rw [timeV_yes hgl (by omega) (by omega), hsucc, ← hlt] at D3
              rw [← hlt] at hbn
              generalize lst l (atT l (j2 : Int)) = K at *
              clear hJ2 hok2 hsucc hlt hTl hgl
              go_wp2_with fail
              refine (D1.out _ H.out.tail.tail.tail.tail.r0).mono ?_
              rintro e x39 ⟨rfl, hb⟩
              have E := Lib.hid (E.out.step hb)
              have H := Lib.hid (H.out.step hb)
              clear hb
              go_wp2_with fail
              refine (D2.out _ H.out.tail.tail.tail.tail.r0).mono ?_
              rintro e x40 ⟨rfl, hb⟩
              have E := Lib.hid (E.out.step hb)
              have H := Lib.hid (H.out.step hb)
              clear hb
              go_wp2_with fail
              refine (D3.out _ H.out.tail.tail.tail.tail.r0).mono ?_
              rintro e x41 ⟨rfl, hb⟩
              have E := Lib.hid (E.out.step hb)
              have H := Lib.hid (H.out.step hb)
              clear hb
              go_wp2_with fail
              refine (D4.out _ H.out.tail.tail.tail.tail.r0).mono ?_
              rintro e x42 ⟨rfl, hb⟩
              have E := Lib.hid (E.out.step hb)
              have H := Lib.hid (H.out.step hb)
              clear hb
              go_wp2
              go_ret
              exact ⟨rfl, H.out.below⟩
        | true =>
          obtain ⟨_, hch, hGe, hgG⟩ := HG.out rfl
          have hp := ((chB_iff (p, q)).1 hch).1
          rw [← hGe] at hgG
          have hq : lst G (atT G p) = q := by rw [hGe]; exact add_at (by rw [← hGe]; exact hgG) hp.1
          have D5 := Lib.hid (fun W (h : RA2 W A4 G) => implTempoV A4 G c4 W (by omega) h ha4 p)
          have D6 := Lib.hid (fun W (h : RA2 W A4 G) => areTempos_any A4 G c4 W (by omega) h)
          rw [tempoV_yes hgG hp.1 hp.2, hq] at D5
          rw [hgG] at D6
          clear hch hGe hq hgG
          have k0 := E.out.c0
          have k1 := E.out.c1
          have k2 := E.out.lt
          go_wp2_with fail
          refine (D5.out _ H.out.r0).mono ?_
          rintro e x43 ⟨rfl, hb⟩
          clear k0 k1 k2
          have E := Lib.hid (E.out.step hb)
          have H := Lib.hid (H.out.step hb)
          clear hb
          have k0 := E.out.c0
          have k1 := E.out.c1
          have k2 := E.out.lt
          go_wp2_with fail
          refine (D6.out _ H.out.r0).mono ?_
          rintro e x44 ⟨rfl, hb⟩
          clear k0 k1 k2
          have E := Lib.hid (E.out.step hb)
          have H := Lib.hid (H.out.step hb)
          clear hb
          cases t2 with
          | false =>
            go_wp2
            go_ret
            exact ⟨rfl, H.out.below⟩
          | true =>
            obtain ⟨hgl, hls0, hls1, hlt⟩ := timeV_true HT.out
            by_cases hs2 : s = 2000
            · subst hs2
              go_wp2
              go_ret
              exact ⟨rfl, H.out.below⟩
            · obtain ⟨sn, rfl⟩ : ∃ sn : Nat, s = sn := ⟨s.toNat, by omega⟩
              have hTl := goodT.tmp hgl
              have hbn := timeT_bnd hTl hls0 hls1
              have hsucc := timeT_succ hTl hls0
              have hlst := hTl.last _ (atT_lt hTl.pos (sn : Int))
              obtain ⟨j2, ok2, hok2, hJ2, _, D4⟩ := stepV l t1 (by omega)
              obtain rfl : ok2 = true := by rw [hok2, hgl, Bool.true_and]; exact decide_eq_true (by omega)
              have hj2 : j2 = sn := step_back hTl (by omega) (by rw [← hlt]; exact hJ2 rfl)
              subst hj2
              have D1 := Lib.hid (fun W (h : RA2 W A0 l) => implTempoV A0 l c0 W (by omega) h ha0 (j2 : Int))
              have D2 := Lib.hid (fun W (h : RA2 W A0 l) => specTempoV A0 l c0 W (by omega) h ha0 (j2 : Int))
              have D3 := Lib.hid (fun W (h : RA2 W A0 l) => implTimeV A0 l c0 W (by omega) h ha0 ((j2 : Int) + 1))
              have D4 := Lib.hid (fun W (h : RA2 W A0 l) => D4 A0 c0 W h ha0)
              rw [tempoV_yes hgl hls0 hls1] at D1 D2
              rw [timeV_yes hgl (by omega) (by omega), hsucc, ← hlt] at D3
              rw [← hlt] at hbn
              generalize lst l (atT l (j2 : Int)) = K at *
              clear hJ2 hok2 hsucc hlt hTl hgl
              go_wp2_with fail
              refine (D1.out _ H.out.tail.tail.tail.tail.r0).mono ?_
              rintro e x45 ⟨rfl, hb⟩
              have E := Lib.hid (E.out.step hb)
              have H := Lib.hid (H.out.step hb)
              clear hb
              go_wp2_with fail
              refine (D2.out _ H.out.tail.tail.tail.tail.r0).mono ?_
              rintro e x46 ⟨rfl, hb⟩
              have E := Lib.hid (E.out.step hb)
              have H := Lib.hid (H.out.step hb)
              clear hb
              go_wp2_with fail
              refine (D3.out _ H.out.tail.tail.tail.tail.r0).mono ?_
              rintro e x47 ⟨rfl, hb⟩
              have E := Lib.hid (E.out.step hb)
              have H := Lib.hid (H.out.step hb)
              clear hb
              go_wp2_with fail
              refine (D4.out _ H.out.tail.tail.tail.tail.r0).mono ?_
              rintro e x48 ⟨rfl, hb⟩
              have E := Lib.hid (E.out.step hb)
              have H := Lib.hid (H.out.step hb)
              clear hb
              go_wp2
              go_ret
              exact ⟨rfl, H.out.below⟩
      | true =>
        obtain ⟨hgb, hf0, hf1, hg0, hg1, hu⟩ := betwV_true HU.out
        have hTb := goodT.tmp hgb
        have hbf := timeT_bnd hTb hf0 hf1
        have hbg := timeT_bnd hTb hg0 hg1
        have D7 := Lib.hid (fun W (h : RA2 W A2 b) => implTimeV A2 b c2 W (by omega) h ha2 f)
        have D8 := Lib.hid (fun W (h : RA2 W A2 b) => implTimeV A2 b c2 W (by omega) h ha2 g)
        rw [timeV_yes hgb hf0 hf1] at D7
        rw [timeV_yes hgb hg0 hg1] at D8
        generalize timeT b f = Tf at *
        generalize timeT b g = Tg at *
        have hu2 := hu
        clear hTb hgb hu
        subst hu2
        go_wp2_with fail
        refine (D7.out _ H.out.tail.tail.r0).mono ?_
        rintro e x49 ⟨rfl, hb⟩
        have E := Lib.hid (E.out.step hb)
        have H := Lib.hid (H.out.step hb)
        clear hb
        go_wp2_with fail
        refine (D8.out _ H.out.tail.tail.r0).mono ?_
        rintro e x50 ⟨rfl, hb⟩
        have E := Lib.hid (E.out.step hb)
        have H := Lib.hid (H.out.step hb)
        clear hb
        cases five with
        | false =>
          cases t2 with
          | false =>
            go_wp2
            go_ret
            exact ⟨rfl, H.out.below⟩
          | true =>
            obtain ⟨hgl, hls0, hls1, hlt⟩ := timeV_true HT.out
            by_cases hs2 : s = 2000
            · subst hs2
              go_wp2
              go_ret
              exact ⟨rfl, H.out.below⟩
            · obtain ⟨sn, rfl⟩ : ∃ sn : Nat, s = sn := ⟨s.toNat, by omega⟩
              have hTl := goodT.tmp hgl
              have hbn := timeT_bnd hTl hls0 hls1
              have hsucc := timeT_succ hTl hls0
              have hlst := hTl.last _ (atT_lt hTl.pos (sn : Int))
              obtain ⟨j2, ok2, hok2, hJ2, _, D4⟩ := stepV l t1 (by omega)
              obtain rfl : ok2 = true := by rw [hok2, hgl, Bool.true_and]; exact decide_eq_true (by omega)
              have hj2 : j2 = sn := step_back hTl (by omega) (by rw [← hlt]; exact hJ2 rfl)
              subst hj2
              have D1 := Lib.hid (fun W (h : RA2 W A0 l) => implTempoV A0 l c0 W (by omega) h ha0 (j2 : Int))
              have D2 := Lib.hid (fun W (h : RA2 W A0 l) => specTempoV A0 l c0 W (by omega) h ha0 (j2 : Int))
              have D3 := Lib.hid (fun W (h : RA2 W A0 l) => implTimeV A0 l c0 W (by omega) h ha0 ((j2 : Int) + 1))
              have D4 := Lib.hid (fun W (h : RA2 W A0 l) => D4 A0 c0 W h ha0)
              rw [tempoV_yes hgl hls0 hls1] at D1 D2
              rw [timeV_yes hgl (by omega) (by omega), hsucc, ← hlt] at D3
              rw [← hlt] at hbn
              generalize lst l (atT l (j2 : Int)) = K at *
              clear hJ2 hok2 hsucc hlt hTl hgl
              go_wp2_with fail
              refine (D1.out _ H.out.tail.tail.tail.tail.r0).mono ?_
              rintro e x51 ⟨rfl, hb⟩
              have E := Lib.hid (E.out.step hb)
              have H := Lib.hid (H.out.step hb)
              clear hb
              go_wp2_with fail
              refine (D2.out _ H.out.tail.tail.tail.tail.r0).mono ?_
              rintro e x52 ⟨rfl, hb⟩
              have E := Lib.hid (E.out.step hb)
              have H := Lib.hid (H.out.step hb)
              clear hb
              go_wp2_with fail
              refine (D3.out _ H.out.tail.tail.tail.tail.r0).mono ?_
              rintro e x53 ⟨rfl, hb⟩
              have E := Lib.hid (E.out.step hb)
              have H := Lib.hid (H.out.step hb)
              clear hb
              go_wp2_with fail
              refine (D4.out _ H.out.tail.tail.tail.tail.r0).mono ?_
              rintro e x54 ⟨rfl, hb⟩
              have E := Lib.hid (E.out.step hb)
              have H := Lib.hid (H.out.step hb)
              clear hb
              go_wp2
              go_ret
              exact ⟨rfl, H.out.below⟩
        | true =>
          obtain ⟨_, hch, hGe, hgG⟩ := HG.out rfl
          have hp := ((chB_iff (p, q)).1 hch).1
          rw [← hGe] at hgG
          have hq : lst G (atT G p) = q := by rw [hGe]; exact add_at (by rw [← hGe]; exact hgG) hp.1
          have D5 := Lib.hid (fun W (h : RA2 W A4 G) => implTempoV A4 G c4 W (by omega) h ha4 p)
          have D6 := Lib.hid (fun W (h : RA2 W A4 G) => areTempos_any A4 G c4 W (by omega) h)
          rw [tempoV_yes hgG hp.1 hp.2, hq] at D5
          rw [hgG] at D6
          clear hch hGe hq hgG
          have k0 := E.out.c0
          have k1 := E.out.c1
          have k2 := E.out.lt
          go_wp2_with fail
          refine (D5.out _ H.out.r0).mono ?_
          rintro e x55 ⟨rfl, hb⟩
          clear k0 k1 k2
          have E := Lib.hid (E.out.step hb)
          have H := Lib.hid (H.out.step hb)
          clear hb
          have k0 := E.out.c0
          have k1 := E.out.c1
          have k2 := E.out.lt
          go_wp2_with fail
          refine (D6.out _ H.out.r0).mono ?_
          rintro e x56 ⟨rfl, hb⟩
          clear k0 k1 k2
          have E := Lib.hid (E.out.step hb)
          have H := Lib.hid (H.out.step hb)
          clear hb
          cases t2 with
          | false =>
            go_wp2
            go_ret
            exact ⟨rfl, H.out.below⟩
          | true =>
            obtain ⟨hgl, hls0, hls1, hlt⟩ := timeV_true HT.out
            by_cases hs2 : s = 2000
            · subst hs2
              go_wp2
              go_ret
              exact ⟨rfl, H.out.below⟩
            · obtain ⟨sn, rfl⟩ : ∃ sn : Nat, s = sn := ⟨s.toNat, by omega⟩
              have hTl := goodT.tmp hgl
              have hbn := timeT_bnd hTl hls0 hls1
              have hsucc := timeT_succ hTl hls0
              have hlst := hTl.last _ (atT_lt hTl.pos (sn : Int))
              obtain ⟨j2, ok2, hok2, hJ2, _, D4⟩ := stepV l t1 (by omega)
              obtain rfl : ok2 = true := by rw [hok2, hgl, Bool.true_and]; exact decide_eq_true (by omega)
              have hj2 : j2 = sn := step_back hTl (by omega) (by rw [← hlt]; exact hJ2 rfl)
              subst hj2
              have D1 := Lib.hid (fun W (h : RA2 W A0 l) => implTempoV A0 l c0 W (by omega) h ha0 (j2 : Int))
              have D2 := Lib.hid (fun W (h : RA2 W A0 l) => specTempoV A0 l c0 W (by omega) h ha0 (j2 : Int))
              have D3 := Lib.hid (fun W (h : RA2 W A0 l) => implTimeV A0 l c0 W (by omega) h ha0 ((j2 : Int) + 1))
              have D4 := Lib.hid (fun W (h : RA2 W A0 l) => D4 A0 c0 W h ha0)
              rw [tempoV_yes hgl hls0 hls1] at D1 D2
              rw [timeV_yes hgl (by omega) (by omega), hsucc, ← hlt] at D3
              rw [← hlt] at hbn
              generalize lst l (atT l (j2 : Int)) = K at *
              clear hJ2 hok2 hsucc hlt hTl hgl
              go_wp2_with fail
              refine (D1.out _ H.out.tail.tail.tail.tail.r0).mono ?_
              rintro e x57 ⟨rfl, hb⟩
              have E := Lib.hid (E.out.step hb)
              have H := Lib.hid (H.out.step hb)
              clear hb
              go_wp2_with fail
              refine (D2.out _ H.out.tail.tail.tail.tail.r0).mono ?_
              rintro e x58 ⟨rfl, hb⟩
              have E := Lib.hid (E.out.step hb)
              have H := Lib.hid (H.out.step hb)
              clear hb
              go_wp2_with fail
              refine (D3.out _ H.out.tail.tail.tail.tail.r0).mono ?_
              rintro e x59 ⟨rfl, hb⟩
              have E := Lib.hid (E.out.step hb)
              have H := Lib.hid (H.out.step hb)
              clear hb
              go_wp2_with fail
              refine (D4.out _ H.out.tail.tail.tail.tail.r0).mono ?_
              rintro e x60 ⟨rfl, hb⟩
              have E := Lib.hid (E.out.step hb)
              have H := Lib.hid (H.out.step hb)
              clear hb
              go_wp2
              go_ret
              exact ⟨rfl, H.out.below⟩
    · obtain rfl : j = 2000 := by omega
      clear SJ hTa hga
      cases u2 with
      | false =>
        cases five with
        | false =>
          cases t2 with
          | false =>
            go_wp2
            go_ret
            exact ⟨rfl, H.out.below⟩
          | true =>
            obtain ⟨hgl, hls0, hls1, hlt⟩ := timeV_true HT.out
            by_cases hs2 : s = 2000
            · subst hs2
              go_wp2
              go_ret
              exact ⟨rfl, H.out.below⟩
            · obtain ⟨sn, rfl⟩ : ∃ sn : Nat, s = sn := ⟨s.toNat, by omega⟩
              have hTl := goodT.tmp hgl
              have hbn := timeT_bnd hTl hls0 hls1
              have hsucc := timeT_succ hTl hls0
              have hlst := hTl.last _ (atT_lt hTl.pos (sn : Int))
              obtain ⟨j2, ok2, hok2, hJ2, _, D4⟩ := stepV l t1 (by omega)
              obtain rfl : ok2 = true := by rw [hok2, hgl, Bool.true_and]; exact decide_eq_true (by omega)
              have hj2 : j2 = sn := step_back hTl (by omega) (by rw [← hlt]; exact hJ2 rfl)
              subst hj2
              have D1 := Lib.hid (fun W (h : RA2 W A0 l) => implTempoV A0 l c0 W (by omega) h ha0 (j2 : Int))
              have D2 := Lib.hid (fun W (h : RA2 W A0 l) => specTempoV A0 l c0 W (by omega) h ha0 (j2 : Int))
              have D3 := Lib.hid (fun W (h : RA2 W A0 l) => implTimeV A0 l c0 W (by omega) h ha0 ((j2 : Int) + 1))
              have D4 := Lib.hid (fun W (h : RA2 W A0 l) => D4 A0 c0 W h ha0)
              rw [tempoV_yes hgl hls0 hls1] at D1 D2
              rw [timeV_yes hgl (by omega) (by omega), hsucc, ← hlt] at D3
              rw [← hlt] at hbn
              generalize lst l (atT l (j2 : Int)) = K at *
              clear hJ2 hok2 hsucc hlt hTl hgl
              go_wp2_with fail
              refine (D1.out _ H.out.tail.tail.tail.tail.r0).mono ?_
              rintro e x61 ⟨rfl, hb⟩
              have E := Lib.hid (E.out.step hb)
              have H := Lib.hid (H.out.step hb)
              clear hb
              go_wp2_with fail
              refine (D2.out _ H.out.tail.tail.tail.tail.r0).mono ?_
              rintro e x62 ⟨rfl, hb⟩
              have E := Lib.hid (E.out.step hb)
              have H := Lib.hid (H.out.step hb)
              clear hb
              go_wp2_with fail
              refine (D3.out _ H.out.tail.tail.tail.tail.r0).mono ?_
              rintro e x63 ⟨rfl, hb⟩
              have E := Lib.hid (E.out.step hb)
              have H := Lib.hid (H.out.step hb)
              clear hb
              go_wp2_with fail
              refine (D4.out _ H.out.tail.tail.tail.tail.r0).mono ?_
              rintro e x64 ⟨rfl, hb⟩
              have E := Lib.hid (E.out.step hb)
              have H := Lib.hid (H.out.step hb)
              clear hb
              go_wp2
              go_ret
              exact ⟨rfl, H.out.below⟩
        | true =>
          obtain ⟨_, hch, hGe, hgG⟩ := HG.out rfl
          have hp := ((chB_iff (p, q)).1 hch).1
          rw [← hGe] at hgG
          have hq : lst G (atT G p) = q := by rw [hGe]; exact add_at (by rw [← hGe]; exact hgG) hp.1
          have D5 := Lib.hid (fun W (h : RA2 W A4 G) => implTempoV A4 G c4 W (by omega) h ha4 p)
          have D6 := Lib.hid (fun W (h : RA2 W A4 G) => areTempos_any A4 G c4 W (by omega) h)
          rw [tempoV_yes hgG hp.1 hp.2, hq] at D5
          rw [hgG] at D6
          clear hch hGe hq hgG
          have k0 := E.out.c0
          have k1 := E.out.c1
          have k2 := E.out.lt
          go_wp2_with fail
          refine (D5.out _ H.out.r0).mono ?_
          rintro e x65 ⟨rfl, hb⟩
          clear k0 k1 k2
          have E := Lib.hid (E.out.step hb)
          have H := Lib.hid (H.out.step hb)
          clear hb
          have k0 := E.out.c0
          have k1 := E.out.c1
          have k2 := E.out.lt
          go_wp2_with fail
          refine (D6.out _ H.out.r0).mono ?_
          rintro e x66 ⟨rfl, hb⟩
          clear k0 k1 k2
          have E := Lib.hid (E.out.step hb)
          have H := Lib.hid (H.out.step hb)
          clear hb
          cases t2 with
          | false =>
            go_wp2
            go_ret
            exact ⟨rfl, H.out.below⟩
          | true =>
            obtain ⟨hgl, hls0, hls1, hlt⟩ := timeV_true HT.out
            by_cases hs2 : s = 2000
            · subst hs2
              go_wp2
              go_ret
              exact ⟨rfl, H.out.below⟩
            · obtain ⟨sn, rfl⟩ : ∃ sn : Nat, s = sn := ⟨s.toNat, by omega⟩
              have hTl := goodT.tmp hgl
              have hbn := timeT_bnd hTl hls0 hls1
              have hsucc := timeT_succ hTl hls0
              have hlst := hTl.last _ (atT_lt hTl.pos (sn : Int))
              obtain ⟨j2, ok2, hok2, hJ2, _, D4⟩ := stepV l t1 (by omega)
              obtain rfl : ok2 = true := by rw [hok2, hgl, Bool.true_and]; exact decide_eq_true (by omega)
              have hj2 : j2 = sn := step_back hTl (by omega) (by rw [← hlt]; exact hJ2 rfl)
              subst hj2
              have D1 := Lib.hid (fun W (h : RA2 W A0 l) => implTempoV A0 l c0 W (by omega) h ha0 (j2 : Int))
              have D2 := Lib.hid (fun W (h : RA2 W A0 l) => specTempoV A0 l c0 W (by omega) h ha0 (j2 : Int))
              have D3 := Lib.hid (fun W (h : RA2 W A0 l) => implTimeV A0 l c0 W (by omega) h ha0 ((j2 : Int) + 1))
              have D4 := Lib.hid (fun W (h : RA2 W A0 l) => D4 A0 c0 W h ha0)
              rw [tempoV_yes hgl hls0 hls1] at D1 D2
              rw [timeV_yes hgl (by omega) (by omega), hsucc, ← hlt] at D3
              rw [← hlt] at hbn
              generalize lst l (atT l (j2 : Int)) = K at *
              clear hJ2 hok2 hsucc hlt hTl hgl
              go_wp2_with fail
              refine (D1.out _ H.out.tail.tail.tail.tail.r0).mono ?_
              rintro e x67 ⟨rfl, hb⟩
              have E := Lib.hid (E.out.step hb)
              have H := Lib.hid (H.out.step hb)
              clear hb
              go_wp2_with fail
              refine (D2.out _ H.out.tail.tail.tail.tail.r0).mono ?_
              rintro e x68 ⟨rfl, hb⟩
              have E := Lib.hid (E.out.step hb)
              have H := Lib.hid (H.out.step hb)
              clear hb
              go_wp2_with fail
              refine (D3.out _ H.out.tail.tail.tail.tail.r0).mono ?_
              rintro e x69 ⟨rfl, hb⟩
              have E := Lib.hid (E.out.step hb)
              have H := Lib.hid (H.out.step hb)
              clear hb
              go_wp2_with fail
              refine (D4.out _ H.out.tail.tail.tail.tail.r0).mono ?_
              rintro e x70 ⟨rfl, hb⟩
              have E := Lib.hid (E.out.step hb)
              have H := Lib.hid (H.out.step hb)
              clear hb
              go_wp2
              go_ret
              exact ⟨rfl, H.out.below⟩
      | true =>
        obtain ⟨hgb, hf0, hf1, hg0, hg1, hu⟩ := betwV_true HU.out
        have hTb := goodT.tmp hgb
        have hbf := timeT_bnd hTb hf0 hf1
        have hbg := timeT_bnd hTb hg0 hg1
        have D7 := Lib.hid (fun W (h : RA2 W A2 b) => implTimeV A2 b c2 W (by omega) h ha2 f)
        have D8 := Lib.hid (fun W (h : RA2 W A2 b) => implTimeV A2 b c2 W (by omega) h ha2 g)
        rw [timeV_yes hgb hf0 hf1] at D7
        rw [timeV_yes hgb hg0 hg1] at D8
        generalize timeT b f = Tf at *
        generalize timeT b g = Tg at *
        have hu2 := hu
        clear hTb hgb hu
        subst hu2
        go_wp2_with fail
        refine (D7.out _ H.out.tail.tail.r0).mono ?_
        rintro e x71 ⟨rfl, hb⟩
        have E := Lib.hid (E.out.step hb)
        have H := Lib.hid (H.out.step hb)
        clear hb
        go_wp2_with fail
        refine (D8.out _ H.out.tail.tail.r0).mono ?_
        rintro e x72 ⟨rfl, hb⟩
        have E := Lib.hid (E.out.step hb)
        have H := Lib.hid (H.out.step hb)
        clear hb
        cases five with
        | false =>
          cases t2 with
          | false =>
            go_wp2
            go_ret
            exact ⟨rfl, H.out.below⟩
          | true =>
            obtain ⟨hgl, hls0, hls1, hlt⟩ := timeV_true HT.out
            by_cases hs2 : s = 2000
            · subst hs2
              go_wp2
              go_ret
              exact ⟨rfl, H.out.below⟩
            · obtain ⟨sn, rfl⟩ : ∃ sn : Nat, s = sn := ⟨s.toNat, by omega⟩
              have hTl := goodT.tmp hgl
              have hbn := timeT_bnd hTl hls0 hls1
              have hsucc := timeT_succ hTl hls0
              have hlst := hTl.last _ (atT_lt hTl.pos (sn : Int))
              obtain ⟨j2, ok2, hok2, hJ2, _, D4⟩ := stepV l t1 (by omega)
              obtain rfl : ok2 = true := by rw [hok2, hgl, Bool.true_and]; exact decide_eq_true (by omega)
              have hj2 : j2 = sn := step_back hTl (by omega) (by rw [← hlt]; exact hJ2 rfl)
              subst hj2
              have D1 := Lib.hid (fun W (h : RA2 W A0 l) => implTempoV A0 l c0 W (by omega) h ha0 (j2 : Int))
              have D2 := Lib.hid (fun W (h : RA2 W A0 l) => specTempoV A0 l c0 W (by omega) h ha0 (j2 : Int))
              have D3 := Lib.hid (fun W (h : RA2 W A0 l) => implTimeV A0 l c0 W (by omega) h ha0 ((j2 : Int) + 1))
              have D4 := Lib.hid (fun W (h : RA2 W A0 l) => D4 A0 c0 W h ha0)
              rw [tempoV_yes hgl hls0 hls1] at D1 D2
              rw [timeV_yes hgl (by omega) (by omega), hsucc, ← hlt] at D3
              rw [← hlt] at hbn
              generalize lst l (atT l (j2 : Int)) = K at *
              clear hJ2 hok2 hsucc hlt hTl hgl
              go_wp2_with fail
              refine (D1.out _ H.out.tail.tail.tail.tail.r0).mono ?_
              rintro e x73 ⟨rfl, hb⟩
              have E := Lib.hid (E.out.step hb)
              have H := Lib.hid (H.out.step hb)
              clear hb
              go_wp2_with fail
              refine (D2.out _ H.out.tail.tail.tail.tail.r0).mono ?_
              rintro e x74 ⟨rfl, hb⟩
              have E := Lib.hid (E.out.step hb)
              have H := Lib.hid (H.out.step hb)
              clear hb
              go_wp2_with fail
              refine (D3.out _ H.out.tail.tail.tail.tail.r0).mono ?_
              rintro e x75 ⟨rfl, hb⟩
              have E := Lib.hid (E.out.step hb)
              have H := Lib.hid (H.out.step hb)
              clear hb
              go_wp2_with fail
              refine (D4.out _ H.out.tail.tail.tail.tail.r0).mono ?_
              rintro e x76 ⟨rfl, hb⟩
              have E := Lib.hid (E.out.step hb)
              have H := Lib.hid (H.out.step hb)
              clear hb
              go_wp2
              go_ret
              exact ⟨rfl, H.out.below⟩
        | true =>
          obtain ⟨_, hch, hGe, hgG⟩ := HG.out rfl
          have hp := ((chB_iff (p, q)).1 hch).1
          rw [← hGe] at hgG
          have hq : lst G (atT G p) = q := by rw [hGe]; exact add_at (by rw [← hGe]; exact hgG) hp.1
          have D5 := Lib.hid (fun W (h : RA2 W A4 G) => implTempoV A4 G c4 W (by omega) h ha4 p)
          have D6 := Lib.hid (fun W (h : RA2 W A4 G) => areTempos_any A4 G c4 W (by omega) h)
          rw [tempoV_yes hgG hp.1 hp.2, hq] at D5
          rw [hgG] at D6
          clear hch hGe hq hgG
          have k0 := E.out.c0
          have k1 := E.out.c1
          have k2 := E.out.lt
          go_wp2_with fail
          refine (D5.out _ H.out.r0).mono ?_
          rintro e x77 ⟨rfl, hb⟩
          clear k0 k1 k2
          have E := Lib.hid (E.out.step hb)
          have H := Lib.hid (H.out.step hb)
          clear hb
          have k0 := E.out.c0
          have k1 := E.out.c1
          have k2 := E.out.lt
          go_wp2_with fail
          refine (D6.out _ H.out.r0).mono ?_
          rintro e x78 ⟨rfl, hb⟩
          clear k0 k1 k2
          have E := Lib.hid (E.out.step hb)
          have H := Lib.hid (H.out.step hb)
          clear hb
          cases t2 with
          | false =>
            go_wp2
            go_ret
            exact ⟨rfl, H.out.below⟩
          | true =>
            obtain ⟨hgl, hls0, hls1, hlt⟩ := timeV_true HT.out
            by_cases hs2 : s = 2000
            · subst hs2
              go_wp2
              go_ret
              exact ⟨rfl, H.out.below⟩
            · obtain ⟨sn, rfl⟩ : ∃ sn : Nat, s = sn := ⟨s.toNat, by omega⟩
              have hTl := goodT.tmp hgl
              have hbn := timeT_bnd hTl hls0 hls1
              have hsucc := timeT_succ hTl hls0
              have hlst := hTl.last _ (atT_lt hTl.pos (sn : Int))
              obtain ⟨j2, ok2, hok2, hJ2, _, D4⟩ := stepV l t1 (by omega)
              obtain rfl : ok2 = true := by rw [hok2, hgl, Bool.true_and]; exact decide_eq_true (by omega)
              have hj2 : j2 = sn := step_back hTl (by omega) (by rw [← hlt]; exact hJ2 rfl)
              subst hj2
              have D1 := Lib.hid (fun W (h : RA2 W A0 l) => implTempoV A0 l c0 W (by omega) h ha0 (j2 : Int))
              have D2 := Lib.hid (fun W (h : RA2 W A0 l) => specTempoV A0 l c0 W (by omega) h ha0 (j2 : Int))
              have D3 := Lib.hid (fun W (h : RA2 W A0 l) => implTimeV A0 l c0 W (by omega) h ha0 ((j2 : Int) + 1))
              have D4 := Lib.hid (fun W (h : RA2 W A0 l) => D4 A0 c0 W h ha0)
              rw [tempoV_yes hgl hls0 hls1] at D1 D2
              rw [timeV_yes hgl (by omega) (by omega), hsucc, ← hlt] at D3
              rw [← hlt] at hbn
              generalize lst l (atT l (j2 : Int)) = K at *
              clear hJ2 hok2 hsucc hlt hTl hgl
              go_wp2_with fail
              refine (D1.out _ H.out.tail.tail.tail.tail.r0).mono ?_
              rintro e x79 ⟨rfl, hb⟩
              have E := Lib.hid (E.out.step hb)
              have H := Lib.hid (H.out.step hb)
              clear hb
              go_wp2_with fail
              refine (D2.out _ H.out.tail.tail.tail.tail.r0).mono ?_
              rintro e x80 ⟨rfl, hb⟩
              have E := Lib.hid (E.out.step hb)
              have H := Lib.hid (H.out.step hb)
              clear hb
              go_wp2_with fail
              refine (D3.out _ H.out.tail.tail.tail.tail.r0).mono ?_
              rintro e x81 ⟨rfl, hb⟩
              have E := Lib.hid (E.out.step hb)
              have H := Lib.hid (H.out.step hb)
              clear hb
              go_wp2_with fail
              refine (D4.out _ H.out.tail.tail.tail.tail.r0).mono ?_
              rintro e x82 ⟨rfl, hb⟩
              have E := Lib.hid (E.out.step hb)
              have H := Lib.hid (H.out.step hb)
              clear hb
              go_wp2
              go_ret
              exact ⟨rfl, H.out.below⟩
end Go.Proofs.Ytakmlgkcinjecaa
