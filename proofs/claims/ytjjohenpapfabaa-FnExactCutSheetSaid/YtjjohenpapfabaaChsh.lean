/- Contracts: sheets moved, reversed, mirrored and cut: the program's one way for all of them. -/
import Derived.Test.YtjjohenpapfabaaOrd
import Derived.Test.YtjjohenpapfabaaKinds
import Derived.Test.YtjjohenpapfabaaHoleApp
namespace Go.Proofs.Ytjjohenpapfabaa
open Go.RowKit Go.Sort
set_option linter.unusedVariables false
set_option linter.unusedSimpArgs false

theorem heap_two (W : World) (x y : Obj) : ((W.alloc x).alloc y).heap[W.heap.size + 1]? = some y := by
  have := heap_alloc_new (W.alloc x) y
  simpa using this

set_option maxRecDepth 100000 in
set_option maxHeartbeats 4000000 in
theorem changeSheet_any (T K : Nat) (r : Value) (sb : Bool) (g : Nt → Nt) (A : Option Addr) (l : List Nt) (c : Nat) (w : World) (hn : l.length ≤ 1048576) (hA : RA w A l)
    (hm : ∀ w : World, (method 247 T r "loop.example/g00949/impl.suits").run Try.prog w = .ok (K, r) w)
    (he : ∀ (args : Array Value) (w : World), (callFunc K args).run Try.prog w = .ok (.enter K args) w)
    (hs : Hid (goodB l = true → ∀ W : World, RA W A l → Calls Try.prog K #[r, .slice A l.length c] W fun e w' => e = .returned (.bool sb) ∧ Below W.heap.size W w'))
    (hg : Hid (goodB l = true → sb = true → ∀ (x : Nt) (W : World), x ∈ l → Calls Try.prog 92 #[.agg #[.int .i64 x.1, .int .i64 x.2.1, .int .i64 x.2.2], .iface T r] W fun e w' => e = .returned (.tuple #[.agg #[.int .i64 (g x).1, .int .i64 (g x).2.1, .int .i64 (g x).2.2], .bool (decide ((g x).2.1 < (g x).2.2))]) ∧ Below W.heap.size W w')) :
    Calls Try.prog 79 #[.slice A l.length c, .iface T r] w fun e w' => RetScore w (canon (chgL g l)) (goodB l && (sb && goodB (canon (chgL g l)))) e w' := by
  cases hgb : goodB l with
  | false =>
    have HG := isSheet_quick A l c false hn hgb
    clear hgb hs hg
    go_enter Try.func79, Try.ntmps79
    go_wp2_with (go_at_call 28; refine (HG.out _ hA).mono ?_; rintro e w1 ⟨rfl, hb1⟩)
    go_ret2
    exact ⟨_, rfl, by simpa using Own.nil _ _ _, hb1⟩
  | true =>
    have h60 := ((goodB_iff l).1 hgb).2
    have HG := isSheet_quick A l c true hn hgb
    have HS := Lib.hid (hs.out hgb)
    have HCH := Lib.hid (hg.out hgb)
    clear hgb hs hg
    cases sb with
    | false =>
      go_enter Try.func79, Try.ntmps79
      go_wp2_with fail
      refine (HG.out _ hA).mono ?_
      rintro e w1 ⟨rfl, hb1⟩
      go_wp2_with fail
      refine (HS.out _ (hA.below hb1)).mono ?_
      rintro e w2 ⟨rfl, hb2⟩
      go_wp2
      go_ret2
      exact ⟨_, rfl, by simpa using Own.nil _ _ _, hb1.trans (hb2.mono hb1.size)⟩
    | true =>
      have HCC := Lib.hid (HCH.out rfl)
      clear HCH
      go_enter Try.func79, Try.ntmps79
      go_wp2_with fail
      refine (HG.out _ hA).mono ?_
      rintro e w1 ⟨rfl, hb1⟩
      go_wp2_with fail
      refine (HS.out _ (hA.below hb1)).mono ?_
      rintro e w2 ⟨rfl, hb2⟩
      have hB2 := hb1.trans (hb2.mono hb1.size)
      have hA2 := hA.below hB2
      have HB2 := Lib.hid hB2
      clear hA hb1 hb2 hB2 hm
      go_wp2
      go_loopw [6, 22] (fun a i wr => ∃ (k : Nat) (v : Value), k ≤ l.length ∧ i = .int .i64 k ∧ a = v ∧ Own wr w2.heap.size 34 v (chgL g (l.take k)) ∧ Below w2.heap.size w2 wr)
        (fun _ i _ => l.length - (intOf i).toNat)
      case atStart => exact ⟨0, _, Nat.zero_le _, rfl, rfl, by simpa [chgL] using Own.nil _ _ _, Below.refl _ _⟩
      case round =>
        obtain ⟨k, v, hk, rfl, hvv, hown, hb⟩ := hrel
        replace hvv := hvv.symm
        subst hvv
        by_cases hkl : k < l.length
        · have hx : l[k]? = some l[k] := List.getElem?_eq_getElem hkl
          generalize l[k] = x at hx
          have hsn := chgL_snoc g l k x hx
          have HX : Hid (x ∈ l) := Lib.hid (List.mem_iff_getElem?.2 ⟨k, hx⟩)
          have hlen : (chgL g (l.take k)).length ≤ 60 := by have := chgL_length g (l.take k); simp at this; omega
          obtain ⟨g1, o, rfl, hgb, h0, h1, h2⟩ := (hA2.below hb) k _ hx
          obtain ⟨p, s, n⟩ := x
          simp only at h0 h1 h2
          have i1 : (0 : Int) ≤ (k : Int) := by omega
          have i2 : (k : Int) < (l.length : Int) := by omega
          have HSN := Lib.hid hsn
          have HO := Lib.hid hown
          have HLEN := Lib.hid hlen
          clear hsn hx hown hlen
          go_wp2_with fail
          refine (HCC.out (p, s, n) _ HX.out).mono ?_
          rintro e w3 ⟨rfl, hb3⟩
          have hb3' : Below w2.heap.size w2 w3 := (hb.alloc hb.size _).trans (hb3.mono (by simp; have := hb.size; omega))
          have HO3 := Lib.hid (HO.out.below (((Below.refl _ _).alloc (Nat.le_refl _) _).trans (hb3.mono (by simp))) (Nat.le_refl _))
          generalize g (p, s, n) = y at *
          obtain ⟨a1, a2, a3⟩ := y
          simp only at HSN ⊢
          clear hb3 HO h0 h1 h2
          by_cases hlt : a2 < a3
          · have hd : decide (a2 < a3) = true := decide_eq_true hlt
            have HSN' := Lib.hid (HSN.out.trans (by rw [if_pos hlt]))
            clear HSN
            rw [hd]
            go_wp2_with (at_builtin; refine wpList_appHole _ rfl (.tmp 33) (.tmp 35) rfl w2.heap.size v _ rfl ((HO3.out.alloc _).alloc _) (some ⟨w3.heap.size + 1, 0, none⟩) 1 1 [(a1, a2, a3)] rfl rfl (fun h => by cases h) (RA.one (heap_two _ _ _)) (by have := HLEN.out; omega) (by simp; have := hb3'.size; omega) ?_; intro v4 w4 ho4 hg4; have HO4 := Lib.hid ho4; have HB4 := Lib.hid (((hb3'.alloc hb3'.size _).alloc (by simp; have := hb3'.size; omega) _).grown hg4 (by simp; have := hb3'.size; omega) (fun j hj => (HO3.out.lt j hj).1)); clear ho4 hg4)
            go_roundw
            case rel => exact ⟨k + 1, _, by omega, by go_num, rfl, by rw [HSN'.out]; exact HO4.out, HB4.out⟩
            case measure => simp [intOf]; omega
          · have hd : decide (a2 < a3) = false := decide_eq_false hlt
            have HSN' := Lib.hid (HSN.out.trans (by rw [if_neg hlt, List.append_nil]))
            clear HSN
            rw [hd]
            go_wp2
            go_roundw
            case rel => exact ⟨k + 1, _, by omega, by go_num, rfl, by rw [HSN'.out]; exact HO3.out.alloc _, hb3'.alloc hb3'.size _⟩
            case measure => simp [intOf]; omega
        · obtain rfl : k = l.length := by omega
          rw [List.take_length] at hown
          have hlen : (chgL g l).length ≤ 1000000 := by have := chgL_length g l; omega
          have hbs := hb.size
          go_wp2_with fail
          refine (ordered_any _ (chgL g l) w2.heap.size _ hlen hown hbs).mono ?_
          rintro e w3 ⟨u, rfl, ho3, hb3⟩
          have hb3' := hb.trans hb3
          go_wp2
          go_ret2
          exact RetScore.mono (B' := w2) ⟨_, rfl, by simpa using ho3, hb3'⟩ HB2.out
end Go.Proofs.Ytjjohenpapfabaa
