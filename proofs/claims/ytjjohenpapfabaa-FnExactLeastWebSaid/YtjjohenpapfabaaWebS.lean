/- Contracts: LeastWeb of the model and of the program. -/
import Derived.Test.YtjjohenpapfabaaQuick
import Derived.Test.YtjjohenpapfabaaWebP
import Derived.Test.YtjjohenpapfabaaShP
import Derived.Test.YtjjohenpapfabaaRows3
import Derived.LoopTactic
import Derived.Deep.Onto
import Derived.Deep.DeepCutAuto
import Derived.OwnWalk
namespace Go.Proofs.Ytjjohenpapfabaa
open Go.RowKit Go.Maps
set_option linter.unusedVariables false
set_option linter.unusedSimpArgs false

theorem mapLaw : Keyed Try.prog 3 := int_keyed Try.underlying3
theorem zeroInt (w : World) : (zeroValue 3).run Try.prog w = .ok (.int .i64 0) w := by kernel_rfl
theorem wf64 (z : Int) (h : -1000000 ≤ z) (h' : z ≤ 1000000) : (Lit.int .i64 z).wf = true := WalkArith.wf_i64 (by omega)
theorem keyI (p : Int) (h : -1000000 ≤ p) (h' : p ≤ 1000000) : keyOf Try.prog 3 (.int .i64 p) = some (.int .i64 p) := keyOf_int_mk Try.underlying3 (wf64 p h h')

set_option maxRecDepth 100000 in
set_option maxHeartbeats 4000000 in
theorem shWeb_any (A : Option Addr) (l : List Nt) (c : Nat) (w : World) (hc : l.length ≤ c) (hc' : c ≤ 9223372036854775807) (hA : RA w A l) (hGd : Good l) :
    Calls Try.prog 78 #[.slice A l.length c] w fun e w' => e = .returned (.int .i64 (webTo l l.length)) ∧ Below w.heap.size w w' := by
  have h60 := hGd.2
  have hG := Lib.hid hGd
  clear hGd
  go_enter Try.func78, Try.ntmps78
  go_wp2
  go_loopw [3, 10] (fun a i wr => ∃ k : Nat, k ≤ l.length ∧ i = .int .i64 k ∧ a = .int .i64 (webTo l k) ∧ Below w.heap.size w wr)
    (fun _ i _ => l.length - (intOf i).toNat)
  case atStart => exact ⟨0, Nat.zero_le _, rfl, rfl, Below.refl _ _⟩
  case round =>
    obtain ⟨k, hk, rfl, rfl, hb⟩ := hrel
    by_cases hlt : k < l.length
    · have hx : l[k]? = some l[k] := List.getElem?_eq_getElem hlt
      generalize l[k] = x at hx
      have hvx := (noteN_iff x).1 (hG.out.valid x (List.mem_iff_getElem?.2 ⟨k, hx⟩))
      have hs := webTo_succ l k x hx
      have HWB := Lib.hid (fun (j : Nat) (y : Nt) hj hy hp => web_bound hG.out hx (j := j) (y := y) hj hy hp)
      obtain ⟨p, s, n⟩ := x
      obtain ⟨g, o, rfl, hg, h0, h1, h2⟩ := (hA.below hb) k _ hx
      simp only at h0 h1 h2 hvx
      have HX := Lib.hid hx
      have HS := Lib.hid hs
      generalize webTo l k = r0 at *
      have i1 : (0 : Int) ≤ (k : Int) := by omega
      have i2 : (k : Int) < (l.length : Int) := by omega
      have i3 : (k : Int) ≤ (c : Int) := by omega
      clear hx hs
      have hRV : RA (wr.alloc (.cells #[.int .i64 p, .int .i64 s, .int .i64 n] 34)) (some ⟨g, o, none⟩) l := (hA.below hb).alloc _
      have hxc : ∀ j, (wr.alloc (.cells #[.int .i64 p, .int .i64 s, .int .i64 n] 34)).cell? ⟨wr.heap.size, j, none⟩ = #[Value.int .i64 p, .int .i64 s, .int .i64 n][j]? := fun j => World.cell?_alloc_new wr _ _ j
      have hbV : Below w.heap.size w (wr.alloc (.cells #[.int .i64 p, .int .i64 s, .int .i64 n] 34)) := hb.alloc hb.size _
      have hzV : wr.heap.size < (wr.alloc (.cells #[.int .i64 p, .int .i64 s, .int .i64 n] 34)).heap.size := by simp
      go_upto_region 6 with fail
      generalize wr.alloc (.cells #[.int .i64 p, .int .i64 s, .int .i64 n] 34) = V at *
      generalize wr.heap.size = xb at *
      clear h0 h1 h2 hb hA
      go_loopw [3, 19] (fun a i vr => ∃ j : Nat, j ≤ k ∧ i = .int .i64 j ∧ a = .int .i64 (webRow r0 (p, s, n) (l.take j)) ∧ Below V.heap.size V vr)
        (fun _ i _ => k - (intOf i).toNat)
      case atStart => exact ⟨0, Nat.zero_le _, rfl, rfl, Below.refl _ _⟩
      case round =>
        obtain ⟨j, hj, rfl, rfl, hbr⟩ := hrel
        by_cases hjk : j < k
        · have hyj : l[j]? = some l[j] := List.getElem?_eq_getElem (by omega)
          generalize l[j] = yj at hyj
          have hvy := (noteN_iff yj).1 (hG.out.valid yj (List.mem_iff_getElem?.2 ⟨j, hyj⟩))
          have hst := webRow_snoc r0 (p, s, n) l j yj hyj
          obtain ⟨pj, sj, nj⟩ := yj
          obtain ⟨hg3, z0, z1, z2⟩ := (hRV.below hbr).at j _ hyj
          simp only at hvy z0 z1 z2
          have xr0 := (hbr.cell (p := ⟨xb, 0, none⟩) hzV).trans (hxc 0)
          have xr1 := (hbr.cell (p := ⟨xb, 1, none⟩) hzV).trans (hxc 1)
          have xr2 := (hbr.cell (p := ⟨xb, 2, none⟩) hzV).trans (hxc 2)
          have hzr : xb < _ := Nat.lt_of_lt_of_le hzV hbr.size
          have j1 : (0 : Int) ≤ (j : Int) := by omega
          have j2 : (j : Int) < (k : Int) := by omega
          have HST := Lib.hid hst
          have HXC := Lib.hid hxc
          clear hyj hst hxc
          generalize webRow r0 (p, s, n) (l.take j) = r at *
          unfold webStep at HST
          simp only at HST
          by_cases hpp : p = pj
          · subst hpp
            by_cases hr0 : r < 0
            · have HST' := Lib.hid (HST.out.trans (if_pos ⟨rfl, .inl hr0⟩))
              clear HST
              go_wp2
              go_roundw
              case rel => exact ⟨j + 1, by omega, by go_num, by rw [HST'.out], hbr.alloc hbr.size _⟩
              case measure => simp [intOf]; omega
            · by_cases hr1 : s - nj < r
              · have HST' := Lib.hid (HST.out.trans (if_pos ⟨rfl, .inr hr1⟩))
                clear HST
                go_wp2
                go_roundw
                case rel => exact ⟨j + 1, by omega, by go_num, by rw [HST'.out], hbr.alloc hbr.size _⟩
                case measure => simp [intOf]; omega
              · have HST' := Lib.hid (HST.out.trans (if_neg (fun h => by rcases h.2 with h | h; exact hr0 h; exact hr1 h)))
                clear HST
                go_wp2
                go_roundw
                case rel => exact ⟨j + 1, by omega, by go_num, by rw [HST'.out], hbr.alloc hbr.size _⟩
                case measure => simp [intOf]; omega
          · have HST' := Lib.hid (HST.out.trans (if_neg (fun h => hpp h.1)))
            clear HST
            go_wp2
            go_roundw
            case rel => exact ⟨j + 1, by omega, by go_num, by rw [HST'.out], hbr.alloc hbr.size _⟩
            case measure => simp [intOf]; omega
        · obtain rfl : j = k := by omega
          go_wp2
          go_roundw
          case rel => exact ⟨j + 1, by omega, by go_num, by rw [HS.out], hbV.trans (hbr.mono hbV.size)⟩
          case measure => simp [intOf]; omega
    · obtain rfl : k = l.length := by omega
      go_wp2
      go_ret
      exact ⟨rfl, hb⟩

end Go.Proofs.Ytjjohenpapfabaa
