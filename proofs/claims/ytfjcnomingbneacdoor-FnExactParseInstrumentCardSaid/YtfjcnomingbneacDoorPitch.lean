/- Names of pitches: the program's table, the model's and the program's functions have one answer. -/
import Derived.Test.YtfjcnomingbneacDoorName
import Derived.Test.YtfjcnomingbneacDoorShl
import Derived.Test.YtfjcnomingbneacDoorRows
import Derived.LaidMore
import Derived.OpenShut
import Derived.ChangeVars
import Derived.Lib.LaidU8
import Derived.Stop.Joined
import Derived.ProofKit
namespace Go.Proofs.YtfjcnomingbneacDoor
open Go.ChangeShapes Go.WideShapes Go.ChangeAt Go.RowKit Go.Sort
set_option linter.unusedVariables false

theorem gNames : Tryd.prog.globalNamed "loop.example/g00949/impl.classNames" = some 0 := by kernel_rfl
theorem tNames : (Tryd.prog.globals[0]?).map (·.type) = some 64 := by kernel_rfl
theorem cStr : Tryd.prog.cellsOf 9 = 1 := by kernel_rfl
theorem datum_names {H : Type} : (Rows.laid_loop_example_g00949_impl_classNames : DataW H) = .agg (names.map fun l => .lit (.string l)) := rfl

/-- The table's cells, from the row's own condition. -/
theorem names_of_reads {W : World} (h : Lib.VarReads Tryd.prog W "loop.example/g00949/impl.classNames" Rows.laid_loop_example_g00949_impl_classNames) :
    ∀ r, r < 12 → W.cell? ⟨0, r, none⟩ = some (.string ⟨(nameOf r).toArray⟩) := by
  obtain ⟨g, t, cs, fuel, p, hg, ht, hv, hd⟩ := h
  obtain rfl := Option.some.inj (gNames.symm.trans hg)
  obtain rfl := Option.some.inj (tNames.symm.trans ht)
  intro r hr
  have hc := World.var?_cell hg hv r
  rw [hc]
  rw [datum_names] at hd
  obtain ⟨xs, m1, rfl, hx1, hlen, hn, hel⟩ := DataW.trod_array Tryd.underlying64 hd
  have h0 := hel r hr
  rw [cStr] at h0
  have hxr : r < xs.length := by omega
  rw [List.getElem?_eq_getElem hxr] at h0
  obtain ⟨s, e1, e2, _⟩ := DataW.trod_string Tryd.underlying9 h0
  have hn2 : (xs.map (·.1))[r]? = (names.map fun l => (DataW.lit (.string l) : DataW Unit))[r]? := by
    simp only [Prod.mk.injEq, DataW.agg.injEq] at hx1
    rw [hx1.1]
  have hnl : r < names.length := by exact hr
  rw [List.getElem?_map, List.getElem?_map, List.getElem?_eq_getElem hxr, List.getElem?_eq_getElem hnl] at hn2
  simp only [Option.map_some, Option.some.injEq] at hn2
  rw [e2] at hn2
  have hs : s.data.toList = nameOf r := by
    have h3 : s.data.toList = names[r] := by simpa using hn2
    rw [h3, nameOf, List.getD_eq_getElem?_getD, List.getElem?_eq_getElem hnl]
    rfl
  have hs2 : s = ⟨(nameOf r).toArray⟩ := by
    apply ByteArray.ext
    rw [← hs]
  have h4 : cs.toList[r]? = some (.string s) := by
    have := congrArg (·[0]?) e1
    simpa [List.getElem?_take, List.getElem?_drop] using this
  rw [← hs2]
  simpa using h4

def pitchR (p : Int) : Array Value := if inR p 24 96 = true then #[.string ⟨(nameOf (p % 12).toNat ++ Lib.decDigits (p / 12).toNat).toArray⟩, .bool true] else #[.string ⟨#[]⟩, .bool false]
theorem pitchR_in (p : Int) (h : inR p 24 96 = true) : ∃ q r : Nat, p = 12 * q + r ∧ r < 12 ∧ q < 10 ∧ pitchR p = #[.string ⟨(nameOf r ++ Lib.decDigits q).toArray⟩, .bool true] := by
  have hb : 24 ≤ p ∧ p ≤ 96 := by simpa [inR] using h
  refine ⟨(p / 12).toNat, (p % 12).toNat, by omega, by omega, by omega, by unfold pitchR; rw [if_pos h]⟩

set_option maxRecDepth 100000 in
set_option maxHeartbeats 1000000 in
theorem implPitch_any (p : Int) (w : World) (hT : ∀ r, r < 12 → w.cell? ⟨0, r, none⟩ = some (.string ⟨(nameOf r).toArray⟩)) :
    Calls Tryd.prog 19 #[.int .i64 p] w fun e w' => e = .returned (.tuple (pitchR p)) ∧ Below w.heap.size w w' := by
  cases h : inR p 24 96 with
  | false =>
    rw [show pitchR p = #[.string ⟨#[]⟩, .bool false] from by unfold pitchR; rw [if_neg (by simp [h])]]
    go_enter Tryd.func19, Tryd.ntmps19
    go_wp2_with (go_at_call 37; refine (isPitch_any _ _).mono ?_; rintro e w' ⟨rfl, rfl⟩)
    go_ret2
    exact ⟨rfl, Below.refl _ _⟩
  | true =>
    obtain ⟨q, r, hp, hr, hq, hR⟩ := pitchR_in p h
    rw [hR]
    have hc := hT r hr
    have HL := Lib.hid (fun W => Tryd.strconv_Itoa_small q (by omega) W)
    have b0 : (0 : Int) ≤ p := by omega
    have e1 : p % 12 = (r : Int) := by omega
    have e2 : p / 12 = (q : Int) := by omega
    have m1 : p.tmod 12 = (r : Int) := by rw [Int.tmod_eq_emod_of_nonneg b0]; exact e1
    have m2 : p.tdiv 12 = (q : Int) := by rw [Int.tdiv_eq_ediv_of_nonneg b0]; exact e2
    have m3 : IntKind.i64.wrap (q : Int) = (q : Int) := IntWalk.i64_in _ (by omega)
    have b1 : (0 : Int) ≤ (r : Int) := by omega
    have b2 : (r : Int) < 12 := by omega
    have hs : ¬ 9223372036854775807 < (nameOf r).length + (Lib.decDigits q).length := by
      have := nameOf_len r
      rw [decDigits_small hq]
      simp
      omega
    have HAP := Lib.hid (bytes_append (nameOf r) (Lib.decDigits q))
    clear hp hR hT
    go_enter Tryd.func19, Tryd.ntmps19
    go_wp2_with (go_at_call 37; refine (isPitch_any _ _).mono ?_; rintro e w' ⟨rfl, rfl⟩)
    go_region_with (go_at_call 21; refine (HL.out _).mono ?_; rintro e w1 ⟨rfl, rfl⟩)
    all_goals
      go_wp2
      go_ret2
      exact ⟨by rw [← HAP.out]; rfl, (Below.refl _ _).drew⟩
end Go.Proofs.YtfjcnomingbneacDoor
