/- The model's ParseInstrument. -/
import Derived.Test.YtfjcnomingbneacDoorPInM
namespace Go.Proofs.YtfjcnomingbneacDoor
open Go.RowKit Go.Sort
set_option linter.unusedVariables false
set_option linter.unusedSimpArgs false

set_option maxRecDepth 100000 in
set_option maxHeartbeats 2000000 in
theorem specParseI_any (s : List UInt8) (w : World) (hs : s.length ≤ 1048576) :
    Calls Tryd.prog 10 #[.string (bs s)] w fun e w' => InsOf s w.heap.size w' e ∧ Below w.heap.size w w' := by
  have hb0 : Below w.heap.size w (w.alloc (.cells #[.slice none 0 0, .int .i64 0] 28)) := (Below.refl _ _).alloc (Nat.le_refl _) _
  have hR0 := Rz.new w
  have m0 : w.heap.size ≤ w.heap.size := Nat.le_refl _
  go_enter Tryd.func10, Tryd.ntmps10
  go_wp2_with fail
  generalize (w.alloc (.cells #[.slice none 0 0, .int .i64 0] 28)) = W at *
  refine (inParse_any s W hs).mono ?_
  rintro e w1 ⟨hI, hb1⟩
  have hzW := hR0.lt
  obtain ⟨d0, d1, f0, f1, hlt⟩ := hR0.below hb1
  have HBX := Lib.hid (hb0.trans (hb1.mono hb0.size))
  rcases hI with ⟨l, r, v, hg, hi, rfl, ho⟩ | ⟨hno, rfl⟩
  · have HG := Lib.hid hg
    have HI := Lib.hid hi
    obtain ⟨A', c', rfl, -, -, -, -, -⟩ := ho.form
    have HO7 := Lib.hid ((ho.grown (Lib.grownBy_setCell w1 w.heap.size 0 (.slice A' l.length c')) (ho.ne hzW)).grown (Lib.grownBy_setCell _ w.heap.size 1 (.int .i64 r)) (ho.ne hzW))
    clear hg hi ho
    go_wp2
    exact bodyPost_ret (v := .tuple #[.agg #[.slice A' l.length c', .int .i64 r], .bool true]) (by simp [results, Tryd.results10, go_sem, *]) rfl ⟨.inl ⟨l, _, _, HG.out, HI.out, rfl, HO7.out.mono (by omega)⟩, (HBX.out.setCell m0 _).setCell m0 _⟩
  · have HNO := Lib.hid hno
    clear hno
    go_wp2
    exact bodyPost_ret (v := .tuple #[.agg #[.slice none 0 0, .int .i64 0], .bool false]) (by simp [results, Tryd.results10, go_sem, *]) rfl ⟨.inr ⟨HNO.out, rfl⟩, (HBX.out.setCell m0 _).setCell m0 _⟩
end Go.Proofs.YtfjcnomingbneacDoor
