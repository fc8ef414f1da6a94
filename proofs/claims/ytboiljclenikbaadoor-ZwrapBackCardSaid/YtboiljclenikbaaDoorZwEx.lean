/-
  The document's examples of wrapped bytes.
-/
import Derived.Test.YtboiljclenikbaaDoorZwWrap
import Derived.Test.YtboiljclenikbaaDoorZwUnwrap
namespace Go.Proofs.YtboiljclenikbaaDoor
open Go.RowKit
set_option maxRecDepth 100000
theorem ex_z0 : wrapZ [97] = [120, 1, 75, 4, 0, 0, 98, 0, 98] := by decide +kernel
theorem ex_z1 : unwrapZ (ByteArray.mk #[120, 1, 75, 4, 0, 0, 98, 0, 98]).data.toList 1 = ((ByteArray.mk #[97]).data.toList, 0) := by decide +kernel
theorem ex_z2 : unwrapZ (ByteArray.mk #[120, 1, 75, 4, 0, 0, 98, 0, 99]).data.toList 1 = ((ByteArray.mk #[]).data.toList, 6) := by decide +kernel
theorem ex_z3 : unwrapZ (ByteArray.mk #[120, 2, 75, 4, 0, 0, 98, 0, 98]).data.toList 1 = ((ByteArray.mk #[]).data.toList, 4) := by decide +kernel
theorem ex_z4 : unwrapZ (ByteArray.mk #[120, 1, 75, 4, 0, 0, 98, 0, 98, 120]).data.toList 1 = ((ByteArray.mk #[]).data.toList, 4) := by decide +kernel
def YesZ (w : World) (e : Ending) (w' : World) : Prop := e = .returned (.bool true) ∧ Below w.heap.size w w'
set_option maxHeartbeats 2000000 in
theorem wrapped_is (w : World) (hl : LaidQ w) (hi : Laid w) : Calls Tryd.prog 4 #[] w (YesZ w) := by
  have HL := Lib.hid hl
  have HI := Lib.hid hi
  clear hl hi
  have A1 := Lib.hid (unwrap_is _ _ _ w (by decide) (by decide) HI.out ex_z1)
  have A2 := Lib.hid (fun W (hW : Below w.heap.size w W) => unwrap_is _ _ _ W (by decide) (by decide) (HI.out.later hW) ex_z2)
  have A3 := Lib.hid (fun W (hW : Below w.heap.size w W) => unwrap_is _ _ _ W (by decide) (by decide) (HI.out.later hW) ex_z3)
  have A4 := Lib.hid (fun W (hW : Below w.heap.size w W) => unwrap_is _ _ _ W (by decide) (by decide) (HI.out.later hW) ex_z4)
  have A5 := Lib.hid (fun W (hW : Below w.heap.size w W) => wrap_is ⟨#[97]⟩ W (by decide) (HL.out.later hW) (u := ⟨#[120, 1, 75, 4, 0, 0, 98, 0, 98]⟩) ex_z0)
  go_enter Tryd.func4, Tryd.ntmps4
  go_wp2_with fail
  refine A1.out.mono ?_
  rintro e w1 ⟨rfl, hb⟩
  have Hb1 := Lib.hid hb
  clear hb
  go_wp2_with fail
  refine (A2.out _ Hb1.out).mono ?_
  rintro e w2 ⟨rfl, hb⟩
  have Hb2 := Lib.hid (Hb1.out.trans (hb.mono Hb1.out.size))
  clear hb
  go_wp2_with fail
  refine (A3.out _ Hb2.out).mono ?_
  rintro e w3 ⟨rfl, hb⟩
  have Hb3 := Lib.hid (Hb2.out.trans (hb.mono Hb2.out.size))
  clear hb
  go_wp2_with fail
  refine (A4.out _ Hb3.out).mono ?_
  rintro e w4 ⟨rfl, hb⟩
  have Hb4 := Lib.hid (Hb3.out.trans (hb.mono Hb3.out.size))
  clear hb
  go_wp2_with fail
  refine (A5.out _ Hb4.out).mono ?_
  rintro e w5 ⟨rfl, hb⟩
  have Hb5 := Lib.hid (Hb4.out.trans (hb.mono Hb4.out.size))
  clear hb
  go_wp2_with fail
  go_ret
  exact ⟨rfl, Hb5.out⟩
end Go.Proofs.YtboiljclenikbaaDoor
