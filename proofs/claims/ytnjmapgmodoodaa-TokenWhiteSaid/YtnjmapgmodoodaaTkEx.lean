/-
  The page's own examples.
-/
import Derived.Test.YtnjmapgmodoodaaTkMany
import Derived.Test.YtnjmapgmodoodaaTkRow
import Derived.Test.YtnjmapgmodoodaaTkSkip
namespace Go.Proofs.Ytnjmapgmodoodaa
open Go.RowKit Go.Shelf
set_option maxRecDepth 100000

/-- It answers yes, and leaves what lay. -/
def Yes (w : World) (e : Ending) (w' : World) : Prop := e = .returned (.bool true) ∧ Below w.heap.size w w'
def pageS : ByteArray := ⟨#[47, 65, 35, 52, 50, 32, 40, 120, 40, 121, 41, 41, 32, 60, 52, 97, 62, 32, 49, 50]⟩
theorem all_not_nil (a : Addr) (w : World) : (binOp BinOp.eql 33 (.func (.func 25) #[] #[.pointer (some a)]) .nilFunc).run Try.prog w = .ok (.bool false) w := by kernel_rfl
theorem all_is_func (a : Addr) (w : World) : (binOp BinOp.neq 33 (.func (.func 25) #[] #[.pointer (some a)]) .nilFunc).run Try.prog w = .ok (.bool true) w := by kernel_rfl
theorem page0 : nextN pageS.data.toList 0 = ⟨2, 0, [65, 66], 0, 5, 0⟩ := by kernel_rfl
theorem page5 : nextN pageS.data.toList 5 = ⟨3, 0, [120, 40, 121, 41], 6, 12, 0⟩ := by kernel_rfl
theorem page12 : nextN pageS.data.toList 12 = ⟨3, 0, [74], 13, 17, 0⟩ := by kernel_rfl
theorem page17 : nextN pageS.data.toList 17 = ⟨1, 12, [], 18, 20, 0⟩ := by kernel_rfl
theorem pageAll : countS (allL pageS.data.toList).1 = 4 ∧ (allL pageS.data.toList).2 = 0 := by
  constructor <;> kernel_rfl
theorem pageSkip : skipI (ByteArray.mk #[37, 32, 97, 10, 32, 98]).data.toList 0 = 5 := by kernel_rfl
theorem nextP0 (W : World) : Calls Try.prog 8 #[.string pageS, .int .i64 0] W fun e w' => e = .returned (.tuple #[.agg #[.int .i64 2, .int .i64 0, .string ⟨#[65, 66]⟩, .int .i64 0, .int .i64 5], .int .i64 0]) ∧ Below W.heap.size W w' := by
  have h := next_any pageS 0 W (by decide)
  rw [show nextI pageS.data.toList 0 = nextN pageS.data.toList 0 from nextI_nat (k := 0) (by decide), page0] at h
  exact h
theorem nextP1 (W : World) : Calls Try.prog 8 #[.string pageS, .int .i64 5] W fun e w' => e = .returned (.tuple #[.agg #[.int .i64 3, .int .i64 0, .string ⟨#[120, 40, 121, 41]⟩, .int .i64 6, .int .i64 12], .int .i64 0]) ∧ Below W.heap.size W w' := by
  have h := next_any pageS 5 W (by decide)
  rw [show nextI pageS.data.toList 5 = nextN pageS.data.toList 5 from nextI_nat (k := 5) (by decide), page5] at h
  exact h
theorem nextP2 (W : World) : Calls Try.prog 8 #[.string pageS, .int .i64 12] W fun e w' => e = .returned (.tuple #[.agg #[.int .i64 3, .int .i64 0, .string ⟨#[74]⟩, .int .i64 13, .int .i64 17], .int .i64 0]) ∧ Below W.heap.size W w' := by
  have h := next_any pageS 12 W (by decide)
  rw [show nextI pageS.data.toList 12 = nextN pageS.data.toList 12 from nextI_nat (k := 12) (by decide), page12] at h
  exact h
theorem nextP3 (W : World) : Calls Try.prog 8 #[.string pageS, .int .i64 17] W fun e w' => e = .returned (.tuple #[.agg #[.int .i64 1, .int .i64 12, .string ⟨#[]⟩, .int .i64 18, .int .i64 20], .int .i64 0]) ∧ Below W.heap.size W w' := by
  have h := next_any pageS 17 W (by decide)
  rw [show nextI pageS.data.toList 17 = nextN pageS.data.toList 17 from nextI_nat (k := 17) (by decide), page17] at h
  exact h
theorem manyP (W : World) : Calls Try.prog 15 #[.string pageS] W fun e w' => e = .returned (.tuple #[.int .i64 4, .int .i64 0]) ∧ Below W.heap.size W w' := by
  have h := many_any pageS W (by decide)
  rw [pageAll.1, pageAll.2] at h
  exact h
theorem skipP (W : World) : Calls Try.prog 10 #[.string ⟨#[37, 32, 97, 10, 32, 98]⟩, .int .i64 0] W fun e w' => e = .returned (.int .i64 5) ∧ Below W.heap.size W w' := by
  have h := skip_any ⟨#[37, 32, 97, 10, 32, 98]⟩ 0 W (by decide)
  rw [pageSkip] at h
  exact h

set_option maxHeartbeats 4000000 in
theorem signs_any (w : World) : Calls Try.prog 7 #[] w (Yes w) := by
  have hnn := all_not_nil
  have HNn := Lib.hid hnn
  clear hnn
  go_enter Try.func7, Try.ntmps7
  go_wp2_with fail
  refine (nextP0 _).mono ?_
  rintro e w01 ⟨rfl, hb⟩
  have HB01 := Lib.hid (hb.alloc hb.size (.cells (tokC 0 0 ⟨#[]⟩ 0 0) 24))
  have hsz0 := hb.size
  clear hb
  go_wp2_with (refine TokCell.store rfl rfl _ _ rfl w01.heap.size (tokC 0 0 ⟨#[]⟩ 0 0) 2 0 ⟨#[65, 66]⟩ 0 5 rfl rfl (TokCell.new w01 _) rfl w.heap.size w HB01.out hsz0 ?_; intro w02 HT00 HB02 HO0; have k0 := HT00.out.parts.2.2.2.2)
  clear k0 HO0
  refine (nextP1 _).mono ?_
  rintro e w11 ⟨rfl, hb⟩
  have HT01 := Lib.hid (HT00.out.later hb HT00.out.lt)
  have hsz1 := (HB02.out.trans (hb.mono HB02.out.size)).size
  have HB11 := Lib.hid ((HB02.out.trans (hb.mono HB02.out.size)).alloc hsz1 (.cells (tokC 0 0 ⟨#[]⟩ 0 0) 24))
  clear hb
  go_wp2_with (refine TokCell.store rfl rfl _ _ rfl w11.heap.size (tokC 0 0 ⟨#[]⟩ 0 0) 3 0 ⟨#[120, 40, 121, 41]⟩ 6 12 rfl rfl (TokCell.new w11 _) rfl w.heap.size w HB11.out hsz1 ?_; intro w12 HT11 HB12 HO1; have HX01 := Lib.hid (show TokCell w12 _ _ from (HO1.out _ (Nat.ne_of_lt HT01.out.lt)).trans ((heap_alloc_old w11 _ _ HT01.out.lt).trans HT01.out)); clear HT01; have HT01 := HX01; clear HX01; have k1 := HT11.out.parts.2.2.2.2)
  clear k1 HO1
  refine (nextP2 _).mono ?_
  rintro e w21 ⟨rfl, hb⟩
  have HT02 := Lib.hid (HT01.out.later hb HT01.out.lt)
  have HT12 := Lib.hid (HT11.out.later hb HT11.out.lt)
  have hsz2 := (HB12.out.trans (hb.mono HB12.out.size)).size
  have HB21 := Lib.hid ((HB12.out.trans (hb.mono HB12.out.size)).alloc hsz2 (.cells (tokC 0 0 ⟨#[]⟩ 0 0) 24))
  clear hb
  go_wp2_with (refine TokCell.store rfl rfl _ _ rfl w21.heap.size (tokC 0 0 ⟨#[]⟩ 0 0) 3 0 ⟨#[74]⟩ 13 17 rfl rfl (TokCell.new w21 _) rfl w.heap.size w HB21.out hsz2 ?_; intro w22 HT22 HB22 HO2; have HX02 := Lib.hid (show TokCell w22 _ _ from (HO2.out _ (Nat.ne_of_lt HT02.out.lt)).trans ((heap_alloc_old w21 _ _ HT02.out.lt).trans HT02.out)); clear HT02; have HT02 := HX02; clear HX02; have HX12 := Lib.hid (show TokCell w22 _ _ from (HO2.out _ (Nat.ne_of_lt HT12.out.lt)).trans ((heap_alloc_old w21 _ _ HT12.out.lt).trans HT12.out)); clear HT12; have HT12 := HX12; clear HX12; have k2 := HT22.out.parts.2.2.2.2)
  clear k2 HO2
  refine (nextP3 _).mono ?_
  rintro e w31 ⟨rfl, hb⟩
  have HT03 := Lib.hid (HT02.out.later hb HT02.out.lt)
  have HT13 := Lib.hid (HT12.out.later hb HT12.out.lt)
  have HT23 := Lib.hid (HT22.out.later hb HT22.out.lt)
  have hsz3 := (HB22.out.trans (hb.mono HB22.out.size)).size
  have HB31 := Lib.hid ((HB22.out.trans (hb.mono HB22.out.size)).alloc hsz3 (.cells (tokC 0 0 ⟨#[]⟩ 0 0) 24))
  clear hb
  go_wp2_with (refine TokCell.store rfl rfl _ _ rfl w31.heap.size (tokC 0 0 ⟨#[]⟩ 0 0) 1 12 ⟨#[]⟩ 18 20 rfl rfl (TokCell.new w31 _) rfl w.heap.size w HB31.out hsz3 ?_; intro w32 HT33 HB32 HO3; have HX03 := Lib.hid (show TokCell w32 _ _ from (HO3.out _ (Nat.ne_of_lt HT03.out.lt)).trans ((heap_alloc_old w31 _ _ HT03.out.lt).trans HT03.out)); clear HT03; have HT03 := HX03; clear HX03; have HX13 := Lib.hid (show TokCell w32 _ _ from (HO3.out _ (Nat.ne_of_lt HT13.out.lt)).trans ((heap_alloc_old w31 _ _ HT13.out.lt).trans HT13.out)); clear HT13; have HT13 := HX13; clear HX13; have HX23 := Lib.hid (show TokCell w32 _ _ from (HO3.out _ (Nat.ne_of_lt HT23.out.lt)).trans ((heap_alloc_old w31 _ _ HT23.out.lt).trans HT23.out)); clear HT23; have HT23 := HX23; clear HX23; have k3 := HT33.out.parts.2.2.2.2)
  clear k3 HO3
  refine (manyP _).mono ?_
  rintro e w4 ⟨rfl, hb⟩
  have HT04 := Lib.hid (HT03.out.later hb HT03.out.lt)
  have HT14 := Lib.hid (HT13.out.later hb HT13.out.lt)
  have HT24 := Lib.hid (HT23.out.later hb HT23.out.lt)
  have HT34 := Lib.hid (HT33.out.later hb HT33.out.lt)
  have HB4 := Lib.hid (HB32.out.trans (hb.mono HB32.out.size))
  clear hb
  have hnn := HNn.out
  go_wp2_with fail
  refine (all_is ⟨#[]⟩ _).mono ?_
  rintro e w5 ⟨rfl, h5⟩
  have HT05 := Lib.hid (show TokCell w5 _ _ from h5 ▸ (heap_alloc_old w4 _ _ HT04.out.lt).trans HT04.out)
  have HT15 := Lib.hid (show TokCell w5 _ _ from h5 ▸ (heap_alloc_old w4 _ _ HT14.out.lt).trans HT14.out)
  have HT25 := Lib.hid (show TokCell w5 _ _ from h5 ▸ (heap_alloc_old w4 _ _ HT24.out.lt).trans HT24.out)
  have HT35 := Lib.hid (show TokCell w5 _ _ from h5 ▸ (heap_alloc_old w4 _ _ HT34.out.lt).trans HT34.out)
  have HB5 : Hid (Below w.heap.size w w5) := Lib.hid (h5 ▸ HB4.out.alloc HB4.out.size _)
  clear h5
  obtain ⟨k00, k01, k02, k03, k04⟩ := HT05.out.parts
  obtain ⟨k10, k11, k12, k13, k14⟩ := HT15.out.parts
  obtain ⟨k20, k21, k22, k23, k24⟩ := HT25.out.parts
  obtain ⟨k30, k31, k32, k33, k34⟩ := HT35.out.parts
  go_wp2_with fail
  refine (skipP _).mono ?_
  rintro e w6 ⟨rfl, hb⟩
  have HB6 := Lib.hid (HB5.out.trans (hb.mono HB5.out.size))
  clear hb
  go_wp2_with fail
  go_ret
  exact ⟨rfl, HB6.out⟩
end Go.Proofs.Ytnjmapgmodoodaa
