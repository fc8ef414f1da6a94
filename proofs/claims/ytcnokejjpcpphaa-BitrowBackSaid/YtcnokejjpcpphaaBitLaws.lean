/-
  The walks of the laws of the stage bitrow: over the contracts of package bitrow.
-/
import Derived.Test.YtcnokejjpcpphaaBitContracts
import Derived.Deep.RegionWith
namespace Go.Proofs.Ytcnokejjpcpphaa
open Go.RowKit

/-- It answers yes, and leaves what lay. -/
def Yes (w : World) (e : Ending) (w' : World) : Prop := e = .returned (.bool true) ∧ Below w.heap.size w w'

theorem ex_b1 : putB [] 5 3 = ([1, 0, 1], 0) := by decide +kernel
theorem ex_b2 : putB [1, 0, 1] 1 1 = ([1, 0, 1, 1], 0) := by decide +kernel
theorem ex_b3 : putB [1, 0, 1, 1] 255 8 = ([1, 0, 1, 1, 1, 1, 1, 1, 1, 1, 1, 1], 0) := by decide +kernel
theorem ex_b4 : putB [1, 0, 1, 1, 1, 1, 1, 1, 1, 1, 1, 1] 2 1 = ([1, 0, 1, 1, 1, 1, 1, 1, 1, 1, 1, 1], 3) := by decide +kernel
theorem ex_b5 : textB [1, 0, 1, 1, 1, 1, 1, 1, 1, 1, 1, 1] = (ByteArray.mk #[253, 15]).data.toList := by decide +kernel
theorem ex_b6 : getB (ByteArray.mk #[253, 15]).data.toList 0 3 = (5, 3, 0) := by decide +kernel
theorem ex_b7 : bytesB (ByteArray.mk #[253, 15]).data.toList 3 1 = ((ByteArray.mk #[15]).data.toList, 16, 0) := by decide +kernel

theorem mem_one {k b : Nat} (h : k ∈ [b]) : k = b := by simpa using h

set_option maxRecDepth 100000 in
set_option maxHeartbeats 2000000 in
theorem rows_any (w : World) : Calls Try.prog 6 #[] w (Yes w) := by
  go_enter Try.func6, Try.ntmps6
  go_wp2_with fail
  refine (wPut_is w.heap.size [] [w.heap.size] 5 3 _ (writer_new w) (by simp) (by decide) (by decide) (by decide) (by decide) (by decide) ex_b1).mono ?_
  rintro e w1 ⟨rfl, F1, hw, ht⟩
  have Hb1 := Lib.hid (((Below.refl _ w).alloc (Nat.le_refl _) _).trans (ht.below (by simp) fun k hk => by rw [mem_one hk]; exact Nat.le_refl _))
  have HF1 := Lib.hid (ht.more (B := w.heap.size) (by simp) fun k hk => by rw [mem_one hk]; exact Nat.le_refl _)
  have Hw1 := Lib.hid hw
  clear hw ht
  go_wp2_with fail
  refine (wPut_is w.heap.size _ F1 1 1 _ Hw1.out (by decide) (by decide) (by decide) (by decide) (by decide) (by decide) ex_b2).mono ?_
  rintro e w2 ⟨rfl, F2, hw, ht⟩
  have Hb2 := Lib.hid (Hb1.out.trans (ht.below Hb1.out.size HF1.out))
  have HF2 := Lib.hid (ht.more Hb1.out.size HF1.out)
  have Hw2 := Lib.hid hw
  clear hw ht
  go_wp2_with fail
  refine (wPut_is w.heap.size _ F2 255 8 _ Hw2.out (by decide) (by decide) (by decide) (by decide) (by decide) (by decide) ex_b3).mono ?_
  rintro e w3 ⟨rfl, F3, hw, ht⟩
  have Hb3 := Lib.hid (Hb2.out.trans (ht.below Hb2.out.size HF2.out))
  have HF3 := Lib.hid (ht.more Hb2.out.size HF2.out)
  have Hw3 := Lib.hid hw
  clear hw ht
  go_wp2_with fail
  refine (wPut_is w.heap.size _ F3 2 1 _ Hw3.out (by decide) (by decide) (by decide) (by decide) (by decide) (by decide) ex_b4).mono ?_
  rintro e w4 ⟨rfl, F4, hw, ht⟩
  have Hb4 := Lib.hid (Hb3.out.trans (ht.below Hb3.out.size HF3.out))
  have HF4 := Lib.hid (ht.more Hb3.out.size HF3.out)
  have Hw4 := Lib.hid hw
  clear hw ht
  go_wp2_with fail
  refine (rNew_is _ _ (by decide)).mono ?_
  rintro e w5 ⟨b5, G5, rfl, hr, hg, hb⟩
  have Hb5 := Lib.hid (Hb4.out.trans (hb.mono Hb4.out.size))
  have Hw5 := Lib.hid (Hw4.out.later hb)
  have HD5 : Hid (∀ k ∈ G5, k ∉ F4) := Lib.hid fun k hk hm => by have := hg k hk; have := Hw4.out.lt k hm; omega
  have HG5 : Hid (∀ k ∈ G5, w.heap.size ≤ k) := Lib.hid fun k hk => by have := hg k hk; have := Hb4.out.size; omega
  have Hr5 := Lib.hid hr
  clear hr hg hb
  go_wp2_with fail
  refine (rGet_is b5 _ 0 G5 3 _ Hr5.out (by decide) (by decide) (by decide) (by decide) ex_b6).mono ?_
  rintro e w6 ⟨rfl, G6, hr, ht⟩
  have Hb6 := Lib.hid (Hb5.out.trans (ht.below Hb5.out.size HG5.out))
  have HG6 := Lib.hid (ht.more Hb5.out.size HG5.out)
  have Hw6 : Hid (WriterAt w6 w.heap.size _ F4) := Lib.hid (Hw5.out.move ht.size fun k hk => (ht.out (Hw5.out.lt k hk) fun hm => HD5.out k hm hk).1)
  have Hr6 := Lib.hid hr
  have HD6 : Hid (∀ k ∈ G6, k ∉ F4) := Lib.hid fun k hk hm => (ht.out (Hw5.out.lt k hm) fun h => HD5.out k h hm).2 hk
  clear hr ht
  go_wp2_with fail
  refine (rBytes_is b5 _ 3 G6 1 _ Hr6.out (by decide) (by decide) (by decide) (by decide) ex_b7).mono ?_
  rintro e w7 ⟨rfl, G7, hr, ht⟩
  have Hb7 := Lib.hid (Hb6.out.trans (ht.below Hb6.out.size HG6.out))
  have Hw7 : Hid (WriterAt w7 w.heap.size _ F4) := Lib.hid (Hw6.out.move ht.size fun k hk => (ht.out (Hw6.out.lt k hk) fun hm => HD6.out k hm hk).1)
  have Hr7 := Lib.hid hr
  clear hr ht
  go_wp2_with fail
  refine (rGet_nil _ _).mono ?_
  rintro e w8 ⟨rfl, hb⟩
  have Hb8 := Lib.hid (Hb7.out.trans (hb.mono Hb7.out.size))
  have Hw8 := Lib.hid (Hw7.out.later hb)
  have Hr8 := Lib.hid (Hr7.out.later hb)
  clear hb
  go_wp2_with fail
  refine (rBytes_nil _ _).mono ?_
  rintro e w9 ⟨rfl, hb⟩
  have Hb9 := Lib.hid (Hb8.out.trans (hb.mono Hb8.out.size))
  have Hw9 := Lib.hid (Hw8.out.later hb)
  have Hr9 := Lib.hid (Hr8.out.later hb)
  clear hb
  go_wp2_with fail
  refine (rAlign_nil _).mono ?_
  rintro e w10 ⟨rfl, hb⟩
  have Hb10 := Lib.hid (Hb9.out.trans (hb.mono Hb9.out.size))
  have Hw10 := Lib.hid (Hw9.out.later hb)
  have Hr10 := Lib.hid (Hr9.out.later hb)
  clear hb
  go_wp2_with fail
  refine (wAlign_nil _).mono ?_
  rintro e w11 ⟨rfl, hb⟩
  have Hb11 := Lib.hid (Hb10.out.trans (hb.mono Hb10.out.size))
  have Hw11 := Lib.hid (Hw10.out.later hb)
  have Hr11 := Lib.hid (Hr10.out.later hb)
  clear hb
  go_wp2_with fail
  refine (wText_is w.heap.size _ F4 _ Hw11.out (by decide) (by decide) ex_b5).mono ?_
  rintro e w12 ⟨rfl, hb⟩
  have Hb12 := Lib.hid (Hb11.out.trans (hb.mono Hb11.out.size))
  have Hw12 := Lib.hid (Hw11.out.later hb)
  have Hr12 := Lib.hid (Hr11.out.later hb)
  clear hb
  go_wp2_with fail
  refine (wLen_is w.heap.size _ F4 _ Hw12.out (by decide)).mono ?_
  rintro e w13 ⟨rfl, hb⟩
  have Hb13 := Lib.hid (Hb12.out.trans (hb.mono Hb12.out.size))
  have Hw13 := Lib.hid (Hw12.out.later hb)
  have Hr13 := Lib.hid (Hr12.out.later hb)
  clear hb
  go_wp2_with fail
  refine (rAt_is b5 _ 16 G7 _ Hr13.out (by decide) (by decide)).mono ?_
  rintro e w14 ⟨rfl, hb⟩
  have Hb14 := Lib.hid (Hb13.out.trans (hb.mono Hb13.out.size))
  have Hw14 := Lib.hid (Hw13.out.later hb)
  have Hr14 := Lib.hid (Hr13.out.later hb)
  clear hb
  go_wp2_with fail
  refine (wPut_nil _ _ _).mono ?_
  rintro e w15 ⟨rfl, hb⟩
  have Hb15 := Lib.hid (Hb14.out.trans (hb.mono Hb14.out.size))
  have Hw15 := Lib.hid (Hw14.out.later hb)
  have Hr15 := Lib.hid (Hr14.out.later hb)
  clear hb
  go_wp2_with fail
  refine (wLen_nil _).mono ?_
  rintro e w16 ⟨rfl, hb⟩
  have Hb16 := Lib.hid (Hb15.out.trans (hb.mono Hb15.out.size))
  have Hw16 := Lib.hid (Hw15.out.later hb)
  have Hr16 := Lib.hid (Hr15.out.later hb)
  clear hb
  go_wp2_with fail
  refine (rAt_nil _).mono ?_
  rintro e w17 ⟨rfl, hb⟩
  have Hb17 := Lib.hid (Hb16.out.trans (hb.mono Hb16.out.size))
  have Hw17 := Lib.hid (Hw16.out.later hb)
  have Hr17 := Lib.hid (Hr16.out.later hb)
  clear hb
  go_wp2_with fail
  refine (wText_nil _).mono ?_
  rintro e w18 ⟨rfl, hb⟩
  have Hb18 := Lib.hid (Hb17.out.trans (hb.mono Hb17.out.size))
  have Hw18 := Lib.hid (Hw17.out.later hb)
  have Hr18 := Lib.hid (Hr17.out.later hb)
  clear hb
  go_wp2_with fail
  go_ret
  exact ⟨rfl, Hb18.out⟩

end Go.Proofs.Ytcnokejjpcpphaa
