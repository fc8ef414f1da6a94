/-
  The walks of the laws of the stage codes: over the contracts of packages codes and bitrow.
-/
import Derived.Test.YtahanllbaclokaaCodeContracts
import Derived.Deep.RegionWith
namespace Go.Proofs.Ytahanllbaclokaa
open Go.RowKit

/-- It answers yes, and leaves what lay. -/
def Yes (w : World) (e : Ending) (w' : World) : Prop := e = .returned (.bool true) ∧ Below w.heap.size w w'

theorem ex_c1 : refusedZ [2, 1, 3, 3] = 0 := by decide +kernel
theorem ex_c2 : codesN (natsOf [2, 1, 3, 3]) = [2, 0, 6, 7] := by decide +kernel
theorem ex_c3 : writeC [2, 1, 3, 3] [] 2 = ([1, 1, 0], 0) := by decide +kernel
theorem ex_c4 : textB [1, 1, 0] = (ByteArray.mk #[3]).data.toList := by decide +kernel
theorem ex_c5 : longZ [2, 1, 3, 3] = ((3 : Nat) : Int) := by decide +kernel
theorem ex_c6 : readC [2, 1, 3, 3] (codesN (natsOf [2, 1, 3, 3])) 3 0 0 ((bitsOf (ByteArray.mk #[3]).data.toList).drop 0) = (2, 3, 0) := by decide +kernel
theorem ex_c7 : writeC [2, 1, 3, 3] [1, 1, 0] 4 = ([1, 1, 0], 12) := by decide +kernel
theorem ex_c8 : checkZ [1, 1, 1] = 7 := by decide +kernel

theorem mem_one {k b : Nat} (h : k ∈ [b]) : k = b := by simpa using h

set_option maxRecDepth 100000 in
set_option maxHeartbeats 2000000 in
theorem trees_any (w : World) : Calls Try.prog 8 #[] w (Yes w) := by
  go_enter Try.func8, Try.ntmps8
  go_wp2_with fail
  refine (cCodes_good _ 4 4 [2, 1, 3, 3] _ rfl (nums_new _ [2, 1, 3, 3] _ rfl) ex_c1 ex_c2).mono ?_
  rintro e w1 ⟨a1, c1, rfl, hn, hb⟩
  have Hb1 := Lib.hid (((Below.refl _ w).alloc (Nat.le_refl _) _).trans (hb.mono (by simp)))
  have Hn1 := Lib.hid hn
  clear hn hb
  go_wp2_with fail
  refine (tNew_good _ 4 4 [2, 1, 3, 3] _ rfl (nums_new _ [2, 1, 3, 3] _ rfl) ex_c1).mono ?_
  rintro e w2 ⟨t, T, rfl, ht, hT, hb⟩
  have hb' := (Below.alloc (Below.refl w1.heap.size w1) (Nat.le_refl _) (.cells #[.int .i64 2, .int .i64 1, .int .i64 3, .int .i64 3] 3)).trans (hb.mono (by simp))
  have Hb2 := Lib.hid (Hb1.out.trans (hb'.mono Hb1.out.size))
  have Hn2 := Lib.hid (Hn1.out.later hb')
  have HT2 : Hid (∀ k ∈ T, w.heap.size ≤ k) := Lib.hid fun k hk => by have h1 := hT k hk; have h2 := Hb1.out.size; simp at h1; omega
  have Ht2 := Lib.hid ht
  clear ht hT hb hb'
  go_wp2_with fail
  refine (rNew_is _ _ (by decide)).mono ?_
  rintro e w3 ⟨r, G, rfl, hr, hG, hb⟩
  have Hc3 := Lib.hid hb
  have HG3 := Lib.hid hG
  have HTG : Hid (∀ k ∈ T, k ∉ G) := Lib.hid fun k hk hm => by have := hG k hm; have := Ht2.out.lt k hk; omega
  have Hr3 := Lib.hid hr
  clear hr hG hb
  go_wp2_with fail
  have hal := (Below.refl w3.heap.size w3).alloc (Nat.le_refl _) (.cells #[.int .i64 0, .int .i64 0, .slice none 0 0] 49)
  have HGW : Hid (∀ k ∈ G, k ∉ [w3.heap.size]) := Lib.hid fun k hk hm => by have := mem_one hm; have := Hr3.out.lt k hk; omega
  have Hr3' := Lib.hid (Hr3.out.later hal)
  have Hc3' := Lib.hid (Hc3.out.trans (hal.mono Hc3.out.size))
  have HW3 : Hid (∀ k ∈ [w3.heap.size], w2.heap.size ≤ k) := Lib.hid fun k hk => by rw [mem_one hk]; exact Hc3.out.size
  clear hal
  refine (tWrite_is t _ T w3.heap.size [] [w3.heap.size] 2 _ ex_c1 (Ht2.out.later Hc3'.out) (writer_new w3) (by simp) (by decide) (fun k hk hm => by have := HW3.out k hm; have := Ht2.out.lt k hk; omega) (by decide) (by decide) ex_c3).mono ?_
  rintro e w4 ⟨rfl, F4, hw, ht⟩
  have Hc4 := Lib.hid (Hc3'.out.trans (ht.below Hc3'.out.size HW3.out))
  have HF4 := Lib.hid (ht.more Hc3'.out.size HW3.out)
  have Hr4 : Hid (ReaderAt w4 r _ 0 G) := Lib.hid (Hr3'.out.move ht.size fun k hk => (ht.out (Hr3'.out.lt k hk) (HGW.out k hk)).1)
  have HGW4 : Hid (∀ k ∈ G, k ∉ F4) := Lib.hid fun k hk => (ht.out (Hr3'.out.lt k hk) (HGW.out k hk)).2
  have Hw4 := Lib.hid hw
  clear hw ht
  go_wp2_with fail
  refine (tRead_is t _ T r _ 0 G _ ex_c1 (Ht2.out.later Hc4.out) Hr4.out (by decide) (by decide) HTG.out ex_c5 ex_c6).mono ?_
  rintro e w5 ⟨rfl, G5, hr, ht⟩
  have Hc5 := Lib.hid (Hc4.out.trans (ht.below Hc4.out.size HG3.out))
  have Hw5 : Hid (WriterAt w5 w3.heap.size _ F4) := Lib.hid (Hw4.out.move ht.size fun k hk => (ht.out (Hw4.out.lt k hk) fun hm => HGW4.out k hm hk).1)
  clear hr ht
  go_wp2_with fail
  refine (tRead_no_tree _ _).mono ?_
  rintro e w6 ⟨rfl, hb⟩
  have Hc6 := Lib.hid (Hc5.out.trans (hb.mono Hc5.out.size))
  have Hw6 := Lib.hid (Hw5.out.later hb)
  clear hb
  go_wp2_with fail
  refine (tRead_no_reader t _ T _ (Ht2.out.later Hc6.out)).mono ?_
  rintro e w7 ⟨rfl, hb⟩
  have Hc7 := Lib.hid (Hc6.out.trans (hb.mono Hc6.out.size))
  have Hw7 := Lib.hid (Hw6.out.later hb)
  clear hb
  go_wp2_with fail
  refine (same_is _ _ _ [2, 0, 6, 7] _ 4 4 [2, 0, 6, 7] _ rfl rfl (by decide) ((Hn2.out.later Hc7.out).later ((Below.refl _ _).alloc (Nat.le_refl _) _)) (nums_new _ [2, 0, 6, 7] _ rfl) (b := true) (by decide)).mono ?_
  rintro e w8 ⟨rfl, q8, hq⟩
  have hb : Below w7.heap.size w7 w8 := by rw [← hq]; exact below_drewN ((Below.refl _ _).alloc (Nat.le_refl _) _) q8
  have Hc8 := Lib.hid (Hc7.out.trans (hb.mono Hc7.out.size))
  have Hw8 := Lib.hid (Hw7.out.later hb)
  clear hb hq
  go_wp2_with fail
  refine (wText_is w3.heap.size _ F4 _ Hw8.out (by decide) (by decide) ex_c4).mono ?_
  rintro e w9 ⟨rfl, hb⟩
  have Hc9 := Lib.hid (Hc8.out.trans (hb.mono Hc8.out.size))
  have Hw9 := Lib.hid (Hw8.out.later hb)
  clear hb
  go_wp2_with fail
  refine (tWrite_no_tree _ _ _).mono ?_
  rintro e w10 ⟨rfl, hb⟩
  have Hc10 := Lib.hid (Hc9.out.trans (hb.mono Hc9.out.size))
  have Hw10 := Lib.hid (Hw9.out.later hb)
  clear hb
  go_wp2_with fail
  refine (tWrite_no_writer t _ T _ _ (Ht2.out.later Hc10.out)).mono ?_
  rintro e w11 ⟨rfl, hb⟩
  have Hc11 := Lib.hid (Hc10.out.trans (hb.mono Hc10.out.size))
  have Hw11 := Lib.hid (Hw10.out.later hb)
  clear hb
  go_wp2_with fail
  refine (tWrite_is t _ T w3.heap.size _ F4 4 _ ex_c1 (Ht2.out.later Hc11.out) Hw11.out (by decide) (by decide) (fun k hk hm => by have := HF4.out k hm; have := Ht2.out.lt k hk; omega) (by decide) (by decide) ex_c7).mono ?_
  rintro e w12 ⟨rfl, F12, hw, ht⟩
  have Hc12 := Lib.hid (Hc11.out.trans (ht.below Hc11.out.size HF4.out))
  clear hw ht
  go_wp2_with fail
  refine (cCheck_is _ 3 [1, 1, 1] _ (by decide) (ints_of (by decide)) (nums_new _ [1, 1, 1] _ rfl) ex_c8).mono ?_
  rintro e w13 ⟨rfl, hb⟩
  have Hc13 : Hid (Below w2.heap.size w2 w13) := Lib.hid ((Hc12.out.alloc Hc12.out.size _).trans (hb.mono (by have := Hc12.out.size; simp; omega)))
  clear hb
  go_wp2_with fail
  go_ret
  exact ⟨rfl, Hb2.out.trans (Hc13.out.mono Hb2.out.size)⟩

end Go.Proofs.Ytahanllbaclokaa
