/-
  The walks of the laws of the stage crc: over the contracts of package crc (crSum_is, crMore_is, crJoin_is).
-/
import Derived.Test.YtllimejpmihpfaaDoorCContracts
import Derived.Test.YtllimejpmihpfaaDoorCRef
namespace Go.Proofs.YtllimejpmihpfaaDoor
open Go.RowKit

/-- It answers yes, and leaves what lay. -/
def Yes (w : World) (e : Ending) (w' : World) : Prop := e = .returned (.bool true) ∧ Below w.heap.size w w'

theorem rSumC_is (s : ByteArray) (w : World) (hs : s.size ≤ maxLen) {r : Nat} (h : sumN s.data.toList = r) :
    Calls Tryd.prog 9 #[.string s] w fun e w' => e = .returned (.int .i64 (r : Int)) ∧ w = w' := by
  rw [← h]; exact rSumC_any s w hs
/-- The sum of one text alone. -/
theorem crOne (s : ByteArray) (w : World) (hs : s.size ≤ 100000) (hl : Laid w) {r : Nat} (h : sumN s.data.toList = r) :
    Calls Tryd.prog 8 #[.slice (some ⟨w.heap.size, 0, none⟩) 1 1] (w.alloc (.cells #[.string s] 9)) fun e w' => e = .returned (.int .i64 (r : Int)) ∧ Below w.heap.size w w' := by
  refine (crSum_is _ 1 1 [s] _ rfl (by simp) (fun x hx => by simp at hx; subst hx; unfold maxLen; omega) (texts_one w s) (hl.later ((Below.refl _ w).alloc (Nat.le_refl _) _)) (by rw [flatT_one]; exact h)).mono fun e w' ⟨he, hb⟩ => ⟨he, ?_⟩
  exact ((Below.refl _ w).alloc (Nat.le_refl _) _).trans (hb.mono (by simp))

theorem ex_c1 : sumN (ByteArray.mk #[49, 50, 51, 52]).data.toList = 2615402659 := by decide +kernel
theorem ex_c2 : sumN (ByteArray.mk #[53, 54, 55, 56, 57]).data.toList = 320708720 := by decide +kernel
theorem ex_c3 : sumN (ByteArray.mk #[49, 50, 51, 52, 53, 54, 55, 56, 57]).data.toList = 3421780262 := by decide +kernel
theorem ex_c4 : cMore 2615402659 (ByteArray.mk #[53, 54, 55, 56, 57]).data.toList = (3421780262, 0) := by decide +kernel
theorem ex_c5 : cJoin 2615402659 320708720 5 = (3421780262, 0) := by decide +kernel
theorem ex_c6 : cMore (-1) (ByteArray.mk #[]).data.toList = (0, 3) := by decide +kernel
theorem ex_c7 : sumN (flatT [ByteArray.mk #[49, 50, 51], ByteArray.mk #[], ByteArray.mk #[52, 53, 54, 55, 56, 57]]) = 3421780262 := by decide +kernel
theorem ex_c8 : sumN (flatT []) = 0 := by decide +kernel

set_option maxRecDepth 100000 in
set_option maxHeartbeats 2000000 in
theorem csums_any (w : World) (hl : Laid w) : Calls Tryd.prog 7 #[] w (Yes w) := by
  have HL := Lib.hid hl
  clear hl
  go_enter Tryd.func7, Tryd.ntmps7
  go_wp2_with fail
  refine (crOne _ _ (by decide) HL.out ex_c1).mono ?_
  rintro e w1 ⟨rfl, hb⟩
  have Hb1 := Lib.hid hb
  clear hb
  go_wp2_with fail
  refine (crMore_is _ _ _ (by decide) (by decide) (by decide) (HL.out.later Hb1.out) ex_c4).mono ?_
  rintro e w2 ⟨rfl, hb⟩
  have Hb2 := Lib.hid (Hb1.out.trans (hb.mono Hb1.out.size))
  clear hb
  go_wp2_with fail
  refine (crOne _ _ (by decide) (HL.out.later Hb2.out) ex_c1).mono ?_
  rintro e w3 ⟨rfl, hb⟩
  have Hb3 := Lib.hid (Hb2.out.trans (hb.mono Hb2.out.size))
  clear hb
  go_wp2_with fail
  refine (crOne _ _ (by decide) (HL.out.later Hb3.out) ex_c2).mono ?_
  rintro e w4 ⟨rfl, hb⟩
  have Hb4 := Lib.hid (Hb3.out.trans (hb.mono Hb3.out.size))
  clear hb
  go_wp2_with fail
  refine (crJoin_is _ _ _ _ (by decide) (by decide) (by decide) (by decide) (by decide) (by decide) (HL.out.later Hb4.out) ex_c5).mono ?_
  rintro e w5 ⟨rfl, hb⟩
  have Hb5 := Lib.hid (Hb4.out.trans (hb.mono Hb4.out.size))
  clear hb
  go_wp2_with fail
  refine (crMore_is _ _ _ (by decide) (by decide) (by decide) (HL.out.later Hb5.out) ex_c6).mono ?_
  rintro e w6 ⟨rfl, hb⟩
  have Hb6 := Lib.hid (Hb5.out.trans (hb.mono Hb5.out.size))
  clear hb
  go_wp2_with fail
  refine (crOne _ _ (by decide) (HL.out.later Hb6.out) ex_c3).mono ?_
  rintro e w7 ⟨rfl, hb⟩
  have Hb7 := Lib.hid (Hb6.out.trans (hb.mono Hb6.out.size))
  clear hb
  go_wp2_with fail
  refine (crSum_is _ 3 3 [ByteArray.mk #[49, 50, 51], ByteArray.mk #[], ByteArray.mk #[52, 53, 54, 55, 56, 57]] _ rfl (by decide) (by decide) (texts_new _ [ByteArray.mk #[49, 50, 51], ByteArray.mk #[], ByteArray.mk #[52, 53, 54, 55, 56, 57]]) (HL.out.later (Hb7.out.alloc Hb7.out.size _)) ex_c7).mono ?_
  rintro e w8 ⟨rfl, hb⟩
  have Hb8 : Hid (Below w.heap.size w w8) := Lib.hid ((Hb7.out.alloc Hb7.out.size _).trans (hb.mono (by have := Hb7.out.size; simp; omega)))
  clear hb
  go_wp2_with fail
  refine (crSum_is _ 0 0 [] _ rfl (by decide) (by decide) (.inl rfl) (HL.out.later Hb8.out) ex_c8).mono ?_
  rintro e w9 ⟨rfl, hb⟩
  have Hb9 := Lib.hid (Hb8.out.trans (hb.mono Hb8.out.size))
  clear hb
  go_wp2_with fail
  go_ret
  exact ⟨rfl, Hb9.out⟩

set_option maxRecDepth 100000 in
set_option maxHeartbeats 2000000 in
theorem crmore_walk (x y n : Int) (s : ByteArray) (w : World) (hx0 : -9223372036854775808 ≤ x) (hx1 : x ≤ 9223372036854775807) (hy0 : -9223372036854775808 ≤ y) (hy1 : y ≤ 9223372036854775807) (hn0 : -9223372036854775808 ≤ n) (hn1 : n ≤ 9223372036854775807) (hs : s.size ≤ maxLen) (hl : Laid w) :
    Calls Tryd.prog 4 #[.int .i64 x, .int .i64 y, .int .i64 n, .string s] w (Yes w) := by
  have HL := Lib.hid hl
  clear hl
  have hs' := hs
  unfold maxLen at hs
  by_cases hbig : (2000 : Int) < (s.size : Int) ∨ 3000 < n
  · have hcase : (2000 : Int) < (s.size : Int) ∨ (¬ (2000 : Int) < (s.size : Int) ∧ 3000 < n) := by omega
    clear hbig
    rcases hcase with h | ⟨h, h'⟩
    all_goals
      go_enter Tryd.func4, Tryd.ntmps4
      go_wp2_with fail
      refine (csums_any _ HL.out).mono ?_
      rintro e w1 ⟨rfl, hb⟩
      have Hb := Lib.hid hb
      clear hb
      go_wp2_with fail
      go_ret
      exact ⟨rfl, Hb.out⟩
  · have h : ¬ (2000 : Int) < (s.size : Int) := by omega
    have h' : ¬ 3000 < n := by omega
    clear hbig
    obtain ⟨a, b, hm⟩ : ∃ a b, cMore x s.data.toList = (a, b) := ⟨_, _, rfl⟩
    obtain ⟨c, d, hj⟩ : ∃ c d, cJoin x y n = (c, d) := ⟨_, _, rfl⟩
    have Hm := Lib.hid hm
    have Hj := Lib.hid hj
    clear hm hj
    go_enter Tryd.func4, Tryd.ntmps4
    go_wp2_with fail
    refine (crMore_is x s _ hs' hx0 hx1 HL.out Hm.out).mono ?_
    rintro e w1 ⟨rfl, hb⟩
    have Hb1 := Lib.hid hb
    clear hb
    go_wp2_with fail
    refine (rMoreC_is x s _ hs' hx0 hx1 Hm.out).mono ?_
    rintro e w2 ⟨rfl, rfl⟩
    go_wp2_with fail
    refine (crJoin_is x y n _ hx0 hx1 hy0 hy1 hn0 hn1 (HL.out.later Hb1.out) Hj.out).mono ?_
    rintro e w3 ⟨rfl, hb⟩
    have Hb3 := Lib.hid (Hb1.out.trans (hb.mono Hb1.out.size))
    clear hb
    go_wp2_with fail
    refine (rJoinC_is x y n _ hx0 hx1 hy0 hy1 hn1 Hj.out).mono ?_
    rintro e w2 ⟨rfl, rfl⟩
    go_wp2_with fail
    refine (csums_any _ (HL.out.later Hb3.out)).mono ?_
    rintro e w4 ⟨rfl, hb⟩
    have Hb4 := Lib.hid (Hb3.out.trans (hb.mono Hb3.out.size))
    clear hb
    go_wp2_with fail
    go_ret
    exact ⟨rfl, Hb4.out⟩

set_option maxRecDepth 100000 in
set_option maxHeartbeats 2000000 in
theorem crsums_walk (p : Option Addr) (cap : Nat) (xs : List ByteArray) (w : World) (hz : xs.length ≤ 9223372036854775807) (hs : ∀ x ∈ xs, x.size ≤ maxLen) (hp : Texts w p xs) (hl : Laid w) :
    Calls Tryd.prog 3 #[.slice p xs.length cap] w (Yes w) := by
  have Hs := Lib.hid hs
  have Hp := Lib.hid hp
  have HL := Lib.hid hl
  clear hs hp hl
  by_cases hbig : (20 : Int) < (xs.length : Int)
  · go_enter Tryd.func3, Tryd.ntmps3
    go_wp2_with fail
    refine (csums_any _ HL.out).mono ?_
    rintro e w1 ⟨rfl, hb⟩
    have Hb := Lib.hid hb
    clear hb
    go_wp2_with fail
    go_ret
    exact ⟨rfl, Hb.out⟩
  · go_enter Tryd.func3, Tryd.ntmps3
    go_wp2_with fail
    go_loopg [3, 4] xs.length (fun g s3 s4 wx => ∃ (j : Nat) (t : ByteArray), j + g = xs.length ∧ s4 = .int .i64 j ∧ s3 = .string t ∧ t.size ≤ 2000 * j ∧ Aside (t.data.toList = flatT (xs.take j)) ∧ w = wx)
    case atStart => exact ⟨0, ByteArray.empty, by omega, rfl, rfl, by decide, rfl, rfl⟩
    case round =>
      obtain ⟨j, t, hjg, rfl, rfl, hts, HT, rfl⟩ := hrel
      cases gk with
      | zero =>
        obtain rfl : j = xs.length := by omega
        obtain ⟨r, hr⟩ : ∃ r, sumN t.data.toList = r := ⟨_, rfl⟩
        have hft : flatT xs = t.data.toList := by rw [HT.out, List.take_length]
        have Hr := Lib.hid hr
        have Hr2 : Hid (sumN (flatT xs) = r) := Lib.hid (by rw [hft]; exact hr)
        clear hjg hr hft
        go_wp2_with fail
        refine (crSum_is p cap xs.length xs _ rfl hz Hs.out Hp.out HL.out Hr2.out).mono ?_
        rintro e w1 ⟨rfl, hb⟩
        have Hb1 := Lib.hid hb
        clear hb
        go_wp2_with fail
        refine (rSumC_is t _ (by unfold maxLen; omega) Hr.out).mono ?_
        rintro e w2 ⟨rfl, rfl⟩
        go_wp2_with fail
        refine (crOne t _ (by omega) (HL.out.later Hb1.out) Hr.out).mono ?_
        rintro e w3 ⟨rfl, hb⟩
        have Hb3 := Lib.hid (Hb1.out.trans (hb.mono Hb1.out.size))
        clear hb
        go_wp2_with fail
        refine (rSumC_is t _ (by unfold maxLen; omega) Hr.out).mono ?_
        rintro e w2 ⟨rfl, rfl⟩
        go_wp2_with fail
        refine (csums_any _ (HL.out.later Hb3.out)).mono ?_
        rintro e w4 ⟨rfl, hb⟩
        have Hb4 := Lib.hid (Hb3.out.trans (hb.mono Hb3.out.size))
        clear hb
        go_wp2_with fail
        go_ret
        exact ⟨rfl, Hb4.out⟩
      | succ g =>
        have hj : j < xs.length := by omega
        have hjz : ((j : Int) < (xs.length : Int)) := by omega
        obtain ⟨b1, o1, rfl, hc1⟩ := Hp.out.at j hj
        obtain ⟨x, hx⟩ : ∃ x, xs[j]?.getD ByteArray.empty = x := ⟨_, rfl⟩
        rw [hx] at hc1
        have hft := flatT_take hj hx
        have hxs : x.size ≤ maxLen := Hs.out x (by rw [← hx, List.getElem?_eq_getElem hj]; exact List.getElem_mem hj)
        unfold maxLen at hxs
        have Hft := Lib.hid hft
        have Hjg := Lib.hid hjg
        clear hjg hx hft
        by_cases hlong : (2000 : Int) < (x.size : Int)
        · go_wp2_with fail
          refine (csums_any _ HL.out).mono ?_
          rintro e w4 ⟨rfl, hb⟩
          have Hb4 := Lib.hid hb
          clear hb
          go_wp2_with fail
          go_ret
          exact ⟨rfl, Hb4.out⟩
        · go_wp2_with fail
          go_roundg g
          case measure => omega
          case rel => exact ⟨j + 1, _, by have := Hjg.out; omega, by go_num, rfl, by rw [ByteArray.size_append]; omega, by rw [app_data, HT.out]; exact Hft.out.symm, rfl⟩

end Go.Proofs.YtllimejpmihpfaaDoor
