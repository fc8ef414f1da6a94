/-
  The walks of the laws of the stage adler: over the contracts of package adler (adSum_is, adMore_is, adJoin_is).
-/
import Derived.Test.YtpanhjhdohdbkaaAContracts
import Derived.Test.YtpanhjhdohdbkaaARef
import Derived.WalkSmall
namespace Go.Proofs.Ytpanhjhdohdbkaa
open Go.RowKit

/-- It answers yes, and leaves what lay. -/
def Yes (w : World) (e : Ending) (w' : World) : Prop := e = .returned (.bool true) ∧ Below w.heap.size w w'

theorem aIs_le {n : Nat} (h : aIs n) : n ≤ 4294967295 := by unfold aIs at h; omega
theorem aSum_le (l : List UInt8) : aSum l ≤ 4294967295 := aIs_le (aSum_ok l)
theorem ex_a1 : aSum (ByteArray.mk #[87, 105, 107, 105]).data.toList = 64618901 := by decide
theorem ex_a2 : aSum (ByteArray.mk #[112, 101, 100, 105, 97]).data.toList = 103285252 := by decide
theorem ex_a3 : aSum (ByteArray.mk #[87, 105, 107, 105, 112, 101, 100, 105, 97]).data.toList = 300286872 := by decide

theorem ex_a4 : aMore 64618901 (ByteArray.mk #[112, 101, 100, 105, 97]).data.toList = (300286872, 0) := by decide
theorem ex_a5 : aJoin 64618901 103285252 5 = (300286872, 0) := by decide
theorem ex_a6 : aMore 65521 (ByteArray.mk #[]).data.toList = (0, 3) := by decide
theorem ex_a7 : aSum (ByteArray.mk #[]).data.toList = 1 := by decide

set_option maxRecDepth 100000 in
set_option maxHeartbeats 2000000 in
theorem asums_any (w : World) : Calls Try.prog 9 #[] w (Yes w) := by
  go_enter Try.func9, Try.ntmps9
  go_wp2_with fail
  refine (adSum_is _ _ (by decide) ex_a1).mono ?_
  rintro e w1 ⟨rfl, hb⟩
  have Hb1 := Lib.hid hb
  clear hb
  go_wp2_with fail
  refine (adMore_is _ _ _ (by decide) (by decide) (by decide) ex_a4).mono ?_
  rintro e w2 ⟨rfl, hb⟩
  have Hb2 := Lib.hid (Hb1.out.trans (hb.mono Hb1.out.size))
  clear hb
  go_wp2_with fail
  refine (adSum_is _ _ (by decide) ex_a1).mono ?_
  rintro e w3 ⟨rfl, hb⟩
  have Hb3 := Lib.hid (Hb2.out.trans (hb.mono Hb2.out.size))
  clear hb
  go_wp2_with fail
  refine (adSum_is _ _ (by decide) ex_a2).mono ?_
  rintro e w4 ⟨rfl, hb⟩
  have Hb4 := Lib.hid (Hb3.out.trans (hb.mono Hb3.out.size))
  clear hb
  go_wp2_with fail
  refine (adJoin_is _ _ _ _ (by decide) (by decide) (by decide) (by decide) (by decide) (by decide) ex_a5).mono ?_
  rintro e w5 ⟨rfl, hb⟩
  have Hb5 := Lib.hid (Hb4.out.trans (hb.mono Hb4.out.size))
  clear hb
  go_wp2_with fail
  refine (adMore_is _ _ _ (by decide) (by decide) (by decide) ex_a6).mono ?_
  rintro e w6 ⟨rfl, hb⟩
  have Hb6 := Lib.hid (Hb5.out.trans (hb.mono Hb5.out.size))
  clear hb
  go_wp2_with fail
  refine (adSum_is _ _ (by decide) ex_a3).mono ?_
  rintro e w7 ⟨rfl, hb⟩
  have Hb7 := Lib.hid (Hb6.out.trans (hb.mono Hb6.out.size))
  clear hb
  go_wp2_with fail
  refine (adSum_is _ _ (by decide) ex_a7).mono ?_
  rintro e w8 ⟨rfl, hb⟩
  have Hb8 := Lib.hid (Hb7.out.trans (hb.mono Hb7.out.size))
  clear hb
  go_wp2_with fail
  go_ret
  exact ⟨rfl, Hb8.out⟩

set_option maxRecDepth 100000 in
set_option maxHeartbeats 2000000 in
theorem adsums_walk (s : ByteArray) (w : World) (hs : s.size ≤ maxLen) :
    Calls Try.prog 3 #[.string s] w (Yes w) := by
  have hs' := hs
  unfold maxLen at hs
  by_cases hbig : (20000 : Int) < (s.size : Int)
  · go_enter Try.func3, Try.ntmps3
    go_wp2_with fail
    refine (asums_any _).mono ?_
    rintro e w1 ⟨rfl, hb⟩
    have Hb := Lib.hid hb
    clear hb
    go_wp2_with fail
    go_ret
    exact ⟨rfl, Hb.out⟩
  · obtain ⟨r, hr⟩ : ∃ r, aSum s.data.toList = r := ⟨_, rfl⟩
    have Hr := Lib.hid hr
    clear hr
    go_enter Try.func3, Try.ntmps3
    go_wp2_with fail
    refine (adSum_is s _ hs' Hr.out).mono ?_
    rintro e w1 ⟨rfl, hb⟩
    have Hb1 := Lib.hid hb
    clear hb
    go_wp2_with fail
    refine (rSumA_is s _ hs' Hr.out).mono ?_
    rintro e w2 ⟨rfl, rfl⟩
    go_wp2_with fail
    refine (asums_any _).mono ?_
    rintro e w3 ⟨rfl, hb⟩
    have Hb3 := Lib.hid (Hb1.out.trans (hb.mono Hb1.out.size))
    clear hb
    go_wp2_with fail
    go_ret
    exact ⟨rfl, Hb3.out⟩

set_option maxRecDepth 100000 in
set_option maxHeartbeats 2000000 in
theorem admore_walk (x y n : Int) (s : ByteArray) (w : World) (hx0 : -9223372036854775808 ≤ x) (hx1 : x ≤ 9223372036854775807) (hy0 : -9223372036854775808 ≤ y) (hy1 : y ≤ 9223372036854775807) (hn0 : -9223372036854775808 ≤ n) (hn1 : n ≤ 9223372036854775807) (hs : s.size ≤ maxLen) :
    Calls Try.prog 4 #[.int .i64 x, .int .i64 y, .int .i64 n, .string s] w (Yes w) := by
  have hs' := hs
  unfold maxLen at hs
  by_cases hbig : (20000 : Int) < (s.size : Int)
  · go_enter Try.func4, Try.ntmps4
    go_wp2_with fail
    refine (asums_any _).mono ?_
    rintro e w1 ⟨rfl, hb⟩
    have Hb := Lib.hid hb
    clear hb
    go_wp2_with fail
    go_ret
    exact ⟨rfl, Hb.out⟩
  · obtain ⟨a, b, hm⟩ : ∃ a b, aMore x s.data.toList = (a, b) := ⟨_, _, rfl⟩
    obtain ⟨c, d, hj⟩ : ∃ c d, aJoin x y n = (c, d) := ⟨_, _, rfl⟩
    have Hm := Lib.hid hm
    have Hj := Lib.hid hj
    clear hm hj
    go_enter Try.func4, Try.ntmps4
    go_wp2_with fail
    refine (adMore_is x s _ hs' hx0 hx1 Hm.out).mono ?_
    rintro e w1 ⟨rfl, hb⟩
    have Hb1 := Lib.hid hb
    clear hb
    go_wp2_with fail
    refine (rMoreA_is x s _ hs' hx0 hx1 Hm.out).mono ?_
    rintro e w2 ⟨rfl, rfl⟩
    go_wp2_with fail
    refine (adJoin_is x y n _ hx0 hx1 hy0 hy1 hn0 hn1 Hj.out).mono ?_
    rintro e w3 ⟨rfl, hb⟩
    have Hb3 := Lib.hid (Hb1.out.trans (hb.mono Hb1.out.size))
    clear hb
    go_wp2_with fail
    refine (rJoinA_is x y n _ hx1 hy1 hn1 Hj.out).mono ?_
    rintro e w2 ⟨rfl, rfl⟩
    go_wp2_with fail
    refine (asums_any _).mono ?_
    rintro e w4 ⟨rfl, hb⟩
    have Hb4 := Lib.hid (Hb3.out.trans (hb.mono Hb3.out.size))
    clear hb
    go_wp2_with fail
    go_ret
    exact ⟨rfl, Hb4.out⟩

end Go.Proofs.Ytpanhjhdohdbkaa
