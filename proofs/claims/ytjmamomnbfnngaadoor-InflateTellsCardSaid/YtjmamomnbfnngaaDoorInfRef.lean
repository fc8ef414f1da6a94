/-
  The contracts of the document's small functions on deflated bytes: Extra, Power, Length, Distance; bits, symbol, fail.
-/
import Derived.Test.YtjmamomnbfnngaaDoorGPlain
import Derived.Test.YtjmamomnbfnngaaDoorGHeld
import Derived.Test.YtjmamomnbfnngaaDoorGCodeR
import Derived.Test.YtjmamomnbfnngaaDoorGRows
namespace Go.Proofs.YtjmamomnbfnngaaDoor
open Go.RowKit

set_option maxHeartbeats 1000000 in
theorem rExtra_any (n f g : Nat) (w : World) (hn : n ≤ 1000) (hf : f ≤ 1000) (hg : 0 < g) (hg2 : g ≤ 1000) :
    Calls Tryd.prog 52 #[.int .i64 (n : Int), .int .i64 (f : Int), .int .i64 (g : Int)] w fun e w' => e = .returned (.int .i64 (extraN n f g : Int)) ∧ w = w' := by
  by_cases h : n < f
  · have hr : extraN n f g = 0 := by unfold extraN; rw [if_pos h]
    have hz : (n : Int) < (f : Int) := by omega
    rw [hr]
    clear hr h
    go_enter Tryd.func52, Tryd.ntmps52
    go_wp2_with fail
    go_ret
    exact ⟨rfl, rfl⟩
  · obtain ⟨d, hd⟩ : ∃ d, n - f = d := ⟨_, rfl⟩
    obtain ⟨q, hq⟩ : ∃ q, d / g = q := ⟨_, rfl⟩
    have hr : extraN n f g = q + 1 := by unfold extraN; rw [if_neg h, hd, hq]
    have hz : ¬ (n : Int) < (f : Int) := by omega
    have hdz : (n : Int) - (f : Int) = (d : Int) := by omega
    have hqz : (d : Int) / (g : Int) = (q : Int) := by rw [← hq]; simp
    have hqt : (d : Int).tdiv (g : Int) = (q : Int) := by rw [Int.tdiv_eq_ediv_of_nonneg (by omega)]; exact hqz
    have hql : q ≤ 1000 := by rw [← hq]; have := Nat.div_le_self d g; omega
    have hgz : ((g : Int) == 0) = false := by rw [beq_eq_false_iff_ne]; omega
    have hgz2 : ¬ (g : Int) = 0 := by omega
    rw [hr]
    clear hr h hd hq
    go_enter Tryd.func52, Tryd.ntmps52
    go_wp2_with fail
    go_ret
    exact ⟨ret_int (by simp), rfl⟩

set_option maxHeartbeats 1000000 in
theorem rPow_any (v : Nat) (w : World) (h : v ≤ 16) :
    Calls Tryd.prog 67 #[.int .i64 (v : Int)] w fun e w' => e = .returned (.int .i64 ((2 ^ v : Nat) : Int)) ∧ w = w' := by
  go_enter Tryd.func67, Tryd.ntmps67
  go_wp2_with fail
  go_loopg [3, 4] v (fun g s3 s4 wx => ∃ (j z : Nat), j + g = v ∧ s4 = .int .i64 j ∧ s3 = .int .i64 z ∧ z ≤ 65536 ∧ Aside (z = 2 ^ j) ∧ w = wx)
  case atStart => exact ⟨0, 1, by omega, rfl, rfl, by omega, rfl, rfl⟩
  case round =>
    obtain ⟨j, z, hjg, rfl, rfl, hz, HZ, rfl⟩ := hrel
    cases gk with
    | zero =>
      obtain rfl : j = v := by omega
      go_wp2_with fail
      go_ret
      exact ⟨ret_int (by rw [HZ.out]), rfl⟩
    | succ g =>
      have hjz : (j : Int) < (v : Int) := by omega
      have hz2 : Hid (2 * z ≤ 65536) := Lib.hid (by
        have h1 : (2 : Nat) ^ (j + 1) ≤ 2 ^ 16 := Nat.pow_le_pow_right (by omega) (by omega)
        rw [Nat.pow_succ] at h1
        have := HZ.out
        omega)
      go_wp2_with fail
      go_roundg g
      case measure => omega
      case rel => exact ⟨j + 1, 2 * z, by omega, by go_num, by go_num, hz2.out, by show _ = _; rw [HZ.out, Nat.pow_succ]; omega, rfl⟩
theorem sumL_small : ∀ k : Fin 30, sumL k.val ≤ 1000 := by decide +kernel
theorem distN_small : ∀ k : Fin 31, distN k.val ≤ 40000 := by decide +kernel
theorem sumL_le {k : Nat} (h : k ≤ 29) : sumL k ≤ 1000 := sumL_small ⟨k, by omega⟩
theorem distN_le {k : Nat} (h : k ≤ 30) : distN k ≤ 40000 := distN_small ⟨k, by omega⟩
theorem lengthN_le {k : Nat} (h : k ≤ 28) : lengthN k ≤ 1000 := by
  unfold lengthN
  split
  · omega
  · exact sumL_le (by omega)
set_option maxHeartbeats 1000000 in
theorem rLength_any (k : Nat) (w : World) (h : k ≤ 28) :
    Calls Tryd.prog 53 #[.int .i64 (k : Int)] w fun e w' => e = .returned (.int .i64 (lengthN k : Int)) ∧ w = w' := by
  by_cases h28 : k = 28
  · have hr : lengthN k = 258 := by unfold lengthN; rw [if_pos h28]
    rw [hr]
    subst h28
    go_enter Tryd.func53, Tryd.ntmps53
    go_wp2_with fail
    go_ret
    exact ⟨rfl, rfl⟩
  · have hr : lengthN k = sumL k := by unfold lengthN; rw [if_neg h28]
    have hz : ((k : Int) == 28) = false := by rw [beq_eq_false_iff_ne]; omega
    have Hr := Lib.hid hr
    clear hr h28
    go_enter Tryd.func53, Tryd.ntmps53
    go_wp2_with fail
    go_loopg [3, 4] k (fun g s3 s4 wx => ∃ (j z : Nat), j + g = k ∧ s4 = .int .i64 j ∧ s3 = .int .i64 z ∧ z ≤ 1000 ∧ Aside (z = sumL j) ∧ w = wx)
    case atStart => exact ⟨0, 3, by omega, rfl, rfl, by omega, rfl, rfl⟩
    case round =>
      obtain ⟨j, z, hjg, rfl, rfl, hz1, HZ, rfl⟩ := hrel
      cases gk with
      | zero =>
        obtain rfl : j = k := by omega
        go_wp2_with fail
        go_ret
        exact ⟨ret_int (by rw [HZ.out, Hr.out]), rfl⟩
      | succ g =>
        have hjz : (j : Int) < (k : Int) := by omega
        obtain ⟨x, hx⟩ : ∃ x, extraN j 8 4 = x := ⟨_, rfl⟩
        have hx6 : x ≤ 6 := by rw [← hx]; exact extra_len (by omega)
        have H1 := Lib.hid (rExtra_any j 8 4 w (by omega) (by omega) (by omega) (by omega))
        have H2 := Lib.hid (rPow_any x w (by omega))
        obtain ⟨y, hy⟩ : ∃ y, 2 ^ x = y := ⟨_, rfl⟩
        have hn : sumL (j + 1) = z + y := by rw [sumL, hx, hy, HZ.out]
        have hn2 : sumL (j + 1) ≤ 1000 := sumL_le (by omega)
        rw [hx] at H1
        rw [hy] at H2
        have hzy : z + y ≤ 1000 := by omega
        have Hn := Lib.hid hn
        clear hx hy hn hn2
        go_wp2_with fail
        refine H1.out.mono ?_
        rintro e w1 ⟨rfl, rfl⟩
        go_wp2_with fail
        refine H2.out.mono ?_
        rintro e w1 ⟨rfl, rfl⟩
        go_wp2_with fail
        go_roundg g
        case measure => omega
        case rel => exact ⟨j + 1, z + y, by omega, by go_num, by go_num, hzy, Hn.out.symm, rfl⟩
set_option maxHeartbeats 1000000 in
theorem rDistance_any (k : Nat) (w : World) (h : k ≤ 29) :
    Calls Tryd.prog 54 #[.int .i64 (k : Int)] w fun e w' => e = .returned (.int .i64 (distN k : Int)) ∧ w = w' := by
  go_enter Tryd.func54, Tryd.ntmps54
  go_wp2_with fail
  go_loopg [3, 4] k (fun g s3 s4 wx => ∃ (j z : Nat), j + g = k ∧ s4 = .int .i64 j ∧ s3 = .int .i64 z ∧ z ≤ 40000 ∧ Aside (z = distN j) ∧ w = wx)
  case atStart => exact ⟨0, 1, by omega, rfl, rfl, by omega, rfl, rfl⟩
  case round =>
    obtain ⟨j, z, hjg, rfl, rfl, hz1, HZ, rfl⟩ := hrel
    cases gk with
    | zero =>
      obtain rfl : j = k := by omega
      go_wp2_with fail
      go_ret
      exact ⟨ret_int (by rw [HZ.out]), rfl⟩
    | succ g =>
      have hjz : (j : Int) < (k : Int) := by omega
      obtain ⟨x, hx⟩ : ∃ x, extraN j 4 2 = x := ⟨_, rfl⟩
      have hx6 : x ≤ 13 := by rw [← hx]; exact extra_dist (by omega)
      have H1 := Lib.hid (rExtra_any j 4 2 w (by omega) (by omega) (by omega) (by omega))
      have H2 := Lib.hid (rPow_any x w (by omega))
      obtain ⟨y, hy⟩ : ∃ y, 2 ^ x = y := ⟨_, rfl⟩
      have hn : distN (j + 1) = z + y := by rw [distN, hx, hy, HZ.out]
      have hn2 : distN (j + 1) ≤ 40000 := distN_le (by omega)
      rw [hx] at H1
      rw [hy] at H2
      have hzy : z + y ≤ 40000 := by omega
      have Hn := Lib.hid hn
      clear hx hy hn hn2
      go_wp2_with fail
      refine H1.out.mono ?_
      rintro e w1 ⟨rfl, rfl⟩
      go_wp2_with fail
      refine H2.out.mono ?_
      rintro e w1 ⟨rfl, rfl⟩
      go_wp2_with fail
      go_roundg g
      case measure => omega
      case rel => exact ⟨j + 1, z + y, by omega, by go_num, by go_num, hzy, Hn.out.symm, rfl⟩

end Go.Proofs.YtjmamomnbfnngaaDoor
