/-
  The contracts of the small functions of package crc: pass, take, isSum.
-/
import Derived.Test.YtllimejpmihpfaaDoorCTab
import Derived.WalkKit
import Derived.WalkSpells
import Derived.WalkLawsBesides
import Derived.WalkSmall
import Derived.Lib.Hide
import Derived.Deep.LoopGhost
import Derived.Laws.BitsAllLaws
namespace Go.Proofs.YtllimejpmihpfaaDoor
open Go.RowKit

theorem nib_xor {n m z : Nat} (hn : n < 4294967296) (hz : HN 4 (n % 16) = z) (hm : HN 4 n = m) : bits .xor .u32 ((n : Int) / 16) (z : Int) = (m : Int) := by
  have hz2 : z < 4294967296 := by rw [← hz]; exact HN_lt 4 (by omega)
  have h := u32_xor_nat (n / 16) z (by omega) hz2
  rw [← hz, ← HN4_split n, hm] at h
  rw [← h, hz]
  simp
set_option maxHeartbeats 1000000 in
theorem pass_any (n : Nat) (w : World) (hn : n < 4294967296) (hl : Laid w) :
    Calls Tryd.prog 21 #[.int .u32 (n : Int)] w fun e w' => e = .returned (.int .u32 (HN 8 n : Int)) ∧ w = w' := by
  obtain ⟨m, hm⟩ : ∃ m : Nat, HN 4 n = m := ⟨_, rfl⟩
  have hml : m < 4294967296 := by rw [← hm]; exact HN_lt 4 hn
  obtain ⟨k, hk⟩ : ∃ k : Nat, HN 4 m = k := ⟨_, rfl⟩
  have h8 : HN 8 n = k := by rw [show 8 = 4 + 4 from rfl, HN_add, hm, hk]
  obtain ⟨z1, hz1⟩ : ∃ z : Nat, HN 4 (n % 16) = z := ⟨_, rfl⟩
  obtain ⟨z2, hz2⟩ : ∃ z : Nat, HN 4 (m % 16) = z := ⟨_, rfl⟩
  have hx1 := nib_xor hn hz1 hm
  have hx2 := nib_xor hml hz2 hk
  have hc1 := hl.nib (show n % 16 < 16 by omega)
  have hc2 := hl.nib (show m % 16 < 16 by omega)
  rw [hz1] at hc1
  rw [hz2] at hc2
  rw [h8]
  clear hm hk h8 hz1 hz2 hl
  go_enter Tryd.func21, Tryd.ntmps21
  go_wp2_with fail
  go_ret
  exact ⟨rfl, rfl⟩

set_option maxHeartbeats 1000000 in
theorem take_any (x : Nat) (s : ByteArray) (w : World) (hs : s.size ≤ maxLen) (hx : x < 4294967296) (hl : Laid w) :
    Calls Tryd.prog 14 #[.int .u32 (x : Int), .string s] w fun e w' => e = .returned (.int .u32 (foldN x s.data.toList : Int)) ∧ w = w' := by
  unfold maxLen at hs
  have Hl := Lib.hid hl
  clear hl
  go_enter Tryd.func14, Tryd.ntmps14
  go_wp2_with fail
  go_loop [0, 8] (fun v i => ∃ k z : Nat, k ≤ s.size ∧ i = .int .i64 k ∧ v = .int .u32 z ∧ z < 4294967296 ∧ Aside (z = foldN x (s.data.toList.take k))) (fun _ i => s.size - (intOf i).toNat)
  case atStart => exact ⟨0, x, Nat.zero_le _, rfl, rfl, hx, rfl⟩
  case round =>
    obtain ⟨k, z, hk, rfl, rfl, hz, HZ⟩ := hrel
    by_cases hlt : k < s.size
    · have hc : s[k].toNat < 256 := s[k].toNat_lt
      have hz2 := stepN_lt hz s[k]
      have Hst : Hid (foldN x (s.data.toList.take (k + 1)) = stepN z s[k].toNat) := Lib.hid (by rw [foldN_take _ s k hlt, HZ.out])
      have hxor := u32_xor_nat z s[k].toNat hz (by omega)
      have hxl : z ^^^ s[k].toNat < 4294967296 := Nat.xor_lt_two_pow (n := 32) hz (by omega)
      obtain ⟨y, hy⟩ : ∃ y, z ^^^ s[k].toNat = y := ⟨_, rfl⟩
      rw [hy] at hxor hxl
      have Hy : Hid (stepN z s[k].toNat = HN 8 y) := Lib.hid (by unfold stepN; rw [hy])
      clear hy
      go_wp2_with fail
      refine (pass_any y _ hxl Hl.out).mono ?_
      rintro e w1 ⟨rfl, rfl⟩
      go_wp2_with fail
      go_round
      case rel => exact ⟨k + 1, HN 8 y, by omega, by go_num, rfl, by rw [← Hy.out]; exact hz2, by show HN 8 y = _; rw [Hst.out, Hy.out]⟩
      case measure => simp [intOf]; omega
    · obtain rfl : k = s.size := by omega
      have Hr : Hid (foldN x s.data.toList = z) := Lib.hid (by rw [HZ.out, List.take_of_length_le (by rw [← size_data]; exact Nat.le_refl _)])
      go_wp2_with fail
      go_ret
      exact ⟨ret_int (by rw [Hr.out]), rfl⟩

theorem isSum_yes (n : Nat) (w : World) (h : n ≤ 4294967295) : Calls Tryd.prog 16 #[.int .i64 (n : Int)] w fun e w' => e = .returned (.bool true) ∧ w = w' := by
  have h0 : (0 : Int) ≤ (n : Int) := by omega
  have h1 : (n : Int) ≤ 4294967295 := by omega
  go_enter Tryd.func16, Tryd.ntmps16
  go_wp2_with fail
  go_ret
  exact ⟨rfl, rfl⟩
theorem isSum_no (n : Int) (w : World) (h0 : -9223372036854775808 ≤ n) (h1 : n ≤ 9223372036854775807) (h : n < 0 ∨ 4294967295 < n) : Calls Tryd.prog 16 #[.int .i64 n] w fun e w' => e = .returned (.bool false) ∧ w = w' := by
  rcases h with h | h
  · have a : ¬ 0 ≤ n := by omega
    go_enter Tryd.func16, Tryd.ntmps16
    go_wp2_with fail
    go_ret
    exact ⟨rfl, rfl⟩
  · have a : 0 ≤ n := by omega
    have b : ¬ n ≤ 4294967295 := by omega
    go_enter Tryd.func16, Tryd.ntmps16
    go_wp2_with fail
    go_ret
    exact ⟨rfl, rfl⟩

end Go.Proofs.YtllimejpmihpfaaDoor
