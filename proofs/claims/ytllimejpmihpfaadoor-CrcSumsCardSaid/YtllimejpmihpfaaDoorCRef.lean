/-
  The contracts of the document's check sum of 32 bits.
-/
import Derived.Test.YtllimejpmihpfaaDoorRows
import Derived.Test.YtllimejpmihpfaaDoorCPlain
import Derived.WalkKit
import Derived.WalkSpells
import Derived.WalkLawsBesides
import Derived.WalkSmall
import Derived.Lib.Hide
import Derived.Deep.LoopGhost
import Derived.Laws.BitsAllLaws
namespace Go.Proofs.YtllimejpmihpfaaDoor
open Go.RowKit

def CNums (r : Int × Int) : Ending := .returned (.tuple #[.int .i64 r.1, .int .i64 r.2])
theorem cNums_mk {a b : Int} {r : Int × Int} (h : (a, b) = r) : Ending.returned (.tuple #[.int .i64 a, .int .i64 b]) = CNums r := by subst h; rfl

theorem xor_top (z : Nat) (hz : z < 4294967296) : bits .xor .u32 (z : Int) 4294967295 = ((z ^^^ 4294967295 : Nat) : Int) := u32_xor_nat z 4294967295 hz (by omega)
theorem hN_odd {x : Nat} (h : x % 2 = 1) : hN x = x / 2 ^^^ 3988292384 := by unfold hN; rw [if_pos h]
theorem hN_even {x : Nat} (h : ¬ x % 2 = 1) : hN x = x / 2 := by unfold hN; rw [if_neg h]

set_option maxHeartbeats 1000000 in
theorem rHalve_any (x : Nat) (w : World) (hx : x < 4294967296) :
    Calls Tryd.prog 22 #[.int .u32 (x : Int)] w fun e w' => e = .returned (.int .u32 (hN x : Int)) ∧ w = w' := by
  by_cases h : x % 2 = 1
  · have Hr := Lib.hid (hN_odd h)
    have hx2 := u32_xor_nat (x / 2) 3988292384 (by omega) (by omega)
    have h' : (((x : Int) % 2) == 1) = true := beq_iff_eq.2 (by omega)
    clear h
    go_enter Tryd.func22, Tryd.ntmps22
    go_wp2_with fail
    go_ret
    exact ⟨ret_int (by rw [Hr.out, ← hx2]; first | done | rfl), rfl⟩
  · have Hr := Lib.hid (hN_even h)
    have h' : (((x : Int) % 2) == 1) = false := beq_eq_false_iff_ne.2 (by omega)
    clear h
    go_enter Tryd.func22, Tryd.ntmps22
    go_wp2_with fail
    go_ret
    exact ⟨ret_int (by rw [Hr.out]; first | done | rfl), rfl⟩

set_option maxHeartbeats 1000000 in
theorem rStep_any (x c : Nat) (w : World) (hx : x < 4294967296) (hc : c < 256) :
    Calls Tryd.prog 15 #[.int .u32 (x : Int), .int .u8 (c : Int)] w fun e w' => e = .returned (.int .u32 (stepN x c : Int)) ∧ w = w' := by
  have hxor := u32_xor_nat x c hx (by omega)
  have hlt : x ^^^ c < 4294967296 := Nat.xor_lt_two_pow (n := 32) hx (by omega)
  obtain ⟨y, hy⟩ : ∃ y, x ^^^ c = y := ⟨_, rfl⟩
  rw [hy] at hxor hlt
  have Hr : Hid (stepN x c = HN 8 y) := Lib.hid (by unfold stepN; rw [hy])
  clear hy
  go_enter Tryd.func15, Tryd.ntmps15
  go_wp2_with fail
  go_loopg [0, 5] 8 (fun g s0 s5 wx => ∃ (j z : Nat), j + g = 8 ∧ s5 = .int .i64 j ∧ s0 = .int .u32 z ∧ z < 4294967296 ∧ Aside (z = HN j y) ∧ w = wx)
  case atStart => exact ⟨0, y, rfl, rfl, rfl, hlt, rfl, rfl⟩
  case round =>
    obtain ⟨j, z, hj, rfl, rfl, hz, HZ, rfl⟩ := hrel
    cases gk with
    | zero =>
      obtain rfl : j = 8 := by omega
      go_wp2_with fail
      go_ret
      exact ⟨ret_int (by rw [Hr.out, HZ.out]), rfl⟩
    | succ g =>
      have hlt8 : (j : Int) < 8 := by omega
      have hz2 := hN_lt hz
      go_wp2_with fail
      refine (rHalve_any z _ hz).mono ?_
      rintro e w1 ⟨rfl, rfl⟩
      go_wp2_with fail
      go_roundg g
      case measure => omega
      case rel => exact ⟨j + 1, hN z, by omega, by go_num, rfl, hz2, by show hN z = HN (j + 1) y; rw [HZ.out, HN_succ], rfl⟩

theorem foldN_take (x : Nat) (s : ByteArray) (k : Nat) (h : k < s.size) : foldN x (s.data.toList.take (k + 1)) = stepN (foldN x (s.data.toList.take k)) s[k].toNat := by
  rw [take_snoc s k h, foldN_snoc]

set_option maxHeartbeats 1000000 in
theorem rSumC_any (s : ByteArray) (w : World) (hs : s.size ≤ maxLen) :
    Calls Tryd.prog 9 #[.string s] w fun e w' => e = .returned (.int .i64 (sumN s.data.toList : Int)) ∧ w = w' := by
  unfold maxLen at hs
  go_enter Tryd.func9, Tryd.ntmps9
  go_wp2_with fail
  go_loop [3, 4] (fun x i => ∃ k z : Nat, k ≤ s.size ∧ i = .int .i64 k ∧ x = .int .u32 z ∧ z < 4294967296 ∧ Aside (z = foldN 4294967295 (s.data.toList.take k))) (fun _ i => s.size - (intOf i).toNat)
  case atStart => exact ⟨0, 4294967295, Nat.zero_le _, rfl, rfl, by omega, rfl⟩
  case round =>
    obtain ⟨k, z, hk, rfl, rfl, hz, HZ⟩ := hrel
    by_cases hlt : k < s.size
    · have hc : s[k].toNat < 256 := s[k].toNat_lt
      have hz2 := stepN_lt hz s[k]
      have Hst : Hid (foldN 4294967295 (s.data.toList.take (k + 1)) = stepN z s[k].toNat) := Lib.hid (by rw [foldN_take _ s k hlt, HZ.out])
      go_wp2_with fail
      refine (rStep_any z s[k].toNat _ hz hc).mono ?_
      rintro e w1 ⟨rfl, rfl⟩
      go_wp2_with fail
      go_round
      case rel => exact ⟨k + 1, stepN z s[k].toNat, by omega, by go_num, rfl, hz2, Hst.out.symm⟩
      case measure => simp [intOf]; omega
    · obtain rfl : k = s.size := by omega
      have hxor := xor_top z hz
      have hlt2 : z ^^^ 4294967295 < 4294967296 := Nat.xor_lt_two_pow (n := 32) hz (by omega)
      have Hr : Hid (sumN s.data.toList = z ^^^ 4294967295) := Lib.hid (by unfold sumN; rw [HZ.out, List.take_of_length_le (by rw [← size_data]; exact Nat.le_refl _)])
      obtain ⟨y, hy⟩ : ∃ y, z ^^^ 4294967295 = y := ⟨_, rfl⟩
      rw [hy] at hxor hlt2 Hr
      clear hy
      go_wp2_with fail
      go_ret
      exact ⟨ret_int (by rw [Hr.out]), rfl⟩

theorem rIsC_any (n : Int) (w : World) (h0 : -9223372036854775808 ≤ n) (h1 : n ≤ 9223372036854775807) :
    Calls Tryd.prog 17 #[.int .i64 n] w fun e w' => e = .returned (.bool (decide (0 ≤ n ∧ n ≤ 4294967295))) ∧ w = w' := by
  by_cases ha : 0 ≤ n
  · by_cases hb : n ≤ 4294967295
    · go_enter Tryd.func17, Tryd.ntmps17
      go_wp2_with fail
      go_ret
      exact ⟨ret_bool (by simp; omega), rfl⟩
    · go_enter Tryd.func17, Tryd.ntmps17
      go_wp2_with fail
      go_ret
      exact ⟨ret_bool (by simp; omega), rfl⟩
  · go_enter Tryd.func17, Tryd.ntmps17
    go_wp2_with fail
    go_ret
    exact ⟨ret_bool (by simp; omega), rfl⟩
theorem rIsC_yes (n : Nat) (w : World) (h : n ≤ 4294967295) : Calls Tryd.prog 17 #[.int .i64 (n : Int)] w fun e w' => e = .returned (.bool true) ∧ w = w' := by
  have := rIsC_any (n : Int) w (by omega) (by omega)
  rwa [decide_eq_true (show 0 ≤ (n : Int) ∧ (n : Int) ≤ 4294967295 by omega)] at this
theorem rIsC_no (n : Int) (w : World) (h0 : -9223372036854775808 ≤ n) (h1 : n ≤ 9223372036854775807) (h : n < 0 ∨ 4294967295 < n) : Calls Tryd.prog 17 #[.int .i64 n] w fun e w' => e = .returned (.bool false) ∧ w = w' := by
  have := rIsC_any n w h0 h1
  rwa [decide_eq_false (show ¬ (0 ≤ n ∧ n ≤ 4294967295) by omega)] at this

set_option maxHeartbeats 1000000 in
theorem rMoreC_any (n : Int) (s : ByteArray) (w : World) (hs : s.size ≤ maxLen) (h0 : -9223372036854775808 ≤ n) (h1 : n ≤ 9223372036854775807) :
    Calls Tryd.prog 11 #[.int .i64 n, .string s] w fun e w' => e = CNums (cMore n s.data.toList) ∧ w = w' := by
  unfold maxLen at hs
  by_cases hb : n < 0 ∨ 4294967295 < n
  · have Hr := Lib.hid (cMore_no (l := s.data.toList) hb)
    have Hn := Lib.hid (fun W => rIsC_no n W h0 h1 hb)
    clear hb
    go_enter Tryd.func11, Tryd.ntmps11
    go_wp2_with fail
    refine (Hn.out _).mono ?_
    rintro e w1 ⟨rfl, rfl⟩
    go_wp2_with fail
    go_ret2
    exact ⟨cNums_mk (by rw [Hr.out]), rfl⟩
  · obtain ⟨m, rfl⟩ := Int.eq_ofNat_of_zero_le (show 0 ≤ n by omega)
    have hm : m ≤ 4294967295 := by omega
    have Hr := Lib.hid (cMore_ok (l := s.data.toList) hm)
    have Hn := Lib.hid (fun W => rIsC_yes m W hm)
    have hxor := xor_top m (by omega)
    have hlt : m ^^^ 4294967295 < 4294967296 := Nat.xor_lt_two_pow (n := 32) (by omega) (by omega)
    obtain ⟨y, hy⟩ : ∃ y, m ^^^ 4294967295 = y := ⟨_, rfl⟩
    rw [hy] at hxor hlt Hr
    clear hb hy
    go_enter Tryd.func11, Tryd.ntmps11
    go_wp2_with fail
    refine (Hn.out _).mono ?_
    rintro e w1 ⟨rfl, rfl⟩
    go_wp2_with fail
    go_loop [6, 7] (fun x i => ∃ k z : Nat, k ≤ s.size ∧ i = .int .i64 k ∧ x = .int .u32 z ∧ z < 4294967296 ∧ Aside (z = foldN y (s.data.toList.take k))) (fun _ i => s.size - (intOf i).toNat)
    case atStart => exact ⟨0, y, Nat.zero_le _, rfl, rfl, hlt, rfl⟩
    case round =>
      obtain ⟨k, z, hk, rfl, rfl, hz, HZ⟩ := hrel
      by_cases hlt1 : k < s.size
      · have hc : s[k].toNat < 256 := s[k].toNat_lt
        have hz2 := stepN_lt hz s[k]
        have Hst : Hid (foldN y (s.data.toList.take (k + 1)) = stepN z s[k].toNat) := Lib.hid (by rw [foldN_take _ s k hlt1, HZ.out])
        go_wp2_with fail
        refine (rStep_any z s[k].toNat _ hz hc).mono ?_
        rintro e w1 ⟨rfl, rfl⟩
        go_wp2_with fail
        go_round
        case rel => exact ⟨k + 1, stepN z s[k].toNat, by omega, by go_num, rfl, hz2, Hst.out.symm⟩
        case measure => simp [intOf]; omega
      · obtain rfl : k = s.size := by omega
        have hxor2 := xor_top z hz
        have hlt2 : z ^^^ 4294967295 < 4294967296 := Nat.xor_lt_two_pow (n := 32) hz (by omega)
        have Hr2 : Hid (cMore (m : Int) s.data.toList = (((z ^^^ 4294967295 : Nat) : Int), 0)) := Lib.hid (by rw [Hr.out, HZ.out, List.take_of_length_le (by rw [← size_data]; exact Nat.le_refl _)])
        obtain ⟨v, hv⟩ : ∃ v, z ^^^ 4294967295 = v := ⟨_, rfl⟩
        rw [hv] at hxor2 hlt2 Hr2
        clear hv
        go_wp2_with fail
        go_ret2
        exact ⟨cNums_mk (by rw [Hr2.out]), rfl⟩

set_option maxHeartbeats 1000000 in
theorem rJoinC_nat (a b n : Nat) (w : World) (ha : a ≤ 4294967295) (hb : b ≤ 4294967295) (hn : n ≤ 9223372036854775807) :
    Calls Tryd.prog 13 #[.int .i64 (a : Int), .int .i64 (b : Int), .int .i64 (n : Int)] w fun e w' => e = CNums (cJoin a b n) ∧ w = w' := by
  have Hr := Lib.hid (cJoin_ok (n := n) ha hb)
  have Ha := Lib.hid (fun W => rIsC_yes a W ha)
  have Hb := Lib.hid (fun W => rIsC_yes b W hb)
  go_enter Tryd.func13, Tryd.ntmps13
  go_wp2_with fail
  refine (Ha.out _).mono ?_
  rintro e w1 ⟨rfl, rfl⟩
  go_wp2_with fail
  refine (Hb.out _).mono ?_
  rintro e w1 ⟨rfl, rfl⟩
  go_wp2_with fail
  go_loopg [8, 9] n (fun g s8 s9 wx => ∃ (j z : Nat), j + g = n ∧ s9 = .int .i64 j ∧ s8 = .int .u32 z ∧ z < 4294967296 ∧ Aside (z = HN (8 * j) a) ∧ w = wx)
  case atStart => exact ⟨0, a, by omega, rfl, rfl, by omega, rfl, rfl⟩
  case round =>
    obtain ⟨j, z, hj, rfl, rfl, hz, HZ, rfl⟩ := hrel
    cases gk with
    | zero =>
      obtain rfl : j = n := by omega
      have hxor2 := u32_xor_nat z b hz (by omega)
      have hlt2 : z ^^^ b < 4294967296 := Nat.xor_lt_two_pow (n := 32) hz (by omega)
      have Hr2 : Hid (cJoin (a : Int) (b : Int) (j : Int) = (((z ^^^ b : Nat) : Int), 0)) := Lib.hid (by rw [Hr.out, HZ.out])
      obtain ⟨v, hv⟩ : ∃ v, z ^^^ b = v := ⟨_, rfl⟩
      rw [hv] at hxor2 hlt2 Hr2
      clear hv
      go_wp2_with fail
      go_ret2
      exact ⟨cNums_mk (by rw [Hr2.out]), rfl⟩
    | succ g =>
      have hlt8 : (j : Int) < (n : Int) := by omega
      have hz2 : stepN z 0 < 4294967296 := HN_lt 8 (by simpa using hz)
      have Hst : Hid (stepN z 0 = HN (8 * (j + 1)) a) := Lib.hid (by unfold stepN; rw [Nat.xor_zero, HZ.out, ← HN_add, show 8 * j + 8 = 8 * (j + 1) from by omega])
      go_wp2_with fail
      refine (rStep_any z 0 _ hz (by omega)).mono ?_
      rintro e w1 ⟨rfl, rfl⟩
      go_wp2_with fail
      go_roundg g
      case measure => omega
      case rel => exact ⟨j + 1, stepN z 0, by omega, by go_num, rfl, hz2, Hst.out, rfl⟩

set_option maxHeartbeats 1000000 in
theorem rJoinC_any (a b n : Int) (w : World) (ha0 : -9223372036854775808 ≤ a) (ha1 : a ≤ 9223372036854775807) (hb0 : -9223372036854775808 ≤ b) (hb1 : b ≤ 9223372036854775807) (hn : n ≤ 9223372036854775807) :
    Calls Tryd.prog 13 #[.int .i64 a, .int .i64 b, .int .i64 n] w fun e w' => e = CNums (cJoin a b n) ∧ w = w' := by
  by_cases h1 : a < 0 ∨ 4294967295 < a
  · have Hr := Lib.hid (cJoin_no (b := b) (n := n) (.inl h1))
    have Ha := Lib.hid (fun W => rIsC_no a W ha0 ha1 h1)
    clear h1
    go_enter Tryd.func13, Tryd.ntmps13
    go_wp2_with fail
    refine (Ha.out _).mono ?_
    rintro e w1 ⟨rfl, rfl⟩
    go_wp2_with fail
    go_ret2
    exact ⟨cNums_mk (by rw [Hr.out]), rfl⟩
  · obtain ⟨a, rfl⟩ := Int.eq_ofNat_of_zero_le (show 0 ≤ a by omega)
    have Ha := Lib.hid (fun W => rIsC_yes a W (by omega))
    by_cases h2 : b < 0 ∨ 4294967295 < b
    · have Hr := Lib.hid (cJoin_no (a := (a : Int)) (n := n) (.inr (.inl h2)))
      have Hb := Lib.hid (fun W => rIsC_no b W hb0 hb1 h2)
      clear h1 h2
      go_enter Tryd.func13, Tryd.ntmps13
      go_wp2_with fail
      refine (Ha.out _).mono ?_
      rintro e w1 ⟨rfl, rfl⟩
      go_wp2_with fail
      refine (Hb.out _).mono ?_
      rintro e w1 ⟨rfl, rfl⟩
      go_wp2_with fail
      go_ret2
      exact ⟨cNums_mk (by rw [Hr.out]), rfl⟩
    · obtain ⟨b, rfl⟩ := Int.eq_ofNat_of_zero_le (show 0 ≤ b by omega)
      by_cases h3 : n < 0
      · have Hr := Lib.hid (cJoin_no (a := (a : Int)) (b := (b : Int)) (.inr (.inr h3)))
        have Hb := Lib.hid (fun W => rIsC_yes b W (by omega))
        clear h1 h2
        go_enter Tryd.func13, Tryd.ntmps13
        go_wp2_with fail
        refine (Ha.out _).mono ?_
        rintro e w1 ⟨rfl, rfl⟩
        go_wp2_with fail
        refine (Hb.out _).mono ?_
        rintro e w1 ⟨rfl, rfl⟩
        go_wp2_with fail
        go_ret2
        exact ⟨cNums_mk (by rw [Hr.out]), rfl⟩
      · obtain ⟨n, rfl⟩ := Int.eq_ofNat_of_zero_le (show 0 ≤ n by omega)
        exact rJoinC_nat a b n w (by omega) (by omega) (by omega)

theorem rMoreC_is (n : Int) (s : ByteArray) (w : World) (hs : s.size ≤ maxLen) (h0 : -9223372036854775808 ≤ n) (h1 : n ≤ 9223372036854775807) {a b : Int} (h : cMore n s.data.toList = (a, b)) :
    Calls Tryd.prog 11 #[.int .i64 n, .string s] w fun e w' => e = .returned (.tuple #[.int .i64 a, .int .i64 b]) ∧ w = w' := by
  have hr := rMoreC_any n s w hs h0 h1
  rw [h] at hr; exact hr
theorem rJoinC_is (a b n : Int) (w : World) (ha0 : -9223372036854775808 ≤ a) (ha1 : a ≤ 9223372036854775807) (hb0 : -9223372036854775808 ≤ b) (hb1 : b ≤ 9223372036854775807) (hn : n ≤ 9223372036854775807) {x y : Int} (h : cJoin a b n = (x, y)) :
    Calls Tryd.prog 13 #[.int .i64 a, .int .i64 b, .int .i64 n] w fun e w' => e = .returned (.tuple #[.int .i64 x, .int .i64 y]) ∧ w = w' := by
  have hr := rJoinC_any a b n w ha0 ha1 hb0 hb1 hn
  rw [h] at hr; exact hr

end Go.Proofs.YtllimejpmihpfaaDoor
