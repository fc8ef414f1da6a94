/-
  The contracts of the document's sum behind deflated bytes.
-/
import Derived.Test.YtpanhjhdohdbkaaRows
import Derived.Test.YtpanhjhdohdbkaaAPlain
import Derived.WalkKit
import Derived.WalkSpells
import Derived.WalkLawsBesides
import Derived.WalkSmall
import Derived.Lib.Hide
import Derived.Deep.LoopGhost
namespace Go.Proofs.Ytpanhjhdohdbkaa
open Go.RowKit

def ANums (r : Int × Int) : Ending := .returned (.tuple #[.int .i64 r.1, .int .i64 r.2])
theorem aNums_mk {a b : Int} {r : Int × Int} (h : (a, b) = r) : Ending.returned (.tuple #[.int .i64 a, .int .i64 b]) = ANums r := by subst h; rfl

theorem aFold_take (p : Nat × Nat) (s : ByteArray) (k : Nat) (h : k < s.size) : aFold p (s.data.toList.take (k + 1)) =
    (((aFold p (s.data.toList.take k)).1 + s[k].toNat) % 65521, ((aFold p (s.data.toList.take k)).2 + ((aFold p (s.data.toList.take k)).1 + s[k].toNat) % 65521) % 65521) := by
  rw [take_snoc s k h, aFold_snoc]

set_option maxHeartbeats 1000000 in
theorem rSumA_any (s : ByteArray) (w : World) (hs : s.size ≤ maxLen) :
    Calls Try.prog 8 #[.string s] w fun e w' => e = .returned (.int .i64 (aSum s.data.toList : Int)) ∧ w = w' := by
  unfold maxLen at hs
  go_enter Try.func8, Try.ntmps8
  go_wp2_with fail
  go_loop [3, 4, 5] (fun x y i => ∃ k a b : Nat, k ≤ s.size ∧ i = .int .i64 k ∧ x = .int .i64 a ∧ y = .int .i64 b ∧ a < 65521 ∧ b < 65521 ∧ Aside (aFold (1, 0) (s.data.toList.take k) = (a, b))) (fun _ _ i => s.size - (intOf i).toNat)
  case atStart => exact ⟨0, 1, 0, Nat.zero_le _, rfl, rfl, rfl, by omega, by omega, rfl⟩
  case round =>
    obtain ⟨k, a, b, hk, rfl, rfl, rfl, ha, hb, HZ⟩ := hrel
    by_cases hlt : k < s.size
    · have hc : s[k].toNat < 256 := s[k].toNat_lt
      have Hst : Hid (aFold (1, 0) (s.data.toList.take (k + 1)) = ((a + s[k].toNat) % 65521, (b + (a + s[k].toNat) % 65521) % 65521)) := Lib.hid (by rw [aFold_take _ s k hlt, HZ.out])
      go_wp2_with fail
      go_round
      case rel => exact ⟨k + 1, (a + s[k].toNat) % 65521, (b + (a + s[k].toNat) % 65521) % 65521, by omega, by go_num, by go_num, by go_num, Nat.mod_lt _ (by omega), Nat.mod_lt _ (by omega), Hst.out⟩
      case measure => simp [intOf]; omega
    · obtain rfl : k = s.size := by omega
      have Hr : Hid (((aSum s.data.toList : Nat) : Int) = (b : Int) * 65536 + a) := Lib.hid (by
        have h := HZ.out
        rw [List.take_of_length_le (by rw [← size_data]; exact Nat.le_refl _)] at h
        unfold aSum; rw [h]; unfold aNum; omega)
      go_wp2_with fail
      go_ret
      exact ⟨ret_int (by rw [Hr.out]), rfl⟩

theorem tdiv_nat (m : Nat) (k : Nat) : (m : Int).tdiv (k : Int) = ((m / k : Nat) : Int) := by rw [Int.tdiv_eq_ediv_of_nonneg (by omega)]; rfl
theorem tmod_nat (m : Nat) (k : Nat) : (m : Int).tmod (k : Int) = ((m % k : Nat) : Int) := by rw [Int.tmod_eq_emod_of_nonneg (by omega)]; rfl

theorem rIsA_int (n q r : Int) (w : World) (hn : 0 ≤ n) (hq : n.tdiv 65536 = q) (hr : n.tmod 65536 = r) (hq0 : 0 ≤ q) (hq1 : q ≤ 9223372036854775807) (hr0 : 0 ≤ r) (hr1 : r ≤ 9223372036854775807) :
    Calls Try.prog 16 #[.int .i64 n] w fun e w' => e = .returned (.bool (decide (q < 65521) && decide (r < 65521))) ∧ w = w' := by
  by_cases h1 : q < 65521
  · by_cases h2 : r < 65521
    · go_enter Try.func16, Try.ntmps16
      go_wp2_with fail
      go_ret
      exact ⟨ret_bool (by simp; omega), rfl⟩
    · go_enter Try.func16, Try.ntmps16
      go_wp2_with fail
      go_ret
      exact ⟨ret_bool (by simp; omega), rfl⟩
  · go_enter Try.func16, Try.ntmps16
    go_wp2_with fail
    go_ret
    exact ⟨ret_bool (by simp; omega), rfl⟩
theorem rIsA_neg (n : Int) (w : World) (hn : n < 0) :
    Calls Try.prog 16 #[.int .i64 n] w fun e w' => e = .returned (.bool false) ∧ w = w' := by
  go_enter Try.func16, Try.ntmps16
  go_wp2_with fail
  go_ret
  exact ⟨ret_bool (by simp), rfl⟩
theorem rIsA_bad (n : Int) (w : World) (h1 : n ≤ 9223372036854775807) (h : aBad n) :
    Calls Try.prog 16 #[.int .i64 n] w fun e w' => e = .returned (.bool false) ∧ w = w' := by
  by_cases ha : n < 0
  · exact rIsA_neg n w ha
  · obtain ⟨m, rfl⟩ := Int.eq_ofNat_of_zero_le (show 0 ≤ n by omega)
    have hx := rIsA_int (m : Int) _ _ w (by omega) (tdiv_nat m 65536) (tmod_nat m 65536) (by omega) (by omega) (by omega) (by omega)
    have e : (decide (((m / 65536 : Nat) : Int) < 65521) && decide (((m % 65536 : Nat) : Int) < 65521)) = false := by
      have h2 := (aBad_nat (n := m)).1 h
      unfold aIs at h2
      rw [Bool.and_eq_false_iff, decide_eq_false_iff_not, decide_eq_false_iff_not]; omega
    rwa [e] at hx
theorem rIsA_good (m : Nat) (w : World) (h1 : m ≤ 9223372036854775807) (h : aIs m) :
    Calls Try.prog 16 #[.int .i64 (m : Int)] w fun e w' => e = .returned (.bool true) ∧ w = w' := by
  have hx := rIsA_int (m : Int) _ _ w (by omega) (tdiv_nat m 65536) (tmod_nat m 65536) (by omega) (by omega) (by omega) (by omega)
  have e : (decide (((m / 65536 : Nat) : Int) < 65521) && decide (((m % 65536 : Nat) : Int) < 65521)) = true := by
    unfold aIs at h
    rw [Bool.and_eq_true, decide_eq_true_eq, decide_eq_true_eq]; omega
  rwa [e] at hx
theorem not_bad {n : Int} (h : ¬ aBad n) : ∃ m : Nat, n = m ∧ aIs m := by
  have h' := h
  unfold aBad at h
  obtain ⟨m, rfl⟩ := Int.eq_ofNat_of_zero_le (show 0 ≤ n by omega)
  exact ⟨m, rfl, Classical.byContradiction fun e => h' (aBad_nat.2 e)⟩


set_option maxRecDepth 100000 in
set_option maxHeartbeats 1000000 in
theorem rMoreA_any (n : Int) (s : ByteArray) (w : World) (hs : s.size ≤ maxLen) (h0 : -9223372036854775808 ≤ n) (h1 : n ≤ 9223372036854775807) :
    Calls Try.prog 11 #[.int .i64 n, .string s] w fun e w' => e = ANums (aMore n s.data.toList) ∧ w = w' := by
  unfold maxLen at hs
  by_cases hb : aBad n
  · have Hr := Lib.hid (aMore_no (l := s.data.toList) hb)
    have Hn := Lib.hid (fun W => rIsA_bad n W h1 hb)
    clear hb
    go_enter Try.func11, Try.ntmps11
    go_wp2_with fail
    refine (Hn.out _).mono ?_
    rintro e w1 ⟨rfl, rfl⟩
    go_wp2_with fail
    go_ret2
    exact ⟨aNums_mk (by rw [Hr.out]), rfl⟩
  · obtain ⟨m, rfl, hm⟩ := not_bad hb
    have Hr := Lib.hid (aMore_ok (l := s.data.toList) hm)
    have Hn := Lib.hid (fun W => rIsA_good m W (by omega) hm)
    have hm1 : m % 65536 < 65521 := hm.2
    have hm2 : m / 65536 < 65521 := hm.1
    clear hb hm
    go_enter Try.func11, Try.ntmps11
    go_wp2_with fail
    refine (Hn.out _).mono ?_
    rintro e w1 ⟨rfl, rfl⟩
    go_wp2_with fail
    go_loop [6, 7, 8] (fun x y i => ∃ k a b : Nat, k ≤ s.size ∧ i = .int .i64 k ∧ x = .int .i64 a ∧ y = .int .i64 b ∧ a < 65521 ∧ b < 65521 ∧ Aside (aFold (m % 65536, m / 65536) (s.data.toList.take k) = (a, b))) (fun _ _ i => s.size - (intOf i).toNat)
    case atStart => exact ⟨0, m % 65536, m / 65536, Nat.zero_le _, rfl, by go_num, by go_num, hm1, hm2, rfl⟩
    case round =>
      obtain ⟨k, a, b, hk, rfl, rfl, rfl, ha, hb, HZ⟩ := hrel
      by_cases hlt : k < s.size
      · have hc : s[k].toNat < 256 := s[k].toNat_lt
        have Hst : Hid (aFold (m % 65536, m / 65536) (s.data.toList.take (k + 1)) = ((a + s[k].toNat) % 65521, (b + (a + s[k].toNat) % 65521) % 65521)) := Lib.hid (by rw [aFold_take _ s k hlt, HZ.out])
        go_wp2_with fail
        go_round
        case rel => exact ⟨k + 1, (a + s[k].toNat) % 65521, (b + (a + s[k].toNat) % 65521) % 65521, by omega, by go_num, by go_num, by go_num, Nat.mod_lt _ (by omega), Nat.mod_lt _ (by omega), Hst.out⟩
        case measure => simp [intOf]; omega
      · obtain rfl : k = s.size := by omega
        have Hr2 : Hid (aMore (m : Int) s.data.toList = ((b : Int) * 65536 + a, 0)) := Lib.hid (by
          have h := HZ.out
          rw [List.take_of_length_le (by rw [← size_data]; exact Nat.le_refl _)] at h
          rw [Hr.out]; unfold aOn; rw [h]; unfold aNum; congr 1)
        go_wp2_with fail
        go_ret2
        exact ⟨aNums_mk (by rw [Hr2.out]), rfl⟩

set_option maxRecDepth 100000 in
set_option maxHeartbeats 1000000 in
theorem rJoinA_int (x y n xl xh yl yh nr : Int) (w : World) (hn : ¬ n < 0)
    (Ha : Hid (∀ W, Calls Try.prog 16 #[.int .i64 x] W fun e w' => e = .returned (.bool true) ∧ W = w'))
    (Hb : Hid (∀ W, Calls Try.prog 16 #[.int .i64 y] W fun e w' => e = .returned (.bool true) ∧ W = w'))
    (e1 : x.tmod 65536 = xl) (e2 : x.tdiv 65536 = xh) (e3 : y.tmod 65536 = yl) (e4 : y.tdiv 65536 = yh) (e5 : n.tmod 65521 = nr)
    (b1 : 0 ≤ xl ∧ xl < 65521) (b2 : 0 ≤ xh ∧ xh < 65521) (b3 : 0 ≤ yl ∧ yl < 65521) (b4 : 0 ≤ yh ∧ yh < 65521) (b5 : 0 ≤ nr ∧ nr < 65521) :
    Calls Try.prog 13 #[.int .i64 x, .int .i64 y, .int .i64 n] w fun e w' => e = .returned (.tuple #[.int .i64 ((xh + yh + nr * ((xl + 65520) % 65521)) % 65521 * 65536 + (xl + yl + 65520) % 65521), .int .i64 0]) ∧ w = w' := by
  go_enter Try.func13, Try.ntmps13
  go_wp2_with fail
  refine (Ha.out _).mono ?_
  rintro e w1 ⟨rfl, rfl⟩
  go_wp2_with fail
  refine (Hb.out _).mono ?_
  rintro e w1 ⟨rfl, rfl⟩
  go_wp2_with fail
  go_ret2
  refine ⟨?_, rfl⟩
  have f1 : xl + 65521 - 1 = xl + 65520 := by omega
  have f2 : xl + yl + 65521 - 1 = xl + yl + 65520 := by omega
  rw [f1, f2]
  obtain ⟨q, hq⟩ : ∃ q, (xl + 65520) % 65521 = q := ⟨_, rfl⟩
  have hq0 : 0 ≤ q ∧ q < 65521 := by omega
  rw [hq]
  have hp0 : 0 ≤ nr * q := Int.mul_nonneg b5.1 hq0.1
  have hp1 : nr * q ≤ 65520 * 65520 := Int.mul_le_mul (by omega) (by omega) hq0.1 (by omega)
  obtain ⟨p, hp⟩ : ∃ p, nr * q = p := ⟨_, rfl⟩
  rw [hp] at hp0 hp1 ⊢
  have g1 : wrap64 p = p := by unfold wrap64; omega
  rw [g1]
  have g2 : wrap64 (xh + yh + p) = xh + yh + p := by unfold wrap64; omega
  rw [g2, Int.tmod_eq_emod_of_nonneg (by omega)]
  obtain ⟨z, hz⟩ : ∃ z, (xh + yh + p) % 65521 = z := ⟨_, rfl⟩
  have hz0 : 0 ≤ z ∧ z < 65521 := by omega
  obtain ⟨l, hl⟩ : ∃ l, (xl + yl + 65520) % 65521 = l := ⟨_, rfl⟩
  have hl0 : 0 ≤ l ∧ l < 65521 := by omega
  rw [hz, hl]
  have g3 : wrap64 (wrap64 (z * 65536) + l) = z * 65536 + l := by unfold wrap64; omega
  rw [g3]
  rfl

theorem rJoinA_any (x y n : Int) (w : World) (hx1 : x ≤ 9223372036854775807) (hy1 : y ≤ 9223372036854775807) (hn1 : n ≤ 9223372036854775807) :
    Calls Try.prog 13 #[.int .i64 x, .int .i64 y, .int .i64 n] w fun e w' => e = ANums (aJoin x y n) ∧ w = w' := by
  by_cases h1 : aBad x
  · have Hr := Lib.hid (aJoin_no (y := y) (n := n) (.inl h1))
    have Ha := Lib.hid (fun W => rIsA_bad x W hx1 h1)
    clear h1
    go_enter Try.func13, Try.ntmps13
    go_wp2_with fail
    refine (Ha.out _).mono ?_
    rintro e w1 ⟨rfl, rfl⟩
    go_wp2_with fail
    go_ret2
    exact ⟨aNums_mk (by rw [Hr.out]), rfl⟩
  · obtain ⟨x, rfl, hx⟩ := not_bad h1
    have Ha := Lib.hid (fun W => rIsA_good x W (by omega) hx)
    obtain ⟨xi, hxi⟩ : ∃ xi : Int, (x : Int) = xi := ⟨_, rfl⟩
    by_cases h2 : aBad y
    · have Hr : Hid (aJoin xi y n = (0, 3)) := Lib.hid (aJoin_no (.inr (.inl h2)))
      have Hb := Lib.hid (fun W => rIsA_bad y W hy1 h2)
      rw [hxi] at Ha ⊢
      clear h1 h2 hxi hx1
      go_enter Try.func13, Try.ntmps13
      go_wp2_with fail
      refine (Ha.out _).mono ?_
      rintro e w1 ⟨rfl, rfl⟩
      go_wp2_with fail
      refine (Hb.out _).mono ?_
      rintro e w1 ⟨rfl, rfl⟩
      go_wp2_with fail
      go_ret2
      exact ⟨aNums_mk (by rw [Hr.out]), rfl⟩
    · obtain ⟨y, rfl, hy⟩ := not_bad h2
      have Hb := Lib.hid (fun W => rIsA_good y W (by omega) hy)
      by_cases h3 : n < 0
      · obtain ⟨yi, hyi⟩ : ∃ yi : Int, (y : Int) = yi := ⟨_, rfl⟩
        have Hr : Hid (aJoin xi yi n = (0, 3)) := Lib.hid (aJoin_no (.inr (.inr h3)))
        rw [hxi] at Ha ⊢
        rw [hyi] at Hb ⊢
        clear h1 h2 hxi hyi hx1 hy1
        go_enter Try.func13, Try.ntmps13
        go_wp2_with fail
        refine (Ha.out _).mono ?_
        rintro e w1 ⟨rfl, rfl⟩
        go_wp2_with fail
        refine (Hb.out _).mono ?_
        rintro e w1 ⟨rfl, rfl⟩
        go_wp2_with fail
        go_ret2
        exact ⟨aNums_mk (by rw [Hr.out]), rfl⟩
      · obtain ⟨n, rfl⟩ := Int.eq_ofNat_of_zero_le (show 0 ≤ n by omega)
        have h := rJoinA_int (x : Int) (y : Int) (n : Int) _ _ _ _ _ w h3 Ha Hb (tmod_nat x 65536) (tdiv_nat x 65536) (tmod_nat y 65536) (tdiv_nat y 65536) (tmod_nat n 65521) (by have := hx.2; omega) (by have := hx.1; omega) (by have := hy.2; omega) (by have := hy.1; omega) (by omega)
        refine h.mono fun e w' ⟨he, hw⟩ => ⟨?_, hw⟩
        rw [he]
        refine aNums_mk ?_
        rw [aJoin_ok hx hy]
        unfold aPut aNum
        congr 1

theorem rSumA_is (s : ByteArray) (w : World) (hs : s.size ≤ maxLen) {r : Nat} (h : aSum s.data.toList = r) :
    Calls Try.prog 8 #[.string s] w fun e w' => e = .returned (.int .i64 (r : Int)) ∧ w = w' := by
  rw [← h]; exact rSumA_any s w hs
theorem rMoreA_is (n : Int) (s : ByteArray) (w : World) (hs : s.size ≤ maxLen) (h0 : -9223372036854775808 ≤ n) (h1 : n ≤ 9223372036854775807) {a b : Int} (h : aMore n s.data.toList = (a, b)) :
    Calls Try.prog 11 #[.int .i64 n, .string s] w fun e w' => e = .returned (.tuple #[.int .i64 a, .int .i64 b]) ∧ w = w' := by
  have hr := rMoreA_any n s w hs h0 h1
  rw [h] at hr; exact hr
theorem rJoinA_is (x y n : Int) (w : World) (hx1 : x ≤ 9223372036854775807) (hy1 : y ≤ 9223372036854775807) (hn1 : n ≤ 9223372036854775807) {a b : Int} (h : aJoin x y n = (a, b)) :
    Calls Try.prog 13 #[.int .i64 x, .int .i64 y, .int .i64 n] w fun e w' => e = .returned (.tuple #[.int .i64 a, .int .i64 b]) ∧ w = w' := by
  have hr := rJoinA_any x y n w hx1 hy1 hn1
  rw [h] at hr; exact hr

end Go.Proofs.Ytpanhjhdohdbkaa
