/-
  The walk of the law DigitsBack.
-/
import Derived.Test.YtccjpiomfngalaaDoorDLaws
namespace Go.Proofs.YtccjpiomfngalaaDoor
open Go.RowKit

theorem put_len (x : Int) (h0 : -2147483648 ≤ x) (h1 : x ≤ 2147483647) : (putL x).length ≤ 11 := by
  unfold putL
  have h := decN_len 9 x.natAbs (by omega)
  split
  · simp; omega
  · omega

set_option maxRecDepth 100000 in
set_option maxHeartbeats 2000000 in
theorem back_walk (x : Int) (m : Nat) (w : World) (hl : Laid w) (h0 : -2147483648 ≤ x) (h1 : x ≤ 2147483647) (hm : m ≤ 255) :
    Calls Tryd.prog 6 #[.int .i32 x, .int .u8 (m : Int)] w (Yes w) := by
  have HLa := Lib.hid hl
  clear hl
  by_cases hlow : x < -2147483647
  · go_enter Tryd.func6, Tryd.ntmps6
    go_wp2_with fail
    refine (numbers_any _ HLa.out).mono ?_
    rintro e w1 ⟨rfl, hb⟩
    have Hb := Lib.hid hb
    clear hb
    go_wp2_with fail
    go_ret
    exact ⟨rfl, Hb.out⟩
  · have hb0 : -9223372036854775808 ≤ x := by omega
    have hb1 : x ≤ 9223372036854775807 := by omega
    obtain ⟨u, hu⟩ : ∃ u, bytes (putL x) = u := ⟨_, rfl⟩
    have hud : u.data.toList = putL x := by rw [← hu]; exact bytes_data _
    have hus : u.size ≤ 11 := by rw [size_data, hud]; exact put_len x h0 h1
    have Hu := Lib.hid hu
    have Hsz : Hid ((putL x).length = u.size) := Lib.hid (by rw [← hud]; exact (size_data u).symm)
    have Hr : Hid (readL u.data.toList = (x, 0)) := Lib.hid (by rw [hud]; exact read_put x (by omega) h1)
    have Ho : Hid (looseL u.data.toList = (x, 0)) := Lib.hid (by rw [hud]; exact loose_put x (by omega) h1)
    clear hu hud
    obtain ⟨s, b, hp⟩ : ∃ (s : ByteArray) (b : Int), padL x ((m % 30 : Nat) : Int) = (s.data.toList, b) := ⟨bytes (padL x ((m % 30 : Nat) : Int)).1, (padL x ((m % 30 : Nat) : Int)).2, by rw [bytes_data]⟩
    have Hp := Lib.hid hp
    clear hp
    go_enter Tryd.func6, Tryd.ntmps6
    go_wp2_with fail
    refine (put_is x _ HLa.out hb0 hb1 Hu.out).mono ?_
    rintro e w1 ⟨rfl, hb⟩
    have Hb1 := Lib.hid hb
    clear hb
    go_wp2_with fail
    refine (read_is u _ (HLa.out.later Hb1.out) (by omega) Hr.out).mono ?_
    rintro e w2 ⟨rfl, hb⟩
    have Hb2 := Lib.hid (Hb1.out.trans (hb.mono Hb1.out.size))
    clear hb
    go_wp2_with fail
    refine (put_is x _ (HLa.out.later Hb2.out) hb0 hb1 Hu.out).mono ?_
    rintro e w3 ⟨rfl, hb⟩
    have Hb3 := Lib.hid (Hb2.out.trans (hb.mono Hb2.out.size))
    clear hb
    go_wp2_with fail
    refine (loose_is u _ Ho.out).mono ?_
    rintro e w4 ⟨rfl, hb⟩
    have Hb4 := Lib.hid (Hb3.out.trans (hb.mono Hb3.out.size))
    clear hb
    go_wp2_with fail
    refine (pad_is x ((m % 30 : Nat) : Int) _ (HLa.out.later Hb4.out) hb0 hb1 Hp.out).mono ?_
    rintro e w5 ⟨rfl, hb⟩
    have Hb5 := Lib.hid (Hb4.out.trans (hb.mono Hb4.out.size))
    clear hb
    by_cases hz : b = 0
    · subst hz
      obtain ⟨q1, q2, q3⟩ := pad_back h1 Hp.out
      rw [← size_data s] at q1 q2
      have Hf := Lib.hid q3
      have Hk := Lib.hid q2
      clear q3 q2
      go_wp2_with fail
      refine (fixed_is s _ Hf.out).mono ?_
      rintro e w6 ⟨rfl, hb⟩
      have Hb6 := Lib.hid (Hb5.out.trans (hb.mono Hb5.out.size))
      clear hb
      go_wp2_with fail
      refine (count_is s _ Hk.out).mono ?_
      rintro e w7 ⟨rfl, hb⟩
      have Hb7 := Lib.hid (Hb6.out.trans (hb.mono Hb6.out.size))
      clear hb
      go_wp2_with fail
      refine (numbers_any _ (HLa.out.later Hb7.out)).mono ?_
      rintro e w8 ⟨rfl, hb⟩
      have Hb8 := Lib.hid (Hb7.out.trans (hb.mono Hb7.out.size))
      clear hb
      go_wp2_with fail
      go_ret
      exact ⟨rfl, Hb8.out⟩
    · have hbz : (b != 0) = true := by simpa using hz
      obtain ⟨q1, q2⟩ := pad_not Hp.out hz
      rw [Hsz.out] at q2
      have he := isEmpty_of q1
      clear hz q1
      by_cases c1 : ((m % 30 : Nat) : Int) < 1
      · clear q2
        go_wp2_with fail
        refine (numbers_any _ (HLa.out.later Hb5.out)).mono ?_
        rintro e w8 ⟨rfl, hb⟩
        have Hb8 := Lib.hid (Hb5.out.trans (hb.mono Hb5.out.size))
        clear hb
        go_wp2_with fail
        go_ret
        exact ⟨rfl, Hb8.out⟩
      · by_cases c2 : (20 : Int) < ((m % 30 : Nat) : Int)
        · clear q2
          go_wp2_with fail
          refine (numbers_any _ (HLa.out.later Hb5.out)).mono ?_
          rintro e w8 ⟨rfl, hb⟩
          have Hb8 := Lib.hid (Hb5.out.trans (hb.mono Hb5.out.size))
          clear hb
          go_wp2_with fail
          go_ret
          exact ⟨rfl, Hb8.out⟩
        · by_cases c3 : x < 0
          · clear q2
            go_wp2_with fail
            refine (numbers_any _ (HLa.out.later Hb5.out)).mono ?_
            rintro e w8 ⟨rfl, hb⟩
            have Hb8 := Lib.hid (Hb5.out.trans (hb.mono Hb5.out.size))
            clear hb
            go_wp2_with fail
            go_ret
            exact ⟨rfl, Hb8.out⟩
          · have c4 : ((m % 30 : Nat) : Int) < (u.size : Int) := by omega
            clear q2
            go_wp2_with fail
            refine (put_is x _ (HLa.out.later Hb5.out) hb0 hb1 Hu.out).mono ?_
            rintro e w6 ⟨rfl, hb⟩
            have Hb6 := Lib.hid (Hb5.out.trans (hb.mono Hb5.out.size))
            clear hb
            go_wp2_with fail
            refine (numbers_any _ (HLa.out.later Hb6.out)).mono ?_
            rintro e w8 ⟨rfl, hb⟩
            have Hb8 := Lib.hid (Hb6.out.trans (hb.mono Hb6.out.size))
            clear hb
            go_wp2_with fail
            go_ret
            exact ⟨ret_bool (by simp only [Bool.or_eq_true, decide_eq_true_eq]; omega), Hb8.out⟩

end Go.Proofs.YtccjpiomfngalaaDoor
