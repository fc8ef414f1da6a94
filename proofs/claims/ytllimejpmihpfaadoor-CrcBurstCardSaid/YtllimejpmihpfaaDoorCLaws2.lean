/-
  The walks of the laws CrcJoins and CrcBurst.
-/
import Derived.Test.YtllimejpmihpfaaDoorCLaws
import Derived.Test.YtllimejpmihpfaaDoorBytesRow
import Derived.Outline
namespace Go.Proofs.YtllimejpmihpfaaDoor
open Go.RowKit

set_option maxRecDepth 100000 in
set_option maxHeartbeats 4000000 in
theorem crjoins_walk (s t : ByteArray) (m : Nat) (w : World) (hs : s.size ≤ maxLen) (ht : t.size ≤ maxLen) (hm : m ≤ 65535) (hl : Laid w) :
    Calls Tryd.prog 5 #[.string s, .string t, .int .u16 (m : Int)] w (Yes w) := by
  have HL := Lib.hid hl
  clear hl
  unfold maxLen at hs ht
  by_cases hbig : (2000 : Int) < (s.size : Int) ∨ (2000 : Int) < (t.size : Int)
  · have hcase : (2000 : Int) < (s.size : Int) ∨ (¬ (2000 : Int) < (s.size : Int) ∧ (2000 : Int) < (t.size : Int)) := by omega
    clear hbig
    rcases hcase with h | ⟨h, h'⟩
    all_goals
      go_enter Tryd.func5, Tryd.ntmps5
      go_wp2_with fail
      refine (csums_any _ HL.out).mono ?_
      rintro e w1 ⟨rfl, hb⟩
      have Hb := Lib.hid hb
      clear hb
      go_wp2_with fail
      go_ret
      exact ⟨rfl, Hb.out⟩
  · have h : ¬ (2000 : Int) < (s.size : Int) := by omega
    have h' : ¬ (2000 : Int) < (t.size : Int) := by omega
    clear hbig
    have la := sumN_lt s.data.toList
    have lb := sumN_lt t.data.toList
    have lab := sumN_lt (s ++ t).data.toList
    obtain ⟨a, ha⟩ : ∃ a, sumN s.data.toList = a := ⟨_, rfl⟩
    obtain ⟨b, hb⟩ : ∃ b, sumN t.data.toList = b := ⟨_, rfl⟩
    obtain ⟨ab, hab⟩ : ∃ ab, sumN (s ++ t).data.toList = ab := ⟨_, rfl⟩
    have hj := join_sum s.data.toList t.data.toList
    have hmo := more_sum s.data.toList t.data.toList
    rw [← app_data, hab, ha, ← size_data] at hj
    rw [hb] at hj
    rw [← app_data, hab, ha] at hmo
    rw [ha] at la; rw [hb] at lb; rw [hab] at lab
    have j1 : cJoin (a : Int) (b : Int) (t.size : Int) = ((ab : Int), 0) := by rw [cJoin_ok (by omega) (by omega), hj]
    have j2 : cMore (a : Int) t.data.toList = ((ab : Int), 0) := by rw [cMore_ok (by omega), hmo]
    obtain ⟨c, hc⟩ : ∃ c, HN (8 * m) ab = c := ⟨_, rfl⟩
    obtain ⟨d, hd⟩ : ∃ d, HN (8 * (t.size + m)) a = d := ⟨_, rfl⟩
    have ld : d < 4294967296 := by rw [← hd]; exact HN_lt _ la
    have j3 : cJoin (ab : Int) 0 (m : Int) = ((c : Int), 0) := by
      have := cJoin_ok (a := ab) (b := 0) (n := m) (by omega) (by omega)
      rw [hc, Nat.xor_zero] at this; exact this
    have j4 : cJoin (a : Int) 0 ((t.size : Int) + (m : Int)) = ((d : Int), 0) := by
      have := cJoin_ok (a := a) (b := 0) (n := t.size + m) (by omega) (by omega)
      rw [hd, Nat.xor_zero, Int.natCast_add] at this; exact this
    have j5 : cJoin (b : Int) (d : Int) (m : Int) = ((c : Int), 0) := by
      rw [cJoin_ok (by omega) (by omega)]
      have e : HN (8 * m) b ^^^ d = c := by
        rw [← hc, ← hd, ← hj, HN_xor, ← HN_add, show 8 * t.size + 8 * m = 8 * (t.size + m) from by omega, Nat.xor_comm]
      rw [e]
    have hst : (s ++ t).size ≤ 100000 := by rw [ByteArray.size_append]; omega
    have Ha := Lib.hid ha
    have Hb := Lib.hid hb
    have Hab := Lib.hid hab
    have J1 := Lib.hid j1
    have J2 := Lib.hid j2
    have J3 := Lib.hid j3
    have J4 := Lib.hid j4
    have J5 := Lib.hid j5
    have Hst := Lib.hid hst
    clear ha hb hab hj hmo hc hd j1 j2 j3 j4 j5 hst
    go_enter Tryd.func5, Tryd.ntmps5
    go_wp2_with fail
    refine (crOne s _ (by omega) HL.out Ha.out).mono ?_
    rintro e w1 ⟨rfl, hb⟩
    have Hb1 := Lib.hid hb
    clear hb
    go_wp2_with fail
    refine (crOne t _ (by omega) (HL.out.later Hb1.out) Hb.out).mono ?_
    rintro e w2 ⟨rfl, hb⟩
    have Hb2 := Lib.hid (Hb1.out.trans (hb.mono Hb1.out.size))
    clear hb
    go_wp2_with fail
    refine (crJoin_is _ _ _ _ (by omega) (by omega) (by omega) (by omega) (by omega) (by omega) (HL.out.later Hb2.out) J1.out).mono ?_
    rintro e w3 ⟨rfl, hb⟩
    have Hb3 := Lib.hid (Hb2.out.trans (hb.mono Hb2.out.size))
    clear hb
    go_wp2_with fail
    refine (crOne s _ (by omega) (HL.out.later Hb3.out) Ha.out).mono ?_
    rintro e w4 ⟨rfl, hb⟩
    have Hb4 := Lib.hid (Hb3.out.trans (hb.mono Hb3.out.size))
    clear hb
    go_wp2_with fail
    refine (crMore_is _ t _ (by unfold maxLen; omega) (by omega) (by omega) (HL.out.later Hb4.out) J2.out).mono ?_
    rintro e w5 ⟨rfl, hb⟩
    have Hb5 := Lib.hid (Hb4.out.trans (hb.mono Hb4.out.size))
    clear hb
    go_wp2_with fail
    refine (crJoin_is _ _ _ _ (by omega) (by omega) (by omega) (by omega) (by omega) (by omega) (HL.out.later Hb5.out) J3.out).mono ?_
    rintro e w6 ⟨rfl, hb⟩
    have Hb6 := Lib.hid (Hb5.out.trans (hb.mono Hb5.out.size))
    clear hb
    go_wp2_with fail
    refine (crOne s _ (by omega) (HL.out.later Hb6.out) Ha.out).mono ?_
    rintro e w7 ⟨rfl, hb⟩
    have Hb7 := Lib.hid (Hb6.out.trans (hb.mono Hb6.out.size))
    clear hb
    go_wp2_with fail
    refine (crJoin_is _ _ _ _ (by omega) (by omega) (by omega) (by omega) (by omega) (by omega) (HL.out.later Hb7.out) J4.out).mono ?_
    rintro e w8 ⟨rfl, hb⟩
    have Hb8 := Lib.hid (Hb7.out.trans (hb.mono Hb7.out.size))
    clear hb
    go_wp2_with fail
    refine (crOne t _ (by omega) (HL.out.later Hb8.out) Hb.out).mono ?_
    rintro e w9 ⟨rfl, hb⟩
    have Hb9 := Lib.hid (Hb8.out.trans (hb.mono Hb8.out.size))
    clear hb
    go_wp2_with fail
    refine (crJoin_is _ _ _ _ (by omega) (by omega) (by omega) (by omega) (by omega) (by omega) (HL.out.later Hb9.out) J5.out).mono ?_
    rintro e w10 ⟨rfl, hb⟩
    have Hb10 := Lib.hid (Hb9.out.trans (hb.mono Hb9.out.size))
    clear hb
    go_wp2_with fail
    refine (crOne (s ++ t) _ Hst.out (HL.out.later Hb10.out) Hab.out).mono ?_
    rintro e w11 ⟨rfl, hb⟩
    have Hb11 := Lib.hid (Hb10.out.trans (hb.mono Hb10.out.size))
    clear hb
    go_wp2_with fail
    refine (csums_any _ (HL.out.later Hb11.out)).mono ?_
    rintro e w12 ⟨rfl, hb⟩
    have Hb12 := Lib.hid (Hb11.out.trans (hb.mono Hb11.out.size))
    clear hb
    go_wp2_with fail
    go_ret
    exact ⟨rfl, Hb12.out⟩

theorem bit_of (m i : Nat) (hm : m < 4294967296) : bits .and .u32 ((m : Int) / 2 ^ i) 1 = if m.testBit i then 1 else 0 := by
  have h := u32_and_nat (m / 2 ^ i) 1 (Nat.lt_of_le_of_lt (Nat.div_le_self _ _) hm) (by omega)
  have e1 : (((m / 2 ^ i : Nat)) : Int) = (m : Int) / 2 ^ i := by simp
  rw [e1] at h
  have e2 : ((1 : Nat) : Int) = 1 := rfl
  rw [e2] at h
  rw [h, Nat.and_one_is_mod, Nat.testBit_eq_decide_div_mod_eq]
  have : m / 2 ^ i % 2 = 0 ∨ m / 2 ^ i % 2 = 1 := by omega
  rcases this with q | q <;> simp [q]

theorem turned_byte (c j : Nat) (hj : j < 8) : ∃ d : UInt8, d.toNat = c % 256 ^^^ 2 ^ j := by
  have h1 : (2 : Nat) ^ j ≤ 2 ^ 7 := Nat.pow_le_pow_right (by omega) (by omega)
  have h2 : c % 256 ^^^ 2 ^ j < 256 := Nat.xor_lt_two_pow (n := 8) (by omega) (by omega)
  exact ⟨UInt8.ofNat (c % 256 ^^^ 2 ^ j), by rw [UInt8.toNat_ofNat']; omega⟩
theorem turned_xor (c d : UInt8) (j : Nat) (hj : j < 8) (hd : d.toNat = c.toNat ^^^ 2 ^ j) : bits .xor .u8 (c.toNat : Int) ((2 : Int) ^ j % 256) = (d.toNat : Int) := by
  have h1 : (2 : Nat) ^ j ≤ 2 ^ 7 := Nat.pow_le_pow_right (by omega) (by omega)
  have h := u8_xor_nat c.toNat (2 ^ j) c.toNat_lt (by omega)
  rw [← hd] at h
  have e : ((2 : Int) ^ j % 256) = ((2 ^ j : Nat) : Int) := by
    have e2 : ((2 ^ j : Nat) : Int) = (2 : Int) ^ j := by simp
    rw [← e2]
    clear h e2 hd
    generalize (2 : Nat) ^ j = z at h1 ⊢
    omega
  rw [e]; exact h
theorem set_turn (l : List UInt8) (k : Nat) (hk : k < l.length) (d : UInt8) (j : Nat) (hj : j < 8) (hd : d.toNat = l[k].toNat ^^^ 2 ^ j) :
    sumN (l.set k d) = sumN l ^^^ HN (8 * (l.length - k) - j) 1 := by
  have e1 : l.set k d = l.take k ++ d :: l.drop (k + 1) := List.set_eq_take_append_cons_drop.trans (by rw [if_pos hk])
  have e2 : l = l.take k ++ l[k] :: l.drop (k + 1) := by
    conv => lhs; rw [← List.take_append_drop k l]
    congr 1
    exact List.drop_eq_getElem_cons hk
  have h := sum_turn (l.take k) (l.drop (k + 1)) l[k] d j hj hd
  rw [← e1, ← e2, List.length_drop, show l.length - (k + 1) + 1 = l.length - k from by omega] at h
  exact h
theorem mask_on {m i : Nat} (h : m.testBit i = true) : ¬ m % 2 ^ (i + 1) = 0 := by
  intro e
  have h2 := Nat.testBit_mod_two_pow m (i + 1) i
  rw [e, h] at h2
  simp at h2

set_option maxRecDepth 100000 in
set_option maxHeartbeats 4000000 in
theorem crburst_walk (s : ByteArray) (from' : Int) (mask : Nat) (w : World) (hs : s.size ≤ maxLen) (hk : mask < 4294967296) (hl : Laid w) :
    Calls Tryd.prog 6 #[.string s, .int .i64 from', .int .u32 (mask : Int)] w (Yes w) := by
  have HL := Lib.hid hl
  clear hl
  unfold maxLen at hs
  by_cases hbig : (2000 : Int) < (s.size : Int)
  · go_enter Tryd.func6, Tryd.ntmps6
    go_wp2_with fail
    refine (csums_any _ HL.out).mono ?_
    rintro e w1 ⟨rfl, hb⟩
    have Hb := Lib.hid hb
    clear hb
    go_wp2_with fail
    go_ret
    exact ⟨rfl, Hb.out⟩
  · by_cases h0' : s.data.toList = []
    · have he := isEmpty_of h0'
      clear h0'
      go_enter Tryd.func6, Tryd.ntmps6
      go_wp2_with fail
      refine (csums_any _ HL.out).mono ?_
      rintro e w1 ⟨rfl, hb⟩
      have Hb := Lib.hid hb
      clear hb
      go_wp2_with fail
      go_ret
      exact ⟨rfl, Hb.out⟩
    · have he := isEmpty_not h0'
      have hpos : 0 < s.size := by
        rw [size_data]
        exact List.length_pos_iff.2 h0'
      clear h0'
      have hconv := Lib.run_convert_string_bytes (P := Tryd.prog) w 9 38 5 s (u := .string) Tryd.underlying9 Tryd.underlying38 Tryd.underlying5
      have hrow := row_new w 5 s
      have hbel : Below w.heap.size w (Lib.bytesWorld w 5 s) := Lib.bytesWorld_below w 5 s
      obtain ⟨cap, hcap⟩ : ∃ cap, grownCap w s.size 0 5 = cap := ⟨_, rfl⟩
      rw [hcap] at hconv
      clear hcap
      generalize Lib.bytesWorld w 5 s = W1 at hconv hrow hbel
      obtain ⟨n, hn⟩ : ∃ n : Int, 8 * (s.size : Int) = n := ⟨_, rfl⟩
      have hn0 : 0 < n := by omega
      have hn1 : n ≤ 16000 := by omega
      obtain ⟨r, hr⟩ : ∃ r, from'.tmod n = r := ⟨_, rfl⟩
      have hr0 : -n < r ∧ r < n := by rw [← hr]; exact ⟨by have := Int.tmod_lt_of_pos (-from') hn0; rw [Int.neg_tmod] at this; omega, Int.tmod_lt_of_pos _ hn0⟩
      obtain ⟨F, hF⟩ : ∃ F : Nat, (r + n) % n = F := ⟨((r + n) % n).toNat, by have := Int.emod_nonneg (r + n) (show n ≠ 0 by omega); omega⟩
      have hF1 : (F : Int) < n := by rw [← hF]; exact Int.emod_lt_of_pos _ hn0
      go_enter Tryd.func6, Tryd.ntmps6
      go_wp2_with fail
      go_loopg [9, 10] 32 (fun g s9 s10 wx => ∃ (i : Nat) (tb : Bool) (l : List UInt8), i + g = 32 ∧ s10 = .int .i64 i ∧ s9 = .bool tb ∧ (F : Int) + i ≤ n ∧ l.length = s.size ∧
        Aside (RowAt wx w.heap.size l ∧ sumN l = sumN s.data.toList ^^^ HN (8 * s.size - F) (mask % 2 ^ i) ∧ tb = decide (¬ mask % 2 ^ i = 0)) ∧ Below w.heap.size w wx)
      case atStart => exact ⟨0, false, s.data.toList, rfl, rfl, rfl, by omega, by simp, ⟨hrow, by rw [Nat.pow_zero, Nat.mod_one, HN_zero, Nat.xor_zero], by simp [Nat.mod_one]⟩, hbel⟩
      case round =>
        obtain ⟨i, tb, l, hig, rfl, rfl, hFi, hll, HR, hb⟩ := hrel
        have Hb := Lib.hid hb
        clear hb hrow hbel hconv
        by_cases hgo : i < 32 ∧ (F : Int) + i < n
        · obtain ⟨g1, g2⟩ := hgo
          have g1' : (i : Int) < 32 := by omega
          have hand := bit_of mask i hk
          cases hbit : mask.testBit i
          · rw [hbit] at hand
            have Hbit := Lib.hid hbit
            clear hbit
            go_wp2_with fail
            go_roundg (31 - i)
            case measure => omega
            case rel => exact ⟨i + 1, tb, l, by omega, by go_num, rfl, by omega, hll, ⟨HR.out.1, by rw [burst_off Hbit.out]; exact HR.out.2.1, by rw [mask_step_off Hbit.out]; exact HR.out.2.2⟩, Hb.out⟩
          · rw [hbit] at hand
            have hj : (F + i) / 8 < l.length := by rw [hll]; omega
            have hcell := HR.out.1.1 ((F + i) / 8) hj
            have hfz := HR.out.1.2 ((F + i) / 8) hj
            have Hbit := Lib.hid hbit
            clear hbit
            obtain ⟨d, hd⟩ : ∃ d : UInt8, d.toNat = l[(F + i) / 8].toNat ^^^ 2 ^ ((F + i) % 8) := by have h := turned_byte l[(F + i) / 8].toNat ((F + i) % 8) (Nat.mod_lt _ (by omega)); rwa [Nat.mod_eq_of_lt l[(F + i) / 8].toNat_lt] at h
            have hxor := turned_xor l[(F + i) / 8] d ((F + i) % 8) (Nat.mod_lt _ (by omega)) hd
            have hrow2 := HR.out.1.set ((F + i) / 8) d
            have hsum := set_turn l ((F + i) / 8) hj d ((F + i) % 8) (Nat.mod_lt _ (by omega)) hd
            rw [hll, show 8 * (s.size - (F + i) / 8) - (F + i) % 8 = 8 * s.size - F - i from by omega, HR.out.2.1, Nat.xor_assoc, ← burst_on (show i ≤ 8 * s.size - F by omega) Hbit.out] at hsum
            have Hsum := Lib.hid hsum
            have Hrow2 := Lib.hid hrow2
            have Hbel2 := Lib.hid (below_set Hb.out (Nat.le_refl _) ((F + i) / 8) (.int .u8 (d.toNat : Int)))
            clear hsum hrow2 hd
            go_wp2_with fail
            go_roundg (31 - i)
            case measure => omega
            case rel => exact ⟨i + 1, true, l.set ((F + i) / 8) d, by omega, by go_num, rfl, by omega, by rw [List.length_set]; exact hll, ⟨Hrow2.out, Hsum.out, (decide_eq_true (mask_on Hbit.out)).symm⟩, Hbel2.out⟩
        · have hback := HR.out.1.back cap s.size hll.symm
          obtain ⟨u, hu⟩ : ∃ u, bytes l = u := ⟨_, rfl⟩
          rw [hu] at hback
          have hud : u.data.toList = l := by rw [← hu]; exact bytes_data _
          have hus : u.size ≤ 100000 := by rw [size_data, hud, hll]; omega
          obtain ⟨ra, hra⟩ : ∃ ra, sumN s.data.toList = ra := ⟨_, rfl⟩
          obtain ⟨rb, hrb⟩ : ∃ rb, sumN u.data.toList = rb := ⟨_, rfl⟩
          have hsum := HR.out.2.1
          rw [← hud, hra, hrb] at hsum
          have hseen := burst_seen (show i ≤ 32 by omega) hsum
          have htb := HR.out.2.2
          have Ha := Lib.hid hra
          have Hr := Lib.hid hrb
          have hcase : (((rb : Int) != (ra : Int)) = true ∧ tb = true) ∨ (((rb : Int) != (ra : Int)) = false ∧ tb = false) := by
            by_cases h : mask % 2 ^ i = 0
            · right
              have : rb = ra := Classical.byContradiction fun e => hseen.1 e h
              exact ⟨by rw [this]; simp, by rw [htb]; simp [h]⟩
            · left
              exact ⟨by rw [bne_iff_ne]; have := hseen.2 h; omega, by rw [htb]; simp [h]⟩
          have hexit : ¬ (i : Int) < 32 ∨ ((i : Int) < 32 ∧ ¬ (F : Int) + (i : Int) < n) := by omega
          clear hsum hseen htb hra hrb hud hu hgo HR
          rcases hexit with hx | ⟨hx, hx'⟩
          all_goals
            rcases hcase with ⟨q1, rfl⟩ | ⟨q1, rfl⟩
            all_goals
              go_wp2_with fail
              refine (crOne u _ hus (HL.out.later Hb.out) Hr.out).mono ?_
              rintro e w2 ⟨rfl, hb⟩
              have Hb2 := Lib.hid (Hb.out.trans (hb.mono Hb.out.size))
              clear hb
              go_wp2_with fail
              refine (crOne s _ (by omega) (HL.out.later Hb2.out) Ha.out).mono ?_
              rintro e w3 ⟨rfl, hb⟩
              have Hb3 := Lib.hid (Hb2.out.trans (hb.mono Hb2.out.size))
              clear hb
              go_wp2_with fail
              refine (csums_any _ (HL.out.later Hb3.out)).mono ?_
              rintro e w4 ⟨rfl, hb⟩
              have Hb4 := Lib.hid (Hb3.out.trans (hb.mono Hb3.out.size))
              clear hb
              go_wp2_with fail
              go_ret
              exact ⟨rfl, Hb4.out⟩

end Go.Proofs.YtllimejpmihpfaaDoor
