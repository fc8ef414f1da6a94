/-
  The walks of the laws AdlerJoins and AdlerTurned.
-/
import Derived.Test.YtpanhjhdohdbkaaALaws
import Derived.Test.YtpanhjhdohdbkaaBytesRow
namespace Go.Proofs.Ytpanhjhdohdbkaa
open Go.RowKit

theorem join_texts (s t : ByteArray) : aJoin (aSum s.data.toList : Int) (aSum t.data.toList : Int) (t.size : Int) = ((aSum (s ++ t).data.toList : Int), 0) := by
  rw [aJoin_ok (aSum_ok _) (aSum_ok _), size_data, aPut_sum, app_data]

set_option maxRecDepth 100000 in
set_option maxHeartbeats 4000000 in
theorem adjoins_walk (s t u : ByteArray) (w : World) (hs : s.size ≤ maxLen) (ht : t.size ≤ maxLen) (hu : u.size ≤ maxLen) :
    Calls Try.prog 5 #[.string s, .string t, .string u] w (Yes w) := by
  unfold maxLen at hs ht hu
  by_cases hbig : (5000 : Int) < (s.size : Int) ∨ (5000 : Int) < (t.size : Int) ∨ (5000 : Int) < (u.size : Int)
  · have hcase : (5000 : Int) < (s.size : Int) ∨ (¬ (5000 : Int) < (s.size : Int) ∧ (5000 : Int) < (t.size : Int)) ∨ (¬ (5000 : Int) < (s.size : Int) ∧ ¬ (5000 : Int) < (t.size : Int) ∧ (5000 : Int) < (u.size : Int)) := by omega
    clear hbig
    rcases hcase with h | ⟨h, h'⟩ | ⟨h, h', h''⟩
    all_goals
      go_enter Try.func5, Try.ntmps5
      go_wp2_with fail
      refine (asums_any _).mono ?_
      rintro e w1 ⟨rfl, hb⟩
      have Hb := Lib.hid hb
      clear hb
      go_wp2_with fail
      go_ret
      exact ⟨rfl, Hb.out⟩
  · have h : ¬ (5000 : Int) < (s.size : Int) := by omega
    have h' : ¬ (5000 : Int) < (t.size : Int) := by omega
    have h'' : ¬ (5000 : Int) < (u.size : Int) := by omega
    clear hbig
    obtain ⟨a, ha⟩ : ∃ a, aSum s.data.toList = a := ⟨_, rfl⟩
    obtain ⟨b, hb⟩ : ∃ b, aSum t.data.toList = b := ⟨_, rfl⟩
    obtain ⟨c, hc⟩ : ∃ c, aSum u.data.toList = c := ⟨_, rfl⟩
    obtain ⟨ab, hab⟩ : ∃ ab, aSum (s ++ t).data.toList = ab := ⟨_, rfl⟩
    obtain ⟨bc, hbc⟩ : ∃ bc, aSum (t ++ u).data.toList = bc := ⟨_, rfl⟩
    obtain ⟨abc, habc⟩ : ∃ abc, aSum (s ++ t ++ u).data.toList = abc := ⟨_, rfl⟩
    have j1 := join_texts s t
    have j2 := join_texts (s ++ t) u
    have j3 := join_texts t u
    have j4 := join_texts s (t ++ u)
    rw [← ByteArray.append_assoc] at j4
    have hsz : ((t ++ u).size : Int) = (t.size : Int) + (u.size : Int) := by rw [ByteArray.size_append]; omega
    rw [ha, hb, hab] at j1
    rw [hab, hc, habc] at j2
    rw [hb, hc, hbc] at j3
    rw [ha, hbc, habc, hsz] at j4
    have la := aSum_le s.data.toList
    have lb := aSum_le t.data.toList
    have lc := aSum_le u.data.toList
    have lab := aSum_le (s ++ t).data.toList
    have lbc := aSum_le (t ++ u).data.toList
    rw [ha] at la; rw [hb] at lb; rw [hc] at lc; rw [hab] at lab; rw [hbc] at lbc
    have hst : (s ++ t).size ≤ maxLen := by rw [ByteArray.size_append]; unfold maxLen; omega
    have hstu : (s ++ t ++ u).size ≤ maxLen := by rw [ByteArray.size_append, ByteArray.size_append]; unfold maxLen; omega
    have Ha := Lib.hid ha
    have Hb := Lib.hid hb
    have Hc := Lib.hid hc
    have Hab := Lib.hid hab
    have Habc := Lib.hid habc
    have J1 := Lib.hid j1
    have J2 := Lib.hid j2
    have J3 := Lib.hid j3
    have J4 := Lib.hid j4
    have Hst := Lib.hid hst
    have Hstu := Lib.hid hstu
    have Sst : Hid ((s ++ t).size = s.size + t.size) := Lib.hid ByteArray.size_append
    clear ha hb hc hab hbc habc j1 j2 j3 j4 hsz hst hstu
    go_enter Try.func5, Try.ntmps5
    go_wp2_with fail
    refine (adSum_is s _ (by unfold maxLen; omega) Ha.out).mono ?_
    rintro e w1 ⟨rfl, hb⟩
    have Hb1 := Lib.hid hb
    clear hb
    go_wp2_with fail
    refine (adSum_is t _ (by unfold maxLen; omega) Hb.out).mono ?_
    rintro e w2 ⟨rfl, hb⟩
    have Hb2 := Lib.hid (Hb1.out.trans (hb.mono Hb1.out.size))
    clear hb
    go_wp2_with fail
    refine (adJoin_is _ _ _ _ (by omega) (by omega) (by omega) (by omega) (by omega) (by omega) J1.out).mono ?_
    rintro e w3 ⟨rfl, hb⟩
    have Hb3 := Lib.hid (Hb2.out.trans (hb.mono Hb2.out.size))
    clear hb
    go_wp2_with fail
    refine (adSum_is u _ (by unfold maxLen; omega) Hc.out).mono ?_
    rintro e w4 ⟨rfl, hb⟩
    have Hb4 := Lib.hid (Hb3.out.trans (hb.mono Hb3.out.size))
    clear hb
    go_wp2_with fail
    refine (adJoin_is _ _ _ _ (by omega) (by omega) (by omega) (by omega) (by omega) (by omega) J2.out).mono ?_
    rintro e w5 ⟨rfl, hb⟩
    have Hb5 := Lib.hid (Hb4.out.trans (hb.mono Hb4.out.size))
    clear hb
    go_wp2_with fail
    refine (adSum_is t _ (by unfold maxLen; omega) Hb.out).mono ?_
    rintro e w6 ⟨rfl, hb⟩
    have Hb6 := Lib.hid (Hb5.out.trans (hb.mono Hb5.out.size))
    clear hb
    go_wp2_with fail
    refine (adSum_is u _ (by unfold maxLen; omega) Hc.out).mono ?_
    rintro e w7 ⟨rfl, hb⟩
    have Hb7 := Lib.hid (Hb6.out.trans (hb.mono Hb6.out.size))
    clear hb
    go_wp2_with fail
    refine (adJoin_is _ _ _ _ (by omega) (by omega) (by omega) (by omega) (by omega) (by omega) J3.out).mono ?_
    rintro e w8 ⟨rfl, hb⟩
    have Hb8 := Lib.hid (Hb7.out.trans (hb.mono Hb7.out.size))
    clear hb
    go_wp2_with fail
    refine (adSum_is s _ (by unfold maxLen; omega) Ha.out).mono ?_
    rintro e w9 ⟨rfl, hb⟩
    have Hb9 := Lib.hid (Hb8.out.trans (hb.mono Hb8.out.size))
    clear hb
    go_wp2_with fail
    refine (adJoin_is _ _ _ _ (by omega) (by omega) (by omega) (by omega) (by omega) (by omega) J4.out).mono ?_
    rintro e w10 ⟨rfl, hb⟩
    have Hb10 := Lib.hid (Hb9.out.trans (hb.mono Hb9.out.size))
    clear hb
    go_wp2_with fail
    refine (adSum_is (s ++ t) _ Hst.out Hab.out).mono ?_
    rintro e w11 ⟨rfl, hb⟩
    have Hb11 := Lib.hid (Hb10.out.trans (hb.mono Hb10.out.size))
    clear hb
    go_wp2_with fail
    refine (adSum_is (s ++ t ++ u) _ Hstu.out Habc.out).mono ?_
    rintro e w12 ⟨rfl, hb⟩
    have Hb12 := Lib.hid (Hb11.out.trans (hb.mono Hb11.out.size))
    clear hb
    go_wp2_with fail
    refine (asums_any _).mono ?_
    rintro e w13 ⟨rfl, hb⟩
    have Hb13 := Lib.hid (Hb12.out.trans (hb.mono Hb12.out.size))
    clear hb
    go_wp2_with fail
    go_ret
    exact ⟨rfl, Hb13.out⟩

set_option maxRecDepth 100000 in
set_option maxHeartbeats 4000000 in
theorem adturned_walk (s : ByteArray) (k by' : Nat) (w : World) (hs : s.size ≤ maxLen) (hk : k < 65536) (hby : by' < 256) :
    Calls Try.prog 6 #[.string s, .int .u16 (k : Int), .int .u8 (by' : Int)] w (Yes w) := by
  unfold maxLen at hs
  by_cases h0 : s.data.toList = []
  · have he := isEmpty_of h0
    clear h0
    go_enter Try.func6, Try.ntmps6
    go_wp2_with fail
    refine (asums_any _).mono ?_
    rintro e w1 ⟨rfl, hb⟩
    have Hb := Lib.hid hb
    clear hb
    go_wp2_with fail
    go_ret
    exact ⟨rfl, Hb.out⟩
  · have he := isEmpty_not h0
    by_cases hbig : (5000 : Int) < (s.size : Int)
    · clear h0
      go_enter Try.func6, Try.ntmps6
      go_wp2_with fail
      refine (asums_any _).mono ?_
      rintro e w1 ⟨rfl, hb⟩
      have Hb := Lib.hid hb
      clear hb
      go_wp2_with fail
      go_ret
      exact ⟨rfl, Hb.out⟩
    · have hpos : 0 < s.size := by
        rw [size_data]
        exact List.length_pos_iff.2 h0
      clear h0
      have hconv := Lib.run_convert_string_bytes (P := Try.prog) w 9 35 5 s (u := .string) Try.underlying9 Try.underlying35 Try.underlying5
      have hrow := row_new w 5 s
      have hbel : Below w.heap.size w (Lib.bytesWorld w 5 s) := Lib.bytesWorld_below w 5 s
      obtain ⟨cap, hcap⟩ : ∃ cap, grownCap w s.size 0 5 = cap := ⟨_, rfl⟩
      rw [hcap] at hconv
      clear hcap
      generalize Lib.bytesWorld w 5 s = W1 at hconv hrow hbel
      obtain ⟨i, hi⟩ : ∃ i, k % s.size = i := ⟨_, rfl⟩
      have hlt : i < s.size := by rw [← hi]; exact Nat.mod_lt _ hpos
      have hmod : (k : Int) % (s.size : Int) = (i : Int) := by rw [← hi]; rfl
      have hcell := hrow.cell_at hlt
      have hfz := hrow.2 i (by simpa using hlt)
      have hxor := u8_xor_nat s[i].toNat by' s[i].toNat_lt hby
      have hx256 : s[i].toNat ^^^ by' < 256 := Nat.xor_lt_two_pow (n := 8) s[i].toNat_lt hby
      obtain ⟨d, hd⟩ : ∃ d : UInt8, d.toNat = s[i].toNat ^^^ by' := ⟨UInt8.ofNat (s[i].toNat ^^^ by'), by rw [UInt8.toNat_ofNat']; omega⟩
      rw [← hd] at hxor
      have hrow2 := hrow.set i d
      have hback := hrow2.back cap s.size (by simp)
      have hbel2 := below_set hbel (Nat.le_refl _) i (.int .u8 (d.toNat : Int))
      obtain ⟨u, hu⟩ : ∃ u, bytes (s.data.toList.set i d) = u := ⟨_, rfl⟩
      rw [hu] at hback
      have hus : u.size ≤ 5000 := by rw [← hu, bytes_size, List.length_set, ← size_data]; omega
      have hsum : aSum u.data.toList = aSum s.data.toList ↔ by' = 0 := by
        rw [← hu, bytes_data]
        have e1 : s.data.toList.set i d = s.data.toList.take i ++ d :: s.data.toList.drop (i + 1) := List.set_eq_take_append_cons_drop.trans (by rw [if_pos (by simpa using hlt)])
        have e2 : s.data.toList = s.data.toList.take i ++ s[i] :: s.data.toList.drop (i + 1) := by
          conv => lhs; rw [← List.take_append_drop i s.data.toList]
          congr 1
          exact List.drop_eq_getElem_cons (by simpa using hlt)
        rw [e1]
        conv => lhs; rhs; rw [e2]
        rw [sum_byte, ← UInt8.toNat_inj, hd]
        constructor
        · intro h
          have : s[i].toNat ^^^ (s[i].toNat ^^^ by') = s[i].toNat ^^^ s[i].toNat := by rw [h]
          rw [← Nat.xor_assoc, Nat.xor_self, Nat.zero_xor] at this
          exact this
        · intro h; rw [h, Nat.xor_zero]
      have Hbel := Lib.hid hbel2
      have Hsum := Lib.hid hsum
      clear hrow hrow2 hbel hbel2 hu hd hsum hi
      go_enter Try.func6, Try.ntmps6
      go_wp2_with fail
      obtain ⟨ra, hra⟩ : ∃ ra, aSum u.data.toList = ra := ⟨_, rfl⟩
      obtain ⟨rb, hrb⟩ : ∃ rb, aSum s.data.toList = rb := ⟨_, rfl⟩
      have hsum := Hsum.out
      rw [hra, hrb] at hsum
      have Ha := Lib.hid hra
      have Hr := Lib.hid hrb
      clear hra hrb Hsum
      have hcase : (((ra : Int) == (rb : Int)) = true ∧ ((by' : Int) == 0) = true) ∨ (((ra : Int) == (rb : Int)) = false ∧ ((by' : Int) == 0) = false) := by
        by_cases h : by' = 0
        · left
          exact ⟨beq_iff_eq.2 (by have := hsum.2 h; omega), beq_iff_eq.2 (by omega)⟩
        · right
          exact ⟨beq_eq_false_iff_ne.2 (fun e => h (hsum.1 (by omega))), beq_eq_false_iff_ne.2 (by omega)⟩
      clear hsum
      refine (adSum_is u _ (by unfold maxLen; omega) Ha.out).mono ?_
      rintro e w2 ⟨rfl, hb⟩
      have Hb2 := Lib.hid (Hbel.out.trans (hb.mono Hbel.out.size))
      clear hb hxor hcell hfz hback hconv
      go_wp2_with fail
      refine (adSum_is s _ (by unfold maxLen; omega) Hr.out).mono ?_
      rintro e w3 ⟨rfl, hb⟩
      have Hb3 := Lib.hid (Hb2.out.trans (hb.mono Hb2.out.size))
      clear hb
      rcases hcase with ⟨q1, q2⟩ | ⟨q1, q2⟩
      all_goals
        go_wp2_with fail
        refine (asums_any _).mono ?_
        rintro e w4 ⟨rfl, hb⟩
        have Hb4 := Lib.hid (Hb3.out.trans (hb.mono Hb3.out.size))
        clear hb
        go_wp2_with fail
        go_ret
        exact ⟨rfl, Hb4.out⟩

end Go.Proofs.Ytpanhjhdohdbkaa
