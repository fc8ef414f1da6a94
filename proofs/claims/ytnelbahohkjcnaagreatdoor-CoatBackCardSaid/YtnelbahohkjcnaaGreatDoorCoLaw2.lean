/-
  The walks of the laws CoatBack and CoatWithin.
-/
import Derived.Test.YtnelbahohkjcnaaGreatDoorKCoE
import Derived.Test.YtnelbahohkjcnaaGreatDoorKCo
namespace Go.Proofs.YtnelbahohkjcnaaGreatDoor
open Go.RowKit
set_option maxRecDepth 100000
theorem texts_from {w : World} {b off : Nat} {xs : List ByteArray} (h : Texts w (some ⟨b, off, none⟩) xs) (k : Nat) : Texts w (some ⟨b, off + k, none⟩) (xs.drop k) := by
  rcases h with h | ⟨b2, off2, e, h⟩
  · left; rw [h, List.drop_nil]
  · cases e
    right
    refine ⟨b, off + k, rfl, fun i hi => ?_⟩
    rw [List.length_drop] at hi
    have h2 := h (k + i) (by omega)
    rw [show off + k + i = off + (k + i) by omega, h2, List.getElem?_drop]
theorem texts_upto {w : World} {a : Option Addr} {xs : List ByteArray} (h : Texts w a xs) (k : Nat) : Texts w a (xs.take k) := by
  rcases h with h | ⟨b, off, e, h⟩
  · left; rw [h, List.take_nil]
  · right
    refine ⟨b, off, e, fun i hi => ?_⟩
    rw [List.length_take] at hi
    rw [h i (by omega), List.getElem?_take_of_lt (by omega)]
theorem kindsC_drop (xs : List ByteArray) (k : Nat) : kindsC (xs.drop k) = (kindsC xs).drop k := by unfold kindsC; rw [List.map_drop]
theorem kindsC_take (xs : List ByteArray) (k : Nat) : kindsC (xs.take k) = (kindsC xs).take k := by unfold kindsC; rw [List.map_take]
theorem byteC {c : Nat} (h : c < 256) : wrap64 (c : Int) = (c : Int) := by unfold wrap64; omega
theorem back_fits {ks : List Nat} {columns : Int} {l a : List UInt8} {M : Nat} (hch : checkC ks columns = 0) (hl : l.length ≤ 500) (hM : l.length ≤ M + 1) (hE : encC ks columns l = (a, 0)) : decFits ks a (16 * (M : Int) + 1024) := by
  obtain ⟨h0, h1, h4, _, _⟩ := checkC_ok hch
  have h2 := encP_most l h0 h1
  have key : ∀ p : List UInt8, p.length ≤ 2 * l.length → decFits ks (encKs ks p) (16 * (M : Int) + 1024) := fun p hp => by
    have h3 := (growC_four (m := ks.length) (n := p.length) h4).2
    have h := encKs_fits ks p (16 * M + 1024) (by omega) (fun _ => by omega)
    rwa [show ((16 * M + 1024 : Nat) : Int) = 16 * (M : Int) + 1024 by omega] at h
  by_cases h : columns = 0
  · rw [if_pos h] at h2
    subst h
    rw [encC_plain hch (by omega)] at hE
    rw [← (Prod.mk.inj hE).1]
    exact key l h2
  · rw [if_neg h] at h2
    obtain ⟨p, e, hp⟩ : ∃ p e, encP l columns = (p, e) := ⟨_, _, rfl⟩
    rw [encC_rows hch (by omega) h hp] at hE
    rw [hp] at h2
    by_cases he : e = 0
    · rw [if_neg (by simpa using he)] at hE
      rw [← (Prod.mk.inj hE).1]
      exact key p h2
    · rw [if_pos he] at hE
      exact absurd (Prod.mk.inj hE).2 he
set_option maxHeartbeats 2000000 in
theorem cback_big (a : Option Addr) (len cap c : Nat) (s : ByteArray) (w : World) (hl : LaidQ w) (hi : Laid w) (hbig : (4 : Int) < (len : Int) ∨ (¬ (4 : Int) < (len : Int) ∧ (500 : Int) < (s.size : Int))) :
    Calls Tryz.prog 5 #[.slice a len cap, .int .u8 (c : Int), .string s] w (YesC w) := by
  have HS := Lib.hid (coats_is w hl hi)
  clear hl hi
  rcases hbig with g1 | ⟨g1, g2⟩
  all_goals
    go_enter Tryz.func5, Tryz.ntmps5
    go_wp2_with fail
    refine HS.out.mono ?_
    rintro e w1 ⟨rfl, hb⟩
    have Hb := Lib.hid hb
    clear hb
    go_wp2_with fail
    go_ret
    exact ⟨rfl, Hb.out⟩
set_option maxHeartbeats 4000000 in
theorem cback_walk (a : Option Addr) (cap : Nat) (xs : List ByteArray) (c : Nat) (s : ByteArray) (w : World) (hn : xs.length ≤ 9223372036854775807) (hT : Texts w a xs) (hs : s.size ≤ maxLen) (hc : c < 256) (hl : LaidQ w) (hi : Laid w) :
    Calls Tryz.prog 5 #[.slice a xs.length cap, .int .u8 (c : Int), .string s] w (YesC w) := by
  unfold maxLen at hs
  by_cases hbig : (4 : Int) < (xs.length : Int) ∨ (¬ (4 : Int) < (xs.length : Int) ∧ (500 : Int) < (s.size : Int))
  · exact cback_big a xs.length cap c s w hl hi hbig
  have g1 : ¬ (4 : Int) < (xs.length : Int) := by omega
  have g2 : ¬ (500 : Int) < (s.size : Int) := by omega
  clear hbig
  have HL := Lib.hid hl
  have HI := Lib.hid hi
  have HS := Lib.hid (fun W (hW : Below w.heap.size w W) => coats_is W (HL.out.later hW) (HI.out.later hW))
  clear hl hi
  have hc64 := byteC hc
  -- the rows that are whole
  obtain ⟨t, ht, hts, hrows⟩ : ∃ t : ByteArray, ((c = 0 ∧ t = s) ∨ (1 ≤ c ∧ ∃ q L : Nat, (s.size : Int) / (c : Int) = (q : Int) ∧ (q : Int) * (c : Int) = (L : Int) ∧ L ≤ s.size ∧ q ≤ s.size ∧ s.extract 0 L = t)) ∧ t.size ≤ 500 ∧ (1 ≤ c → ∃ m, t.data.toList.length = m * c) := by
    by_cases h0 : c = 0
    · exact ⟨s, .inl ⟨h0, rfl⟩, by omega, fun h => absurd h (by omega)⟩
    · have hle : s.size / c * c ≤ s.size := Nat.div_mul_le_self _ _
      have hsz : (s.extract 0 (s.size / c * c)).size = s.size / c * c := by rw [ByteArray.size_extract]; omega
      exact ⟨_, .inr ⟨by omega, s.size / c, s.size / c * c, (Int.natCast_ediv s.size c).symm, (Int.natCast_mul _ _).symm, hle, Nat.div_le_self _ _, rfl⟩, by omega, fun _ => ⟨s.size / c, by rw [← size_data, hsz]⟩⟩
  have htl : t.data.toList.length ≤ 500 := by rw [← size_data]; exact hts
  obtain ⟨ch, hch⟩ : ∃ ch, checkC (kindsC xs) (c : Int) = ch := ⟨_, rfl⟩
  have hfit := coat_fits (ks := kindsC xs) (columns := (c : Int)) (l := t.data.toList) (m := xs.length) htl (kindsC_length xs)
  obtain ⟨A, e, hE⟩ := encC_text (kindsC xs) (c : Int) t.data.toList
  have H1 := Lib.hid (encode_is a cap xs (c : Int) t w hn hT (by omega) (by omega) (by omega) HL.out hfit hE)
  have H2 := Lib.hid (fun W (hW : Below w.heap.size w W) => coCheck_is a cap xs (c : Int) W hn (hT.later hW) hch)
  rw [bytes_of] at H1
  by_cases h0 : ch = 0
  · subst h0
    obtain ⟨he0, hAl, hD1, hD2⟩ := coat_back hch htl hrows
    rw [hE] at he0 hAl hD1 hD2
    obtain rfl : e = 0 := he0
    have hAs : A.size ≤ 100000 := by rw [size_data]; show A.data.toList.length ≤ _; have : A.data.toList.length ≤ 32 * t.data.toList.length + 165 := hAl; omega
    rw [← size_data] at hD1 hD2
    have H3 := Lib.hid (fun W (hW : Below w.heap.size w W) => decode_is a cap xs (c : Int) A (t.size : Int) W hn (hT.later hW) hAs (by omega) (by omega) (by omega) (HI.out.later hW) (fun _ _ => back_fits hch htl (by rw [← size_data]; omega) hE) hD1)
    have H4 := Lib.hid (fun (h1 : 1 ≤ t.size) W (hW : Below w.heap.size w W) => decode_is a cap xs (c : Int) A ((t.size - 1 : Nat) : Int) W hn (hT.later hW) hAs (by omega) (by omega) (by omega) (HI.out.later hW) (fun _ _ => back_fits hch htl (by rw [← size_data]; omega) hE) (hD2 h1))
    rw [bytes_of] at H3
    have hz : t.size = 0 ∨ 1 ≤ t.size := by omega
    clear hch hfit hE hT hAl hD1 hD2 hrows htl hAs
    rcases hz with hz | hz
    · have hte : (t.toList == []) = true := by
        rw [Lib.toList_data, beq_iff_eq]
        exact List.eq_nil_of_length_eq_zero (by rw [← size_data]; exact hz)
      clear hz H4
      rcases ht with ⟨rfl, rfl⟩ | ⟨h1c, q, L, hdiv, hmul, hLs, hqs, hsx⟩
      · go_enter Tryz.func5, Tryz.ntmps5
        go_wp2_with fail
        refine H1.out.mono ?_
        rintro e w1 ⟨rfl, hb⟩
        have Hb1 := Lib.hid hb
        clear hb
        go_wp2_with fail
        refine (H2.out _ Hb1.out).mono ?_
        rintro e w2 ⟨rfl, hb⟩
        have Hb2 := Lib.hid (Hb1.out.trans (hb.mono Hb1.out.size))
        clear hb
        go_wp2_with fail
        refine (H3.out _ Hb2.out).mono ?_
        rintro e w3 ⟨rfl, hb⟩
        have Hb3 := Lib.hid (Hb2.out.trans (hb.mono Hb2.out.size))
        clear hb
        go_wp2_with fail
        refine (HS.out _ Hb3.out).mono ?_
        rintro e w4 ⟨rfl, hb⟩
        have Hb4 := Lib.hid (Hb3.out.trans (hb.mono Hb3.out.size))
        clear hb
        go_wp2_with fail
        go_ret
        exact ⟨rfl, Hb4.out⟩
      · have hc1 : (0 : Int) < (c : Int) := by omega
        have hc2 : ¬ (c : Int) = 0 := by omega
        have hLw : IntKind.i64.wrap (L : Int) = (L : Int) := IntWalk.i64_in _ (by omega)
        have hqw : IntKind.i64.wrap (q : Int) = (q : Int) := IntWalk.i64_in _ (by omega)
        have hLz : (L : Int) ≤ (s.size : Int) := by omega
        clear hLs hqs h1c
        go_enter Tryz.func5, Tryz.ntmps5
        go_wp2_with fail
        refine H1.out.mono ?_
        rintro e w1 ⟨rfl, hb⟩
        have Hb1 := Lib.hid hb
        clear hb
        go_wp2_with fail
        refine (H2.out _ Hb1.out).mono ?_
        rintro e w2 ⟨rfl, hb⟩
        have Hb2 := Lib.hid (Hb1.out.trans (hb.mono Hb1.out.size))
        clear hb
        go_wp2_with fail
        refine (H3.out _ Hb2.out).mono ?_
        rintro e w3 ⟨rfl, hb⟩
        have Hb3 := Lib.hid (Hb2.out.trans (hb.mono Hb2.out.size))
        clear hb
        go_wp2_with fail
        refine (HS.out _ Hb3.out).mono ?_
        rintro e w4 ⟨rfl, hb⟩
        have Hb4 := Lib.hid (Hb3.out.trans (hb.mono Hb3.out.size))
        clear hb
        go_wp2_with fail
        go_ret
        exact ⟨rfl, Hb4.out⟩
    · have hte : (t.toList == []) = false := by
        rw [Lib.toList_data, beq_eq_false_iff_ne]
        intro h
        rw [size_data, h] at hz
        exact absurd hz (by simp)
      have hzz : ((t.size - 1 : Nat) : Int) = (t.size : Int) - 1 := by omega
      have H4 := Lib.hid (H4.out hz)
      rw [hzz] at H4
      clear hz hzz
      rcases ht with ⟨rfl, rfl⟩ | ⟨h1c, q, L, hdiv, hmul, hLs, hqs, hsx⟩
      · go_enter Tryz.func5, Tryz.ntmps5
        go_wp2_with fail
        refine H1.out.mono ?_
        rintro e w1 ⟨rfl, hb⟩
        have Hb1 := Lib.hid hb
        clear hb
        go_wp2_with fail
        refine (H2.out _ Hb1.out).mono ?_
        rintro e w2 ⟨rfl, hb⟩
        have Hb2 := Lib.hid (Hb1.out.trans (hb.mono Hb1.out.size))
        clear hb
        go_wp2_with fail
        refine (H3.out _ Hb2.out).mono ?_
        rintro e w3 ⟨rfl, hb⟩
        have Hb3 := Lib.hid (Hb2.out.trans (hb.mono Hb2.out.size))
        clear hb
        go_wp2_with fail
        refine (H4.out _ Hb3.out).mono ?_
        rintro e w4 ⟨rfl, hb⟩
        have Hb4 := Lib.hid (Hb3.out.trans (hb.mono Hb3.out.size))
        clear hb
        go_wp2_with fail
        refine (HS.out _ Hb4.out).mono ?_
        rintro e w5 ⟨rfl, hb⟩
        have Hb5 := Lib.hid (Hb4.out.trans (hb.mono Hb4.out.size))
        clear hb
        go_wp2_with fail
        go_ret
        exact ⟨rfl, Hb5.out⟩
      · have hc1 : (0 : Int) < (c : Int) := by omega
        have hc2 : ¬ (c : Int) = 0 := by omega
        have hLw : IntKind.i64.wrap (L : Int) = (L : Int) := IntWalk.i64_in _ (by omega)
        have hqw : IntKind.i64.wrap (q : Int) = (q : Int) := IntWalk.i64_in _ (by omega)
        have hLz : (L : Int) ≤ (s.size : Int) := by omega
        clear hLs hqs h1c
        go_enter Tryz.func5, Tryz.ntmps5
        go_wp2_with fail
        refine H1.out.mono ?_
        rintro e w1 ⟨rfl, hb⟩
        have Hb1 := Lib.hid hb
        clear hb
        go_wp2_with fail
        refine (H2.out _ Hb1.out).mono ?_
        rintro e w2 ⟨rfl, hb⟩
        have Hb2 := Lib.hid (Hb1.out.trans (hb.mono Hb1.out.size))
        clear hb
        go_wp2_with fail
        refine (H3.out _ Hb2.out).mono ?_
        rintro e w3 ⟨rfl, hb⟩
        have Hb3 := Lib.hid (Hb2.out.trans (hb.mono Hb2.out.size))
        clear hb
        go_wp2_with fail
        refine (H4.out _ Hb3.out).mono ?_
        rintro e w4 ⟨rfl, hb⟩
        have Hb4 := Lib.hid (Hb3.out.trans (hb.mono Hb3.out.size))
        clear hb
        go_wp2_with fail
        refine (HS.out _ Hb4.out).mono ?_
        rintro e w5 ⟨rfl, hb⟩
        have Hb5 := Lib.hid (Hb4.out.trans (hb.mono Hb4.out.size))
        clear hb
        go_wp2_with fail
        go_ret
        exact ⟨rfl, Hb5.out⟩
  · have hc0' : (ch != 0) = true := by simpa using h0
    rw [encC_check hch h0] at hE
    obtain ⟨hA, rfl⟩ := Prod.mk.inj hE
    obtain rfl : A = ⟨#[]⟩ := none_of hA
    clear hch hfit hE hT hrows htl hA h0
    rcases ht with ⟨rfl, rfl⟩ | ⟨h1c, q, L, hdiv, hmul, hLs, hqs, hsx⟩
    · go_enter Tryz.func5, Tryz.ntmps5
      go_wp2_with fail
      refine H1.out.mono ?_
      rintro e w1 ⟨rfl, hb⟩
      have Hb1 := Lib.hid hb
      clear hb
      go_wp2_with fail
      refine (H2.out _ Hb1.out).mono ?_
      rintro e w2 ⟨rfl, hb⟩
      have Hb2 := Lib.hid (Hb1.out.trans (hb.mono Hb1.out.size))
      clear hb
      go_wp2_with fail
      refine (HS.out _ Hb2.out).mono ?_
      rintro e w3 ⟨rfl, hb⟩
      have Hb3 := Lib.hid (Hb2.out.trans (hb.mono Hb2.out.size))
      clear hb
      go_wp2_with fail
      go_ret
      exact ⟨rfl, Hb3.out⟩
    · have hc1 : (0 : Int) < (c : Int) := by omega
      have hc2 : ¬ (c : Int) = 0 := by omega
      have hLw : IntKind.i64.wrap (L : Int) = (L : Int) := IntWalk.i64_in _ (by omega)
      have hqw : IntKind.i64.wrap (q : Int) = (q : Int) := IntWalk.i64_in _ (by omega)
      have hLz : (L : Int) ≤ (s.size : Int) := by omega
      clear hLs hqs h1c
      go_enter Tryz.func5, Tryz.ntmps5
      go_wp2_with fail
      refine H1.out.mono ?_
      rintro e w1 ⟨rfl, hb⟩
      have Hb1 := Lib.hid hb
      clear hb
      go_wp2_with fail
      refine (H2.out _ Hb1.out).mono ?_
      rintro e w2 ⟨rfl, hb⟩
      have Hb2 := Lib.hid (Hb1.out.trans (hb.mono Hb1.out.size))
      clear hb
      go_wp2_with fail
      refine (HS.out _ Hb2.out).mono ?_
      rintro e w3 ⟨rfl, hb⟩
      have Hb3 := Lib.hid (Hb2.out.trans (hb.mono Hb2.out.size))
      clear hb
      go_wp2_with fail
      go_ret
      exact ⟨rfl, Hb3.out⟩
end Go.Proofs.YtnelbahohkjcnaaGreatDoor
