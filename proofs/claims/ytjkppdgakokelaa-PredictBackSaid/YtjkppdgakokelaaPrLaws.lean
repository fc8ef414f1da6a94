/-
  The walks of the laws of the stage predict: over the contracts of package predict (enc_is, dec_is) and of the document's answer (rEncP_is, rDecP_is).
-/
import Derived.Test.YtjkppdgakokelaaPrEnc
import Derived.Test.YtjkppdgakokelaaPrDec
import Derived.Test.YtjkppdgakokelaaPrRef2
import Derived.Test.YtjkppdgakokelaaPrRef3
namespace Go.Proofs.Ytjkppdgakokelaa
open Go.RowKit

/-- It answers yes, and leaves what lay. -/
def Yes (w : World) (e : Ending) (w' : World) : Prop := e = .returned (.bool true) ∧ Below w.heap.size w w'
theorem enc_of (s u : ByteArray) (columns b : Int) (w : World) (hs : s.size ≤ 100000) (hc0 : -9223372036854775808 ≤ columns) (hc1 : columns ≤ 9223372036854775807) (h : encP s.data.toList columns = (u.data.toList, b)) :
    Calls Try.prog 7 #[.string s, .int .i64 columns] w fun e w' => e = .returned (.tuple #[.string u, .int .i64 b]) ∧ Below w.heap.size w w' := by
  have := enc_is s columns w hs hc0 hc1 h
  rwa [bytes_of] at this
theorem dec_of (s u : ByteArray) (columns b : Int) (w : World) (hs : s.size ≤ 100000) (hc0 : -9223372036854775808 ≤ columns) (hc1 : columns ≤ 9223372036854775807) (h : decP s.data.toList columns = (u.data.toList, b)) :
    Calls Try.prog 9 #[.string s, .int .i64 columns] w fun e w' => e = .returned (.tuple #[.string u, .int .i64 b]) ∧ Below w.heap.size w w' := by
  have := dec_is s columns w hs hc0 hc1 h
  rwa [bytes_of] at this
theorem rEnc_of (s u : ByteArray) (columns b : Int) (w : World) (hs : s.size ≤ 100000) (hc0 : -9223372036854775808 ≤ columns) (hc1 : columns ≤ 9223372036854775807) (h : encP s.data.toList columns = (u.data.toList, b)) :
    Calls Try.prog 8 #[.string s, .int .i64 columns] w fun e w' => e = .returned (.tuple #[.string u, .int .i64 b]) ∧ Below w.heap.size w w' := by
  have := rEncP_is s columns w hs hc0 hc1 h
  rwa [bytes_of] at this
theorem rDec_of (s u : ByteArray) (columns b : Int) (w : World) (hs : s.size ≤ 100000) (hc0 : -9223372036854775808 ≤ columns) (hc1 : columns ≤ 9223372036854775807) (h : decP s.data.toList columns = (u.data.toList, b)) :
    Calls Try.prog 10 #[.string s, .int .i64 columns] w fun e w' => e = .returned (.tuple #[.string u, .int .i64 b]) ∧ Below w.heap.size w w' := by
  have := rDecP_is s columns w hs hc0 hc1 h
  rwa [bytes_of] at this
theorem encP_text (l : List UInt8) (columns : Int) : ∃ (u : ByteArray) (b : Int), encP l columns = (u.data.toList, b) := ⟨bytes (encP l columns).1, (encP l columns).2, by rw [bytes_data]⟩
theorem decP_text (l : List UInt8) (columns : Int) : ∃ (u : ByteArray) (b : Int), decP l columns = (u.data.toList, b) := ⟨bytes (decP l columns).1, (decP l columns).2, by rw [bytes_data]⟩

theorem ex_p1 : encP (ByteArray.mk #[1, 2, 3, 5]).data.toList 2 = ((ByteArray.mk #[2, 1, 2, 2, 2, 3]).data.toList, 0) := by decide +kernel
theorem ex_p2 : decP (ByteArray.mk #[0, 5, 7, 1, 1, 2, 2, 1, 1, 3, 2, 2, 4, 1, 1]).data.toList 2 = ((ByteArray.mk #[5, 7, 1, 3, 2, 4, 3, 5, 4, 6]).data.toList, 0) := by decide +kernel
theorem ex_p3 : decP (ByteArray.mk #[5, 0]).data.toList 1 = ((ByteArray.mk #[]).data.toList, 4) := by decide +kernel
theorem ex_p4 : encP (ByteArray.mk #[97, 98, 99]).data.toList 2 = ((ByteArray.mk #[]).data.toList, 4) := by decide +kernel

set_option maxHeartbeats 1000000 in
theorem rows_any (w : World) : Calls Try.prog 6 #[] w (Yes w) := by
  go_enter Try.func6, Try.ntmps6
  go_wp2_with fail
  refine (enc_of _ _ _ _ _ (by decide) (by decide) (by decide) ex_p1).mono ?_
  rintro e w1 ⟨rfl, hb⟩
  have Hb1 := Lib.hid hb
  clear hb
  go_wp2_with fail
  refine (dec_of _ _ _ _ _ (by decide) (by decide) (by decide) ex_p2).mono ?_
  rintro e w2 ⟨rfl, hb⟩
  have Hb2 := Lib.hid (Hb1.out.trans (hb.mono Hb1.out.size))
  clear hb
  go_wp2_with fail
  refine (dec_of _ _ _ _ _ (by decide) (by decide) (by decide) ex_p3).mono ?_
  rintro e w3 ⟨rfl, hb⟩
  have Hb3 := Lib.hid (Hb2.out.trans (hb.mono Hb2.out.size))
  clear hb
  go_wp2_with fail
  refine (enc_of _ _ _ _ _ (by decide) (by decide) (by decide) ex_p4).mono ?_
  rintro e w4 ⟨rfl, hb⟩
  have Hb4 := Lib.hid (Hb3.out.trans (hb.mono Hb3.out.size))
  clear hb
  go_wp2_with fail
  go_ret
  exact ⟨rfl, Hb4.out⟩

set_option maxHeartbeats 1000000 in
theorem penc_walk (s : ByteArray) (columns : Int) (w : World) (hs : s.size ≤ maxLen) (h0 : -9223372036854775808 ≤ columns) (h1 : columns ≤ 9223372036854775807) : Calls Try.prog 3 #[.string s, .int .i64 columns] w (Yes w) := by
  unfold maxLen at hs
  by_cases hbig : (5000 : Int) < (s.size : Int)
  · go_enter Try.func3, Try.ntmps3
    go_wp2_with fail
    refine (rows_any _).mono ?_
    rintro e w1 ⟨rfl, hb⟩
    have Hb := Lib.hid hb
    clear hb
    go_wp2_with fail
    go_ret
    exact ⟨rfl, Hb.out⟩
  · obtain ⟨u, b, hu⟩ := encP_text s.data.toList columns
    have Hu := Lib.hid hu
    clear hu
    go_enter Try.func3, Try.ntmps3
    go_wp2_with fail
    refine (enc_of s u columns b _ (by omega) h0 h1 Hu.out).mono ?_
    rintro e w1 ⟨rfl, hb⟩
    have Hb1 := Lib.hid hb
    clear hb
    go_wp2_with fail
    refine (rEnc_of s u columns b _ (by omega) h0 h1 Hu.out).mono ?_
    rintro e w2 ⟨rfl, hb⟩
    have Hb2 := Lib.hid (Hb1.out.trans (hb.mono Hb1.out.size))
    clear hb
    go_wp2_with fail
    refine (rows_any _).mono ?_
    rintro e w3 ⟨rfl, hb⟩
    have Hb3 := Lib.hid (Hb2.out.trans (hb.mono Hb2.out.size))
    clear hb
    go_wp2_with fail
    go_ret
    exact ⟨rfl, Hb3.out⟩

set_option maxHeartbeats 1000000 in
theorem pdec_walk (s : ByteArray) (columns : Int) (w : World) (hs : s.size ≤ maxLen) (h0 : -9223372036854775808 ≤ columns) (h1 : columns ≤ 9223372036854775807) : Calls Try.prog 4 #[.string s, .int .i64 columns] w (Yes w) := by
  unfold maxLen at hs
  by_cases hbig : (5000 : Int) < (s.size : Int)
  · go_enter Try.func4, Try.ntmps4
    go_wp2_with fail
    refine (rows_any _).mono ?_
    rintro e w1 ⟨rfl, hb⟩
    have Hb := Lib.hid hb
    clear hb
    go_wp2_with fail
    go_ret
    exact ⟨rfl, Hb.out⟩
  · obtain ⟨u, b, hu⟩ := decP_text s.data.toList columns
    have Hu := Lib.hid hu
    clear hu
    go_enter Try.func4, Try.ntmps4
    go_wp2_with fail
    refine (dec_of s u columns b _ (by omega) h0 h1 Hu.out).mono ?_
    rintro e w1 ⟨rfl, hb⟩
    have Hb1 := Lib.hid hb
    clear hb
    go_wp2_with fail
    refine (rDec_of s u columns b _ (by omega) h0 h1 Hu.out).mono ?_
    rintro e w2 ⟨rfl, hb⟩
    have Hb2 := Lib.hid (Hb1.out.trans (hb.mono Hb1.out.size))
    clear hb
    go_wp2_with fail
    refine (rows_any _).mono ?_
    rintro e w3 ⟨rfl, hb⟩
    have Hb3 := Lib.hid (Hb2.out.trans (hb.mono Hb2.out.size))
    clear hb
    go_wp2_with fail
    go_ret
    exact ⟨rfl, Hb3.out⟩

theorem byte64 {c : Nat} (h : c < 256) : wrap64 (c : Int) = (c : Int) := by unfold wrap64; omega
theorem encP_size {l : List UInt8} {n q : Nat} (h1 : 1 ≤ n) (h2 : n ≤ 256) (hl : l.length = q * n) : (encP l (n : Int)).1.length = q * (n + 1) := by
  rw [encP_end h1 h2 (by rw [hl]; exact Nat.mul_mod_left q n), hl]
  have := encUpto_from l h1 q 0
  rw [Nat.zero_add, Nat.zero_mul] at this
  rw [this, List.length_append, encFrom_length]
  show 0 + _ = _
  omega

set_option maxHeartbeats 2000000 in
theorem pback_walk (s : ByteArray) (c : Nat) (w : World) (hs : s.size ≤ maxLen) (hc : c < 256) : Calls Try.prog 5 #[.string s, .int .u8 (c : Int)] w (Yes w) := by
  unfold maxLen at hs
  by_cases hbig : (5000 : Int) < (s.size : Int)
  · go_enter Try.func5, Try.ntmps5
    go_wp2_with fail
    refine (rows_any _).mono ?_
    rintro e w1 ⟨rfl, hb⟩
    have Hb := Lib.hid hb
    clear hb
    go_wp2_with fail
    go_ret
    exact ⟨rfl, Hb.out⟩
  · have hc64 := byte64 hc
    obtain ⟨q, hq⟩ : ∃ q, s.size / (c + 1) = q := ⟨_, rfl⟩
    obtain ⟨L, hL⟩ : ∃ L, q * (c + 1) = L := ⟨_, rfl⟩
    have hLs : L ≤ s.size := by rw [← hL, ← hq]; exact Nat.div_mul_le_self _ _
    have hqs : q ≤ s.size := by rw [← hq]; exact Nat.div_le_self _ _
    have hdiv : (s.size : Int) / ((c : Int) + 1) = (q : Int) := by rw [← hq]; exact (Int.natCast_ediv s.size (c + 1)).symm
    have hmul : (q : Int) * ((c : Int) + 1) = (L : Int) := by rw [← hL, Int.natCast_mul]; rfl
    have hLw : IntKind.i64.wrap (L : Int) = (L : Int) := IntWalk.i64_in _ (by omega)
    have hqw : IntKind.i64.wrap (q : Int) = (q : Int) := IntWalk.i64_in _ (by omega)
    have hLz : (L : Int) ≤ (s.size : Int) := by omega
    have hc1 : ¬ (c : Int) + 1 = 0 := by omega
    obtain ⟨s2, hs2⟩ : ∃ s2, s.extract 0 L = s2 := ⟨_, rfl⟩
    have hz2 : s2.size = L := by rw [← hs2, ByteArray.size_extract]; omega
    have hl2 : s2.data.toList.length = q * (c + 1) := by rw [← size_data, hz2, hL]
    obtain ⟨hb1, hb2⟩ := enc_back (l := s2.data.toList) (n := c + 1) (by omega) (by omega) (by rw [hl2]; exact Nat.mul_mod_left _ _)
    have hT := encP_size (l := s2.data.toList) (n := c + 1) (by omega) (by omega) hl2
    obtain ⟨t, e0, ht⟩ := encP_text s2.data.toList ((c + 1 : Nat) : Int)
    rw [ht] at hb1 hb2 hT
    obtain rfl : e0 = 0 := hb2
    have hplain := plain_back (l := s2.data.toList) (n := c + 1) (m := q) (by omega) (by omega) hl2
    have hcz : ((c + 1 : Nat) : Int) = (c : Int) + 1 := rfl
    rw [hcz] at ht hb1 hplain
    have hT2 : t.size = q * (c + 1 + 1) := by rw [size_data]; exact hT
    have hT3 : t.size ≤ 100000 := by
      rw [hT2, Nat.mul_add, Nat.mul_one, hL]; omega
    have Ht := Lib.hid ht
    have Hb1 := Lib.hid hb1
    have Hpl := Lib.hid hplain
    have HT2 := Lib.hid hT2
    have HT3 := Lib.hid hT3
    have Hl2 := Lib.hid hl2
    have HL := Lib.hid hL
    have Hz2 := Lib.hid hz2
    have hz2z : (s2.size : Int) = (L : Int) := by omega
    have h2s : s2.size ≤ 100000 := by omega
    have H2s := Lib.hid h2s
    clear hq hL hLs hb1 hT hplain hT2 hT3 ht hl2 hcz h2s hz2
    go_enter Try.func5, Try.ntmps5
    go_wp2_with fail
    refine (enc_of s2 t _ 0 _ H2s.out (by omega) (by omega) Ht.out).mono ?_
    rintro e w1 ⟨rfl, hb⟩
    have HB1 := Lib.hid hb
    clear hb
    go_wp2_with fail
    refine (dec_of t s2 _ 0 _ HT3.out (by omega) (by omega) Hb1.out).mono ?_
    rintro e w2 ⟨rfl, hb⟩
    have HB2 := Lib.hid (HB1.out.trans (hb.mono HB1.out.size))
    clear hb
    go_wp2_with fail
    go_loopg [10, 11] q (fun g s10 s11 wx => ∃ (r p : Nat) (pl : ByteArray), r + g = q ∧ s11 = .int .i64 (p : Int) ∧ s10 = .string pl ∧ Aside (r * (c + 1) = p ∧ pl.size = r * (c + 1 + 1) ∧ pl.data.toList ++ plainFrom (c + 1) g (s2.data.toList.drop p) = plainFrom (c + 1) q s2.data.toList) ∧ w2 = wx)
    case atStart => exact ⟨0, 0, ByteArray.mk #[], by omega, rfl, rfl, ⟨Nat.zero_mul _, (Nat.zero_mul _).symm, rfl⟩, rfl⟩
    case round =>
      obtain ⟨r, p, pl, hrg, rfl, rfl, HP, rfl⟩ := hrel
      cases gk with
      | zero =>
        obtain rfl : r = q := by omega
        have hpL : p = L := by rw [← HP.out.1, HL.out]
        have hpz : ¬ (p : Int) < (L : Int) := by omega
        have Hpd : Hid (decP pl.data.toList ((c : Int) + 1) = (s2.data.toList, 0)) := Lib.hid (by
          have h5 := HP.out.2.2
          rw [plainFrom, List.append_nil] at h5
          rw [h5]; exact Hpl.out)
        have hsame : ((t.size : Int) == (pl.size : Int)) = true := by rw [beq_iff_eq, HT2.out, HP.out.2.1]
        have Hpl3 : Hid (pl.size ≤ 100000) := Lib.hid (by rw [HP.out.2.1, ← HT2.out]; exact HT3.out)
        clear hrg hpL
        go_wp2_with fail
        refine (dec_of pl s2 _ 0 _ Hpl3.out (by omega) (by omega) Hpd.out).mono ?_
        rintro e w3 ⟨rfl, hb⟩
        have HB3 := Lib.hid (HB2.out.trans (hb.mono HB2.out.size))
        clear hb
        go_wp2_with fail
        refine (rows_any _).mono ?_
        rintro e w4 ⟨rfl, hb⟩
        have HB4 := Lib.hid (HB3.out.trans (hb.mono HB3.out.size))
        clear hb
        go_wp2_with fail
        go_ret
        exact ⟨rfl, HB4.out⟩
      | succ g =>
        have hpn : p + (c + 1) ≤ L := by
          rw [← HL.out, ← HP.out.1]
          have h6 : (r + 1) * (c + 1) ≤ q * (c + 1) := Nat.mul_le_mul_right _ (by omega)
          rw [Nat.add_mul, Nat.one_mul] at h6
          exact h6
        have hpz : (p : Int) < (L : Int) := by omega
        have hpz2 : (p : Int) + ((c : Int) + 1) ≤ (L : Int) := by omega
        have hpt : ((p : Int) + ((c : Int) + 1)).toNat = p + (c + 1) := by omega
        have hp0 : (p : Int) ≤ (p : Int) + ((c : Int) + 1) := by omega
        obtain ⟨pc, hpc⟩ : ∃ pc, s2.extract p (p + (c + 1)) = pc := ⟨_, rfl⟩
        have hpcd : pc.data.toList = (s2.data.toList.drop p).take (c + 1) := by rw [← hpc, Lib.extract_data]; congr 1; omega
        have hpcs : pc.size = c + 1 := by rw [← hpc, ByteArray.size_extract]; have := Hz2.out; omega
        have hpls : pl.size ≤ 100000 := by
          rw [HP.out.2.1]
          exact Nat.le_trans (Nat.mul_le_mul_right _ (show r ≤ q by omega)) (by rw [← HT2.out]; exact HT3.out)
        have hpcl : pc.size ≤ 1000 := by omega
        have Hpcd := Lib.hid hpcd
        have Hpcs := Lib.hid hpcs
        clear hpcd hpcs
        go_wp2_with fail
        go_roundg g
        case measure => omega
        case rel =>
          refine ⟨r + 1, p + (c + 1), pl ++ ByteArray.mk #[0] ++ pc, by omega, by go_num, rfl, ⟨by rw [← HP.out.1, Nat.add_mul, Nat.one_mul], ?_, ?_⟩, rfl⟩
          · rw [size_data, app_data, app_data, List.length_append, List.length_append, ← size_data, ← size_data, ← size_data pc, Hpcs.out, HP.out.2.1, Nat.add_mul, Nat.one_mul]
            show _ + 1 + _ = _
            omega
          · rw [← HP.out.2.2, app_data, app_data, Hpcd.out, List.append_assoc, List.append_assoc, plainFrom, List.drop_drop]
            rfl

end Go.Proofs.Ytjkppdgakokelaa
