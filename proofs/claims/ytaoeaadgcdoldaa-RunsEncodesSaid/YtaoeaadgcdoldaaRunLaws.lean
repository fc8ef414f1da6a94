/-
  The walks of the laws of the stage runs: over the contracts of package runs (runEnc_is, runDec_is).
-/
import Derived.Test.YtaoeaadgcdoldaaRunContracts
namespace Go.Proofs.Ytaoeaadgcdoldaa
open Go.RowKit

/-- It answers yes, and leaves what lay. -/
def Yes (w : World) (e : Ending) (w' : World) : Prop := e = .returned (.bool true) ∧ Below w.heap.size w w'
theorem rEncR_is (s u : ByteArray) (w : World) (hs : s.size ≤ 100000) (h : encAll s.data.toList = u.data.toList) :
    Calls Try.prog 8 #[.string s] w fun e w' => e = .returned (.string u) ∧ Below w.heap.size w w' := by
  have := rEncR_any s w hs
  rwa [h, bytes_of] at this
theorem rDecR_of (s u : ByteArray) (most b : Int) (w : World) (hs : s.size ≤ 100000) (h : decAll s.data.toList most = (u.data.toList, b)) :
    Calls Try.prog 11 #[.string s, .int .i64 most] w fun e w' => e = .returned (.tuple #[.string u, .int .i64 b]) ∧ Below w.heap.size w w' := by
  have := rDecR_is s most w hs h
  rwa [bytes_of] at this
theorem encAll_text (l : List UInt8) : ∃ u : ByteArray, encAll l = u.data.toList := ⟨bytes (encAll l), (bytes_data _).symm⟩
theorem decAll_text (l : List UInt8) (most : Int) : ∃ (u : ByteArray) (b : Int), decAll l most = (u.data.toList, b) := ⟨bytes (decAll l most).1, (decAll l most).2, by rw [bytes_data]⟩

theorem ex_r1 : decAll (ByteArray.mk #[0, 97, 253, 98, 0, 99, 128]).data.toList 6 = ((ByteArray.mk #[97, 98, 98, 98, 98, 99]).data.toList, 0) := by decide +kernel
theorem ex_r2 : decAll (ByteArray.mk #[253, 98, 128]).data.toList 3 = ((ByteArray.mk #[]).data.toList, 7) := by decide +kernel
theorem ex_r3 : decAll (ByteArray.mk #[1, 97]).data.toList 9 = ((ByteArray.mk #[]).data.toList, 5) := by decide +kernel
theorem ex_r4 : encAll (ByteArray.mk #[97, 98, 98, 98, 98, 99]).data.toList = (ByteArray.mk #[0, 97, 253, 98, 0, 99, 128]).data.toList := by decide +kernel

set_option maxHeartbeats 1000000 in
theorem parts_any (w : World) : Calls Try.prog 9 #[] w (Yes w) := by
  go_enter Try.func9, Try.ntmps9
  go_wp2_with fail
  refine (runDec_is _ _ _ _ _ (by decide) (by decide) (by decide) ex_r1).mono ?_
  rintro e w1 ⟨rfl, hb⟩
  have Hb1 := Lib.hid hb
  clear hb
  go_wp2_with fail
  refine (runDec_is _ _ _ _ _ (by decide) (by decide) (by decide) ex_r2).mono ?_
  rintro e w2 ⟨rfl, hb⟩
  have Hb2 := Lib.hid (Hb1.out.trans (hb.mono Hb1.out.size))
  clear hb
  go_wp2_with fail
  refine (runDec_is _ _ _ _ _ (by decide) (by decide) (by decide) ex_r3).mono ?_
  rintro e w3 ⟨rfl, hb⟩
  have Hb3 := Lib.hid (Hb2.out.trans (hb.mono Hb2.out.size))
  clear hb
  go_wp2_with fail
  refine (runEnc_is _ _ _ (by decide) ex_r4).mono ?_
  rintro e w4 ⟨rfl, hb⟩
  have Hb4 := Lib.hid (Hb3.out.trans (hb.mono Hb3.out.size))
  clear hb
  go_wp2_with fail
  go_ret
  exact ⟨rfl, Hb4.out⟩

set_option maxHeartbeats 1000000 in
theorem renc_walk (s : ByteArray) (w : World) (hs : s.size ≤ maxLen) : Calls Try.prog 3 #[.string s] w (Yes w) := by
  unfold maxLen at hs
  by_cases hbig : (5000 : Int) < (s.size : Int)
  · go_enter Try.func3, Try.ntmps3
    go_wp2_with fail
    refine (parts_any _).mono ?_
    rintro e w1 ⟨rfl, hb⟩
    have Hb := Lib.hid hb
    clear hb
    go_wp2_with fail
    go_ret
    exact ⟨rfl, Hb.out⟩
  · obtain ⟨u, hu⟩ := encAll_text s.data.toList
    have Hu := Lib.hid hu
    clear hu
    go_enter Try.func3, Try.ntmps3
    go_wp2_with fail
    refine (runEnc_is s u _ (by omega) Hu.out).mono ?_
    rintro e w1 ⟨rfl, hb⟩
    have Hb1 := Lib.hid hb
    clear hb
    go_wp2_with fail
    refine (rEncR_is s u _ (by omega) Hu.out).mono ?_
    rintro e w2 ⟨rfl, hb⟩
    have Hb2 := Lib.hid (Hb1.out.trans (hb.mono Hb1.out.size))
    clear hb
    go_wp2_with fail
    refine (parts_any _).mono ?_
    rintro e w3 ⟨rfl, hb⟩
    have Hb3 := Lib.hid (Hb2.out.trans (hb.mono Hb2.out.size))
    clear hb
    go_wp2_with fail
    go_ret
    exact ⟨rfl, Hb3.out⟩

set_option maxHeartbeats 1000000 in
theorem rdec_walk (s : ByteArray) (most : Int) (w : World) (hs : s.size ≤ maxLen) (h0 : -9223372036854775808 ≤ most) (h1 : most ≤ 9223372036854775807) : Calls Try.prog 4 #[.string s, .int .i64 most] w (Yes w) := by
  unfold maxLen at hs
  by_cases hbig : (2000 : Int) < (s.size : Int)
  · go_enter Try.func4, Try.ntmps4
    go_wp2_with fail
    refine (parts_any _).mono ?_
    rintro e w1 ⟨rfl, hb⟩
    have Hb := Lib.hid hb
    clear hb
    go_wp2_with fail
    go_ret
    exact ⟨rfl, Hb.out⟩
  · obtain ⟨u, b, hu⟩ := decAll_text s.data.toList most
    have Hu := Lib.hid hu
    clear hu
    go_enter Try.func4, Try.ntmps4
    go_wp2_with fail
    refine (runDec_is s u most b _ (by omega) h0 h1 Hu.out).mono ?_
    rintro e w1 ⟨rfl, hb⟩
    have Hb1 := Lib.hid hb
    clear hb
    go_wp2_with fail
    refine (rDecR_of s u most b _ (by omega) Hu.out).mono ?_
    rintro e w2 ⟨rfl, hb⟩
    have Hb2 := Lib.hid (Hb1.out.trans (hb.mono Hb1.out.size))
    clear hb
    go_wp2_with fail
    refine (parts_any _).mono ?_
    rintro e w3 ⟨rfl, hb⟩
    have Hb3 := Lib.hid (Hb2.out.trans (hb.mono Hb2.out.size))
    clear hb
    go_wp2_with fail
    go_ret
    exact ⟨rfl, Hb3.out⟩

set_option maxHeartbeats 1000000 in
theorem rback_walk (s : ByteArray) (w : World) (hs : s.size ≤ maxLen) : Calls Try.prog 5 #[.string s] w (Yes w) := by
  unfold maxLen at hs
  by_cases hbig : (5000 : Int) < (s.size : Int)
  · go_enter Try.func5, Try.ntmps5
    go_wp2_with fail
    refine (parts_any _).mono ?_
    rintro e w1 ⟨rfl, hb⟩
    have Hb := Lib.hid hb
    clear hb
    go_wp2_with fail
    go_ret
    exact ⟨rfl, Hb.out⟩
  · obtain ⟨t, hu⟩ := encAll_text s.data.toList
    have hsh := encAll_short s.data.toList
    rw [hu, ← size_data, ← size_data] at hsh
    have hts : t.size ≤ 100000 := by omega
    have hd : ∀ most : Int, 0 ≤ most → decAll t.data.toList most = if most < (s.size : Int) then ([], 7) else (s.data.toList, 0) := fun most hm => by
      unfold decAll
      rw [if_neg (by omega), ← hu, dec_encAll most s.data.toList _ [] (by omega) (by simpa using hm), List.nil_append, ← size_data]
    have hd1 : decAll t.data.toList (s.size : Int) = (s.data.toList, 0) := by rw [hd _ (by omega), if_neg (by omega)]
    have Hu := Lib.hid hu
    have Hd1 := Lib.hid hd1
    have Hd := Lib.hid hd
    clear hu hsh hd hd1
    by_cases h0 : s.size = 0
    · have he := isEmpty_of (show s.data.toList = [] from List.eq_nil_of_length_eq_zero (by rw [← size_data]; exact h0))
      have hneg : decAll t.data.toList ((s.size : Int) - 1) = ((ByteArray.mk #[]).data.toList, 2) := by unfold decAll; rw [if_pos (by omega)]
      have Hneg := Lib.hid hneg
      clear hneg h0 Hd
      go_enter Try.func5, Try.ntmps5
      go_wp2_with fail
      refine (runEnc_is s t _ (by omega) Hu.out).mono ?_
      rintro e w1 ⟨rfl, hb⟩
      have Hb1 := Lib.hid hb
      clear hb
      go_wp2_with fail
      refine (runDec_is t s _ 0 _ hts (by omega) (by omega) Hd1.out).mono ?_
      rintro e w2 ⟨rfl, hb⟩
      have Hb2 := Lib.hid (Hb1.out.trans (hb.mono Hb1.out.size))
      clear hb
      go_wp2_with fail
      refine (runDec_is t (ByteArray.mk #[]) _ 2 _ hts (by omega) (by omega) Hneg.out).mono ?_
      rintro e w3 ⟨rfl, hb⟩
      have Hb3 := Lib.hid (Hb2.out.trans (hb.mono Hb2.out.size))
      clear hb
      go_wp2_with fail
      refine (parts_any _).mono ?_
      rintro e w4 ⟨rfl, hb⟩
      have Hb4 := Lib.hid (Hb3.out.trans (hb.mono Hb3.out.size))
      clear hb
      go_wp2_with fail
      go_ret
      exact ⟨rfl, Hb4.out⟩
    · have he := isEmpty_not (show ¬ s.data.toList = [] from fun e => h0 (by rw [size_data, e]; rfl))
      have hneg : decAll t.data.toList ((s.size : Int) - 1) = ((ByteArray.mk #[]).data.toList, 7) := by rw [Hd.out _ (by omega), if_pos (by omega)]
      have Hneg := Lib.hid hneg
      clear hneg h0 Hd
      go_enter Try.func5, Try.ntmps5
      go_wp2_with fail
      refine (runEnc_is s t _ (by omega) Hu.out).mono ?_
      rintro e w1 ⟨rfl, hb⟩
      have Hb1 := Lib.hid hb
      clear hb
      go_wp2_with fail
      refine (runDec_is t s _ 0 _ hts (by omega) (by omega) Hd1.out).mono ?_
      rintro e w2 ⟨rfl, hb⟩
      have Hb2 := Lib.hid (Hb1.out.trans (hb.mono Hb1.out.size))
      clear hb
      go_wp2_with fail
      refine (runDec_is t (ByteArray.mk #[]) _ 7 _ hts (by omega) (by omega) Hneg.out).mono ?_
      rintro e w3 ⟨rfl, hb⟩
      have Hb3 := Lib.hid (Hb2.out.trans (hb.mono Hb2.out.size))
      clear hb
      go_wp2_with fail
      refine (parts_any _).mono ?_
      rintro e w4 ⟨rfl, hb⟩
      have Hb4 := Lib.hid (Hb3.out.trans (hb.mono Hb3.out.size))
      clear hb
      go_wp2_with fail
      go_ret
      exact ⟨rfl, Hb4.out⟩

set_option maxHeartbeats 1000000 in
theorem rshort_walk (s : ByteArray) (c : UInt8) (n : Nat) (w : World) (hs : s.size ≤ maxLen) (hn : n ≤ 255) : Calls Try.prog 6 #[.string s, .int .u8 (c.toNat : Int), .int .u8 (n : Int)] w (Yes w) := by
  unfold maxLen at hs
  by_cases hbig : (5000 : Int) < (s.size : Int)
  · go_enter Try.func6, Try.ntmps6
    go_wp2_with fail
    refine (parts_any _).mono ?_
    rintro e w1 ⟨rfl, hb⟩
    have Hb := Lib.hid hb
    clear hb
    go_wp2_with fail
    go_ret
    exact ⟨rfl, Hb.out⟩
  · obtain ⟨u, hu⟩ := encAll_text s.data.toList
    have hsh := encAll_short s.data.toList
    rw [hu, ← size_data, ← size_data] at hsh
    have hshz : (u.size : Int) ≤ (s.size : Int) + ((s.size : Int) + 127) / 128 + 1 := by omega
    obtain ⟨K, hK⟩ : ∃ K, 3 + n % 126 = K := ⟨_, rfl⟩
    have hK3 : 3 ≤ K ∧ K ≤ 128 := by omega
    have hKz : 3 + (n : Int) % 126 = (K : Int) := by omega
    have hone : encAll (bytes (List.replicate K c)).data.toList = (ByteArray.mk #[UInt8.ofNat (257 - K), c, 128]).data.toList := by rw [bytes_data, encAll_one hK3.1 hK3.2]
    have Hu := Lib.hid hu
    have Hone := Lib.hid hone
    have hbs : (bytes (List.replicate K c)).size ≤ 100000 := by rw [bytes_size, List.length_replicate]; omega
    have Hbs := Lib.hid hbs
    have Hsh := Lib.hid hshz
    clear hu hsh hK hone hbs hshz
    go_enter Try.func6, Try.ntmps6
    go_wp2_with fail
    go_loopg [7, 8] K (fun g s7 s8 wx => ∃ j : Nat, j + g = K ∧ s8 = .int .i64 j ∧ Aside (Own8 wx w.heap.size s7 (List.replicate j c)) ∧ Below w.heap.size w wx)
    case atStart => exact ⟨0, by omega, rfl, Own8.made w 0 #[] (Nat.le_refl _) (by decide) rfl, (Below.refl _ w).alloc (Nat.le_refl _) _⟩
    case round =>
      obtain ⟨j, hjg, rfl, HO, hb⟩ := hrel
      have Hb := Lib.hid hb
      clear hb
      cases gk with
      | succ g =>
        have hjz : (j : Int) < (K : Int) := by omega
        have hlr : (List.replicate j c).length ≤ 128 := by rw [List.length_replicate]; omega
        go_wp2_with (at_builtin; refine wpList_append8 rfl (.tmp 22) (.tmp 24) rfl w.heap.size _ (List.replicate j c) rfl (HO.out.alloc _) ⟨wr.heap.size, 0, none⟩ 1 [c] rfl (cells_new1 _ _ _ rfl) (by simp) (by simp; omega) w (Hb.out.alloc Hb.out.size _) (by have := Hb.out.size; simp; omega) ?_; intro v2 w2 Ho2 Hb2 _)
        go_roundg g
        case measure => omega
        case rel => exact ⟨j + 1, by omega, by go_num, by show Own8 _ _ _ _; rw [List.replicate_succ']; exact Ho2.out, Hb2.out⟩
      | zero =>
        obtain rfl : j = K := by omega
        clear hjg
        go_wp2_with fail
        refine (runEnc_is s u _ (by omega) Hu.out).mono ?_
        rintro e w1 ⟨rfl, hb⟩
        have Hb1 := Lib.hid (Hb.out.trans (hb.mono Hb.out.size))
        have htext : (convert 31 9 _).run Try.prog w1 = .ok (.string (bytes (List.replicate j c))) w1 := Own8.text (B := w.heap.size) (Own8.later HO.out hb)
        have hshz := Hsh.out
        clear hb
        go_wp2_with fail
        refine (runEnc_is _ (ByteArray.mk #[UInt8.ofNat (257 - j), c, 128]) _ Hbs.out Hone.out).mono ?_
        rintro e w2 ⟨rfl, hb⟩
        have Hb2 := Lib.hid (Hb1.out.trans (hb.mono Hb1.out.size))
        clear hb
        go_wp2_with fail
        refine (parts_any _).mono ?_
        rintro e w3 ⟨rfl, hb⟩
        have Hb3 := Lib.hid (Hb2.out.trans (hb.mono Hb2.out.size))
        clear hb
        go_wp2_with fail
        go_ret
        exact ⟨rfl, Hb3.out⟩

end Go.Proofs.Ytaoeaadgcdoldaa
