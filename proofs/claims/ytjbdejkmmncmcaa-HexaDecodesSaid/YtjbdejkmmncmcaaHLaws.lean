/-
  The walks of the laws of the stage hexa: over the contracts of package hexa (hexEnc_is, hexDec_is).
-/
import Derived.Test.YtjbdejkmmncmcaaHContracts
import Derived.Deep.RegionWith
namespace Go.Proofs.Ytjbdejkmmncmcaa
open Go.RowKit

/-- It answers yes, and leaves what lay. -/
def Yes (w : World) (e : Ending) (w' : World) : Prop := e = .returned (.bool true) ∧ Below w.heap.size w w'
theorem rEncH_is (s u : ByteArray) (w : World) (hs : s.size ≤ 100000) (h : encH s.data.toList = u.data.toList) :
    Calls Try.prog 8 #[.string s] w fun e w' => e = .returned (.string u) ∧ Below w.heap.size w w' := by
  have := rEncH_any s w (by omega)
  rwa [h, bytes_of] at this
theorem rDecH_of (s u : ByteArray) (b : Int) (w : World) (hs : s.size ≤ 100000) (h : decH s.data.toList = (u.data.toList, b)) :
    Calls Try.prog 11 #[.string s] w fun e w' => e = .returned (.tuple #[.string u, .int .i64 b]) ∧ Below w.heap.size w w' := by
  have := rDecH_is s w (by omega) h
  rwa [bytes_of] at this
theorem encH_text (l : List UInt8) : ∃ u : ByteArray, encH l = u.data.toList := ⟨bytes (encH l), (bytes_data _).symm⟩
theorem decH_text (l : List UInt8) : ∃ (u : ByteArray) (b : Int), decH l = (u.data.toList, b) := ⟨bytes (decH l).1, (decH l).2, by rw [bytes_data]⟩

theorem ex_h1 : decH (ByteArray.mk #[52, 49, 32, 102, 62]).data.toList = ((ByteArray.mk #[65, 240]).data.toList, 0) := by decide +kernel
theorem ex_h2 : decH (ByteArray.mk #[52, 49]).data.toList = ((ByteArray.mk #[]).data.toList, 5) := by decide +kernel
theorem ex_h3 : decH (ByteArray.mk #[52, 120]).data.toList = ((ByteArray.mk #[]).data.toList, 4) := by decide +kernel
theorem ex_h4 : encH (ByteArray.mk #[65, 15]).data.toList = (ByteArray.mk #[52, 49, 48, 70, 62]).data.toList := by decide +kernel

set_option maxHeartbeats 1000000 in
theorem digits_any (w : World) : Calls Try.prog 9 #[] w (Yes w) := by
  go_enter Try.func9, Try.ntmps9
  go_wp2_with fail
  refine (hexDec_is _ _ _ _ (by decide) ex_h1).mono ?_
  rintro e w1 ⟨rfl, hb⟩
  have Hb1 := Lib.hid hb
  clear hb
  go_wp2_with fail
  refine (hexDec_is _ _ _ _ (by decide) ex_h2).mono ?_
  rintro e w2 ⟨rfl, hb⟩
  have Hb2 := Lib.hid (Hb1.out.trans (hb.mono Hb1.out.size))
  clear hb
  go_wp2_with fail
  refine (hexDec_is _ _ _ _ (by decide) ex_h3).mono ?_
  rintro e w3 ⟨rfl, hb⟩
  have Hb3 := Lib.hid (Hb2.out.trans (hb.mono Hb2.out.size))
  clear hb
  go_wp2_with fail
  refine (hexEnc_is _ _ _ (by decide) ex_h4).mono ?_
  rintro e w4 ⟨rfl, hb⟩
  have Hb4 := Lib.hid (Hb3.out.trans (hb.mono Hb3.out.size))
  clear hb
  go_wp2_with fail
  go_ret
  exact ⟨rfl, Hb4.out⟩

set_option maxHeartbeats 1000000 in
theorem henc_walk (s : ByteArray) (w : World) (hs : s.size ≤ maxLen) : Calls Try.prog 3 #[.string s] w (Yes w) := by
  unfold maxLen at hs
  by_cases hbig : (5000 : Int) < (s.size : Int)
  · go_enter Try.func3, Try.ntmps3
    go_wp2_with fail
    refine (digits_any _).mono ?_
    rintro e w1 ⟨rfl, hb⟩
    have Hb := Lib.hid hb
    clear hb
    go_wp2_with fail
    go_ret
    exact ⟨rfl, Hb.out⟩
  · obtain ⟨u, hu⟩ := encH_text s.data.toList
    have Hu := Lib.hid hu
    clear hu
    go_enter Try.func3, Try.ntmps3
    go_wp2_with fail
    refine (hexEnc_is s u _ (by omega) Hu.out).mono ?_
    rintro e w1 ⟨rfl, hb⟩
    have Hb1 := Lib.hid hb
    clear hb
    go_wp2_with fail
    refine (rEncH_is s u _ (by omega) Hu.out).mono ?_
    rintro e w2 ⟨rfl, hb⟩
    have Hb2 := Lib.hid (Hb1.out.trans (hb.mono Hb1.out.size))
    clear hb
    go_wp2_with fail
    refine (digits_any _).mono ?_
    rintro e w3 ⟨rfl, hb⟩
    have Hb3 := Lib.hid (Hb2.out.trans (hb.mono Hb2.out.size))
    clear hb
    go_wp2_with fail
    go_ret
    exact ⟨rfl, Hb3.out⟩

set_option maxHeartbeats 1000000 in
theorem hdec_walk (s : ByteArray) (w : World) (hs : s.size ≤ maxLen) : Calls Try.prog 4 #[.string s] w (Yes w) := by
  unfold maxLen at hs
  by_cases hbig : (5000 : Int) < (s.size : Int)
  · go_enter Try.func4, Try.ntmps4
    go_wp2_with fail
    refine (digits_any _).mono ?_
    rintro e w1 ⟨rfl, hb⟩
    have Hb := Lib.hid hb
    clear hb
    go_wp2_with fail
    go_ret
    exact ⟨rfl, Hb.out⟩
  · obtain ⟨u, b, hu⟩ := decH_text s.data.toList
    have Hu := Lib.hid hu
    clear hu
    go_enter Try.func4, Try.ntmps4
    go_wp2_with fail
    refine (hexDec_is s u b _ (by omega) Hu.out).mono ?_
    rintro e w1 ⟨rfl, hb⟩
    have Hb1 := Lib.hid hb
    clear hb
    go_wp2_with fail
    refine (rDecH_of s u b _ (by omega) Hu.out).mono ?_
    rintro e w2 ⟨rfl, hb⟩
    have Hb2 := Lib.hid (Hb1.out.trans (hb.mono Hb1.out.size))
    clear hb
    go_wp2_with fail
    refine (digits_any _).mono ?_
    rintro e w3 ⟨rfl, hb⟩
    have Hb3 := Lib.hid (Hb2.out.trans (hb.mono Hb2.out.size))
    clear hb
    go_wp2_with fail
    go_ret
    exact ⟨rfl, Hb3.out⟩

set_option maxHeartbeats 1000000 in
theorem hback_walk (s : ByteArray) (w : World) (hs : s.size ≤ maxLen) : Calls Try.prog 5 #[.string s] w (Yes w) := by
  unfold maxLen at hs
  by_cases hbig : (5000 : Int) < (s.size : Int)
  · go_enter Try.func5, Try.ntmps5
    go_wp2_with fail
    refine (digits_any _).mono ?_
    rintro e w1 ⟨rfl, hb⟩
    have Hb := Lib.hid hb
    clear hb
    go_wp2_with fail
    go_ret
    exact ⟨rfl, Hb.out⟩
  · obtain ⟨t, hu⟩ := encH_text s.data.toList
    have hlen : t.size = 2 * s.size + 1 := by rw [size_data, ← hu, encH_length, ← size_data]
    have hd : decH t.data.toList = (s.data.toList, 0) := by rw [← hu]; exact dec_enc _ [] rfl
    have hseen : ∀ k (h : k < t.size), ¬ (t[k].toNat : Int) < 33 ∧ ¬ 126 < (t[k].toNat : Int) := fun k hk => by
      have := encH_seen (l := s.data.toList) (c := t[k]) (by rw [hu]; exact byte_mem t k hk)
      omega
    have hts : t.size ≤ 100000 := by omega
    have Hu := Lib.hid hu
    have Hd := Lib.hid hd
    have Hseen := Lib.hid hseen
    have hlz : (t.size : Int) = 2 * (s.size : Int) + 1 := by omega
    clear hu hd hseen hlen
    go_enter Try.func5, Try.ntmps5
    go_wp2_with fail
    refine (hexEnc_is s t _ (by omega) Hu.out).mono ?_
    rintro e w1 ⟨rfl, hb⟩
    have Hb1 := Lib.hid hb
    have Hlz := Lib.hid hlz
    clear hb hlz
    go_wp2_with fail
    go_loopg [4] t.size (fun g s4 wx => ∃ k : Nat, k + g = t.size ∧ s4 = .int .i64 k ∧ w1 = wx)
    case atStart => exact ⟨0, by omega, rfl, rfl⟩
    case round =>
      obtain ⟨k, hkg, rfl, rfl⟩ := hrel
      cases gk with
      | succ g =>
        have hk : k < t.size := by omega
        have hkz : (k : Int) < (t.size : Int) := by omega
        obtain ⟨h1, h2⟩ := Hseen.out k hk
        go_wp2_with fail
        go_roundg g
        case measure => omega
        case rel => exact ⟨k + 1, by omega, by go_num, rfl⟩
      | zero =>
        obtain rfl : k = t.size := by omega
        have hlz := Hlz.out
        clear hkg
        go_wp2_with fail
        refine (hexDec_is t s 0 _ hts Hd.out).mono ?_
        rintro e w2 ⟨rfl, hb⟩
        have Hb2 := Lib.hid (Hb1.out.trans (hb.mono Hb1.out.size))
        clear hb
        go_wp2_with fail
        refine (digits_any _).mono ?_
        rintro e w3 ⟨rfl, hb⟩
        have Hb3 := Lib.hid (Hb2.out.trans (hb.mono Hb2.out.size))
        clear hb
        go_wp2_with fail
        go_ret
        exact ⟨rfl, Hb3.out⟩

def whites : ByteArray := ⟨#[0, 9, 10, 12, 13, 32]⟩
theorem whites_at (k : Nat) (h : k < 6) : ∃ c : UInt8, (whites.extract k (k + 1)).data.toList = [c] ∧ kindI (c.toNat : Int) = 0 := by
  have : ∀ k : Fin 6, ∃ c : UInt8, (whites.extract k.1 (k.1 + 1)).data.toList = [c] ∧ kindI (c.toNat : Int) = 0 := by
    intro k
    refine ⟨whites.data.toList.getD k.1 0, ?_⟩
    revert k
    decide
  exact this ⟨k, h⟩
theorem put_white (s : ByteArray) (i k : Nat) (hk : k < 6) : decH (s.extract 0 i ++ whites.extract k (k + 1) ++ s.extract i s.size).data.toList = decH s.data.toList := by
  obtain ⟨c, hc, hw⟩ := whites_at k hk
  rw [app_data, app_data, hc, Lib.extract_data, Lib.extract_to_end]
  unfold decH
  have h := decGo_put hw (s.data.toList.take i) (s.data.toList.drop i) []
  rw [List.take_append_drop] at h
  rw [← h]
  simp

set_option maxRecDepth 100000 in
set_option maxHeartbeats 2000000 in
theorem hwhite_walk (s : ByteArray) (m q : Nat) (w : World) (hs : s.size ≤ maxLen) (hm : m ≤ 65535) (hq : q ≤ 255) : Calls Try.prog 6 #[.string s, .int .u16 (m : Int), .int .u8 (q : Int)] w (Yes w) := by
  unfold maxLen at hs
  by_cases hbig : (5000 : Int) < (s.size : Int)
  · go_enter Try.func6, Try.ntmps6
    go_wp2_with fail
    refine (digits_any _).mono ?_
    rintro e w1 ⟨rfl, hb⟩
    have Hb := Lib.hid hb
    clear hb
    go_wp2_with fail
    go_ret
    exact ⟨rfl, Hb.out⟩
  · obtain ⟨u, b, hu⟩ := decH_text s.data.toList
    have hi1 : (m : Int).tmod ((s.size : Int) + 1) = ((m % (s.size + 1) : Nat) : Int) := by rw [Int.tmod_eq_emod_of_nonneg (by omega)]; simp
    have hi2 : m % (s.size + 1) ≤ s.size := by have := Nat.mod_lt m (show 0 < s.size + 1 by omega); omega
    obtain ⟨i, hi⟩ : ∃ i, m % (s.size + 1) = i := ⟨_, rfl⟩
    rw [hi] at hi1 hi2
    have hk2 : q % 6 < 6 := by omega
    have hk1 : (q : Int).tmod 6 = ((q % 6 : Nat) : Int) := by rw [Int.tmod_eq_emod_of_nonneg (by omega)]; simp
    have hk3 : (q : Int) % 6 = ((q % 6 : Nat) : Int) := by simp
    obtain ⟨k, hk⟩ : ∃ k, q % 6 = k := ⟨_, rfl⟩
    rw [hk] at hk1 hk2 hk3
    have hput := put_white s i k hk2
    rw [hu] at hput
    have Hu := Lib.hid hu
    have Hput := Lib.hid hput
    clear hu hput hi hk
    go_enter Try.func6, Try.ntmps6
    go_wp2_with fail
    refine (hexDec_is s u b _ (by omega) Hu.out).mono ?_
    rintro e w1 ⟨rfl, hb⟩
    have Hb1 := Lib.hid hb
    clear hb
    have hsz : (s.extract 0 i ++ whites.extract k (k + 1) ++ s.extract i s.size).size ≤ 100000 := by
      simp only [ByteArray.size_append, ByteArray.size_extract]; omega
    have Hsz := Lib.hid hsz
    have hq3 : IntKind.i64.wrap ((k : Int) + 1) = (k : Int) + 1 := by rw [IntKind.wrap_i64]; omega
    have hq4 : ((k : Int) + 1).toNat = k + 1 := by omega
    clear hsz
    go_wp2_with fail
    go_region_with (go_at_call 10; refine (hexDec_is (s.extract 0 i ++ whites.extract k (k + 1) ++ s.extract i s.size) u b _ Hsz.out Hput.out).mono ?_; rintro e w2 ⟨rfl, hb⟩)
    all_goals
      have Hb2 := Lib.hid (Hb1.out.drew.trans (hb.mono Hb1.out.size))
      clear hb
      go_wp2_with fail
      refine (digits_any _).mono ?_
      rintro e w3 ⟨rfl, hb⟩
      have Hb3 := Lib.hid (Hb2.out.trans (hb.mono Hb2.out.size))
      clear hb
      go_wp2_with fail
      go_ret
      exact ⟨rfl, Hb3.out⟩

end Go.Proofs.Ytjbdejkmmncmcaa
