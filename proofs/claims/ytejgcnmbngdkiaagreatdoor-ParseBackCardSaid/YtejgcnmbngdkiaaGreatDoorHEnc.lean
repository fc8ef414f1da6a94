/-
  hexa.Encode: the digits of bytes, written into a builder.
-/
import Derived.Test.YtejgcnmbngdkiaaGreatDoorMHx
import Derived.Test.YtejgcnmbngdkiaaGreatDoorNOct
import Derived.Test.YtejgcnmbngdkiaaGreatDoorNBld
namespace Go.Proofs.YtejgcnmbngdkiaaGreatDoor
open Go.RowKit
set_option maxRecDepth 100000
theorem pDigit_is (n : Nat) (w : World) (h : n < 16) : Calls Tryz.prog 72 #[.int .i64 (n : Int)] w fun e w' => e = .returned (.int .u8 ((digB n).toNat : Int)) ∧ w = w' := by
  rw [digB_nat h]
  exact digit_any (n : Int) w (by omega) (by omega)
theorem pDigit_hi (c : UInt8) (w : World) : Calls Tryz.prog 72 #[.int .i64 ((c.toNat : Int) / 16)] w fun e w' => e = .returned (.int .u8 ((digB (c.toNat / 16)).toNat : Int)) ∧ w = w' := by
  have h1 := c.toNat_lt
  exact pDigit_is (c.toNat / 16) w (by omega)
theorem pDigit_lo (c : UInt8) (w : World) : Calls Tryz.prog 72 #[.int .i64 ((c.toNat : Int) % 16)] w fun e w' => e = .returned (.int .u8 ((digB (c.toNat % 16)).toNat : Int)) ∧ w = w' := by
  have h1 := c.toNat_lt
  exact pDigit_is (c.toNat % 16) w (by omega)
set_option maxHeartbeats 1000000 in
theorem hexEnc_any (s : ByteArray) (w : World) (hs : s.size ≤ 100000) :
    Calls Tryz.prog 49 #[.string s] w fun e w' => e = .returned (.string ⟨(encH s.data.toList).toArray⟩) ∧ Below w.heap.size w w' := by
  go_enter Tryz.func49, Tryz.ntmps49
  go_wp2_with fail
  refine (grow_is w.heap.size w.heap.size (2 * s.size + 1) _ (heap_alloc_new w _) (Nat.le_refl _) (by simp) (by omega)).mono ?_
  rintro e w1 ⟨rfl, hB, hb⟩
  have HB := Lib.hid hB
  have Hb := Lib.hid (((Below.refl _ w).alloc (Nat.le_refl _) _).trans hb)
  clear hB hb
  go_wp2_with fail
  go_loopg [12] s.size (fun g s12 wx => ∃ (k : Nat), k + g = s.size ∧ s12 = .int .i64 k ∧ Aside (Bld w.heap.size w.heap.size (encD (s.data.toList.take k)) wx) ∧ Below w.heap.size w wx)
  case atStart => exact ⟨0, by omega, rfl, HB.out, Hb.out⟩
  case round =>
    obtain ⟨k, hkg, rfl, HO, hb⟩ := hrel
    have Hb := Lib.hid hb
    clear hb
    cases gk with
    | zero =>
      obtain rfl : k = s.size := by omega
      have Hl : Hid (encD (s.data.toList.take s.size) = encD s.data.toList) := Lib.hid (by rw [List.take_of_length_le (by rw [← size_data]; exact Nat.le_refl _)])
      have hlen : (encD s.data.toList).length ≤ 2000000 := by rw [encD_length, ← size_data]; omega
      rw [Hl.out] at HO
      go_wp2_with fail
      refine (wbyte_is w.heap.size w.heap.size _ 62 _ HO.out (by omega) Hb.out.size).mono ?_
      rintro e w2 ⟨rfl, hB, hb, -⟩
      have HB2 := Lib.hid hB
      have Hb2 := Lib.hid (Hb.out.trans hb)
      clear hB hb
      go_wp2_with fail
      refine (string_is w.heap.size w.heap.size _ _ HB2.out Hb2.out.size).mono ?_
      rintro e w3 ⟨rfl, -, hb, -⟩
      have Hb3 := Lib.hid (Hb2.out.trans hb)
      clear hb
      go_wp2_with fail
      go_ret
      exact ⟨rfl, Hb3.out⟩
    | succ g =>
      have hk : k < s.size := by omega
      have hkz : (k : Int) < (s.size : Int) := by omega
      have hc := s[k].toNat_lt
      have Hd := Lib.hid (fun W => pDigit_hi s[k] W)
      have Hl := Lib.hid (fun W => pDigit_lo s[k] W)
      have hlen : (encD (s.data.toList.take k)).length ≤ 2000000 := by rw [encD_length, List.length_take, ← size_data]; omega
      have Hnext := Lib.hid (encD_take hk)
      go_wp2_with fail
      refine (Hd.out _).mono ?_
      rintro e w2 ⟨rfl, rfl⟩
      go_wp2_with fail
      refine (wbyte_is w.heap.size w.heap.size _ (digB (s[k].toNat / 16)) _ HO.out (by omega) Hb.out.size).mono ?_
      rintro e w2 ⟨rfl, hB, hb, -⟩
      have HB2 := Lib.hid hB
      have Hb2 := Lib.hid (Hb.out.trans hb)
      clear hB hb
      go_wp2_with fail
      refine (Hl.out _).mono ?_
      rintro e w3 ⟨rfl, rfl⟩
      go_wp2_with fail
      refine (wbyte_is w.heap.size w.heap.size _ (digB (s[k].toNat % 16)) _ HB2.out (by simp; omega) Hb2.out.size).mono ?_
      rintro e w3 ⟨rfl, hB, hb, -⟩
      have HB3 := Lib.hid hB
      have Hb3 := Lib.hid (Hb2.out.trans hb)
      clear hB hb
      go_wp2_with fail
      go_roundg g
      case measure => omega
      case rel => exact ⟨k + 1, by omega, by go_num, by show Bld _ _ _ _; rw [Hnext.out]; simpa using HB3.out, Hb3.out⟩

end Go.Proofs.YtejgcnmbngdkiaaGreatDoor
