/-
  The contracts of the document's Kind, Hex, Digit of one byte, where the program's own are not reached.
-/
import Derived.Test.YtjbdejkmmncmcaaRows
import Derived.Test.YtjbdejkmmncmcaaPlain
import Derived.WalkKit
import Derived.WalkSpells
import Derived.WalkLawsBesides
import Derived.Lib.Hide
import Derived.Deep.QuietTactic
import Derived.BigQuiet
namespace Go.Proofs.Ytjbdejkmmncmcaa
open Go.RowKit

set_option maxHeartbeats 1000000 in
theorem in_any (s : ByteArray) (c : Int) (w : World) (hs : s.size ≤ maxLen) :
    Calls Try.prog 25 #[.string s, .int .u8 c] w fun e w' => e = .returned (.bool (inB s.data.toList c)) ∧ w = w' := by
  unfold maxLen at hs
  go_enter Try.func25, Try.ntmps25
  go_wp2
  go_loop [5] (fun i => ∃ k : Nat, k ≤ s.size ∧ i = .int .i64 k ∧ inB (s.data.toList.take k) c = false) (fun i => s.size - (intOf i).toNat)
  case atStart => exact ⟨0, Nat.zero_le _, rfl, rfl⟩
  case round =>
    obtain ⟨k, hk, rfl, hno⟩ := hrel
    have Hno := Lib.hid hno
    clear hno
    by_cases hlt : k < s.size
    · have hts := take_snoc s k hlt
      have Hts := Lib.hid hts
      clear hts
      have hm := byte_mem s k hlt
      by_cases hc : (s[k].toNat : Int) = c
      · have Hr : Hid (inB s.data.toList c = true) := Lib.hid (inB_mem hm hc)
        subst hc
        go_wp2
        go_ret
        exact ⟨ret_bool Hr.out.symm, rfl⟩
      · have hc' : ((s[k].toNat : Int) == c) = false := by simpa using hc
        have Hr : Hid (inB (s.data.toList.take (k + 1)) c = false) := Lib.hid (by rw [Hts.out, inB_snoc, Hno.out]; simpa using hc)
        clear hc
        go_wp2
        go_round
        case rel => exact ⟨k + 1, by omega, by go_num, Hr.out⟩
        case measure => simp [intOf]; omega
    · have Hr : Hid (inB s.data.toList c = false) := Lib.hid (by have h := Hno.out; rwa [List.take_of_length_le (by simp; omega)] at h)
      go_wp2
      go_ret
      exact ⟨ret_bool Hr.out.symm, rfl⟩

theorem kind_white (c : Int) : inB [0, 9, 10, 12, 13, 32] c = true → kindI c = 0 := by
  intro h; simp [inB] at h; unfold kindI; rw [if_pos (by omega)]
theorem kind_delim (c : Int) : inB [0, 9, 10, 12, 13, 32] c = false → inB [40, 41, 60, 62, 91, 93, 123, 125, 47, 37] c = true → kindI c = 1 := by
  intro h h'; simp [inB] at h h'; unfold kindI; rw [if_neg (by omega), if_pos (by omega)]
theorem kind_regular (c : Int) : inB [0, 9, 10, 12, 13, 32] c = false → inB [40, 41, 60, 62, 91, 93, 123, 125, 47, 37] c = false → kindI c = 2 := by
  intro h h'; simp [inB] at h h'; unfold kindI; rw [if_neg (by omega), if_neg (by omega)]

set_option maxHeartbeats 1000000 in
theorem refKind_any (c : Int) (w : World) :
    Calls Try.prog 21 #[.int .u8 c] w fun e w' => e = .returned (.int .i64 (kindI c)) ∧ w = w' := by
  cases h1 : inB [0, 9, 10, 12, 13, 32] c
  · cases h2 : inB [40, 41, 60, 62, 91, 93, 123, 125, 47, 37] c
    · have Hr := Lib.hid (kind_regular c h1 h2)
      have H1 := Lib.hid h1
      have H2 := Lib.hid h2
      clear h1 h2
      go_enter Try.func21, Try.ntmps21
      go_wp2_with fail
      refine (in_any _ _ _ (by decide)).mono ?_
      rintro e w1 ⟨rfl, rfl⟩
      rw [H1.out]
      go_wp2_with fail
      refine (in_any _ _ _ (by decide)).mono ?_
      rintro e w1 ⟨rfl, rfl⟩
      rw [H2.out]
      go_wp2_with fail
      go_ret
      exact ⟨ret_int Hr.out.symm, rfl⟩
    · have Hr := Lib.hid (kind_delim c h1 h2)
      have H1 := Lib.hid h1
      have H2 := Lib.hid h2
      clear h1 h2
      go_enter Try.func21, Try.ntmps21
      go_wp2_with fail
      refine (in_any _ _ _ (by decide)).mono ?_
      rintro e w1 ⟨rfl, rfl⟩
      rw [H1.out]
      go_wp2_with fail
      refine (in_any _ _ _ (by decide)).mono ?_
      rintro e w1 ⟨rfl, rfl⟩
      rw [H2.out]
      go_wp2_with fail
      go_ret
      exact ⟨ret_int Hr.out.symm, rfl⟩
  · have Hr := Lib.hid (kind_white c h1)
    have H1 := Lib.hid h1
    clear h1
    go_enter Try.func21, Try.ntmps21
    go_wp2_with fail
    refine (in_any _ _ _ (by decide)).mono ?_
    rintro e w1 ⟨rfl, rfl⟩
    rw [H1.out]
    go_wp2_with fail
    go_ret
    exact ⟨ret_int Hr.out.symm, rfl⟩

set_option maxHeartbeats 1000000 in
theorem refDigit_any (n : Int) (w : World) (h0 : -9223372036854775808 ≤ n) (h1 : n ≤ 9223372036854775807) :
    Calls Try.prog 16 #[.int .i64 n] w fun e w' => e = .returned (.int .u8 (digitI n)) ∧ w = w' := by
  by_cases h : n < 0 ∨ 15 < n
  · rcases h with h | h
    all_goals
      go_enter Try.func16, Try.ntmps16
      go_wp2
      go_ret
      exact ⟨ret_int (by unfold digitI; repeat (first | rw [if_pos (by omega)] | rw [if_neg (by omega)])), rfl⟩
  · have hc : n = 0 ∨ n = 1 ∨ n = 2 ∨ n = 3 ∨ n = 4 ∨ n = 5 ∨ n = 6 ∨ n = 7 ∨ n = 8 ∨ n = 9 ∨ n = 10 ∨ n = 11 ∨ n = 12 ∨ n = 13 ∨ n = 14 ∨ n = 15 := by omega
    clear h h0 h1
    rcases hc with rfl | rfl | rfl | rfl | rfl | rfl | rfl | rfl | rfl | rfl | rfl | rfl | rfl | rfl | rfl | rfl
    all_goals
      go_enter Try.func16, Try.ntmps16
      go_wp2
      go_ret
      exact ⟨ret_int (by decide), rfl⟩

/-- What the loop of the document's Hex still has ahead of it. -/
def hexFrom (c : Int) (k : Nat) : Prop := hexI c = -1 ∨ (k : Int) ≤ hexI c

theorem hexFrom_zero (c : Int) : hexFrom c 0 := by unfold hexFrom hexI; omega
theorem hexFrom_last (c : Int) (h : hexFrom c 16) : hexI c = -1 := by
  unfold hexFrom at h; unfold hexI at *; omega

theorem digitsD (k : Nat) (h : k < (⟨#[48, 49, 50, 51, 52, 53, 54, 55, 56, 57, 65, 66, 67, 68, 69, 70]⟩ : ByteArray).size) :
    (((⟨#[48, 49, 50, 51, 52, 53, 54, 55, 56, 57, 65, 66, 67, 68, 69, 70]⟩ : ByteArray)[k]'h).toNat : Int) = if k < 10 then 48 + (k : Int) else 55 + (k : Int) := by
  have : ∀ k : Fin 16, (((⟨#[48, 49, 50, 51, 52, 53, 54, 55, 56, 57, 65, 66, 67, 68, 69, 70]⟩ : ByteArray)[k.1]'k.2).toNat : Int) = if k.1 < 10 then 48 + (k.1 : Int) else 55 + (k.1 : Int) := by decide
  exact this ⟨k, h⟩
theorem digitsE (k : Nat) (h : k < (⟨#[48, 49, 50, 51, 52, 53, 54, 55, 56, 57, 97, 98, 99, 100, 101, 102]⟩ : ByteArray).size) :
    (((⟨#[48, 49, 50, 51, 52, 53, 54, 55, 56, 57, 97, 98, 99, 100, 101, 102]⟩ : ByteArray)[k]'h).toNat : Int) = if k < 10 then 48 + (k : Int) else 87 + (k : Int) := by
  have : ∀ k : Fin 16, (((⟨#[48, 49, 50, 51, 52, 53, 54, 55, 56, 57, 97, 98, 99, 100, 101, 102]⟩ : ByteArray)[k.1]'k.2).toNat : Int) = if k.1 < 10 then 48 + (k.1 : Int) else 87 + (k.1 : Int) := by decide
  exact this ⟨k, h⟩

theorem hex_hitD (c : Int) (k : Nat) (h : k < (⟨#[48, 49, 50, 51, 52, 53, 54, 55, 56, 57, 65, 66, 67, 68, 69, 70]⟩ : ByteArray).size) (e : (((⟨#[48, 49, 50, 51, 52, 53, 54, 55, 56, 57, 65, 66, 67, 68, 69, 70]⟩ : ByteArray)[k]'h).toNat : Int) = c) : hexI c = k := by
  rw [digitsD k h] at e
  have h' : k < 16 := h
  unfold hexI; split at e <;> repeat (first | rw [if_pos (by omega)] | rw [if_neg (by omega)] | omega)
theorem hex_hitE (c : Int) (k : Nat) (h : k < (⟨#[48, 49, 50, 51, 52, 53, 54, 55, 56, 57, 97, 98, 99, 100, 101, 102]⟩ : ByteArray).size) (e : (((⟨#[48, 49, 50, 51, 52, 53, 54, 55, 56, 57, 97, 98, 99, 100, 101, 102]⟩ : ByteArray)[k]'h).toNat : Int) = c) : hexI c = k := by
  rw [digitsE k h] at e
  have h' : k < 16 := h
  unfold hexI; split at e <;> repeat (first | rw [if_pos (by omega)] | rw [if_neg (by omega)] | omega)
theorem hex_miss (c : Int) (k : Nat) (h : k < (⟨#[48, 49, 50, 51, 52, 53, 54, 55, 56, 57, 65, 66, 67, 68, 69, 70]⟩ : ByteArray).size) (h2 : k < (⟨#[48, 49, 50, 51, 52, 53, 54, 55, 56, 57, 97, 98, 99, 100, 101, 102]⟩ : ByteArray).size)
    (e : ¬ (((⟨#[48, 49, 50, 51, 52, 53, 54, 55, 56, 57, 65, 66, 67, 68, 69, 70]⟩ : ByteArray)[k]'h).toNat : Int) = c)
    (e2 : ¬ (((⟨#[48, 49, 50, 51, 52, 53, 54, 55, 56, 57, 97, 98, 99, 100, 101, 102]⟩ : ByteArray)[k]'h2).toNat : Int) = c) (hf : hexFrom c k) : hexFrom c (k + 1) := by
  rw [digitsD k h] at e
  rw [digitsE k h2] at e2
  have h' : k < 16 := h
  unfold hexFrom hexI at *; split at e <;> split at e2 <;> omega

set_option maxRecDepth 100000 in
set_option maxHeartbeats 1000000 in
theorem refHex_any (c : Int) (w : World) :
    Calls Try.prog 20 #[.int .u8 c] w fun e w' => e = .returned (.int .i64 (hexI c)) ∧ w = w' := by
  go_enter Try.func20, Try.ntmps20
  go_wp2
  go_loop [5] (fun i => ∃ k : Nat, k ≤ 16 ∧ i = .int .i64 k ∧ hexFrom c k) (fun i => 16 - (intOf i).toNat)
  case atStart => exact ⟨0, by omega, rfl, hexFrom_zero c⟩
  case round =>
    obtain ⟨k, hk, rfl, hf⟩ := hrel
    have Hf := Lib.hid hf
    clear hf
    by_cases hlt : k < 16
    · have i1 : k < (⟨#[48, 49, 50, 51, 52, 53, 54, 55, 56, 57, 65, 66, 67, 68, 69, 70]⟩ : ByteArray).size := hlt
      have i2 : k < (⟨#[48, 49, 50, 51, 52, 53, 54, 55, 56, 57, 97, 98, 99, 100, 101, 102]⟩ : ByteArray).size := hlt
      by_cases hd : (((⟨#[48, 49, 50, 51, 52, 53, 54, 55, 56, 57, 65, 66, 67, 68, 69, 70]⟩ : ByteArray)[k]'i1).toNat : Int) = c
      · have Hr := Lib.hid (hex_hitD c k i1 hd)
        subst hd
        go_wp2
        go_ret
        exact ⟨ret_int Hr.out.symm, rfl⟩
      · by_cases he : (((⟨#[48, 49, 50, 51, 52, 53, 54, 55, 56, 57, 97, 98, 99, 100, 101, 102]⟩ : ByteArray)[k]'i2).toNat : Int) = c
        · have Hr := Lib.hid (hex_hitE c k i2 he)
          have hd' := beq_eq_false_iff_ne.2 hd
          have he' := beq_iff_eq.2 he
          clear hd he
          go_wp2
          go_ret
          exact ⟨ret_int Hr.out.symm, rfl⟩
        · have Hr := Lib.hid (hex_miss c k i1 i2 hd he Hf.out)
          have hd' := beq_eq_false_iff_ne.2 hd
          have he' := beq_eq_false_iff_ne.2 he
          clear hd he
          go_wp2
          go_round
          case rel => exact ⟨k + 1, by omega, by go_num, Hr.out⟩
          case measure => simp [intOf]; omega
    · obtain rfl : k = 16 := by omega
      go_wp2
      go_ret
      exact ⟨ret_int (hexFrom_last c Hf.out).symm, rfl⟩

end Go.Proofs.Ytjbdejkmmncmcaa
