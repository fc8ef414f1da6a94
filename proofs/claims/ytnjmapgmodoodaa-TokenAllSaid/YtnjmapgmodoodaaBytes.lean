/-
  The contracts of Hex and Digit, of the program and of the document's answers, and of strings.HasPrefix.
-/
import Derived.Test.YtnjmapgmodoodaaBase
namespace Go.Proofs.Ytnjmapgmodoodaa
open Go.RowKit

set_option maxHeartbeats 1000000 in
theorem hex_any (c : Int) (w : World) (h0 : 0 ≤ c) (h1 : c ≤ 255) :
    Calls Try.prog 46 #[.int .u8 c] w fun e w' => e = .returned (.int .i64 (hexI c)) ∧ w = w' := by
  have hcases : c < 48 ∨ (48 ≤ c ∧ c ≤ 57) ∨ (57 < c ∧ c < 65) ∨ (65 ≤ c ∧ c ≤ 70) ∨ (70 < c ∧ c < 97) ∨ (97 ≤ c ∧ c ≤ 102) ∨ 102 < c := by omega
  rcases hcases with h | ⟨h, h'⟩ | ⟨h, h'⟩ | ⟨h, h'⟩ | ⟨h, h'⟩ | ⟨h, h'⟩ | h
  all_goals
    go_enter Try.func46, Try.ntmps46
    go_wp2
    go_ret
    exact ⟨ret_int (by unfold hexI; repeat (first | rw [if_pos (by omega)] | rw [if_neg (by omega)]); try omega), rfl⟩

/-- What the loop of the document's Hex still has ahead of it. -/
def hexFrom (c : Int) (k : Nat) : Prop := hexI c = -1 ∨ (k : Int) ≤ hexI c

theorem hexFrom_zero (c : Int) : hexFrom c 0 := by unfold hexFrom hexI; omega
theorem hexFrom_last (c : Int) (h : hexFrom c 16) : hexI c = -1 := by
  unfold hexFrom at h; unfold hexI at *; omega

theorem digitsD (k : Nat) (h : k < (⟨#[48, 49, 50, 51, 52, 53, 54, 55, 56, 57, 65, 66, 67, 68, 69, 70]⟩ : ByteArray).size) :
    (((⟨#[48, 49, 50, 51, 52, 53, 54, 55, 56, 57, 65, 66, 67, 68, 69, 70]⟩ : ByteArray)[k]'h).toNat : Int) = if k < 10 then 48 + (k : Int) else 55 + (k : Int) := by
  have : ∀ k : Fin 16, (((⟨#[48, 49, 50, 51, 52, 53, 54, 55, 56, 57, 65, 66, 67, 68, 69, 70]⟩ : ByteArray)[k.1]'k.2).toNat : Int) = if k.1 < 10 then 48 + (k.1 : Int) else 55 + (k.1 : Int) := by decide
  exact this ⟨k, h⟩
theorem digitsE (k : Nat) (h : k < (⟨#[48, 49, 50, 51, 52, 53, 54, 55, 56, 57, 97, 98, 99, 100, 101, 102]⟩ : ByteArray).size) :
    (((⟨#[48, 49, 50, 51, 52, 53, 54, 55, 56, 57, 97, 98, 99, 100, 101, 102]⟩ : ByteArray)[k]'h).toNat : Int) = if k < 10 then 48 + (k : Int) else 87 + (k : Int) := by
  have : ∀ k : Fin 16, (((⟨#[48, 49, 50, 51, 52, 53, 54, 55, 56, 57, 97, 98, 99, 100, 101, 102]⟩ : ByteArray)[k.1]'k.2).toNat : Int) = if k.1 < 10 then 48 + (k.1 : Int) else 87 + (k.1 : Int) := by decide
  exact this ⟨k, h⟩

theorem hex_hitD (c : Int) (k : Nat) (h : k < (⟨#[48, 49, 50, 51, 52, 53, 54, 55, 56, 57, 65, 66, 67, 68, 69, 70]⟩ : ByteArray).size) (e : (((⟨#[48, 49, 50, 51, 52, 53, 54, 55, 56, 57, 65, 66, 67, 68, 69, 70]⟩ : ByteArray)[k]'h).toNat : Int) = c) : hexI c = k := by
  rw [digitsD k h] at e
  have h' : k < 16 := h
  unfold hexI; split at e <;> repeat (first | rw [if_pos (by omega)] | rw [if_neg (by omega)] | omega)
theorem hex_hitE (c : Int) (k : Nat) (h : k < (⟨#[48, 49, 50, 51, 52, 53, 54, 55, 56, 57, 97, 98, 99, 100, 101, 102]⟩ : ByteArray).size) (e : (((⟨#[48, 49, 50, 51, 52, 53, 54, 55, 56, 57, 97, 98, 99, 100, 101, 102]⟩ : ByteArray)[k]'h).toNat : Int) = c) : hexI c = k := by
  rw [digitsE k h] at e
  have h' : k < 16 := h
  unfold hexI; split at e <;> repeat (first | rw [if_pos (by omega)] | rw [if_neg (by omega)] | omega)
theorem hex_miss (c : Int) (k : Nat) (h : k < (⟨#[48, 49, 50, 51, 52, 53, 54, 55, 56, 57, 65, 66, 67, 68, 69, 70]⟩ : ByteArray).size) (h2 : k < (⟨#[48, 49, 50, 51, 52, 53, 54, 55, 56, 57, 97, 98, 99, 100, 101, 102]⟩ : ByteArray).size)
    (e : ¬ (((⟨#[48, 49, 50, 51, 52, 53, 54, 55, 56, 57, 65, 66, 67, 68, 69, 70]⟩ : ByteArray)[k]'h).toNat : Int) = c)
    (e2 : ¬ (((⟨#[48, 49, 50, 51, 52, 53, 54, 55, 56, 57, 97, 98, 99, 100, 101, 102]⟩ : ByteArray)[k]'h2).toNat : Int) = c) (hf : hexFrom c k) : hexFrom c (k + 1) := by
  rw [digitsD k h] at e
  rw [digitsE k h2] at e2
  have h' : k < 16 := h
  unfold hexFrom hexI at *; split at e <;> split at e2 <;> omega

set_option maxRecDepth 100000 in
set_option maxHeartbeats 1000000 in
theorem refHex_any (c : Int) (w : World) :
    Calls Try.prog 31 #[.int .u8 c] w fun e w' => e = .returned (.int .i64 (hexI c)) ∧ w = w' := by
  go_enter Try.func31, Try.ntmps31
  go_wp2
  go_loop [5] (fun i => ∃ k : Nat, k ≤ 16 ∧ i = .int .i64 k ∧ hexFrom c k) (fun i => 16 - (intOf i).toNat)
  case atStart => exact ⟨0, by omega, rfl, hexFrom_zero c⟩
  case round =>
    obtain ⟨k, hk, rfl, hf⟩ := hrel
    have Hf := Lib.hid hf
    clear hf
    by_cases hlt : k < 16
    · have i1 : k < (⟨#[48, 49, 50, 51, 52, 53, 54, 55, 56, 57, 65, 66, 67, 68, 69, 70]⟩ : ByteArray).size := hlt
      have i2 : k < (⟨#[48, 49, 50, 51, 52, 53, 54, 55, 56, 57, 97, 98, 99, 100, 101, 102]⟩ : ByteArray).size := hlt
      by_cases hd : (((⟨#[48, 49, 50, 51, 52, 53, 54, 55, 56, 57, 65, 66, 67, 68, 69, 70]⟩ : ByteArray)[k]'i1).toNat : Int) = c
      · have Hr := Lib.hid (hex_hitD c k i1 hd)
        subst hd
        go_wp2
        go_ret
        exact ⟨ret_int Hr.out.symm, rfl⟩
      · by_cases he : (((⟨#[48, 49, 50, 51, 52, 53, 54, 55, 56, 57, 97, 98, 99, 100, 101, 102]⟩ : ByteArray)[k]'i2).toNat : Int) = c
        · have Hr := Lib.hid (hex_hitE c k i2 he)
          have hd' := beq_eq_false_iff_ne.2 hd
          have he' := beq_iff_eq.2 he
          clear hd he
          go_wp2
          go_ret
          exact ⟨ret_int Hr.out.symm, rfl⟩
        · have Hr := Lib.hid (hex_miss c k i1 i2 hd he Hf.out)
          have hd' := beq_eq_false_iff_ne.2 hd
          have he' := beq_eq_false_iff_ne.2 he
          clear hd he
          go_wp2
          go_round
          case rel => exact ⟨k + 1, by omega, by go_num, Hr.out⟩
          case measure => simp [intOf]; omega
    · obtain rfl : k = 16 := by omega
      go_wp2
      go_ret
      exact ⟨ret_int (hexFrom_last c Hf.out).symm, rfl⟩

end Go.Proofs.Ytnjmapgmodoodaa
