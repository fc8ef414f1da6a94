/-
  The contracts of bitrow's bits that stand between: come, leave, isWidth.
-/
import Derived.Test.YtahanllbaclokaaBitHeld
import Derived.Test.YtahanllbaclokaaBitFoot
import Derived.Deep.RegionWith
import Derived.BigQuiet
import Derived.Deep.QuietTactic
import Derived.Deep.RegionLaw
namespace Go.Proofs.Ytahanllbaclokaa
open Go.RowKit

theorem i64_nat (n : Nat) (h : n < 9223372036854775808) : wrap64 (n : Int) = (n : Int) := by unfold wrap64; omega
theorem i64_or_nat (x c n : Nat) (hx : x < 2 ^ c) (hb : x + 2 ^ c * n < 9223372036854775808) : bits .or .i64 (x : Int) ((2 ^ c * n : Nat) : Int) = ((x + 2 ^ c * n : Nat) : Int) := by
  have h1 : x < 18446744073709551616 := by omega
  have h2 : 2 ^ c * n < 18446744073709551616 := by omega
  show IntKind.i64.wrap ((BitVec.ofInt 64 ((x : Nat) : Int) ||| BitVec.ofInt 64 ((2 ^ c * n : Nat) : Int)).toNat : Int) = _
  have e : ∀ m : Nat, m < 18446744073709551616 → (BitVec.ofInt 64 (m : Int)).toNat = m := fun m hm => by
    rw [BitVec.toNat_ofInt, show (m : Int) % ((2 ^ 64 : Nat) : Int) = (m : Int) by omega, Int.toNat_natCast]
  rw [BitVec.toNat_or, e _ h1, e _ h2, Nat.or_comm, ← Nat.two_pow_add_eq_or_of_lt hx n, Nat.add_comm, IntKind.wrap_i64]
  omega
theorem i64_and_low (x k : Nat) (hx : x < 9223372036854775808) (hk : k ≤ 30) : bits .and .i64 (x : Int) ((2 ^ k : Nat) - 1 : Int) = ((x % 2 ^ k : Nat) : Int) := by
  have hp : 0 < 2 ^ k := Nat.pow_pos (by omega)
  have hp2 : 2 ^ k ≤ 2 ^ 30 := Nat.pow_le_pow_right (by omega) hk
  have e : ∀ m : Nat, m < 18446744073709551616 → (BitVec.ofInt 64 (m : Int)).toNat = m := fun m hm => by
    rw [BitVec.toNat_ofInt, show (m : Int) % ((2 ^ 64 : Nat) : Int) = (m : Int) by omega, Int.toNat_natCast]
  rw [show (((2 ^ k : Nat) : Int) - 1) = ((2 ^ k - 1 : Nat) : Int) by omega]
  show IntKind.i64.wrap ((BitVec.ofInt 64 ((x : Nat) : Int) &&& BitVec.ofInt 64 ((2 ^ k - 1 : Nat) : Int)).toNat : Int) = _
  rw [BitVec.toNat_and, e _ (by omega), e _ (by omega), Nat.and_two_pow_sub_one_eq_mod, IntKind.wrap_i64]
  have := Nat.mod_le x (2 ^ k)
  omega
theorem pow_two_int (k : Nat) : (2 : Int) ^ k = ((2 ^ k : Nat) : Int) := by simp

/-- Two cells of a block are written, and an order is drawn. -/
def twoSet (w : World) (b : Nat) (x y : Int) : World := ((w.setCell ⟨b, 0, none⟩ (.int .i64 x)).setCell ⟨b, 1, none⟩ (.int .i64 y)).drew

set_option maxHeartbeats 1000000 in
theorem come_is (b : Nat) (L : List Nat) (n k : Nat) (w : World) (h2 : ∀ b ∈ L, b < 2) (hl : L.length ≤ 15) (hn : n < 2 ^ k) (hk : k ≤ 16) (h0 : w.cell? ⟨b, 0, none⟩ = some (.int .i64 (numB L : Int))) (h1 : w.cell? ⟨b, 1, none⟩ = some (.int .i64 (L.length : Int)))
   (hf : w.frozen? ⟨b, 0, none⟩ = false) (hf1 : w.frozen? ⟨b, 1, none⟩ = false) :
    Calls Try.prog 39 #[.pointer (some ⟨b, 0, none⟩), .int .i64 (n : Int), .int .i64 (k : Int)] w fun e w' => e = .returned (.tuple #[]) ∧ w' = twoSet w b (numB (L ++ bitsN k n)) ((L ++ bitsN k n).length : Nat) := by
  have hx := numB_lt L h2
  have hor := i64_or_nat (numB L) L.length n hx (by
    have e1 : (2 : Nat) ^ L.length ≤ 2 ^ 15 := Nat.pow_le_pow_right (by omega) hl
    have e2 : (2 : Nat) ^ k ≤ 2 ^ 16 := Nat.pow_le_pow_right (by omega) hk
    have e3 : 2 ^ L.length * n ≤ 2 ^ 15 * 2 ^ 16 := Nat.mul_le_mul e1 (by omega)
    omega)
  have hsh : wrap64 ((n : Int) * 2 ^ L.length) = ((2 ^ L.length * n : Nat) : Int) := by
    have e1 : (2 : Nat) ^ L.length ≤ 2 ^ 15 := Nat.pow_le_pow_right (by omega) hl
    have e2 : (2 : Nat) ^ k ≤ 2 ^ 16 := Nat.pow_le_pow_right (by omega) hk
    have e3 : 2 ^ L.length * n ≤ 2 ^ 15 * 2 ^ 16 := Nat.mul_le_mul e1 (by omega)
    rw [pow_two_int, ← Int.natCast_mul, Nat.mul_comm n, i64_nat _ (by omega)]
  have hnum : numB L + 2 ^ L.length * n = numB (L ++ bitsN k n) := by rw [numB_append, numB_bitsN k n hn]
  rw [hnum] at hor
  have hlen : (L ++ bitsN k n).length = L.length + k := by rw [List.length_append, bitsN_length]
  rw [hlen]
  obtain ⟨z, hz⟩ : ∃ z, numB (L ++ bitsN k n) = z := ⟨_, rfl⟩
  obtain ⟨x, hx2⟩ : ∃ x, numB L = x := ⟨_, rfl⟩
  obtain ⟨c, hc⟩ : ∃ c, L.length = c := ⟨_, rfl⟩
  obtain ⟨y, hy⟩ : ∃ y : Nat, 2 ^ c * n = y := ⟨_, rfl⟩
  rw [hz] at hor ⊢
  rw [hx2] at hor h0
  rw [hc] at hor h1 hsh hl ⊢
  rw [hy] at hor hsh
  have Hor := Lib.hid hor
  have Hsh := Lib.hid hsh
  clear hor hsh hnum hlen hz hx2 hc hy hx h2 hn
  go_enter Try.func39, Try.ntmps39
  go_wp2_with fail
  go_region
  all_goals
    go_wp2_with fail
    rw [Hsh.out, Hor.out]
    go_end0
    exact ⟨rfl, rfl⟩

set_option maxHeartbeats 1000000 in
theorem leave_is (b : Nat) (L : List Nat) (k : Nat) (w : World) (h2 : ∀ b ∈ L, b < 2) (hl : L.length ≤ 31) (hk : k ≤ 16) (hkl : k ≤ L.length) (h0 : w.cell? ⟨b, 0, none⟩ = some (.int .i64 (numB L : Int))) (h1 : w.cell? ⟨b, 1, none⟩ = some (.int .i64 (L.length : Int)))
   (hf : w.frozen? ⟨b, 0, none⟩ = false) (hf1 : w.frozen? ⟨b, 1, none⟩ = false) :
    Calls Try.prog 40 #[.pointer (some ⟨b, 0, none⟩), .int .i64 (k : Int)] w fun e w' => e = .returned (.int .i64 (numB (L.take k) : Int)) ∧ w' = twoSet w b (numB (L.drop k)) ((L.drop k).length : Nat) := by
  have hx := numB_lt L h2
  have hx3 : (2 : Nat) ^ L.length ≤ 2 ^ 31 := Nat.pow_le_pow_right (by omega) hl
  obtain ⟨ht, hd⟩ := numB_parts k L h2 hkl
  have hand := i64_and_low (numB L) k (by omega) (by omega)
  rw [← ht] at hand
  rw [List.length_drop]
  obtain ⟨t, htt⟩ : ∃ t, numB (L.take k) = t := ⟨_, rfl⟩
  obtain ⟨d, hdd⟩ : ∃ d, numB (L.drop k) = d := ⟨_, rfl⟩
  obtain ⟨x, hx2⟩ : ∃ x, numB L = x := ⟨_, rfl⟩
  obtain ⟨c, hc⟩ : ∃ c, L.length = c := ⟨_, rfl⟩
  rw [htt] at hand ⊢
  rw [hdd] at hd ⊢
  rw [hx2] at hand hd h0
  rw [hc] at h1 hkl hl ⊢
  have hp2 : 2 ^ k ≤ 65536 := by
    have : (2 : Nat) ^ k ≤ 2 ^ 16 := Nat.pow_le_pow_right (by omega) hk
    omega
  have hck : ((c - k : Nat) : Int) = (c : Int) - (k : Int) := by omega
  rw [hck]
  have hdz : (x : Int) / ((2 ^ k : Nat) : Int) = (d : Int) := by rw [hd]; rfl
  have hpk := pow_two_int k
  obtain ⟨p, hp⟩ : ∃ p, 2 ^ k = p := ⟨_, rfl⟩
  have hp0 : 0 < p := by rw [← hp]; exact Nat.pow_pos (by omega)
  rw [hp] at hpk hp2 hand hdz
  have Hand := Lib.hid hand
  have Hdz := Lib.hid hdz
  clear hand hdz ht hd htt hdd hx2 hc hx hx3 h2 hck hp
  go_enter Try.func40, Try.ntmps40
  go_wp2_with fail
  go_region
  all_goals
    go_wp2_with fail
    rw [Hand.out, Hdz.out]
    go_ret
    exact ⟨rfl, rfl⟩

theorem isWidth_is (k : Int) (w : World) {b : Bool} (hb : decide (0 ≤ k ∧ k ≤ 16) = b) :
    Calls Try.prog 38 #[.int .i64 k] w fun e w' => e = .returned (.bool b) ∧ w = w' := by
  subst hb
  by_cases h1 : 0 ≤ k
  · by_cases h2 : k ≤ 16
    · go_enter Try.func38, Try.ntmps38
      go_wp2_with fail
      go_ret
      exact ⟨by simp [h1, h2], rfl⟩
    · go_enter Try.func38, Try.ntmps38
      go_wp2_with fail
      go_ret
      exact ⟨by simp [h2], rfl⟩
  · go_enter Try.func38, Try.ntmps38
    go_wp2_with fail
    go_ret
    exact ⟨by simp; omega, rfl⟩

end Go.Proofs.Ytahanllbaclokaa
