/-
  The contracts of codes' turn and the library's Reverse16.
-/
import Derived.Test.YtahanllbaclokaaCodePlain4
import Derived.Test.YtahanllbaclokaaRows
import Derived.WalkKit
import Derived.WalkSpells
import Derived.WalkLawsBesides
import Derived.WalkSmall
import Derived.Lib.Hide
import Derived.Laws.BitsAllLaws
import Derived.BigQuiet
import Derived.Deep.QuietTactic
import Derived.Deep.Draws
import Derived.IntWalk
namespace Go.Proofs.Ytahanllbaclokaa
open Go.RowKit

/-- Each byte's bits, turned. -/
def rev8 : ByteArray := ⟨#[0, 128, 64, 192, 32, 160, 96, 224, 16, 144, 80, 208, 48, 176, 112, 240, 8, 136, 72, 200, 40, 168, 104, 232, 24, 152, 88, 216, 56, 184, 120, 248, 4, 132, 68, 196, 36, 164, 100, 228, 20, 148, 84, 212, 52, 180, 116, 244, 12, 140, 76, 204, 44, 172, 108, 236, 28, 156, 92, 220, 60, 188, 124, 252, 2, 130, 66, 194, 34, 162, 98, 226, 18, 146, 82, 210, 50, 178, 114, 242, 10, 138, 74, 202, 42, 170, 106, 234, 26, 154, 90, 218, 58, 186, 122, 250, 6, 134, 70, 198, 38, 166, 102, 230, 22, 150, 86, 214, 54, 182, 118, 246, 14, 142, 78, 206, 46, 174, 110, 238, 30, 158, 94, 222, 62, 190, 126, 254, 1, 129, 65, 193, 33, 161, 97, 225, 17, 145, 81, 209, 49, 177, 113, 241, 9, 137, 73, 201, 41, 169, 105, 233, 25, 153, 89, 217, 57, 185, 121, 249, 5, 133, 69, 197, 37, 165, 101, 229, 21, 149, 85, 213, 53, 181, 117, 245, 13, 141, 77, 205, 45, 173, 109, 237, 29, 157, 93, 221, 61, 189, 125, 253, 3, 131, 67, 195, 35, 163, 99, 227, 19, 147, 83, 211, 51, 179, 115, 243, 11, 139, 75, 203, 43, 171, 107, 235, 27, 155, 91, 219, 59, 187, 123, 251, 7, 135, 71, 199, 39, 167, 103, 231, 23, 151, 87, 215, 55, 183, 119, 247, 15, 143, 79, 207, 47, 175, 111, 239, 31, 159, 95, 223, 63, 191, 127, 255]⟩
theorem rev8_all : ∀ i : Fin 256, (rev8.data.toList[i.val]?.map UInt8.toNat) = some (revN 8 i.val) := by decide +kernel
theorem rev8_size : rev8.size = 256 := by decide +kernel
theorem rev8_at {i : Nat} (h : i < 256) (h' : i < rev8.size) : rev8[i].toNat = revN 8 i := by
  have h1 := rev8_all ⟨i, h⟩
  have h2 : rev8.data.toList[i]? = some rev8[i] := by
    rw [Array.getElem?_toList]
    exact Array.getElem?_eq_getElem h'
  simp only [h2, Option.map_some] at h1
  exact Option.some.inj h1
theorem or_halves (a b : Nat) (ha : a < 256) (hb : b < 256) : bits .or .u16 (a : Int) ((256 * b : Nat) : Int) = ((a + 256 * b : Nat) : Int) := by
  rw [u16_or_nat a (256 * b) (by omega) (by omega), Nat.or_comm, show 256 = 2 ^ 8 from rfl, ← Nat.two_pow_add_eq_or_of_lt (by omega) b, Nat.add_comm]

set_option maxRecDepth 100000 in
set_option maxHeartbeats 2000000 in
theorem rev16_any (x : Nat) (w : World) (hx : x < 65536) :
    Calls Try.prog 37 #[.int .u16 (x : Int)] w fun e w' => e = .returned (.int .u16 (revN 16 x : Int)) ∧ ∃ q, w.drewN q = w' := by
  obtain ⟨hi, hhi⟩ : ∃ hi, x / 256 = hi := ⟨_, rfl⟩
  obtain ⟨lo, hlo⟩ : ∃ lo, x % 256 = lo := ⟨_, rfl⟩
  have d1 : (x : Int) / 256 = (hi : Int) := by omega
  have d2 : hi < 256 := by omega
  have d3 : lo < 256 := by omega
  have d4 : bits .and .u16 (x : Int) 255 = (lo : Int) := by
    have := u16_and_nat x 255 hx (by omega)
    rw [show (255 : Nat) = 2 ^ 8 - 1 from rfl, Nat.and_two_pow_sub_one_eq_mod, show (2 : Nat) ^ 8 = 256 from rfl, hlo] at this
    exact this
  have Hr : Hid (revN 16 x = revN 8 hi + 256 * revN 8 lo) := Lib.hid (by rw [revN_halves, hhi, ← hlo, revN_mod])
  have r1 : revN 8 hi < 256 := revN_lt 8 hi
  have r2 : revN 8 lo < 256 := revN_lt 8 lo
  have d5 : (hi : Int) < 256 := by omega
  have d6 : (0 : Int) ≤ (hi : Int) := by omega
  have d7 : (lo : Int) < 256 := by omega
  have d8 : (0 : Int) ≤ (lo : Int) := by omega
  clear hhi hlo
  go_enter Try.func37, Try.ntmps37
  go_wp2_with fail
  go_quiet (fail)
  go_wp2_with fail
  go_ret
  have e : bits .or .u16 (IntKind.u16.wrap (rev8[hi]'(by rw [rev8_size]; exact d2)).toNat) (IntKind.u16.wrap (IntKind.u16.wrap (rev8[lo]'(by rw [rev8_size]; exact d3)).toNat * 256)) = ((revN 16 x : Nat) : Int) := by
    rw [rev8_at d2, rev8_at d3, IntKind.wrap_u16, IntKind.wrap_u16, IntKind.wrap_u16, show ((revN 8 hi : Nat) : Int) % 65536 = ((revN 8 hi : Nat) : Int) by omega, show ((revN 8 lo : Nat) : Int) % 65536 * 256 % 65536 = ((256 * revN 8 lo : Nat) : Int) by omega, or_halves _ _ r1 r2, Hr.out]
  exact ⟨congrArg (fun z => Ending.returned (.int .u16 z)) e, _, rfl⟩

set_option maxHeartbeats 1000000 in
theorem turn_any (x k : Nat) (w : World) (hk : k ≤ 15) (hx : x < 2 ^ k) :
    Calls Try.prog 30 #[.int .i64 (x : Int), .int .i64 (k : Int)] w fun e w' => e = .returned (.int .i64 (revN k x : Int)) ∧ ∃ q, w.drewN q = w' := by
  have hp : (2 : Nat) ^ k ≤ 2 ^ 15 := Nat.pow_le_pow_right (by omega) hk
  have hx2 : x < 65536 := by omega
  have h16 := revN_lt 16 x
  have H := Lib.hid (fun W => rev16_any x W hx2)
  have Hcut := Lib.hid (revN_cut (w := k) (x := x) (by omega) hx)
  have hrl := revN_lt k x
  obtain ⟨y, hy⟩ : ∃ y, revN 16 x = y := ⟨_, rfl⟩
  obtain ⟨z, hz⟩ : ∃ z, revN k x = z := ⟨_, rfl⟩
  obtain ⟨d, hd⟩ : ∃ d, 16 - k = d := ⟨_, rfl⟩
  rw [hy] at H h16
  rw [hz] at hrl ⊢
  rw [hy, hz, hd] at Hcut
  have h1 : (16 : Int) - (k : Int) = (d : Int) := by omega
  have h2 : IntKind.i64.wrap ((16 : Int) - (k : Int)) = (d : Int) := by rw [IntWalk.i64_in _ (by omega)]; exact h1
  have h3 : (y : Int) / 2 ^ d = (z : Int) := by
    rw [show (2 : Int) ^ d = ((2 ^ d : Nat) : Int) by simp, ← Hcut.out]; simp
  have hzl : z < 65536 := by omega
  clear hy hz hp hrl
  go_enter Try.func30, Try.ntmps30
  go_wp2_with fail
  refine (H.out _).mono ?_
  rintro e w1 ⟨rfl, q, rfl⟩
  go_wp2_with fail
  go_ret
  exact ⟨rfl, q, rfl⟩

end Go.Proofs.Ytahanllbaclokaa
