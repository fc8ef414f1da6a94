/-
  The contracts of package adler's halves: rest, within, sum, grow, part.
-/
import Derived.Test.YtpanhjhdohdbkaaARef
import Derived.Deep.RegionWith
import Derived.BigQuiet
import Derived.Deep.QuietTactic
import Derived.Deep.RegionLaw
import Derived.Laws.BitsAllLaws
import Derived.Laws.BitsLemmas
namespace Go.Proofs.Ytpanhjhdohdbkaa
open Go.RowKit

theorem i64_and16 (n : Int) : bits .and .i64 n 65535 = n % 65536 := by
  have h : (BitVec.ofInt 64 65535).toNat = 2 ^ 16 - 1 := by decide
  have key : (BitVec.ofInt 64 n &&& BitVec.ofInt 64 65535).toNat = (n % ((2 ^ 64 : Nat) : Int)).toNat % 2 ^ 16 := by
    rw [BitVec.toNat_and, BitVec.toNat_ofInt, h, Nat.and_two_pow_sub_one_eq_mod]
  show IntKind.i64.wrap ((BitVec.ofInt 64 n &&& BitVec.ofInt 64 65535).toNat : Nat) = n % 65536
  rw [key, IntKind.wrap_i64]
  omega
theorem i64_or_halves (a b : Nat) (h0 : a < 65536) (h1 : b < 65536) : bits .or .i64 ((b : Int) * 65536) (a : Int) = ((b * 65536 + a : Nat) : Int) := by
  show IntKind.i64.wrap ((BitVec.ofInt 64 ((b * 65536 : Nat) : Int) ||| BitVec.ofInt 64 (a : Int)).toNat : Int) = _
  rw [BitVec.toNat_or, ofInt_u64 _ (by omega), ofInt_u64 _ (by omega), nat_join 16 _ _ (by omega) (by omega), IntKind.wrap_i64]
  omega

theorem tmod_near (n : Int) : -65521 < n.tmod 65521 ∧ n.tmod 65521 < 65521 ∧ (n.tmod 65521 + 65521) % 65521 = n % 65521 := by
  by_cases hn : 0 ≤ n
  · rw [Int.tmod_eq_emod_of_nonneg hn]; omega
  · obtain ⟨m, rfl⟩ : ∃ m, n = -m := ⟨-n, by omega⟩
    have hm : 0 ≤ m := by omega
    rw [Int.neg_tmod, Int.tmod_eq_emod_of_nonneg hm]; omega
theorem rest_any (n : Int) (w : World) :
    Calls Try.prog 20 #[.int .i64 n] w fun e w' => e = .returned (.int .i64 (n % 65521)) ∧ w = w' := by
  obtain ⟨hb1, hb2, hr⟩ := tmod_near n
  obtain ⟨q, hq⟩ : ∃ q, n.tmod 65521 = q := ⟨_, rfl⟩
  rw [hq] at hr hb1 hb2
  have Hr := Lib.hid hr
  clear hr
  go_enter Try.func20, Try.ntmps20
  go_wp2_with fail
  go_ret
  exact ⟨ret_int Hr.out, rfl⟩

set_option maxHeartbeats 1000000 in
theorem within_any (a b : Int) (w : World) {x y : Int} (hx : a % 65521 = x) (hy : b % 65521 = y) :
    Calls Try.prog 17 #[.agg #[.int .i64 a, .int .i64 b]] w fun e w' => e = .returned (.agg #[.int .i64 x, .int .i64 y]) ∧ Below w.heap.size w w' := by
  have ha := fun W => rest_any a W
  have hb := fun W => rest_any b W
  rw [hx] at ha
  rw [hy] at hb
  have Ha := Lib.hid ha
  have Hb := Lib.hid hb
  clear hx hy ha hb
  go_enter Try.func17, Try.ntmps17
  go_wp2_with fail
  go_region_with (first | (go_at_call_of 20 (Value.int .i64 a); with_reducible refine (Ha.out _).mono ?_; rintro e w1 ⟨rfl, rfl⟩) | (go_at_call_of 20 (Value.int .i64 b); with_reducible refine (Hb.out _).mono ?_; rintro e w1 ⟨rfl, rfl⟩))
  all_goals
    go_wp2_with fail
    exact bodyPost_ret (by simp [results, Try.results17, go_sem]) rfl ⟨rfl, (((Below.refl _ w).alloc (Nat.le_refl _) _).alloc (by simp) _).drew⟩

theorem sum_any (a b : Nat) (w : World) (h0 : a < 65536) (h1 : b < 65536) :
    Calls Try.prog 18 #[.agg #[.int .i64 (a : Int), .int .i64 (b : Int)]] w fun e w' => e = .returned (.int .i64 ((b * 65536 + a : Nat) : Int)) ∧ Below w.heap.size w w' := by
  have hor := i64_or_halves a b h0 h1
  go_enter Try.func18, Try.ntmps18
  go_wp2_with fail
  go_ret
  exact ⟨ret_int (by first | rfl | simp), (Below.refl _ _).alloc (Nat.le_refl _) _⟩

theorem grow_is (b : Nat) (x y c x' y' : Nat) (w : World) (hx : x < 65521) (hy : y < 65521) (hc : c < 256) (h0 : w.cell? ⟨b, 0, none⟩ = some (.int .i64 (x : Int))) (h1 : w.cell? ⟨b, 1, none⟩ = some (.int .i64 (y : Int)))
   (hf : w.frozen? ⟨b, 0, none⟩ = false) (hf1 : w.frozen? ⟨b, 1, none⟩ = false) (hx' : (x + c) % 65521 = x') (hy' : (y + x') % 65521 = y') :
    Calls Try.prog 19 #[.pointer (some ⟨b, 0, none⟩), .int .u8 (c : Int)] w fun e w' => e = .returned (.tuple #[]) ∧ w' = ((w.setCell ⟨b, 0, none⟩ (.int .i64 (x' : Int))).setCell ⟨b, 1, none⟩ (.int .i64 (y' : Int))).drew := by
  have E1 : Hid (((x : Int) + (c : Int)) % 65521 = (x' : Int)) := Lib.hid (by omega)
  have E2 : Hid (((y : Int) + ((x : Int) + (c : Int))) % 65521 = (y' : Int)) := Lib.hid (by omega)
  clear hx' hy'
  go_enter Try.func19, Try.ntmps19
  go_wp2_with fail
  go_region
  all_goals
    go_wp2_with fail
    go_end0
    rw [E1.out, E2.out]
    exact ⟨rfl, rfl⟩

end Go.Proofs.Ytpanhjhdohdbkaa
