/-
  The contracts of octet's Kind, Hex, Digit, where no more of octet is reached.
-/
import Derived.Test.YtjbdejkmmncmcaaRows
import Derived.Test.YtjbdejkmmncmcaaPlain
import Derived.WalkKit
import Derived.WalkSpells
import Derived.WalkLawsBesides
import Derived.Lib.Hide
import Derived.Deep.QuietTactic
import Derived.BigQuiet
namespace Go.Proofs.Ytjbdejkmmncmcaa
open Go.RowKit

set_option maxHeartbeats 1000000 in
theorem kind_any (c : Int) (w : World) :
    Calls Try.prog 19 #[.int .u8 c] w fun e w' => e = .returned (.int .i64 (kindI c)) ∧ w = w' := by
  go_enter Try.func19, Try.ntmps19
  go_wp2
  all_goals (go_ret; exact ⟨ret_int (by simp_all [kindI]), rfl⟩)

set_option maxHeartbeats 1000000 in
theorem hex_any (c : Int) (w : World) (h0 : 0 ≤ c) (h1 : c ≤ 255) :
    Calls Try.prog 18 #[.int .u8 c] w fun e w' => e = .returned (.int .i64 (hexI c)) ∧ w = w' := by
  have hcases : c < 48 ∨ (48 ≤ c ∧ c ≤ 57) ∨ (57 < c ∧ c < 65) ∨ (65 ≤ c ∧ c ≤ 70) ∨ (70 < c ∧ c < 97) ∨ (97 ≤ c ∧ c ≤ 102) ∨ 102 < c := by omega
  rcases hcases with h | ⟨h, h'⟩ | ⟨h, h'⟩ | ⟨h, h'⟩ | ⟨h, h'⟩ | ⟨h, h'⟩ | h
  all_goals
    go_enter Try.func18, Try.ntmps18
    go_wp2
    go_ret
    exact ⟨ret_int (by unfold hexI; repeat (first | rw [if_pos (by omega)] | rw [if_neg (by omega)]); try omega), rfl⟩

set_option maxHeartbeats 1000000 in
theorem digit_any (n : Int) (w : World) (h0 : -9223372036854775808 ≤ n) (h1 : n ≤ 9223372036854775807) :
    Calls Try.prog 14 #[.int .i64 n] w fun e w' => e = .returned (.int .u8 (digitI n)) ∧ w = w' := by
  have hcases : n < 0 ∨ (0 ≤ n ∧ n ≤ 9) ∨ (10 ≤ n ∧ n ≤ 15) ∨ 15 < n := by omega
  rcases hcases with h | ⟨h, h'⟩ | ⟨h, h'⟩ | h
  all_goals
    go_enter Try.func14, Try.ntmps14
    go_wp2
    go_ret
    exact ⟨ret_int (by unfold digitI; repeat (first | rw [if_pos (by omega)] | rw [if_neg (by omega)]); try omega), rfl⟩

end Go.Proofs.Ytjbdejkmmncmcaa
