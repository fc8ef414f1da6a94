/-
  The contracts of the document's Put, Pad, Count, Fixed, Loose, Read.
-/
import Derived.Test.YtnjmapgmodoodaaRows
import Derived.Test.YtnjmapgmodoodaaDPlain
import Derived.WalkKit
import Derived.WalkSpells
import Derived.WalkLawsBesides
import Derived.Lib.Hide
import Derived.Deep.LoopGhost
namespace Go.Proofs.Ytnjmapgmodoodaa
open Go.RowKit

set_option maxHeartbeats 1000000 in
theorem rCount_any (s : ByteArray) (w : World) (hs : s.size ≤ maxLen) :
    Calls Try.prog 57 #[.string s] w fun e w' => e = .returned (.int .i64 (countN s.data.toList)) ∧ w = w' := by
  unfold maxLen at hs
  have Hsz := Lib.hid (size_data s)
  go_enter Try.func57, Try.ntmps57
  go_wp2_with fail
  go_loop [3] (fun i => ∃ k : Nat, k ≤ s.size ∧ i = .int .i64 k ∧ Aside (∀ j, j < k → digAt s.data.toList j = true)) (fun i => s.size - (intOf i).toNat)
  case atStart => exact ⟨0, Nat.zero_le _, rfl, fun j hj => absurd hj (by omega)⟩
  case round =>
    obtain ⟨k, hk, rfl, HI⟩ := hrel
    by_cases hlt : k < s.size
    · have Hat := Lib.hid (digAt_at s k hlt)
      by_cases h1 : (s[k].toNat : Int) < 48
      · have Hc : Hid (countN s.data.toList = k) := Lib.hid (count_unique _ _ HI.out (by rw [Hat.out]; exact isDig_no (.inl h1)))
        go_wp2_with fail
        go_ret
        exact ⟨ret_int (by rw [Hc.out]), rfl⟩
      · by_cases h2 : 57 < (s[k].toNat : Int)
        · have Hc : Hid (countN s.data.toList = k) := Lib.hid (count_unique _ _ HI.out (by rw [Hat.out]; exact isDig_no (.inr h2)))
          go_wp2_with fail
          go_ret
          exact ⟨ret_int (by rw [Hc.out]), rfl⟩
        · have Hd : Hid (digAt s.data.toList k = true) := Lib.hid (by rw [Hat.out]; exact isDig_yes (by omega) (by omega))
          go_wp2_with fail
          go_round
          case rel => exact ⟨k + 1, by omega, by go_num, fun j hj => by by_cases e : j = k; exact e ▸ Hd.out; exact HI.out j (by omega)⟩
          case measure => simp [intOf]; omega
    · obtain rfl : k = s.size := by omega
      have Hc : Hid (countN s.data.toList = s.size) := Lib.hid (count_unique _ _ HI.out (digAt_far _ _ (by rw [Hsz.out]; exact Nat.le_refl _)))
      go_wp2_with fail
      go_ret
      exact ⟨ret_int (by rw [Hc.out]), rfl⟩

end Go.Proofs.Ytnjmapgmodoodaa
