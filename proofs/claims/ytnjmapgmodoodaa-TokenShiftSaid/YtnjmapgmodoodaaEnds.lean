/-
  The contracts of strings.HasPrefix, Ends, behindLine, and of the document's Ends, Begins, Stands.
-/
import Derived.Test.YtnjmapgmodoodaaBase
import Derived.Test.YtnjmapgmodoodaaLinesPlain
namespace Go.Proofs.Ytnjmapgmodoodaa
open Go.RowKit

set_option maxHeartbeats 400000 in
theorem slPre_any (s p : ByteArray) (w : World) :
    Calls Try.prog 44 #[.string s, .string p] w fun e w' => e = .returned (.bool (preB s.data.toList p.data.toList)) ∧ w = w' := by
  by_cases h : p.size ≤ s.size
  · go_enter Try.func44, Try.ntmps44
    go_wp2
    go_ret
    exact ⟨ret_bool (pre_extract s p), rfl⟩
  · go_enter Try.func44, Try.ntmps44
    go_wp2
    go_ret
    exact ⟨ret_bool (pre_long s p h).symm, rfl⟩

set_option maxHeartbeats 400000 in
theorem pre_any (s p : ByteArray) (w : World) :
    Calls Try.prog 28 #[.string s, .string p] w fun e w' => e = .returned (.bool (preB s.data.toList p.data.toList)) ∧ w = w' := by
  go_enter Try.func28, Try.ntmps28
  go_wp2_with (go_at_call 44; refine (slPre_any _ _ _).mono ?_; rintro e w' ⟨rfl, rfl⟩)
  go_ret
  exact ⟨rfl, rfl⟩

theorem pre_crlf (s : ByteArray) (k : Nat) (w : World) :
    Calls Try.prog 28 #[.string (s.extract k s.size), .string ⟨#[13, 10]⟩] w fun e w' => e = .returned (.bool (preB (s.data.toList.drop k) [13, 10])) ∧ w = w' := by
  have h := pre_any (s.extract k s.size) ⟨#[13, 10]⟩ w
  rw [Lib.extract_to_end] at h
  exact h

set_option maxHeartbeats 400000 in
theorem ends_any (s : ByteArray) (a : Int) (w : World) :
    Calls Try.prog 24 #[.string s, .int .i64 a] w fun e w' => e = .returned (.int .i64 (endsI s.data.toList a)) ∧ w = w' := by
  by_cases h : a < 0
  · have Hr := Lib.hid (endsI_neg s.data.toList a h)
    go_enter Try.func24, Try.ntmps24
    go_wp2_with fail
    go_ret
    exact ⟨ret_int Hr.out.symm, rfl⟩
  · obtain ⟨k, rfl⟩ := Int.eq_ofNat_of_zero_le (show 0 ≤ a by omega)
    rw [endsI_nat]
    by_cases hlt : k < s.size
    · cases hp : preB (s.data.toList.drop k) [13, 10]
      · by_cases h13 : (s[k].toNat : Int) = 13
        · have Hr := Lib.hid (endsN_one s k hlt hp (.inl h13))
          have Hp := Lib.hid hp
          have h13' := beq_iff_eq.2 h13
          clear hp h13
          go_enter Try.func24, Try.ntmps24
          go_wp2_with fail
          refine (pre_crlf s k _).mono ?_
          rintro e w1 ⟨rfl, rfl⟩
          rw [Hp.out]
          go_wp2_with fail
          go_ret
          exact ⟨ret_int (by rw [Hr.out]; rfl), rfl⟩
        · by_cases h10 : (s[k].toNat : Int) = 10
          · have Hr := Lib.hid (endsN_one s k hlt hp (.inr h10))
            have Hp := Lib.hid hp
            have h13' := beq_eq_false_iff_ne.2 h13
            have h10' := beq_iff_eq.2 h10
            clear hp h13 h10
            go_enter Try.func24, Try.ntmps24
            go_wp2_with fail
            refine (pre_crlf s k _).mono ?_
            rintro e w1 ⟨rfl, rfl⟩
            rw [Hp.out]
            go_wp2_with fail
            go_ret
            exact ⟨ret_int (by rw [Hr.out]; rfl), rfl⟩
          · have Hr := Lib.hid (endsN_none s k hlt hp h13 h10)
            have Hp := Lib.hid hp
            have h13' := beq_eq_false_iff_ne.2 h13
            have h10' := beq_eq_false_iff_ne.2 h10
            clear hp h13 h10
            go_enter Try.func24, Try.ntmps24
            go_wp2_with fail
            refine (pre_crlf s k _).mono ?_
            rintro e w1 ⟨rfl, rfl⟩
            rw [Hp.out]
            go_wp2_with fail
            go_ret
            exact ⟨ret_int (by rw [Hr.out]; rfl), rfl⟩
      · have Hr := Lib.hid (endsN_two _ k hp)
        have Hp := Lib.hid hp
        clear hp
        go_enter Try.func24, Try.ntmps24
        go_wp2_with fail
        refine (pre_crlf s k _).mono ?_
        rintro e w1 ⟨rfl, rfl⟩
        rw [Hp.out]
        go_wp2_with fail
        go_ret
        exact ⟨ret_int (by rw [Hr.out]; rfl), rfl⟩
    · have Hr := Lib.hid (endsN_far s.data.toList k (by simp; omega))
      go_enter Try.func24, Try.ntmps24
      go_wp2_with fail
      go_ret
      exact ⟨ret_int (by rw [Hr.out]; rfl), rfl⟩

def BehindPost (l : List UInt8) (k : Nat) (w : World) (e : Ending) (w' : World) : Prop :=
  ∃ b : Nat, e = .returned (.int .i64 b) ∧ IsBehind l k b ∧ w = w'

end Go.Proofs.Ytnjmapgmodoodaa
