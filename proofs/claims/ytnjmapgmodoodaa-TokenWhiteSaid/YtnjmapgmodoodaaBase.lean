/-
  The contracts of the functions on single bytes: Kind, Hex, Digit, of the program and of the document's answers.
-/
import Derived.Test.YtnjmapgmodoodaaRows
import Derived.Test.YtnjmapgmodoodaaPlain
import Derived.WalkKit
import Derived.WalkSpells
import Derived.WalkLawsBesides
import Derived.Lib.Hide
import Derived.Deep.QuietTactic
import Derived.BigQuiet
namespace Go.Proofs.Ytnjmapgmodoodaa
open Go.RowKit

set_option maxHeartbeats 1000000 in
theorem kind_any (c : Int) (w : World) :
    Calls Try.prog 37 #[.int .u8 c] w fun e w' => e = .returned (.int .i64 (kindI c)) ∧ w = w' := by
  go_enter Try.func37, Try.ntmps37
  go_wp2
  all_goals (go_ret; exact ⟨ret_int (by simp_all [kindI]), rfl⟩)

set_option maxHeartbeats 1000000 in
theorem in_any (s : ByteArray) (c : Int) (w : World) (hs : s.size ≤ maxLen) :
    Calls Try.prog 34 #[.string s, .int .u8 c] w fun e w' => e = .returned (.bool (inB s.data.toList c)) ∧ w = w' := by
  unfold maxLen at hs
  go_enter Try.func34, Try.ntmps34
  go_wp2
  go_loop [5] (fun i => ∃ k : Nat, k ≤ s.size ∧ i = .int .i64 k ∧ inB (s.data.toList.take k) c = false) (fun i => s.size - (intOf i).toNat)
  case atStart => exact ⟨0, Nat.zero_le _, rfl, rfl⟩
  case round =>
    obtain ⟨k, hk, rfl, hno⟩ := hrel
    have Hno := Lib.hid hno
    clear hno
    by_cases hlt : k < s.size
    · have hts := take_snoc s k hlt
      have Hts := Lib.hid hts
      clear hts
      have hm := byte_mem s k hlt
      by_cases hc : (s[k].toNat : Int) = c
      · have Hr : Hid (inB s.data.toList c = true) := Lib.hid (inB_mem hm hc)
        subst hc
        go_wp2
        go_ret
        exact ⟨ret_bool Hr.out.symm, rfl⟩
      · have hc' : ((s[k].toNat : Int) == c) = false := by simpa using hc
        have Hr : Hid (inB (s.data.toList.take (k + 1)) c = false) := Lib.hid (by rw [Hts.out, inB_snoc, Hno.out]; simpa using hc)
        clear hc
        go_wp2
        go_round
        case rel => exact ⟨k + 1, by omega, by go_num, Hr.out⟩
        case measure => simp [intOf]; omega
    · have Hr : Hid (inB s.data.toList c = false) := Lib.hid (by have h := Hno.out; rwa [List.take_of_length_le (by simp; omega)] at h)
      go_wp2
      go_ret
      exact ⟨ret_bool Hr.out.symm, rfl⟩

theorem kind_white (c : Int) : inB [0, 9, 10, 12, 13, 32] c = true → kindI c = 0 := by
  intro h; simp [inB] at h; unfold kindI; rw [if_pos (by omega)]
theorem kind_delim (c : Int) : inB [0, 9, 10, 12, 13, 32] c = false → inB [40, 41, 60, 62, 91, 93, 123, 125, 47, 37] c = true → kindI c = 1 := by
  intro h h'; simp [inB] at h h'; unfold kindI; rw [if_neg (by omega), if_pos (by omega)]
theorem kind_regular (c : Int) : inB [0, 9, 10, 12, 13, 32] c = false → inB [40, 41, 60, 62, 91, 93, 123, 125, 47, 37] c = false → kindI c = 2 := by
  intro h h'; simp [inB] at h h'; unfold kindI; rw [if_neg (by omega), if_neg (by omega)]

set_option maxHeartbeats 1000000 in
theorem refKind_any (c : Int) (w : World) :
    Calls Try.prog 21 #[.int .u8 c] w fun e w' => e = .returned (.int .i64 (kindI c)) ∧ w = w' := by
  cases h1 : inB [0, 9, 10, 12, 13, 32] c
  · cases h2 : inB [40, 41, 60, 62, 91, 93, 123, 125, 47, 37] c
    · have Hr := Lib.hid (kind_regular c h1 h2)
      have H1 := Lib.hid h1
      have H2 := Lib.hid h2
      clear h1 h2
      go_enter Try.func21, Try.ntmps21
      go_wp2_with fail
      refine (in_any _ _ _ (by decide)).mono ?_
      rintro e w1 ⟨rfl, rfl⟩
      rw [H1.out]
      go_wp2_with fail
      refine (in_any _ _ _ (by decide)).mono ?_
      rintro e w1 ⟨rfl, rfl⟩
      rw [H2.out]
      go_wp2_with fail
      go_ret
      exact ⟨ret_int Hr.out.symm, rfl⟩
    · have Hr := Lib.hid (kind_delim c h1 h2)
      have H1 := Lib.hid h1
      have H2 := Lib.hid h2
      clear h1 h2
      go_enter Try.func21, Try.ntmps21
      go_wp2_with fail
      refine (in_any _ _ _ (by decide)).mono ?_
      rintro e w1 ⟨rfl, rfl⟩
      rw [H1.out]
      go_wp2_with fail
      refine (in_any _ _ _ (by decide)).mono ?_
      rintro e w1 ⟨rfl, rfl⟩
      rw [H2.out]
      go_wp2_with fail
      go_ret
      exact ⟨ret_int Hr.out.symm, rfl⟩
  · have Hr := Lib.hid (kind_white c h1)
    have H1 := Lib.hid h1
    clear h1
    go_enter Try.func21, Try.ntmps21
    go_wp2_with fail
    refine (in_any _ _ _ (by decide)).mono ?_
    rintro e w1 ⟨rfl, rfl⟩
    rw [H1.out]
    go_wp2_with fail
    go_ret
    exact ⟨ret_int Hr.out.symm, rfl⟩

end Go.Proofs.Ytnjmapgmodoodaa
