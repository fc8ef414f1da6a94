/-
  The contracts of the document's Ends, Begins, Stands.
-/
import Derived.Test.YtnjmapgmodoodaaEnds
namespace Go.Proofs.Ytnjmapgmodoodaa
open Go.RowKit

set_option maxHeartbeats 400000 in
theorem refEnds_any (s : ByteArray) (a : Int) (w : World) :
    Calls Try.prog 32 #[.string s, .int .i64 a] w fun e w' => e = .returned (.int .i64 (endsI s.data.toList a)) ∧ w = w' := by
  by_cases h : a < 0
  · have Hr := Lib.hid (endsI_neg s.data.toList a h)
    go_enter Try.func32, Try.ntmps32
    go_wp2_with fail
    go_ret
    exact ⟨ret_int Hr.out.symm, rfl⟩
  · obtain ⟨k, rfl⟩ := Int.eq_ofNat_of_zero_le (show 0 ≤ a by omega)
    rw [endsI_nat]
    by_cases hlt : k < s.size
    · have h0 : 0 < s.size - k := by omega
      have hx : 0 < (s.extract k s.size).size := by rw [ByteArray.size_extract]; omega
      have Hx := Lib.hid (ext_byte s k hlt hx)
      cases hp : preB (s.data.toList.drop k) [13, 10]
      · have ht : (((s.extract k s.size).extract 0 2).toList == [13, 10]) = false := by rw [crlf_eq]; exact hp
        have Hp := Lib.hid hp
        clear hp
        go_enter Try.func32, Try.ntmps32
        go_wp2_with fail
        all_goals
          generalize hc : (((s.extract k s.size)[0]'hx).toNat : Int) = c
          have Hc := Lib.hid hc
          clear hc
          refine (in_any _ _ _ (by decide)).mono ?_
          rintro e w1 ⟨rfl, rfl⟩
          cases hin : inB [13, 10] c
          · have Hin := Lib.hid hin
            clear hin
            go_wp2_with fail
            go_ret
            exact ⟨ret_int (by
              have e1 := Hc.out; rw [Hx.out] at e1
              have e2 : ¬ (c = 13 ∨ c = 10) := fun h => by have := (in_crlf c).2 h; rw [Hin.out] at this; cases this
              rw [endsN_none s k hlt Hp.out (by omega) (by omega)]; rfl), rfl⟩
          · have Hin := Lib.hid hin
            clear hin
            go_wp2_with fail
            go_ret
            exact ⟨ret_int (by
              have e1 := Hc.out; rw [Hx.out] at e1
              have e2 := (in_crlf c).1 Hin.out
              rw [endsN_one s k hlt Hp.out (by omega)]; rfl), rfl⟩
      · have ht : (((s.extract k s.size).extract 0 2).toList == [13, 10]) = true := by rw [crlf_eq]; exact hp
        have h1 : (1 : Int) < ((s.size - k : Nat) : Int) := by have := pre_two s k hp; omega
        have Hr := Lib.hid (endsN_two _ k hp)
        clear hp
        go_enter Try.func32, Try.ntmps32
        go_wp2_with fail
        go_ret
        exact ⟨ret_int (by rw [Hr.out]; rfl), rfl⟩
    · have Hr := Lib.hid (endsN_far s.data.toList k (by simp; omega))
      go_enter Try.func32, Try.ntmps32
      go_wp2_with fail
      go_ret
      exact ⟨ret_int (by rw [Hr.out]; rfl), rfl⟩

end Go.Proofs.Ytnjmapgmodoodaa
