/-
  The walk of the law QuietJoins.
-/
import Derived.Test.YtiiiokikmjgliaaGreatDoorKQu
namespace Go.Proofs.YtiiiokikmjgliaaGreatDoor
open Go.RowKit
set_option maxRecDepth 100000
theorem joined_data (a b : ByteArray) : (a ++ b).data.toList = a.data.toList ++ b.data.toList := by rw [ByteArray.data_append, Array.toList_append]
theorem loud_joined (a s b : ByteArray) (h : loudQ s.data.toList = true) : loudQ (a ++ s ++ b).data.toList = true := by
  rw [joined_data, joined_data]
  exact loud_part _ _ h
theorem join_size {a s b : ByteArray} (ha : ¬ (500 : Int) < (a.size : Int)) (hs : s.size ≤ 500) (hb : ¬ (500 : Int) < (b.size : Int)) : (a ++ s ++ b).size ≤ 1000000 := by
  rw [ByteArray.size_append, ByteArray.size_append]; omega
set_option maxHeartbeats 4000000 in
theorem qjoins_walk (a s b : ByteArray) (w : World) (hl : LaidQ w) (hw : WordsAt w) :
    Calls Tryz.prog 5 #[.string a, .string s, .string b] w (YesQ w) := by
  have HL := Lib.hid hl
  have HW := Lib.hid hw
  clear hl hw
  have HS := Lib.hid (hidden_is w HL.out HW.out)
  by_cases hbig : (500 : Int) < (a.size : Int) ∨ (¬ (500 : Int) < (a.size : Int) ∧ (500 : Int) < (s.size : Int)) ∨ (¬ (500 : Int) < (a.size : Int) ∧ ¬ (500 : Int) < (s.size : Int) ∧ (500 : Int) < (b.size : Int))
  · rcases hbig with g1 | ⟨g1, g2⟩ | ⟨g1, g2, g3⟩
    all_goals
      go_enter Tryz.func5, Tryz.ntmps5
      go_wp2_with fail
      refine HS.out.mono ?_
      rintro e w1 ⟨rfl, hb⟩
      have Hb := Lib.hid hb
      clear hb
      go_wp2_with fail
      go_ret
      exact ⟨rfl, Hb.out⟩
  · have g1 : ¬ (500 : Int) < (a.size : Int) := by omega
    have g2 : ¬ (500 : Int) < (s.size : Int) := by omega
    have g3 : ¬ (500 : Int) < (b.size : Int) := by omega
    clear hbig
    obtain ⟨r, hr⟩ : ∃ r, loudQ s.data.toList = r := ⟨_, rfl⟩
    have H0 := Lib.hid (loud_is s w (by omega) HW.out hr)
    have H1 := Lib.hid (loud_is (a ++ ⟨#[111, 98, 106]⟩ ++ b) w (join_size g1 (by decide) g3) HW.out (loud_joined a _ b (by decide)))
    have H2 := Lib.hid (loud_is (a ++ ⟨#[120, 114, 101, 102]⟩ ++ b) w (join_size g1 (by decide) g3) HW.out (loud_joined a _ b (by decide)))
    have H3 := Lib.hid (loud_is (a ++ ⟨#[115, 116, 114, 101, 97, 109]⟩ ++ b) w (join_size g1 (by decide) g3) HW.out (loud_joined a _ b (by decide)))
    have HJ := Lib.hid (fun h : loudQ s.data.toList = true => loud_is (a ++ s ++ b) w (join_size g1 (by omega) g3) HW.out (loud_joined a s b h))
    have Hr := Lib.hid hr
    clear hr
    go_enter Tryz.func5, Tryz.ntmps5
    go_wp2_with fail
    refine H0.out.mono ?_
    rintro e w1 ⟨rfl, rfl⟩
    cases r with
    | false =>
      go_wp2_with fail
      refine H1.out.mono ?_
      rintro e w1 ⟨rfl, rfl⟩
      go_wp2_with fail
      refine H2.out.mono ?_
      rintro e w1 ⟨rfl, rfl⟩
      go_wp2_with fail
      refine H3.out.mono ?_
      rintro e w1 ⟨rfl, rfl⟩
      go_wp2_with fail
      refine HS.out.mono ?_
      rintro e w1 ⟨rfl, hb⟩
      have Hb := Lib.hid hb
      clear hb
      go_wp2_with fail
      go_ret
      exact ⟨rfl, Hb.out⟩
    | true =>
      go_wp2_with fail
      refine (HJ.out Hr.out).mono ?_
      rintro e w1 ⟨rfl, rfl⟩
      go_wp2_with fail
      refine H1.out.mono ?_
      rintro e w1 ⟨rfl, rfl⟩
      go_wp2_with fail
      refine H2.out.mono ?_
      rintro e w1 ⟨rfl, rfl⟩
      go_wp2_with fail
      refine H3.out.mono ?_
      rintro e w1 ⟨rfl, rfl⟩
      go_wp2_with fail
      refine HS.out.mono ?_
      rintro e w1 ⟨rfl, hb⟩
      have Hb := Lib.hid hb
      clear hb
      go_wp2_with fail
      go_ret
      exact ⟨rfl, Hb.out⟩
end Go.Proofs.YtiiiokikmjgliaaGreatDoor
