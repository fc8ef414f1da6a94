/-
  The walks of the laws ZwrapWraps and ZwrapUnwraps.
-/
import Derived.Test.YtboiljclenikbaaGreatDoorZwEx
import Derived.Test.YtboiljclenikbaaGreatDoorHZr
namespace Go.Proofs.YtboiljclenikbaaGreatDoor
open Go.RowKit
set_option maxRecDepth 100000
theorem unwrapZ_text (l : List UInt8) (most : Int) : ∃ (u : ByteArray) (e : Int), unwrapZ l most = (u.data.toList, e) := ⟨bytes (unwrapZ l most).1, (unwrapZ l most).2, by rw [bytes_data]⟩
set_option maxHeartbeats 1000000 in
theorem wraps_walk (s : ByteArray) (w : World) (hs : s.size ≤ maxLen) (hl : LaidQ w) (hi : Laid w) : Calls Tryz.prog 3 #[.string s] w (YesZ w) := by
  unfold maxLen at hs
  have HL := Lib.hid hl
  have HI := Lib.hid hi
  clear hl hi
  by_cases hbig : (300 : Int) < (s.size : Int)
  · have HS := Lib.hid (wrapped_is w HL.out HI.out)
    go_enter Tryz.func3, Tryz.ntmps3
    go_wp2_with fail
    refine HS.out.mono ?_
    rintro e w1 ⟨rfl, hb⟩
    have Hb1 := Lib.hid hb
    clear hb
    go_wp2_with fail
    go_ret
    exact ⟨rfl, Hb1.out⟩
  · obtain ⟨U, hu⟩ : ∃ U : ByteArray, wrapZ s.data.toList = U.data.toList := ⟨bytes (wrapZ s.data.toList), by rw [bytes_data]⟩
    have H1 := Lib.hid (wrap_is s w (by omega) HL.out hu)
    have H2 := Lib.hid (fun W => rWrap_is s W (by omega) hu)
    clear hu
    go_enter Tryz.func3, Tryz.ntmps3
    go_wp2_with fail
    refine H1.out.mono ?_
    rintro e w1 ⟨rfl, hb⟩
    have Hb1 := Lib.hid hb
    clear hb
    go_wp2_with fail
    refine (H2.out _).mono ?_
    rintro e w2 ⟨rfl, hb⟩
    have Hb2 := Lib.hid (Hb1.out.trans (hb.mono Hb1.out.size))
    have HS := Lib.hid (wrapped_is w2 (HL.out.later Hb2.out) (HI.out.later Hb2.out))
    clear hb
    go_wp2_with fail
    refine HS.out.mono ?_
    rintro e w3 ⟨rfl, hb⟩
    have Hb3 := Lib.hid (Hb2.out.trans (hb.mono Hb2.out.size))
    clear hb
    go_wp2_with fail
    go_ret
    exact ⟨rfl, Hb3.out⟩
set_option maxHeartbeats 1000000 in
theorem unwraps_walk (s : ByteArray) (most : Int) (w : World) (hs : s.size ≤ maxLen) (hl : LaidQ w) (hi : Laid w) : Calls Tryz.prog 4 #[.string s, .int .i64 most] w (YesZ w) := by
  unfold maxLen at hs
  have HL := Lib.hid hl
  have HI := Lib.hid hi
  clear hl hi
  by_cases hbig : (400 : Int) < (s.size : Int) ∨ (¬ (400 : Int) < (s.size : Int) ∧ (5000 : Int) < most)
  · have HS := Lib.hid (wrapped_is w HL.out HI.out)
    rcases hbig with g1 | ⟨g1, g2⟩
    all_goals
      go_enter Tryz.func4, Tryz.ntmps4
      go_wp2_with fail
      refine HS.out.mono ?_
      rintro e w1 ⟨rfl, hb⟩
      have Hb := Lib.hid hb
      clear hb
      go_wp2_with fail
      go_ret
      exact ⟨rfl, Hb.out⟩
  · have g1 : ¬ (400 : Int) < (s.size : Int) := by omega
    have g2 : ¬ (5000 : Int) < most := by omega
    obtain ⟨u, e, hz⟩ := unwrapZ_text s.data.toList most
    have H1 := Lib.hid (unwrap_is s u most w (by omega) (by omega) HI.out hz)
    have H2 := Lib.hid (fun W => rUnwrap_is s u most W (by omega) (by omega) hz)
    clear hz hbig
    go_enter Tryz.func4, Tryz.ntmps4
    go_wp2_with fail
    refine H1.out.mono ?_
    rintro e w1 ⟨rfl, hb⟩
    have Hb1 := Lib.hid hb
    clear hb
    go_wp2_with fail
    refine (H2.out _).mono ?_
    rintro e w2 ⟨rfl, hb⟩
    have Hb2 := Lib.hid (Hb1.out.trans (hb.mono Hb1.out.size))
    have HS := Lib.hid (wrapped_is w2 (HL.out.later Hb2.out) (HI.out.later Hb2.out))
    clear hb
    go_wp2_with fail
    refine HS.out.mono ?_
    rintro e w3 ⟨rfl, hb⟩
    have Hb3 := Lib.hid (Hb2.out.trans (hb.mono Hb2.out.size))
    clear hb
    go_wp2_with fail
    go_ret
    exact ⟨rfl, Hb3.out⟩
end Go.Proofs.YtboiljclenikbaaGreatDoor
