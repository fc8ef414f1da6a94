/-
  The walk of the law on bytes that are stored.
-/
import Derived.Test.YtpeajlpkcconlaaDoorSqLaw1
import Derived.Test.YtpeajlpkcconlaaDoorSqRefS
namespace Go.Proofs.YtpeajlpkcconlaaDoor
open Go.RowKit
set_option maxRecDepth 100000
set_option maxHeartbeats 1000000 in
theorem stores_walk (s : ByteArray) (w : World) (hs : s.size ≤ maxLen) (hl : LaidQ w) : Calls Tryd.prog 3 #[.string s] w (Yes w) := by
  unfold maxLen at hs
  have HL := Lib.hid hl
  clear hl
  by_cases hbig : (70000 : Int) < (s.size : Int)
  · have HS := Lib.hid (squeezed_is w HL.out)
    go_enter Tryd.func3, Tryd.ntmps3
    go_wp2_with fail
    refine HS.out.mono ?_
    rintro e w1 ⟨rfl, hb⟩
    have Hb1 := Lib.hid hb
    clear hb
    go_wp2_with fail
    go_ret
    exact ⟨rfl, Hb1.out⟩
  · obtain ⟨U, hU⟩ : ∃ U, bytes (storedZ s.data.toList) = U := ⟨_, rfl⟩
    have hu : storedZ s.data.toList = U.data.toList := by rw [← hU, bytes_data]
    have H1 := Lib.hid (qstored_is s w (by omega) hu)
    have H2 := Lib.hid (fun W => rStored_is s W (by omega) hu)
    clear hU hu
    go_enter Tryd.func3, Tryd.ntmps3
    go_wp2_with fail
    refine H1.out.mono ?_
    rintro e w1 ⟨rfl, hb⟩
    have Hb1 := Lib.hid hb
    clear hb
    go_wp2_with fail
    refine (H2.out _).mono ?_
    rintro e w2 ⟨rfl, hb⟩
    have Hb2 := Lib.hid (Hb1.out.trans (hb.mono Hb1.out.size))
    have HS := Lib.hid (squeezed_is w2 (HL.out.later Hb2.out))
    clear hb
    go_wp2_with fail
    refine HS.out.mono ?_
    rintro e w3 ⟨rfl, hb⟩
    have Hb3 := Lib.hid (Hb2.out.trans (hb.mono Hb2.out.size))
    clear hb
    go_wp2_with fail
    go_ret
    exact ⟨rfl, Hb3.out⟩
end Go.Proofs.YtpeajlpkcconlaaDoor
