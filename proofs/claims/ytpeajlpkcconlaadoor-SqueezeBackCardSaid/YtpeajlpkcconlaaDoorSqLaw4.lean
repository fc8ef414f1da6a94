/-
  The walk of the law that what is deflated is told again.
-/
import Derived.Test.YtpeajlpkcconlaaDoorSqLaw1
import Derived.Test.YtpeajlpkcconlaaDoorHBack
import Derived.Test.YtpeajlpkcconlaaDoorInflate
namespace Go.Proofs.YtpeajlpkcconlaaDoor
open Go.RowKit
set_option maxRecDepth 100000
/-- What is deflated is told again. -/
theorem again_is (s U : ByteArray) (w : World) (hU : U.size ≤ 10000) (hs : s.size ≤ 5000) (hL : Laid w) {z : List UInt8} (hz : z = U.data.toList) (h : inflZ z (s.data.toList.length : Int) = (s.data.toList, z.length, 0)) :
    Calls Tryd.prog 14 #[.string U, .int .i64 (s.size : Int)] w fun en w' => en = .returned (.tuple #[.string s, .int .i64 (U.size : Int), .int .i64 0]) ∧ Below w.heap.size w w' := by
  subst hz
  rw [← size_data, ← size_data] at h
  have h2 := inflate_is U (s.size : Int) w hU (by omega) hL h
  rwa [← bytes_eq rfl] at h2
set_option maxHeartbeats 4000000 in
theorem back_walk (s : ByteArray) (w : World) (hs : s.size ≤ maxLen) (hl : LaidQ w) (hi : Laid w) : Calls Tryd.prog 5 #[.string s] w (Yes w) := by
  unfold maxLen at hs
  have HL := Lib.hid hl
  have HI := Lib.hid hi
  clear hl hi
  by_cases hbig : (5000 : Int) < (s.size : Int)
  · have HS := Lib.hid (squeezed_is w HL.out)
    go_enter Tryd.func5, Tryd.ntmps5
    go_wp2_with fail
    refine HS.out.mono ?_
    rintro e w1 ⟨rfl, hb⟩
    have Hb1 := Lib.hid hb
    clear hb
    go_wp2_with fail
    go_ret
    exact ⟨rfl, Hb1.out⟩
  · have hs5 : s.size ≤ 5000 := by omega
    have hl5 : s.data.toList.length ≤ 5000 := by rw [← size_data]; exact hs5
    obtain ⟨U, hU⟩ : ∃ U, bytes (storedZ s.data.toList) = U := ⟨_, rfl⟩
    have hu : storedZ s.data.toList = U.data.toList := by rw [← hU, bytes_data]
    obtain ⟨V, hV⟩ : ∃ V, bytes (fixedZ s.data.toList) = V := ⟨_, rfl⟩
    have hv : fixedZ s.data.toList = V.data.toList := by rw [← hV, bytes_data]
    obtain ⟨X, hX⟩ : ∃ X, bytes (bestZ s.data.toList) = X := ⟨_, rfl⟩
    have hx : bestZ s.data.toList = X.data.toList := by rw [← hX, bytes_data]
    have n1 := storedZ_length s.data.toList
    have n2 := fixed_size s.data.toList
    have n3 := (bestZ_le s.data.toList).2
    have z1 : U.size ≤ 10000 := by rw [size_data, ← hu]; omega
    have z2 : V.size ≤ 10000 := by rw [size_data, ← hv]; omega
    have z3 : X.size ≤ 10000 := by rw [size_data, ← hx]; omega
    have H1 := Lib.hid (qstored_is s w (by omega) hu)
    have H2 := Lib.hid (fun W (hW : Below w.heap.size w W) => fixed_is s W (by omega) (HL.out.later hW) hv)
    have H3 := Lib.hid (fun W (hW : Below w.heap.size w W) => best_is s W (by omega) (HL.out.later hW) hx)
    have A1 := Lib.hid (fun W (hW : Below w.heap.size w W) => again_is s U W z1 hs5 (HI.out.later hW) hu (stored_back (by omega)))
    have A2 := Lib.hid (fun W (hW : Below w.heap.size w W) => again_is s V W z2 hs5 (HI.out.later hW) hv (fixed_back (by omega)))
    have A3 := Lib.hid (fun W (hW : Below w.heap.size w W) => again_is s X W z3 hs5 (HI.out.later hW) hx (best_back (by omega)))
    clear hU hu hV hv hX hx n1 n2 n3 hl5
    go_enter Tryd.func5, Tryd.ntmps5
    go_wp2_with fail
    refine H1.out.mono ?_
    rintro e w1 ⟨rfl, hb⟩
    have Hb1 := Lib.hid hb
    clear hb
    go_wp2_with fail
    refine (H2.out _ Hb1.out).mono ?_
    rintro e w2 ⟨rfl, hb⟩
    have Hb2 := Lib.hid (Hb1.out.trans (hb.mono Hb1.out.size))
    clear hb
    go_wp2_with fail
    refine (H3.out _ Hb2.out).mono ?_
    rintro e w3 ⟨rfl, hb⟩
    have Hb3 := Lib.hid (Hb2.out.trans (hb.mono Hb2.out.size))
    clear hb
    go_wp2_with fail
    refine (A1.out _ Hb3.out).mono ?_
    rintro e w4 ⟨rfl, hb⟩
    have Hb4 := Lib.hid (Hb3.out.trans (hb.mono Hb3.out.size))
    clear hb
    go_wp2_with fail
    refine (A2.out _ Hb4.out).mono ?_
    rintro e w5 ⟨rfl, hb⟩
    have Hb5 := Lib.hid (Hb4.out.trans (hb.mono Hb4.out.size))
    clear hb
    go_wp2_with fail
    refine (A3.out _ Hb5.out).mono ?_
    rintro e w6 ⟨rfl, hb⟩
    have Hb6 := Lib.hid (Hb5.out.trans (hb.mono Hb5.out.size))
    have HS := Lib.hid (squeezed_is w6 (HL.out.later Hb6.out))
    clear hb
    go_wp2_with fail
    refine HS.out.mono ?_
    rintro e w7 ⟨rfl, hb⟩
    have Hb7 := Lib.hid (Hb6.out.trans (hb.mono Hb6.out.size))
    clear hb
    go_wp2_with fail
    go_ret
    exact ⟨rfl, Hb7.out⟩
end Go.Proofs.YtpeajlpkcconlaaDoor
