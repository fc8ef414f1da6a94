/-
  The contract of the document's Best; the walk of the law on fixed codes.
-/
import Derived.Test.YtpeajlpkcconlaaDoorSqLaw2
import Derived.Test.YtpeajlpkcconlaaDoorSqRefF
namespace Go.Proofs.YtpeajlpkcconlaaDoor
open Go.RowKit
set_option maxRecDepth 100000
set_option maxHeartbeats 1000000 in
theorem rBest_is (s : ByteArray) (w : World) (hs : s.size ≤ 10000) {u : ByteArray} (hu : bestZ s.data.toList = u.data.toList) :
    Calls Tryd.prog 13 #[.string s] w fun en w' => en = .returned (.string u) ∧ Below w.heap.size w w' := by
  have HF := Lib.hid (rFixed11_is s w hs (u := bytes (fixedZ s.data.toList)) (by rw [bytes_data]))
  have HS := Lib.hid (fun W => rStored_is s W (by omega) (u := bytes (storedZ s.data.toList)) (by rw [bytes_data]))
  have h1 : (bytes (fixedZ s.data.toList)).size = (fixedZ s.data.toList).length := bytes_size _
  have h2 : (bytes (storedZ s.data.toList)).size = (storedZ s.data.toList).length := bytes_size _
  unfold bestZ at hu
  by_cases hlt : (fixedZ s.data.toList).length < (storedZ s.data.toList).length
  · rw [if_pos hlt] at hu
    have hub : bytes (fixedZ s.data.toList) = u := (bytes_eq hu.symm).symm
    rw [← h1, ← h2] at hlt
    rw [hub] at HF hlt
    obtain ⟨v, hv⟩ : ∃ v, bytes (storedZ s.data.toList) = v := ⟨_, rfl⟩
    rw [hv] at HS hlt
    have hz : (u.size : Int) < (v.size : Int) := by omega
    clear h1 h2 hu hub hv hlt
    go_enter Tryd.func13, Tryd.ntmps13
    go_wp2_with fail
    refine HF.out.mono ?_
    rintro e w1 ⟨rfl, hb⟩
    have HB1 := Lib.hid hb
    clear hb
    go_wp2_with fail
    refine (HS.out _).mono ?_
    rintro e w2 ⟨rfl, hb⟩
    have HB2 := Lib.hid (HB1.out.trans (hb.mono HB1.out.size))
    clear hb
    go_wp2_with fail
    go_ret
    exact ⟨rfl, HB2.out⟩
  · rw [if_neg hlt] at hu
    have hub : bytes (storedZ s.data.toList) = u := (bytes_eq hu.symm).symm
    rw [← h1, ← h2] at hlt
    rw [hub] at HS hlt
    obtain ⟨v, hv⟩ : ∃ v, bytes (fixedZ s.data.toList) = v := ⟨_, rfl⟩
    rw [hv] at HF hlt
    have hz : ¬ (v.size : Int) < (u.size : Int) := by omega
    clear h1 h2 hu hub hv hlt
    go_enter Tryd.func13, Tryd.ntmps13
    go_wp2_with fail
    refine HF.out.mono ?_
    rintro e w1 ⟨rfl, hb⟩
    have HB1 := Lib.hid hb
    clear hb
    go_wp2_with fail
    refine (HS.out _).mono ?_
    rintro e w2 ⟨rfl, hb⟩
    have HB2 := Lib.hid (HB1.out.trans (hb.mono HB1.out.size))
    clear hb
    go_wp2_with fail
    go_ret
    exact ⟨rfl, HB2.out⟩
set_option maxHeartbeats 1000000 in
theorem fixes_walk (s : ByteArray) (w : World) (hs : s.size ≤ maxLen) (hl : LaidQ w) : Calls Tryd.prog 4 #[.string s] w (Yes w) := by
  unfold maxLen at hs
  have HL := Lib.hid hl
  clear hl
  by_cases hbig : (300 : Int) < (s.size : Int)
  · have HS := Lib.hid (squeezed_is w HL.out)
    go_enter Tryd.func4, Tryd.ntmps4
    go_wp2_with fail
    refine HS.out.mono ?_
    rintro e w1 ⟨rfl, hb⟩
    have Hb1 := Lib.hid hb
    clear hb
    go_wp2_with fail
    go_ret
    exact ⟨rfl, Hb1.out⟩
  · obtain ⟨U, hU⟩ : ∃ U, bytes (fixedZ s.data.toList) = U := ⟨_, rfl⟩
    have hu : fixedZ s.data.toList = U.data.toList := by rw [← hU, bytes_data]
    obtain ⟨V, hV⟩ : ∃ V, bytes (bestZ s.data.toList) = V := ⟨_, rfl⟩
    have hv : bestZ s.data.toList = V.data.toList := by rw [← hV, bytes_data]
    have H1 := Lib.hid (fixed_is s w (by omega) HL.out hu)
    have H2 := Lib.hid (fun W => rFixed11_is s W (by omega) hu)
    have H3 := Lib.hid (fun W (hW : Below w.heap.size w W) => best_is s W (by omega) (HL.out.later hW) hv)
    have H4 := Lib.hid (fun W => rBest_is s W (by omega) hv)
    clear hU hu hV hv
    go_enter Tryd.func4, Tryd.ntmps4
    go_wp2_with fail
    refine H1.out.mono ?_
    rintro e w1 ⟨rfl, hb⟩
    have Hb1 := Lib.hid hb
    clear hb
    go_wp2_with fail
    refine (H2.out _).mono ?_
    rintro e w2 ⟨rfl, hb⟩
    have Hb2 := Lib.hid (Hb1.out.trans (hb.mono Hb1.out.size))
    clear hb
    go_wp2_with fail
    refine (H3.out _ Hb2.out).mono ?_
    rintro e w3 ⟨rfl, hb⟩
    have Hb3 := Lib.hid (Hb2.out.trans (hb.mono Hb2.out.size))
    clear hb
    go_wp2_with fail
    refine (H4.out _).mono ?_
    rintro e w4 ⟨rfl, hb⟩
    have Hb4 := Lib.hid (Hb3.out.trans (hb.mono Hb3.out.size))
    have HS := Lib.hid (squeezed_is w4 (HL.out.later Hb4.out))
    clear hb
    go_wp2_with fail
    refine HS.out.mono ?_
    rintro e w5 ⟨rfl, hb⟩
    have Hb5 := Lib.hid (Hb4.out.trans (hb.mono Hb4.out.size))
    clear hb
    go_wp2_with fail
    go_ret
    exact ⟨rfl, Hb5.out⟩
end Go.Proofs.YtpeajlpkcconlaaDoor
