/-
  The contracts of package squeeze's Best; what must come at any rate.
-/
import Derived.Test.YtboiljclenikbaaDoorSqFixed
import Derived.Test.YtboiljclenikbaaDoorSqStore
namespace Go.Proofs.YtboiljclenikbaaDoor
open Go.RowKit
set_option maxRecDepth 100000
theorem ex_fixed_a : fixedZ [97] = [75, 4, 0] := by decide +kernel
theorem ex_fixed_aaaa : fixedZ [97, 97, 97, 97] = [75, 4, 2, 0] := by decide +kernel
theorem ex_stored : storedZ [] = [1, 0, 0, 255, 255] := by decide +kernel
theorem ex_best : bestZ [97, 97, 97, 97] = [75, 4, 2, 0] := by decide +kernel
theorem zero_length {l : List UInt8} {u : ByteArray} (h : l = u.data.toList) : l.length = u.size := by rw [h, ← size_data]
set_option maxHeartbeats 1000000 in
theorem best_is (s : ByteArray) (w : World) (hs : s.size ≤ 70000) (hL : LaidQ w) {u : ByteArray} (hu : bestZ s.data.toList = u.data.toList) :
    Calls Tryd.prog 9 #[.string s] w fun en w' => en = .returned (.string u) ∧ Below w.heap.size w w' := by
  have HF := Lib.hid (fixed_is s w hs hL (u := bytes (fixedZ s.data.toList)) (by rw [bytes_data]))
  have HS := Lib.hid (fun W => qstored_is s W (by omega) (u := bytes (storedZ s.data.toList)) (by rw [bytes_data]))
  have h1 : (bytes (fixedZ s.data.toList)).size = (fixedZ s.data.toList).length := bytes_size _
  have h2 : (bytes (storedZ s.data.toList)).size = (storedZ s.data.toList).length := bytes_size _
  unfold bestZ at hu
  by_cases hlt : (fixedZ s.data.toList).length < (storedZ s.data.toList).length
  · rw [if_pos hlt] at hu
    have hub : bytes (fixedZ s.data.toList) = u := (bytes_eq hu.symm).symm
    rw [← h1, ← h2] at hlt
    rw [hub] at HF hlt
    obtain ⟨v, hv⟩ : ∃ v, bytes (storedZ s.data.toList) = v := ⟨_, rfl⟩
    rw [hv] at HS hlt
    have hz : (u.size : Int) < (v.size : Int) := by omega
    clear h1 h2 hu hub hv hlt hL
    go_enter Tryd.func9, Tryd.ntmps9
    go_wp2_with fail
    refine HF.out.mono ?_
    rintro e w1 ⟨rfl, hb⟩
    have HB1 := Lib.hid hb
    clear hb
    go_wp2_with fail
    refine (HS.out _).mono ?_
    rintro e w2 ⟨rfl, hb⟩
    have HB2 := Lib.hid (HB1.out.trans (hb.mono HB1.out.size))
    clear hb
    go_wp2_with fail
    go_ret
    exact ⟨rfl, HB2.out⟩
  · rw [if_neg hlt] at hu
    have hub : bytes (storedZ s.data.toList) = u := (bytes_eq hu.symm).symm
    rw [← h1, ← h2] at hlt
    rw [hub] at HS hlt
    obtain ⟨v, hv⟩ : ∃ v, bytes (fixedZ s.data.toList) = v := ⟨_, rfl⟩
    rw [hv] at HF hlt
    have hz : ¬ (v.size : Int) < (u.size : Int) := by omega
    clear h1 h2 hu hub hv hlt hL
    go_enter Tryd.func9, Tryd.ntmps9
    go_wp2_with fail
    refine HF.out.mono ?_
    rintro e w1 ⟨rfl, hb⟩
    have HB1 := Lib.hid hb
    clear hb
    go_wp2_with fail
    refine (HS.out _).mono ?_
    rintro e w2 ⟨rfl, hb⟩
    have HB2 := Lib.hid (HB1.out.trans (hb.mono HB1.out.size))
    clear hb
    go_wp2_with fail
    go_ret
    exact ⟨rfl, HB2.out⟩
end Go.Proofs.YtboiljclenikbaaDoor
