/-
  The contract of zwrap.Wrap.
-/
import Derived.Test.YtiiiokikmjgliaaGreatDoorKZt
import Derived.Test.YtiiiokikmjgliaaGreatDoorKSqL
import Derived.Test.YtiiiokikmjgliaaGreatDoorKPlain
import Derived.Test.YtiiiokikmjgliaaGreatDoorKF
import Derived.Test.YtiiiokikmjgliaaGreatDoorKA
namespace Go.Proofs.YtiiiokikmjgliaaGreatDoor
open Go.RowKit
set_option maxRecDepth 100000
set_option maxHeartbeats 1000000 in
theorem wrap_is (s : ByteArray) (w : World) (hs : s.size ≤ 10000) (hL : LaidQ w) {u : ByteArray} (hu : wrapZ s.data.toList = u.data.toList) :
    Calls Tryz.prog 73 #[.string s] w fun en w' => en = .returned (.string u) ∧ Below w.heap.size w w' := by
  obtain ⟨x, hxd⟩ : ∃ x : ByteArray, bestZ s.data.toList = x.data.toList := ⟨bytes (bestZ s.data.toList), by rw [bytes_data]⟩
  obtain ⟨t, htd⟩ : ∃ t : ByteArray, tailZ s.data.toList = t.data.toList := ⟨bytes (tailZ s.data.toList), by rw [bytes_data]⟩
  have hxs : x.size ≤ 20000 := by
    have h1 := (bestZ_le s.data.toList).2
    have h2 := storedZ_length s.data.toList
    rw [size_data, ← hxd]
    rw [size_data] at hs
    omega
  have hts : t.size = 4 := by rw [size_data, ← htd]; exact tailZ_length _
  obtain ⟨r, hr⟩ : ∃ r, aSum s.data.toList = r := ⟨_, rfl⟩
  have hb := aSum_bound s.data.toList
  have hp := put_tail s.data.toList
  rw [htd, hr] at hp
  rw [hr] at hb
  have H1 := Lib.hid (adSum_is s w (by unfold maxLen; omega) hr)
  have H2 := Lib.hid (fun W => fPut_is (r : Int) 4 W (by omega) (by omega) hp)
  have H3 := Lib.hid (fun W (hW : Below w.heap.size w W) => best_is s W (by omega) (hL.later hW) hxd)
  unfold wrapZ at hu
  rw [hxd, htd] at hu
  have Hu := Lib.hid hu
  clear hxd htd hu hr hb hp hL
  go_enter Tryz.func73, Tryz.ntmps73
  go_wp2_with fail
  refine H1.out.mono ?_
  rintro e w1 ⟨rfl, hb⟩
  have Hb1 := Lib.hid hb
  clear hb
  go_wp2_with fail
  refine (H2.out _).mono ?_
  rintro e w2 ⟨rfl, hb⟩
  have Hb2 := Lib.hid (Hb1.out.trans (hb.mono Hb1.out.size))
  clear hb
  go_wp2_with fail
  refine (H3.out _ Hb2.out).mono ?_
  rintro e w3 ⟨rfl, hb⟩
  have Hb3 := Lib.hid (Hb2.out.trans (hb.mono Hb2.out.size))
  clear hb
  go_wp2_with fail
  go_ret
  exact ⟨by rw [← wrap_text Hu.out]; rfl, Hb3.out⟩
end Go.Proofs.YtiiiokikmjgliaaGreatDoor
