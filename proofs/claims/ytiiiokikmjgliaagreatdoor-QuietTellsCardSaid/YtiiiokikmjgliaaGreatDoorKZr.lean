/-
  ZwRef: texts merged.
-/
import Derived.Test.YtiiiokikmjgliaaGreatDoorKZt
import Derived.Test.YtiiiokikmjgliaaGreatDoorKSqG
import Derived.Test.YtiiiokikmjgliaaGreatDoorKInfL
import Derived.Test.YtiiiokikmjgliaaGreatDoorKF
import Derived.Test.YtiiiokikmjgliaaGreatDoorKA
/-
  The contracts of the document's Tail, Wrap and Unwrap.
-/
namespace Go.Proofs.YtiiiokikmjgliaaGreatDoor
section
open Go.RowKit
set_option maxRecDepth 100000
theorem rTail_is (s : ByteArray) (w : World) (hs : s.size ≤ maxLen) {u : ByteArray} (hu : tailZ s.data.toList = u.data.toList) :
    Calls Tryz.prog 47 #[.string s] w fun en w' => en = .returned (.string u) ∧ Below w.heap.size w w' := by
  obtain ⟨r, hr⟩ : ∃ r, aSum s.data.toList = r := ⟨_, rfl⟩
  have hb := aSum_bound s.data.toList
  have hp := put_tail s.data.toList
  rw [hu, hr] at hp
  rw [hr] at hb
  have H1 := Lib.hid (rSumA_is s w hs hr)
  have H2 := Lib.hid (fun W => rPutF_is (r : Int) 4 W (by omega) (by omega) hp)
  clear hp hb hr hu
  go_enter Tryz.func47, Tryz.ntmps47
  go_wp2_with fail
  refine H1.out.mono ?_
  rintro e w1 ⟨rfl, rfl⟩
  go_wp2_with fail
  refine (H2.out _).mono ?_
  rintro e w2 ⟨rfl, hb⟩
  have Hb2 := Lib.hid hb
  clear hb
  go_wp2_with fail
  go_ret
  exact ⟨rfl, Hb2.out⟩
set_option maxHeartbeats 1000000 in
theorem rWrap_is (s : ByteArray) (w : World) (hs : s.size ≤ 10000) {u : ByteArray} (hu : wrapZ s.data.toList = u.data.toList) :
    Calls Tryz.prog 30 #[.string s] w fun en w' => en = .returned (.string u) ∧ Below w.heap.size w w' := by
  obtain ⟨x, hx⟩ : ∃ x, bytes (bestZ s.data.toList) = x := ⟨_, rfl⟩
  have hxd : bestZ s.data.toList = x.data.toList := by rw [← hx, bytes_data]
  obtain ⟨t, ht⟩ : ∃ t, bytes (tailZ s.data.toList) = t := ⟨_, rfl⟩
  have htd : tailZ s.data.toList = t.data.toList := by rw [← ht, bytes_data]
  have hxs : x.size ≤ 20000 := by
    have h1 := (bestZ_le s.data.toList).2
    have h2 := storedZ_length s.data.toList
    rw [size_data, ← hxd]
    rw [size_data] at hs
    omega
  have hts : t.size = 4 := by rw [size_data, ← htd]; exact tailZ_length _
  have H1 := Lib.hid (rBest_is s w hs hxd)
  have H2 := Lib.hid (fun W => rTail_is s W (by unfold maxLen; omega) htd)
  unfold wrapZ at hu
  rw [hxd, htd] at hu
  have Hu := Lib.hid hu
  clear hx hxd ht htd hu
  go_enter Tryz.func30, Tryz.ntmps30
  go_wp2_with fail
  refine H1.out.mono ?_
  rintro e w1 ⟨rfl, hb⟩
  have Hb1 := Lib.hid hb
  clear hb
  go_wp2_with fail
  refine (H2.out _).mono ?_
  rintro e w2 ⟨rfl, hb⟩
  have Hb2 := Lib.hid (Hb1.out.trans (hb.mono Hb1.out.size))
  clear hb
  go_wp2_with fail
  go_ret
  exact ⟨by rw [← wrap_text Hu.out]; rfl, Hb2.out⟩
end
end Go.Proofs.YtiiiokikmjgliaaGreatDoor
