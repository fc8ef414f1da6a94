/-
  The contracts of the document's Tail, Wrap and Unwrap.
-/
import Derived.Test.YtboiljclenikbaaGreatDoorHZt
import Derived.Test.YtboiljclenikbaaGreatDoorSqLaw3
import Derived.Test.YtboiljclenikbaaGreatDoorInfLaws2
import Derived.Test.YtboiljclenikbaaGreatDoorHF
import Derived.Test.YtboiljclenikbaaGreatDoorHA
namespace Go.Proofs.YtboiljclenikbaaGreatDoor
open Go.RowKit
set_option maxRecDepth 100000
theorem rTail_is (s : ByteArray) (w : World) (hs : s.size ≤ maxLen) {u : ByteArray} (hu : tailZ s.data.toList = u.data.toList) :
    Calls Tryz.prog 14 #[.string s] w fun en w' => en = .returned (.string u) ∧ Below w.heap.size w w' := by
  obtain ⟨r, hr⟩ : ∃ r, aSum s.data.toList = r := ⟨_, rfl⟩
  have hb := aSum_bound s.data.toList
  have hp := put_tail s.data.toList
  rw [hu, hr] at hp
  rw [hr] at hb
  have H1 := Lib.hid (rSumA_is s w hs hr)
  have H2 := Lib.hid (fun W => rPutF_is (r : Int) 4 W (by omega) (by omega) hp)
  clear hp hb hr hu
  go_enter Tryz.func14, Tryz.ntmps14
  go_wp2_with fail
  refine H1.out.mono ?_
  rintro e w1 ⟨rfl, rfl⟩
  go_wp2_with fail
  refine (H2.out _).mono ?_
  rintro e w2 ⟨rfl, hb⟩
  have Hb2 := Lib.hid hb
  clear hb
  go_wp2_with fail
  go_ret
  exact ⟨rfl, Hb2.out⟩
set_option maxHeartbeats 1000000 in
theorem rWrap_is (s : ByteArray) (w : World) (hs : s.size ≤ 10000) {u : ByteArray} (hu : wrapZ s.data.toList = u.data.toList) :
    Calls Tryz.prog 6 #[.string s] w fun en w' => en = .returned (.string u) ∧ Below w.heap.size w w' := by
  obtain ⟨x, hx⟩ : ∃ x, bytes (bestZ s.data.toList) = x := ⟨_, rfl⟩
  have hxd : bestZ s.data.toList = x.data.toList := by rw [← hx, bytes_data]
  obtain ⟨t, ht⟩ : ∃ t, bytes (tailZ s.data.toList) = t := ⟨_, rfl⟩
  have htd : tailZ s.data.toList = t.data.toList := by rw [← ht, bytes_data]
  have hxs : x.size ≤ 20000 := by
    have h1 := (bestZ_le s.data.toList).2
    have h2 := storedZ_length s.data.toList
    rw [size_data, ← hxd]
    rw [size_data] at hs
    omega
  have hts : t.size = 4 := by rw [size_data, ← htd]; exact tailZ_length _
  have H1 := Lib.hid (rBest_is s w hs hxd)
  have H2 := Lib.hid (fun W => rTail_is s W (by unfold maxLen; omega) htd)
  unfold wrapZ at hu
  rw [hxd, htd] at hu
  have Hu := Lib.hid hu
  clear hx hxd ht htd hu
  go_enter Tryz.func6, Tryz.ntmps6
  go_wp2_with fail
  refine H1.out.mono ?_
  rintro e w1 ⟨rfl, hb⟩
  have Hb1 := Lib.hid hb
  clear hb
  go_wp2_with fail
  refine (H2.out _).mono ?_
  rintro e w2 ⟨rfl, hb⟩
  have Hb2 := Lib.hid (Hb1.out.trans (hb.mono Hb1.out.size))
  clear hb
  go_wp2_with fail
  go_ret
  exact ⟨by rw [← wrap_text Hu.out]; rfl, Hb2.out⟩
theorem headNo_is {a b : Nat} (h : headNo a b = true) : ¬ a % 16 = 8 ∨ (a % 16 = 8 ∧ 7 < a / 16) ∨ (a % 16 = 8 ∧ ¬ 7 < a / 16 ∧ ¬ (256 * a + b) % 31 = 0) ∨ (a % 16 = 8 ∧ ¬ 7 < a / 16 ∧ (256 * a + b) % 31 = 0 ∧ b / 32 % 2 = 1) := by
  have := of_decide_eq_true h
  omega
set_option maxHeartbeats 1000000 in
theorem rUnwrap_neg (s : ByteArray) (most : Int) (w : World) (h0 : most < 0) :
    Calls Tryz.prog 9 #[.string s, .int .i64 most] w fun en w' => en = .returned (.tuple #[.string ⟨#[]⟩, .int .i64 2]) ∧ Below w.heap.size w w' := by
  go_enter Tryz.func9, Tryz.ntmps9
  go_wp2_with fail
  go_ret2
  exact ⟨rfl, Below.refl _ _⟩
theorem rUnwrap_short (s : ByteArray) (most : Int) (w : World) (h0 : ¬ most < 0) (h2 : (s.size : Int) < 2) :
    Calls Tryz.prog 9 #[.string s, .int .i64 most] w fun en w' => en = .returned (.tuple #[.string ⟨#[]⟩, .int .i64 5]) ∧ Below w.heap.size w w' := by
  go_enter Tryz.func9, Tryz.ntmps9
  go_wp2_with fail
  go_ret2
  exact ⟨rfl, Below.refl _ _⟩
set_option maxHeartbeats 1000000 in
theorem rUnwrap_head (s : ByteArray) (most : Int) (w : World) (h0 : ¬ most < 0) (h2 : 2 ≤ s.size) (h3 : headNo s[0].toNat s[1].toNat = true) :
    Calls Tryz.prog 9 #[.string s, .int .i64 most] w fun en w' => en = .returned (.tuple #[.string ⟨#[]⟩, .int .i64 4]) ∧ Below w.heap.size w w' := by
  have h2z : ¬ (s.size : Int) < 2 := by omega
  have q0 : (0 : Int) < (s.size : Int) := by omega
  have q1 : (1 : Int) < (s.size : Int) := by omega
  have la := s[0].toNat_lt
  have lb := s[1].toNat_lt
  obtain ⟨a, ha⟩ : ∃ a, s[0].toNat = a := ⟨_, rfl⟩
  obtain ⟨b, hb⟩ : ∃ b, s[1].toNat = b := ⟨_, rfl⟩
  rw [ha, hb] at h3
  rw [ha] at la
  rw [hb] at lb
  rcases headNo_is h3 with k1 | ⟨k1, k2⟩ | ⟨k1, k2, k3⟩ | ⟨k1, k2, k3, k4⟩
  · have e1 : ((a : Int) % 16 != 8) = true := by rw [bne_iff_ne]; omega
    clear h3 k1
    go_enter Tryz.func9, Tryz.ntmps9
    go_wp2_with fail
    go_region
    all_goals
      go_wp2_with fail
      go_ret2
      exact ⟨rfl, (Below.refl _ _).drew⟩
  · have e1 : ((a : Int) % 16 != 8) = false := by rw [bne_eq_false_iff_eq]; omega
    have e2 : 7 < (a : Int) / 16 := by omega
    clear h3 k1 k2
    go_enter Tryz.func9, Tryz.ntmps9
    go_wp2_with fail
    go_region
    all_goals
      go_wp2_with fail
      go_ret2
      exact ⟨rfl, (Below.refl _ _).drew⟩
  · have e1 : ((a : Int) % 16 != 8) = false := by rw [bne_eq_false_iff_eq]; omega
    have e2 : ¬ 7 < (a : Int) / 16 := by omega
    have e3 : ((256 * (a : Int) + (b : Int)) % 31 != 0) = true := by rw [bne_iff_ne]; omega
    clear h3 k1 k2 k3
    go_enter Tryz.func9, Tryz.ntmps9
    go_wp2_with fail
    go_region
    all_goals
      go_wp2_with fail
      go_ret2
      exact ⟨rfl, (Below.refl _ _).drew⟩
  · have e1 : ((a : Int) % 16 != 8) = false := by rw [bne_eq_false_iff_eq]; omega
    have e2 : ¬ 7 < (a : Int) / 16 := by omega
    have e3 : ((256 * (a : Int) + (b : Int)) % 31 != 0) = false := by rw [bne_eq_false_iff_eq]; omega
    have e4 : ((b : Int) / 32 % 2 == 1) = true := by rw [beq_iff_eq]; omega
    clear h3 k1 k2 k3 k4
    go_enter Tryz.func9, Tryz.ntmps9
    go_wp2_with fail
    go_region
    all_goals
      go_wp2_with fail
      go_ret2
      exact ⟨rfl, (Below.refl _ _).drew⟩
end Go.Proofs.YtboiljclenikbaaGreatDoor
