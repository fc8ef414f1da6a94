/-
  ZwRef, ZwRef2, ZwRef3: texts merged.
-/
import Derived.Test.YtnelbahohkjcnaaGreatDoorKZt
import Derived.Test.YtnelbahohkjcnaaGreatDoorSqLaw3
import Derived.Test.YtnelbahohkjcnaaGreatDoorKInfL
import Derived.Test.YtnelbahohkjcnaaGreatDoorKF
import Derived.Test.YtnelbahohkjcnaaGreatDoorKA
import Derived.Test.YtnelbahohkjcnaaGreatDoorZwUnwrap
import Derived.Deep.RegionWith
/-
  The contracts of the document's Tail, Wrap and Unwrap.
-/
namespace Go.Proofs.YtnelbahohkjcnaaGreatDoor
section
open Go.RowKit
set_option maxRecDepth 100000
theorem rTail_is (s : ByteArray) (w : World) (hs : s.size ≤ maxLen) {u : ByteArray} (hu : tailZ s.data.toList = u.data.toList) :
    Calls Tryz.prog 39 #[.string s] w fun en w' => en = .returned (.string u) ∧ Below w.heap.size w w' := by
  obtain ⟨r, hr⟩ : ∃ r, aSum s.data.toList = r := ⟨_, rfl⟩
  have hb := aSum_bound s.data.toList
  have hp := put_tail s.data.toList
  rw [hu, hr] at hp
  rw [hr] at hb
  have H1 := Lib.hid (rSumA_is s w hs hr)
  have H2 := Lib.hid (fun W => rPutF_is (r : Int) 4 W (by omega) (by omega) hp)
  clear hp hb hr hu
  go_enter Tryz.func39, Tryz.ntmps39
  go_wp2_with fail
  refine H1.out.mono ?_
  rintro e w1 ⟨rfl, rfl⟩
  go_wp2_with fail
  refine (H2.out _).mono ?_
  rintro e w2 ⟨rfl, hb⟩
  have Hb2 := Lib.hid hb
  clear hb
  go_wp2_with fail
  go_ret
  exact ⟨rfl, Hb2.out⟩
theorem headNo_is {a b : Nat} (h : headNo a b = true) : ¬ a % 16 = 8 ∨ (a % 16 = 8 ∧ 7 < a / 16) ∨ (a % 16 = 8 ∧ ¬ 7 < a / 16 ∧ ¬ (256 * a + b) % 31 = 0) ∨ (a % 16 = 8 ∧ ¬ 7 < a / 16 ∧ (256 * a + b) % 31 = 0 ∧ b / 32 % 2 = 1) := by
  have := of_decide_eq_true h
  omega
set_option maxHeartbeats 1000000 in
theorem rUnwrap_neg (s : ByteArray) (most : Int) (w : World) (h0 : most < 0) :
    Calls Tryz.prog 45 #[.string s, .int .i64 most] w fun en w' => en = .returned (.tuple #[.string ⟨#[]⟩, .int .i64 2]) ∧ Below w.heap.size w w' := by
  go_enter Tryz.func45, Tryz.ntmps45
  go_wp2_with fail
  go_ret2
  exact ⟨rfl, Below.refl _ _⟩
theorem rUnwrap_short (s : ByteArray) (most : Int) (w : World) (h0 : ¬ most < 0) (h2 : (s.size : Int) < 2) :
    Calls Tryz.prog 45 #[.string s, .int .i64 most] w fun en w' => en = .returned (.tuple #[.string ⟨#[]⟩, .int .i64 5]) ∧ Below w.heap.size w w' := by
  go_enter Tryz.func45, Tryz.ntmps45
  go_wp2_with fail
  go_ret2
  exact ⟨rfl, Below.refl _ _⟩
set_option maxHeartbeats 1000000 in
theorem rUnwrap_head (s : ByteArray) (most : Int) (w : World) (h0 : ¬ most < 0) (h2 : 2 ≤ s.size) (h3 : headNo s[0].toNat s[1].toNat = true) :
    Calls Tryz.prog 45 #[.string s, .int .i64 most] w fun en w' => en = .returned (.tuple #[.string ⟨#[]⟩, .int .i64 4]) ∧ Below w.heap.size w w' := by
  have h2z : ¬ (s.size : Int) < 2 := by omega
  have q0 : (0 : Int) < (s.size : Int) := by omega
  have q1 : (1 : Int) < (s.size : Int) := by omega
  have la := s[0].toNat_lt
  have lb := s[1].toNat_lt
  obtain ⟨a, ha⟩ : ∃ a, s[0].toNat = a := ⟨_, rfl⟩
  obtain ⟨b, hb⟩ : ∃ b, s[1].toNat = b := ⟨_, rfl⟩
  rw [ha, hb] at h3
  rw [ha] at la
  rw [hb] at lb
  rcases headNo_is h3 with k1 | ⟨k1, k2⟩ | ⟨k1, k2, k3⟩ | ⟨k1, k2, k3, k4⟩
  · have e1 : ((a : Int) % 16 != 8) = true := by rw [bne_iff_ne]; omega
    clear h3 k1
    go_enter Tryz.func45, Tryz.ntmps45
    go_wp2_with fail
    go_region
    all_goals
      go_wp2_with fail
      go_ret2
      exact ⟨rfl, (Below.refl _ _).drew⟩
  · have e1 : ((a : Int) % 16 != 8) = false := by rw [bne_eq_false_iff_eq]; omega
    have e2 : 7 < (a : Int) / 16 := by omega
    clear h3 k1 k2
    go_enter Tryz.func45, Tryz.ntmps45
    go_wp2_with fail
    go_region
    all_goals
      go_wp2_with fail
      go_ret2
      exact ⟨rfl, (Below.refl _ _).drew⟩
  · have e1 : ((a : Int) % 16 != 8) = false := by rw [bne_eq_false_iff_eq]; omega
    have e2 : ¬ 7 < (a : Int) / 16 := by omega
    have e3 : ((256 * (a : Int) + (b : Int)) % 31 != 0) = true := by rw [bne_iff_ne]; omega
    clear h3 k1 k2 k3
    go_enter Tryz.func45, Tryz.ntmps45
    go_wp2_with fail
    go_region
    all_goals
      go_wp2_with fail
      go_ret2
      exact ⟨rfl, (Below.refl _ _).drew⟩
  · have e1 : ((a : Int) % 16 != 8) = false := by rw [bne_eq_false_iff_eq]; omega
    have e2 : ¬ 7 < (a : Int) / 16 := by omega
    have e3 : ((256 * (a : Int) + (b : Int)) % 31 != 0) = false := by rw [bne_eq_false_iff_eq]; omega
    have e4 : ((b : Int) / 32 % 2 == 1) = true := by rw [beq_iff_eq]; omega
    clear h3 k1 k2 k3 k4
    go_enter Tryz.func45, Tryz.ntmps45
    go_wp2_with fail
    go_region
    all_goals
      go_wp2_with fail
      go_ret2
      exact ⟨rfl, (Below.refl _ _).drew⟩
end
end Go.Proofs.YtnelbahohkjcnaaGreatDoor
/-
  The document's Unwrap, behind a good head: one theorem an end.
-/
namespace Go.Proofs.YtnelbahohkjcnaaGreatDoor
section
open Go.RowKit
set_option maxRecDepth 100000
theorem text_no {u s : ByteArray} (h : ¬ u.data.toList = s.data.toList) : (u.toList == s.toList) = false := by rw [Lib.toList_data, Lib.toList_data]; simpa using h
theorem text_yes {u s : ByteArray} (h : u.data.toList = s.data.toList) : (u.toList == s.toList) = true := by rw [Lib.toList_data, Lib.toList_data, h]; simp
set_option maxHeartbeats 1000000 in
theorem rUn_err (s t o : ByteArray) (M n a b : Nat) (w : World) (hs : s.size ≤ 10000) (h2 : 2 ≤ s.size) (ha : s[0].toNat = a) (hb : s[1].toNat = b)
    (g1 : ((a : Int) % 16 != 8) = false) (g2 : decide (7 < (a : Int) / 16) = false) (g3 : ((256 * (a : Int) + (b : Int)) % 31 != 0) = false) (g4 : ((b : Int) / 32 % 2 == 1) = false)
    (Ht : Hid (s.extract 2 s.size = t)) (hn : 2 + n ≤ s.size) {e1 : Int}
    (HI : Hid (∀ W, Calls Tryz.prog 69 #[.string t, .int .i64 (M : Int)] W fun en w' => en = .returned (.tuple #[.string o, .int .i64 (n : Int), .int .i64 e1]) ∧ Below W.heap.size W w'))
    (h1 : (e1 != 0) = true) :
    Calls Tryz.prog 45 #[.string s, .int .i64 (M : Int)] w fun en w' => en = .returned (.tuple #[.string ⟨#[]⟩, .int .i64 e1]) ∧ Below w.heap.size w w' := by
  have h2z : ¬ (s.size : Int) < 2 := by omega
  have h2y : (2 : Int) ≤ (s.size : Int) := by omega
  have q0 : (0 : Int) < (s.size : Int) := by omega
  have q1 : (1 : Int) < (s.size : Int) := by omega
  have la : a < 256 := by rw [← ha]; exact s[0].toNat_lt
  have lb : b < 256 := by rw [← hb]; exact s[1].toNat_lt
  have hnz : 2 + (n : Int) ≤ (s.size : Int) := by omega
  have hnt : (2 + (n : Int)).toNat = 2 + n := by omega
  have m0 : ¬ (M : Int) < 0 := by omega
  go_enter Tryz.func45, Tryz.ntmps45
  go_wp2_with fail
  go_region
  all_goals
    go_wp2_with fail
    rw [Ht.out]
    refine (HI.out _).mono ?_
    rintro e w2 ⟨rfl, hb2⟩
    have Hb2 := Lib.hid ((Below.refl _ _).drew.trans hb2)
    clear hb2
    go_wp2_with fail
    go_ret2
    exact ⟨rfl, Hb2.out⟩
set_option maxHeartbeats 1000000 in
theorem rUn_short (s t o : ByteArray) (M n a b : Nat) (w : World) (hs : s.size ≤ 10000) (h2 : 2 ≤ s.size) (ha : s[0].toNat = a) (hb : s[1].toNat = b)
    (g1 : ((a : Int) % 16 != 8) = false) (g2 : decide (7 < (a : Int) / 16) = false) (g3 : ((256 * (a : Int) + (b : Int)) % 31 != 0) = false) (g4 : ((b : Int) / 32 % 2 == 1) = false)
    (Ht : Hid (s.extract 2 s.size = t)) (hn : 2 + n ≤ s.size) {e1 : Int}
    (HI : Hid (∀ W, Calls Tryz.prog 69 #[.string t, .int .i64 (M : Int)] W fun en w' => en = .returned (.tuple #[.string o, .int .i64 (n : Int), .int .i64 e1]) ∧ Below W.heap.size W w'))
    (h0 : e1 = 0) (k1 : s.size - (2 + n) < 4) :
    Calls Tryz.prog 45 #[.string s, .int .i64 (M : Int)] w fun en w' => en = .returned (.tuple #[.string ⟨#[]⟩, .int .i64 5]) ∧ Below w.heap.size w w' := by
  have h2z : ¬ (s.size : Int) < 2 := by omega
  have h2y : (2 : Int) ≤ (s.size : Int) := by omega
  have q0 : (0 : Int) < (s.size : Int) := by omega
  have q1 : (1 : Int) < (s.size : Int) := by omega
  have la : a < 256 := by rw [← ha]; exact s[0].toNat_lt
  have lb : b < 256 := by rw [← hb]; exact s[1].toNat_lt
  have hnz : 2 + (n : Int) ≤ (s.size : Int) := by omega
  have hnt : (2 + (n : Int)).toNat = 2 + n := by omega
  have m0 : ¬ (M : Int) < 0 := by omega
  subst h0
  have k1z : ((s.size - (2 + n) : Nat) : Int) < 4 := by omega
  clear k1
  go_enter Tryz.func45, Tryz.ntmps45
  go_wp2_with fail
  go_region
  all_goals
    go_wp2_with fail
    rw [Ht.out]
    refine (HI.out _).mono ?_
    rintro e w2 ⟨rfl, hb2⟩
    have Hb2 := Lib.hid ((Below.refl _ _).drew.trans hb2)
    clear hb2
    go_wp2_with fail
    go_ret2
    exact ⟨rfl, Hb2.out⟩
set_option maxHeartbeats 1000000 in
theorem rUn_sum (s t o y : ByteArray) (M n a b : Nat) (w : World) (hs : s.size ≤ 10000) (h2 : 2 ≤ s.size) (ha : s[0].toNat = a) (hb : s[1].toNat = b)
    (g1 : ((a : Int) % 16 != 8) = false) (g2 : decide (7 < (a : Int) / 16) = false) (g3 : ((256 * (a : Int) + (b : Int)) % 31 != 0) = false) (g4 : ((b : Int) / 32 % 2 == 1) = false)
    (Ht : Hid (s.extract 2 s.size = t)) (hn : 2 + n ≤ s.size) {e1 : Int}
    (HI : Hid (∀ W, Calls Tryz.prog 69 #[.string t, .int .i64 (M : Int)] W fun en w' => en = .returned (.tuple #[.string o, .int .i64 (n : Int), .int .i64 e1]) ∧ Below W.heap.size W w'))
    (HT : Hid (∀ W, Calls Tryz.prog 39 #[.string o] W fun en w' => en = .returned (.string y) ∧ Below W.heap.size W w'))
    (h0 : e1 = 0) (k1 : 4 ≤ s.size - (2 + n)) (k2 : (((s.extract (2 + n) s.size).extract 0 4).toList == y.toList) = false) :
    Calls Tryz.prog 45 #[.string s, .int .i64 (M : Int)] w fun en w' => en = .returned (.tuple #[.string ⟨#[]⟩, .int .i64 6]) ∧ Below w.heap.size w w' := by
  have h2z : ¬ (s.size : Int) < 2 := by omega
  have h2y : (2 : Int) ≤ (s.size : Int) := by omega
  have q0 : (0 : Int) < (s.size : Int) := by omega
  have q1 : (1 : Int) < (s.size : Int) := by omega
  have la : a < 256 := by rw [← ha]; exact s[0].toNat_lt
  have lb : b < 256 := by rw [← hb]; exact s[1].toNat_lt
  have hnz : 2 + (n : Int) ≤ (s.size : Int) := by omega
  have hnt : (2 + (n : Int)).toNat = 2 + n := by omega
  have m0 : ¬ (M : Int) < 0 := by omega
  subst h0
  have k1z : ¬ ((s.size - (2 + n) : Nat) : Int) < 4 := by omega
  have k1y : (4 : Int) ≤ ((s.size - (2 + n) : Nat) : Int) := by omega
  go_enter Tryz.func45, Tryz.ntmps45
  go_wp2_with fail
  go_region
  all_goals
    go_wp2_with fail
    rw [Ht.out]
    refine (HI.out _).mono ?_
    rintro e w2 ⟨rfl, hb2⟩
    have Hb2 := Lib.hid ((Below.refl _ _).drew.trans hb2)
    clear hb2
    go_wp2_with fail
    go_region_with (go_at_call 39; refine (HT.out _).mono ?_; rintro e w3 ⟨rfl, hb3⟩)
    all_goals
      go_wp2_with fail
      go_ret2
      exact ⟨rfl, (Hb2.out.drew).trans (hb3.mono Hb2.out.size)⟩
set_option maxHeartbeats 1000000 in
theorem rUn_more (s t o y : ByteArray) (M n a b : Nat) (w : World) (hs : s.size ≤ 10000) (h2 : 2 ≤ s.size) (ha : s[0].toNat = a) (hb : s[1].toNat = b)
    (g1 : ((a : Int) % 16 != 8) = false) (g2 : decide (7 < (a : Int) / 16) = false) (g3 : ((256 * (a : Int) + (b : Int)) % 31 != 0) = false) (g4 : ((b : Int) / 32 % 2 == 1) = false)
    (Ht : Hid (s.extract 2 s.size = t)) (hn : 2 + n ≤ s.size) {e1 : Int}
    (HI : Hid (∀ W, Calls Tryz.prog 69 #[.string t, .int .i64 (M : Int)] W fun en w' => en = .returned (.tuple #[.string o, .int .i64 (n : Int), .int .i64 e1]) ∧ Below W.heap.size W w'))
    (HT : Hid (∀ W, Calls Tryz.prog 39 #[.string o] W fun en w' => en = .returned (.string y) ∧ Below W.heap.size W w'))
    (h0 : e1 = 0) (k1 : 4 < s.size - (2 + n)) (k2 : (((s.extract (2 + n) s.size).extract 0 4).toList == y.toList) = true) :
    Calls Tryz.prog 45 #[.string s, .int .i64 (M : Int)] w fun en w' => en = .returned (.tuple #[.string ⟨#[]⟩, .int .i64 4]) ∧ Below w.heap.size w w' := by
  have h2z : ¬ (s.size : Int) < 2 := by omega
  have h2y : (2 : Int) ≤ (s.size : Int) := by omega
  have q0 : (0 : Int) < (s.size : Int) := by omega
  have q1 : (1 : Int) < (s.size : Int) := by omega
  have la : a < 256 := by rw [← ha]; exact s[0].toNat_lt
  have lb : b < 256 := by rw [← hb]; exact s[1].toNat_lt
  have hnz : 2 + (n : Int) ≤ (s.size : Int) := by omega
  have hnt : (2 + (n : Int)).toNat = 2 + n := by omega
  have m0 : ¬ (M : Int) < 0 := by omega
  subst h0
  have k1z : ¬ ((s.size - (2 + n) : Nat) : Int) < 4 := by omega
  have k1y : (4 : Int) ≤ ((s.size - (2 + n) : Nat) : Int) := by omega
  have k3 : (4 : Int) < ((s.size - (2 + n) : Nat) : Int) := by omega
  go_enter Tryz.func45, Tryz.ntmps45
  go_wp2_with fail
  go_region
  all_goals
    go_wp2_with fail
    rw [Ht.out]
    refine (HI.out _).mono ?_
    rintro e w2 ⟨rfl, hb2⟩
    have Hb2 := Lib.hid ((Below.refl _ _).drew.trans hb2)
    clear hb2
    go_wp2_with fail
    go_region_with (go_at_call 39; refine (HT.out _).mono ?_; rintro e w3 ⟨rfl, hb3⟩)
    all_goals
      go_wp2_with fail
      go_ret2
      exact ⟨rfl, (Hb2.out.drew).trans (hb3.mono Hb2.out.size)⟩
set_option maxHeartbeats 1000000 in
theorem rUn_ok (s t o y : ByteArray) (M n a b : Nat) (w : World) (hs : s.size ≤ 10000) (h2 : 2 ≤ s.size) (ha : s[0].toNat = a) (hb : s[1].toNat = b)
    (g1 : ((a : Int) % 16 != 8) = false) (g2 : decide (7 < (a : Int) / 16) = false) (g3 : ((256 * (a : Int) + (b : Int)) % 31 != 0) = false) (g4 : ((b : Int) / 32 % 2 == 1) = false)
    (Ht : Hid (s.extract 2 s.size = t)) (hn : 2 + n ≤ s.size) {e1 : Int}
    (HI : Hid (∀ W, Calls Tryz.prog 69 #[.string t, .int .i64 (M : Int)] W fun en w' => en = .returned (.tuple #[.string o, .int .i64 (n : Int), .int .i64 e1]) ∧ Below W.heap.size W w'))
    (HT : Hid (∀ W, Calls Tryz.prog 39 #[.string o] W fun en w' => en = .returned (.string y) ∧ Below W.heap.size W w'))
    (h0 : e1 = 0) (k1 : s.size - (2 + n) = 4) (k2 : (((s.extract (2 + n) s.size).extract 0 4).toList == y.toList) = true) :
    Calls Tryz.prog 45 #[.string s, .int .i64 (M : Int)] w fun en w' => en = .returned (.tuple #[.string o, .int .i64 0]) ∧ Below w.heap.size w w' := by
  have h2z : ¬ (s.size : Int) < 2 := by omega
  have h2y : (2 : Int) ≤ (s.size : Int) := by omega
  have q0 : (0 : Int) < (s.size : Int) := by omega
  have q1 : (1 : Int) < (s.size : Int) := by omega
  have la : a < 256 := by rw [← ha]; exact s[0].toNat_lt
  have lb : b < 256 := by rw [← hb]; exact s[1].toNat_lt
  have hnz : 2 + (n : Int) ≤ (s.size : Int) := by omega
  have hnt : (2 + (n : Int)).toNat = 2 + n := by omega
  have m0 : ¬ (M : Int) < 0 := by omega
  subst h0
  have k1z : ¬ ((s.size - (2 + n) : Nat) : Int) < 4 := by omega
  have k1y : (4 : Int) ≤ ((s.size - (2 + n) : Nat) : Int) := by omega
  have k3 : ¬ (4 : Int) < ((s.size - (2 + n) : Nat) : Int) := by omega
  go_enter Tryz.func45, Tryz.ntmps45
  go_wp2_with fail
  go_region
  all_goals
    go_wp2_with fail
    rw [Ht.out]
    refine (HI.out _).mono ?_
    rintro e w2 ⟨rfl, hb2⟩
    have Hb2 := Lib.hid ((Below.refl _ _).drew.trans hb2)
    clear hb2
    go_wp2_with fail
    go_region_with (go_at_call 39; refine (HT.out _).mono ?_; rintro e w3 ⟨rfl, hb3⟩)
    all_goals
      go_wp2_with fail
      go_ret2
      exact ⟨rfl, (Hb2.out.drew).trans (hb3.mono Hb2.out.size)⟩
end
end Go.Proofs.YtnelbahohkjcnaaGreatDoor
/-
  The contract of the document's Unwrap.
-/
namespace Go.Proofs.YtnelbahohkjcnaaGreatDoor
section
open Go.RowKit
set_option maxRecDepth 100000
theorem headNo_not {a b : Nat} (h : ¬ headNo a b = true) : a % 16 = 8 ∧ ¬ 7 < a / 16 ∧ (256 * a + b) % 31 = 0 ∧ ¬ b / 32 % 2 = 1 := by
  have := mt decide_eq_true h
  omega
theorem rUnwrap_is (s u : ByteArray) (most : Int) (w : World) (hs : s.size ≤ 10000) (hm : most ≤ 100000) {e : Int} (hz : unwrapZ s.data.toList most = (u.data.toList, e)) :
    Calls Tryz.prog 45 #[.string s, .int .i64 most] w fun en w' => en = .returned (.tuple #[.string u, .int .i64 e]) ∧ Below w.heap.size w w' := by
  by_cases h0 : most < 0
  · rw [unwrapZ_neg _ h0] at hz
    obtain ⟨hu, rfl⟩ := Prod.mk.inj hz
    obtain rfl := none_of hu
    exact rUnwrap_neg s most w h0
  by_cases h2 : s.size < 2
  · rw [unwrapZ_short (by omega) (by rw [← size_data]; exact h2)] at hz
    obtain ⟨hu, rfl⟩ := Prod.mk.inj hz
    obtain rfl := none_of hu
    exact rUnwrap_short s most w h0 (by omega)
  have h2' : 2 ≤ s.size := by omega
  rw [unwrapZ_two h2' (by omega)] at hz
  by_cases h3 : headNo s[0].toNat s[1].toNat = true
  · rw [if_pos h3] at hz
    obtain ⟨hu, rfl⟩ := Prod.mk.inj hz
    obtain rfl := none_of hu
    exact rUnwrap_head s most w h0 h2' h3
  rw [if_neg h3] at hz
  obtain ⟨k1, k2, k3, k4⟩ := headNo_not h3
  obtain ⟨a, ha⟩ : ∃ a, s[0].toNat = a := ⟨_, rfl⟩
  obtain ⟨b, hb⟩ : ∃ b, s[1].toNat = b := ⟨_, rfl⟩
  rw [ha] at k1 k2 k3
  rw [hb] at k3 k4
  have g1 : ((a : Int) % 16 != 8) = false := by rw [bne_eq_false_iff_eq]; omega
  have g2 : decide (7 < (a : Int) / 16) = false := by rw [decide_eq_false_iff_not]; omega
  have g3 : ((256 * (a : Int) + (b : Int)) % 31 != 0) = false := by rw [bne_eq_false_iff_eq]; omega
  have g4 : ((b : Int) / 32 % 2 == 1) = false := by rw [beq_eq_false_iff_ne]; omega
  obtain ⟨M, rfl⟩ := Int.eq_ofNat_of_zero_le (show 0 ≤ most by omega)
  obtain ⟨t, ht⟩ : ∃ t, s.extract 2 s.size = t := ⟨_, rfl⟩
  have hts : t.size = s.size - 2 := by rw [← ht, ByteArray.size_extract]; omega
  rw [ht] at hz
  obtain ⟨o, n, e1, ho⟩ : ∃ (o : ByteArray) (n : Nat) (e1 : Int), inflZ t.data.toList (M : Int) = (o.data.toList, n, e1) := ⟨bytes (inflZ t.data.toList (M : Int)).1, _, _, by rw [bytes_data]⟩
  obtain ⟨hn, hol⟩ := inflZ_within ho
  rw [ho] at hz
  rw [← size_data] at hn hol
  have hn2 : 2 + n ≤ s.size := by omega
  have HI := Lib.hid (fun W => rInf_is t o (M : Int) W (by omega) hm ho)
  by_cases h1 : e1 = 0
  · subst h1
    have hrl : (s.extract (2 + n) s.size).data.toList = t.data.toList.drop n := by rw [ext_behind, ht]
    have hrs : (s.extract (2 + n) s.size).size = s.size - (2 + n) := by rw [ByteArray.size_extract]; omega
    obtain ⟨hk, hu⟩ := restZ_is hz
    rw [← hrl] at hk
    obtain ⟨y, hyd⟩ : ∃ y : ByteArray, tailZ o.data.toList = y.data.toList := ⟨bytes (tailZ o.data.toList), by rw [bytes_data]⟩
    have HT := Lib.hid (fun W => rTail_is o W (by unfold maxLen; omega) hyd)
    have hx4 : ((s.extract (2 + n) s.size).extract 0 4).data.toList = (s.extract (2 + n) s.size).data.toList.take 4 := ext_first _ 4
    cases hk with
    | short k1 =>
      rw [← size_data, hrs] at k1
      obtain rfl := none_of (u := u) (by rw [hu]; rfl)
      exact rUn_short s t o M n a b w hs h2' ha hb g1 g2 g3 g4 (Lib.hid ht) hn2 HI rfl k1
    | sum k1 k2 =>
      rw [← size_data, hrs] at k1
      rw [hyd, ← hx4] at k2
      obtain rfl := none_of (u := u) (by rw [hu]; rfl)
      exact rUn_sum s t o y M n a b w hs h2' ha hb g1 g2 g3 g4 (Lib.hid ht) hn2 HI HT rfl k1 (text_no k2)
    | more k1 k2 =>
      rw [← size_data, hrs] at k1
      rw [hyd, ← hx4] at k2
      obtain rfl := none_of (u := u) (by rw [hu]; rfl)
      exact rUn_more s t o y M n a b w hs h2' ha hb g1 g2 g3 g4 (Lib.hid ht) hn2 HI HT rfl k1 (text_yes k2)
    | ok k1 k2 =>
      rw [← size_data, hrs] at k1
      rw [hyd, ← hx4] at k2
      obtain rfl : o = u := by
        have hu2 : u.data.toList = o.data.toList := by rw [hu]; rfl
        rw [bytes_eq hu2, bytes_of]
      exact rUn_ok s t o y M n a b w hs h2' ha hb g1 g2 g3 g4 (Lib.hid ht) hn2 HI HT rfl k1 (text_yes k2)
  · rw [restZ_err h1] at hz
    obtain ⟨hu, rfl⟩ := Prod.mk.inj hz
    obtain rfl := none_of hu
    have h1' : (e1 != 0) = true := by simpa using h1
    exact rUn_err s t o M n a b w hs h2' ha hb g1 g2 g3 g4 (Lib.hid ht) hn2 HI h1'
end
end Go.Proofs.YtnelbahohkjcnaaGreatDoor
