/-
  The walks of the laws CoatEncodes and CoatDecodes.
-/
import Derived.Test.YtnelbahohkjcnaaGreatDoorKCoE
import Derived.Test.YtnelbahohkjcnaaGreatDoorKCo
import Derived.Test.YtnelbahohkjcnaaGreatDoorKCoR
namespace Go.Proofs.YtnelbahohkjcnaaGreatDoor
open Go.RowKit
set_option maxRecDepth 100000
set_option maxHeartbeats 2000000 in
theorem cdecodes_walk (a : Option Addr) (cap : Nat) (xs : List ByteArray) (columns : Int) (s : ByteArray) (most : Int) (w : World) (hn : xs.length ≤ 9223372036854775807) (hT : Texts w a xs) (hs : s.size ≤ maxLen) (hc0 : -9223372036854775808 ≤ columns) (hc1 : columns ≤ 9223372036854775807) (hl : LaidQ w) (hi : Laid w) :
    Calls Tryz.prog 4 #[.slice a xs.length cap, .int .i64 columns, .string s, .int .i64 most] w (YesC w) := by
  unfold maxLen at hs
  have HL := Lib.hid hl
  have HI := Lib.hid hi
  clear hl hi
  have HS := Lib.hid (fun W (hW : Below w.heap.size w W) => coats_is W (HL.out.later hW) (HI.out.later hW))
  by_cases hbig : (20 : Int) < (xs.length : Int) ∨ (¬ (20 : Int) < (xs.length : Int) ∧ (400 : Int) < (s.size : Int)) ∨ (¬ (20 : Int) < (xs.length : Int) ∧ ¬ (400 : Int) < (s.size : Int) ∧ (300 : Int) < most)
  · clear hT
    rcases hbig with g1 | ⟨g1, g2⟩ | ⟨g1, g2, g3⟩
    all_goals
      go_enter Tryz.func4, Tryz.ntmps4
      go_wp2_with fail
      refine (HS.out w (Below.refl _ _)).mono ?_
      rintro e w1 ⟨rfl, hb⟩
      have Hb := Lib.hid hb
      clear hb
      go_wp2_with fail
      go_ret
      exact ⟨rfl, Hb.out⟩
  · have g1 : ¬ (20 : Int) < (xs.length : Int) := by omega
    have g2 : ¬ (400 : Int) < (s.size : Int) := by omega
    have g3 : ¬ (300 : Int) < most := by omega
    obtain ⟨u, e, hE⟩ := decC_text (kindsC xs) columns s.data.toList most
    have hfit : checkC (kindsC xs) columns = 0 → 0 ≤ most → decFits (kindsC xs) s.data.toList (16 * most + 1024) := fun _ h0 => by
      obtain ⟨m, rfl⟩ := Int.eq_ofNat_of_zero_le h0
      have h := decFits_room (kindsC xs) s.data.toList (16 * m + 1024) 6000 (by rw [← size_data]; omega) (by omega) (by omega)
      rwa [show ((16 * m + 1024 : Nat) : Int) = 16 * (m : Int) + 1024 by omega] at h
    have H1 := Lib.hid (decode_is a cap xs columns s most w hn hT (by omega) hc0 hc1 (by omega) HI.out hfit hE)
    have H2 := Lib.hid (fun W (hW : Below w.heap.size w W) => rDecodeC_is a cap xs columns s most W hn (hT.later hW) (by omega) hc0 hc1 (by omega) hfit hE)
    rw [bytes_of] at H1 H2
    clear hE hfit hT hbig
    go_enter Tryz.func4, Tryz.ntmps4
    go_wp2_with fail
    refine H1.out.mono ?_
    rintro e w1 ⟨rfl, hb⟩
    have Hb1 := Lib.hid hb
    clear hb
    go_wp2_with fail
    refine (H2.out _ Hb1.out).mono ?_
    rintro e w2 ⟨rfl, hb⟩
    have Hb2 := Lib.hid (Hb1.out.trans (hb.mono Hb1.out.size))
    clear hb
    go_wp2_with fail
    refine (HS.out _ Hb2.out).mono ?_
    rintro e w3 ⟨rfl, hb⟩
    have Hb3 := Lib.hid (Hb2.out.trans (hb.mono Hb2.out.size))
    clear hb
    go_wp2_with fail
    go_ret
    exact ⟨rfl, Hb3.out⟩
end Go.Proofs.YtnelbahohkjcnaaGreatDoor
