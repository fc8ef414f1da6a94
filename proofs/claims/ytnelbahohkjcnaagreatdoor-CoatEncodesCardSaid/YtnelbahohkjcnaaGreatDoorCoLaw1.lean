/-
  The walks of the laws CoatEncodes and CoatDecodes.
-/
import Derived.Test.YtnelbahohkjcnaaGreatDoorKCoE
import Derived.Test.YtnelbahohkjcnaaGreatDoorKCo
import Derived.Test.YtnelbahohkjcnaaGreatDoorKCoR
namespace Go.Proofs.YtnelbahohkjcnaaGreatDoor
open Go.RowKit
set_option maxRecDepth 100000
set_option maxHeartbeats 2000000 in
theorem cencodes_walk (a : Option Addr) (cap : Nat) (xs : List ByteArray) (columns : Int) (s : ByteArray) (w : World) (hn : xs.length ≤ 9223372036854775807) (hT : Texts w a xs) (hs : s.size ≤ maxLen) (hc0 : -9223372036854775808 ≤ columns) (hc1 : columns ≤ 9223372036854775807) (hl : LaidQ w) (hi : Laid w) :
    Calls Tryz.prog 3 #[.slice a xs.length cap, .int .i64 columns, .string s] w (YesC w) := by
  unfold maxLen at hs
  have HL := Lib.hid hl
  have HI := Lib.hid hi
  clear hl hi
  have HS := Lib.hid (fun W (hW : Below w.heap.size w W) => coats_is W (HL.out.later hW) (HI.out.later hW))
  by_cases hbig : (20 : Int) < (xs.length : Int) ∨ (¬ (20 : Int) < (xs.length : Int) ∧ (200 : Int) < (s.size : Int))
  · clear hT
    rcases hbig with g1 | ⟨g1, g2⟩
    all_goals
      go_enter Tryz.func3, Tryz.ntmps3
      go_wp2_with fail
      refine (HS.out w (Below.refl _ _)).mono ?_
      rintro e w1 ⟨rfl, hb⟩
      have Hb := Lib.hid hb
      clear hb
      go_wp2_with fail
      go_ret
      exact ⟨rfl, Hb.out⟩
  · have g1 : ¬ (20 : Int) < (xs.length : Int) := by omega
    have g2 : ¬ (200 : Int) < (s.size : Int) := by omega
    obtain ⟨u, e, hE⟩ := encC_text (kindsC xs) columns s.data.toList
    have hfit := coat_fits (ks := kindsC xs) (columns := columns) (l := s.data.toList) (m := xs.length) (by rw [← size_data]; omega) (kindsC_length xs)
    obtain ⟨ch, hch⟩ : ∃ ch, checkC (kindsC xs) columns = ch := ⟨_, rfl⟩
    have H1 := Lib.hid (encode_is a cap xs columns s w hn hT (by omega) hc0 hc1 HL.out hfit hE)
    have H2 := Lib.hid (fun W (hW : Below w.heap.size w W) => rEncodeC_is a cap xs columns s W hn (hT.later hW) (by omega) hfit hE)
    have H3 := Lib.hid (fun W (hW : Below w.heap.size w W) => coCheck_is a cap xs columns W hn (hT.later hW) hch)
    have H4 := Lib.hid (fun W (hW : Below w.heap.size w W) => rCheckC_is a cap xs columns W hn (hT.later hW) hch)
    rw [bytes_of] at H1 H2
    clear hE hfit hch hT hbig
    go_enter Tryz.func3, Tryz.ntmps3
    go_wp2_with fail
    refine H1.out.mono ?_
    rintro e w1 ⟨rfl, hb⟩
    have Hb1 := Lib.hid hb
    clear hb
    go_wp2_with fail
    refine (H2.out _ Hb1.out).mono ?_
    rintro e w2 ⟨rfl, hb⟩
    have Hb2 := Lib.hid (Hb1.out.trans (hb.mono Hb1.out.size))
    clear hb
    go_wp2_with fail
    refine (H3.out _ Hb2.out).mono ?_
    rintro e w3 ⟨rfl, hb⟩
    have Hb3 := Lib.hid (Hb2.out.trans (hb.mono Hb2.out.size))
    clear hb
    go_wp2_with fail
    refine (H4.out _ Hb3.out).mono ?_
    rintro e w4 ⟨rfl, hb⟩
    have Hb4 := Lib.hid (Hb3.out.trans (hb.mono Hb3.out.size))
    clear hb
    go_wp2_with fail
    refine (HS.out _ Hb4.out).mono ?_
    rintro e w5 ⟨rfl, hb⟩
    have Hb5 := Lib.hid (Hb4.out.trans (hb.mono Hb4.out.size))
    clear hb
    go_wp2_with fail
    go_ret
    exact ⟨rfl, Hb5.out⟩
end Go.Proofs.YtnelbahohkjcnaaGreatDoor
