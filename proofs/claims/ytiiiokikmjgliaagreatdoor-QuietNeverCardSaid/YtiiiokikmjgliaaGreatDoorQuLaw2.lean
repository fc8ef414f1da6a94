/-
  The walk of the law QuietNever.
-/
import Derived.Test.YtiiiokikmjgliaaGreatDoorKQu
import Derived.Test.YtiiiokikmjgliaaGreatDoorKCoE
namespace Go.Proofs.YtiiiokikmjgliaaGreatDoor
open Go.RowKit
set_option maxRecDepth 100000
theorem never_fits {ks : List Nat} {l : List UInt8} (hch : checkC ks 0 = 0) (hl : l.length ≤ 500) : decFits ks (encKs ks l) (16 * (l.length : Int) + 1024) := by
  obtain ⟨_, _, h4, _, _⟩ := checkC_ok hch
  have h3 := (growC_four (m := ks.length) (n := l.length) h4).2
  have h := encKs_fits ks l (16 * l.length + 1024) (by omega) (fun _ => by omega)
  rwa [show ((16 * l.length + 1024 : Nat) : Int) = 16 * (l.length : Int) + 1024 by omega] at h
theorem never_back {ks : List Nat} {l : List UInt8} (hch : checkC ks 0 = 0) (hl : l.length ≤ 500) : decC ks 0 (encKs ks l) (l.length : Int) = (l, 0) := by
  have h := (coat_back (ks := ks) (l := l) (n := 0) hch hl (fun h => absurd h (by omega))).2.2.1
  rw [show (((0 : Nat) : Int)) = 0 from rfl, encC_plain hch (by omega)] at h
  exact h
set_option maxHeartbeats 4000000 in
theorem qnever_walk (a : Option Addr) (cap : Nat) (xs : List ByteArray) (s : ByteArray) (w : World) (hn : xs.length ≤ 9223372036854775807) (hT : Texts w a xs) (hs : s.size ≤ maxLen) (hl : LaidQ w) (hi : Laid w) (hw : WordsAt w) :
    Calls Tryz.prog 4 #[.slice a xs.length cap, .string s] w (YesQ w) := by
  unfold maxLen at hs
  have HL := Lib.hid hl
  have HI := Lib.hid hi
  have HW := Lib.hid hw
  clear hl hi hw
  have HS := Lib.hid (fun W (hW : Below w.heap.size w W) => hidden_is W (HL.out.later hW) (HW.out.later hW))
  by_cases hbig : (4 : Int) < (xs.length : Int) ∨ (¬ (4 : Int) < (xs.length : Int) ∧ (500 : Int) < (s.size : Int))
  · clear hT
    rcases hbig with g1 | ⟨g1, g2⟩
    all_goals
      go_enter Tryz.func4, Tryz.ntmps4
      go_wp2_with fail
      refine (HS.out w (Below.refl _ _)).mono ?_
      rintro e w1 ⟨rfl, hb⟩
      have Hb := Lib.hid hb
      clear hb
      go_wp2_with fail
      go_ret
      exact ⟨rfl, Hb.out⟩
  · have g1 : ¬ (4 : Int) < (xs.length : Int) := by omega
    have g2 : ¬ (500 : Int) < (s.size : Int) := by omega
    have hl5 : s.data.toList.length ≤ 500 := by rw [← size_data]; omega
    obtain ⟨ys, c, hN⟩ := namesQ_text xs 0 s.data.toList
    have H1 := Lib.hid (names_is a cap xs 0 s w hn hT (by omega) (by omega) (by omega) HL.out HW.out hN)
    by_cases hc : c = 0
    · subst hc
      obtain ⟨hk, hy4, hE, hQ⟩ := namesQ_never hl5 hN
      obtain ⟨u, e, hU⟩ := encC_text (kindsC ys) 0 s.data.toList
      have hus := encC_short hl5 hU
      have hUE := hE.symm.trans hU
      obtain ⟨hu, rfl⟩ := Prod.mk.inj hUE
      have hfit := coat_fits (ks := kindsC ys) (columns := 0) (l := s.data.toList) (m := ys.length) hl5 (kindsC_length ys)
      have hdf := never_fits hk hl5
      have hdb := never_back hk hl5
      rw [hu, ← size_data] at hdf hdb
      rw [hu] at hQ
      have hu1 : u.size ≤ 1000 * 1000 := by rw [size_data]; omega
      have H2 := Lib.hid (fun p d W W2 (hp : Texts W p ys) (hb : Below W.heap.size W W2) (h0 : Below w.heap.size w W2) => encode_is p d ys 0 s W2 (by omega) (hp.later hb) (by omega) (by omega) (by omega) (HL.out.later h0) hfit hU)
      have H3 := Lib.hid (fun p d W W2 (hp : Texts W p ys) (hb : Below W.heap.size W W2) (h0 : Below w.heap.size w W2) => decode_is p d ys 0 u (s.size : Int) W2 (by omega) (hp.later hb) (by rw [size_data]; omega) (by omega) (by omega) (by omega) (HI.out.later h0) (fun _ _ => hdf) hdb)
      have H4 := Lib.hid (fun W (hW : Below w.heap.size w W) => loud_is u W (by omega) (HW.out.later hW) hQ)
      rw [bytes_of] at H2 H3
      clear hN hT hbig hk hE hQ hU hus hUE hfit hdf hdb hu hu1 hl5
      go_enter Tryz.func4, Tryz.ntmps4
      go_wp2_with fail
      refine H1.out.mono ?_
      rintro e w1 ⟨p, cp, rfl, hp, hb⟩
      have Hb1 := Lib.hid hb
      have HP := Lib.hid hp
      clear hb hp
      go_wp2_with fail
      refine (H2.out _ _ _ _ HP.out (Below.refl _ _) Hb1.out).mono ?_
      rintro e w2 ⟨rfl, hb⟩
      have Hb12 := Lib.hid hb
      have Hb2 := Lib.hid (Hb1.out.trans (hb.mono Hb1.out.size))
      clear hb
      go_wp2_with fail
      refine (H3.out _ _ _ _ HP.out Hb12.out Hb2.out).mono ?_
      rintro e w3 ⟨rfl, hb⟩
      have Hb3 := Lib.hid (Hb2.out.trans (hb.mono Hb2.out.size))
      clear hb
      go_wp2_with fail
      refine (H4.out _ Hb3.out).mono ?_
      rintro e w4 ⟨rfl, rfl⟩
      go_wp2_with fail
      refine (HS.out _ Hb3.out).mono ?_
      rintro e w5 ⟨rfl, hb⟩
      have Hb5 := Lib.hid (Hb3.out.trans (hb.mono Hb3.out.size))
      clear hb
      go_wp2_with fail
      go_ret
      exact ⟨rfl, Hb5.out⟩
    · obtain rfl := namesQ_none hN hc
      have hc' : (c != 0) = true := by simpa using hc
      clear hN hT hbig hc hl5
      go_enter Tryz.func4, Tryz.ntmps4
      go_wp2_with fail
      refine H1.out.mono ?_
      rintro e w1 ⟨p, cp, rfl, hp, hb⟩
      have Hb1 := Lib.hid hb
      clear hb hp
      go_wp2_with fail
      refine (HS.out _ Hb1.out).mono ?_
      rintro e w5 ⟨rfl, hb⟩
      have Hb5 := Lib.hid (Hb1.out.trans (hb.mono Hb1.out.size))
      clear hb
      go_wp2_with fail
      go_ret
      exact ⟨rfl, Hb5.out⟩
end Go.Proofs.YtiiiokikmjgliaaGreatDoor
