/-
  The walk of the law QuietTells.
-/
import Derived.Test.YtiiiokikmjgliaaGreatDoorKQu
import Derived.Test.YtiiiokikmjgliaaGreatDoorKQuR
namespace Go.Proofs.YtiiiokikmjgliaaGreatDoor
open Go.RowKit
set_option maxRecDepth 100000
set_option maxHeartbeats 4000000 in
theorem qtells_walk (a : Option Addr) (cap : Nat) (xs : List ByteArray) (columns : Int) (s : ByteArray) (w : World) (hn : xs.length ≤ 9223372036854775807) (hT : Texts w a xs) (ha : a = none → cap = 0) (hs : s.size ≤ maxLen) (hc0 : -9223372036854775808 ≤ columns) (hc1 : columns ≤ 9223372036854775807) (hl : LaidQ w) (hw : WordsAt w) :
    Calls Tryz.prog 3 #[.slice a xs.length cap, .int .i64 columns, .string s] w (YesQ w) := by
  unfold maxLen at hs
  have HL := Lib.hid hl
  have HW := Lib.hid hw
  clear hl hw
  have HS := Lib.hid (fun W (hW : Below w.heap.size w W) => hidden_is W (HL.out.later hW) (HW.out.later hW))
  by_cases hbig : (20 : Int) < (xs.length : Int) ∨ (¬ (20 : Int) < (xs.length : Int) ∧ (200 : Int) < (s.size : Int))
  · clear hT ha
    rcases hbig with g1 | ⟨g1, g2⟩
    all_goals
      go_enter Tryz.func3, Tryz.ntmps3
      go_wp2_with fail
      refine (HS.out w (Below.refl _ _)).mono ?_
      rintro e w1 ⟨rfl, hb⟩
      have Hb := Lib.hid hb
      clear hb
      go_wp2_with fail
      go_ret
      exact ⟨rfl, Hb.out⟩
  · have g1 : ¬ (20 : Int) < (xs.length : Int) := by omega
    have g2 : ¬ (200 : Int) < (s.size : Int) := by omega
    obtain ⟨ys, c, hN⟩ := namesQ_text xs columns s.data.toList
    obtain ⟨r, hr⟩ : ∃ r, loudQ s.data.toList = r := ⟨_, rfl⟩
    have hy : ys.length ≤ 1000 := by
      obtain ⟨o, k, hE⟩ : ∃ o k, encC (kindsC xs) columns s.data.toList = (o, k) := ⟨_, _, rfl⟩
      have : ys.length ≤ xs.length + 1 := by
        by_cases hc : c = 0
        · subst hc
          by_cases hk : k = 0
          · subst hk
            cases hb : loudQ o with
            | false => rw [namesQ_low hE hb] at hN; rw [← (Prod.mk.inj hN).1]; omega
            | true =>
              by_cases h4 : xs.length = 4
              · rw [namesQ_full hE hb h4] at hN; exact absurd (Prod.mk.inj hN).2 (by decide)
              · rw [namesQ_hex hE hb h4] at hN; rw [← (Prod.mk.inj hN).1, List.length_cons]; omega
          · rw [namesQ_err hE hk] at hN; exact absurd (Prod.mk.inj hN).2 hk
        · rw [namesQ_none hN hc]; simp
      omega
    have H1 := Lib.hid (names_is a cap xs columns s w hn hT (by omega) hc0 hc1 HL.out HW.out hN)
    have H2 := Lib.hid (fun W (hW : Below w.heap.size w W) => rNames_is a cap xs columns s W hn (hT.later hW) ha (by omega) hN)
    have H3 := Lib.hid (fun W (hW : Below w.heap.size w W) => loud_is s W (by omega) (HW.out.later hW) hr)
    have H4 := Lib.hid (fun W => rLoud_is s W (by omega) hr)
    have H5 := Lib.hid (fun p q d f W W2 (hp : Texts W p ys) (hb : Below W.heap.size W W2) (hq : Texts W2 q ys) => same_is p q d f ys W2 hy (hp.later hb) hq)
    clear hN hT hbig hr hy ha
    go_enter Tryz.func3, Tryz.ntmps3
    go_wp2_with fail
    refine H1.out.mono ?_
    rintro e w1 ⟨p, cp, rfl, hp, hb⟩
    have Hb1 := Lib.hid hb
    have HP := Lib.hid hp
    clear hb hp
    go_wp2_with fail
    refine (H2.out _ Hb1.out).mono ?_
    rintro e w2 ⟨q, cq, rfl, hq, hb⟩
    have Hb12 := Lib.hid hb
    have Hb2 := Lib.hid (Hb1.out.trans (hb.mono Hb1.out.size))
    have HQ := Lib.hid hq
    clear hb hq
    go_wp2_with fail
    refine (H3.out _ Hb2.out).mono ?_
    rintro e w3 ⟨rfl, rfl⟩
    go_wp2_with fail
    refine (H4.out _).mono ?_
    rintro e w3 ⟨rfl, rfl⟩
    go_wp2_with fail
    refine (H5.out _ _ _ _ _ _ HP.out Hb12.out HQ.out).mono ?_
    rintro e w3 ⟨rfl, hb⟩
    have Hb3 := Lib.hid (Hb2.out.trans (hb.mono Hb2.out.size))
    clear hb
    go_wp2_with fail
    refine (HS.out _ Hb3.out).mono ?_
    rintro e w5 ⟨rfl, hb⟩
    have Hb5 := Lib.hid (Hb3.out.trans (hb.mono Hb3.out.size))
    clear hb
    go_wp2_with fail
    go_ret
    exact ⟨rfl, Hb5.out⟩
end Go.Proofs.YtiiiokikmjgliaaGreatDoor
