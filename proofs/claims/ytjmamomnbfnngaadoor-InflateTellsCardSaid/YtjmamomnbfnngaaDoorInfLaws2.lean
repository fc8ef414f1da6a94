/-
  The walk of the law InflateTells: package inflate and the document's own tell the same.
-/
import Derived.Test.YtjmamomnbfnngaaDoorInfLaws
import Derived.Test.YtjmamomnbfnngaaDoorInfRef12
namespace Go.Proofs.YtjmamomnbfnngaaDoor
open Go.RowKit
set_option maxRecDepth 100000
/-- The document's Inflate, in plain words. -/
theorem rInf_is (s u : ByteArray) (most : Int) (w : World) (hs : s.size ≤ 10000) (hm : most ≤ 100000) {n : Nat} {e : Int} (hz : inflZ s.data.toList most = (u.data.toList, n, e)) :
    Calls Tryd.prog 8 #[.string s, .int .i64 most] w fun en w' => en = .returned (.tuple #[.string u, .int .i64 (n : Int), .int .i64 e]) ∧ Below w.heap.size w w' := by
  by_cases h0 : most < 0
  · unfold inflZ at hz
    rw [if_pos h0] at hz
    obtain ⟨h1, h2⟩ := Prod.mk.inj hz
    obtain ⟨rfl, rfl⟩ := Prod.mk.inj h2
    obtain rfl : u = ⟨#[]⟩ := by rw [bytes_eq h1.symm]; rfl
    exact rInflate_neg s most w h0
  · obtain ⟨M, rfl⟩ := Int.eq_ofNat_of_zero_le (show 0 ≤ most by omega)
    have hst := inflZ_state s.data.toList M
    have hz2 : inflZ s.data.toList (M : Int) = (u.data.toList, n, e) := hz
    rw [hz2] at hst
    have hfl : 8 * s.size + 1 ≤ FUEL := by have : FUEL = 10000000 := rfl; omega
    obtain ⟨fin, hfin⟩ : ∃ fin, inflS s.data.toList M FUEL ⟨0, [], 0⟩ = fin := ⟨_, rfl⟩
    rw [hfin] at hst
    generalize FUEL = fl at hfin hfl
    refine (rInflate_any s M w fl (by omega) (by omega) hfl hfin).mono ?_
    rintro en w' ⟨rfl, hb⟩
    refine ⟨?_, hb⟩
    by_cases hc : fin.code = 0
    · rw [if_neg (by simp [hc])] at hst ⊢
      obtain ⟨h1, h2⟩ := Prod.mk.inj hst
      obtain ⟨rfl, rfl⟩ := Prod.mk.inj h2
      rw [bytes_eq h1]
    · rw [if_pos hc] at hst ⊢
      obtain ⟨h1, h2⟩ := Prod.mk.inj hst
      obtain ⟨rfl, rfl⟩ := Prod.mk.inj h2
      obtain rfl : u = ⟨#[]⟩ := by rw [bytes_eq h1]; rfl
      rfl

set_option maxHeartbeats 4000000 in
theorem tells_walk (s : ByteArray) (most : Int) (w : World) (hs : s.size ≤ maxLen) (hl : Laid w) : Calls Tryd.prog 3 #[.string s, .int .i64 most] w (Yes w) := by
  unfold maxLen at hs
  have HL := Lib.hid hl
  clear hl
  by_cases hbig : (400 : Int) < (s.size : Int) ∨ (¬ (400 : Int) < (s.size : Int) ∧ (5000 : Int) < most)
  · have HB := Lib.hid (blocks_any w HL.out)
    rcases hbig with g1 | ⟨g1, g2⟩
    all_goals
      go_enter Tryd.func3, Tryd.ntmps3
      go_wp2_with fail
      refine HB.out.mono ?_
      rintro e w1 ⟨rfl, hb⟩
      have Hb := Lib.hid hb
      clear hb
      go_wp2_with fail
      go_ret
      exact ⟨rfl, Hb.out⟩
  · have g1 : ¬ (400 : Int) < (s.size : Int) := by omega
    have g2 : ¬ (5000 : Int) < most := by omega
    obtain ⟨u, n, e, hz⟩ := inflZ_text s.data.toList most
    have HI := Lib.hid (inf_is s u most w (by omega) (by omega) HL.out hz)
    have HR := Lib.hid (fun W => rInf_is s u most W (by omega) (by omega) hz)
    clear hz hbig
    go_enter Tryd.func3, Tryd.ntmps3
    go_wp2_with fail
    refine HI.out.mono ?_
    rintro e w1 ⟨rfl, hb⟩
    have Hb1 := Lib.hid hb
    clear hb
    go_wp2_with fail
    refine (HR.out _).mono ?_
    rintro e w2 ⟨rfl, hb⟩
    have Hb2 := Lib.hid (Hb1.out.trans (hb.mono Hb1.out.size))
    have HB := Lib.hid (blocks_any w2 (HL.out.later Hb2.out))
    clear hb
    go_wp2_with fail
    refine HB.out.mono ?_
    rintro e w3 ⟨rfl, hb⟩
    have Hb3 := Lib.hid (Hb2.out.trans (hb.mono Hb2.out.size))
    clear hb
    go_wp2_with fail
    go_ret
    exact ⟨rfl, Hb3.out⟩

end Go.Proofs.YtjmamomnbfnngaaDoor
