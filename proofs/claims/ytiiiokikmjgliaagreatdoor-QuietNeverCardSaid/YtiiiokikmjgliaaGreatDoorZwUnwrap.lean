/-
  The contract of zwrap.Unwrap.
-/
import Derived.Test.YtiiiokikmjgliaaGreatDoorZwSum
import Derived.Test.YtiiiokikmjgliaaGreatDoorInflate
namespace Go.Proofs.YtiiiokikmjgliaaGreatDoor
open Go.RowKit
set_option maxRecDepth 100000
theorem unwrapZ_head {s : ByteArray} {most : Int} {a b : Nat} (hab : ∀ h : 2 ≤ s.size, s[0].toNat = a ∧ s[1].toNat = b) (h : ¬ headE s most a b = 0) : unwrapZ s.data.toList most = ([], headE s most a b) := by
  unfold headE at h ⊢
  by_cases h0 : most < 0
  · rw [if_pos h0, unwrapZ_neg _ h0]
  · rw [if_neg h0] at h ⊢
    by_cases h2 : s.size < 2
    · rw [if_pos h2, unwrapZ_short (by omega) (by rw [← size_data]; exact h2)]
    · rw [if_neg h2] at h ⊢
      obtain ⟨ha, hb⟩ := hab (by omega)
      rw [unwrapZ_two (by omega) (by omega), ha, hb]
      by_cases h3 : headNo a b = true
      · rw [if_pos h3, if_pos h3]
      · rw [if_neg h3] at h; exact absurd rfl h
theorem unwrapZ_on {s : ByteArray} {most : Int} {a b : Nat} (hab : ∀ h : 2 ≤ s.size, s[0].toNat = a ∧ s[1].toNat = b) (h : headE s most a b = 0) : 0 ≤ most ∧ 2 ≤ s.size ∧ unwrapZ s.data.toList most = restZ (s.extract 2 s.size).data.toList (inflZ (s.extract 2 s.size).data.toList most) := by
  unfold headE at h
  by_cases h0 : most < 0
  · rw [if_pos h0] at h; omega
  · rw [if_neg h0] at h
    by_cases h2 : s.size < 2
    · rw [if_pos h2] at h; omega
    · rw [if_neg h2] at h
      obtain ⟨ha, hb⟩ := hab (by omega)
      refine ⟨by omega, by omega, ?_⟩
      rw [unwrapZ_two (by omega) (by omega), ha, hb]
      by_cases h3 : headNo a b = true
      · rw [if_pos h3] at h; omega
      · rw [if_neg h3]
theorem restZ_sum (l o : List UInt8) (n : Nat) : restZ l (o, n, 0) = (if smE (l.drop n) o = 0 then o else [], smE (l.drop n) o) := by
  unfold restZ smE
  simp only [ne_eq, not_true_eq_false, if_false]
  repeat' split
  all_goals first | rfl | contradiction | omega
theorem head_bytes (s : ByteArray) : ∃ a b, ∀ h : 2 ≤ s.size, s[0].toNat = a ∧ s[1].toNat = b := by
  by_cases h : 2 ≤ s.size
  · exact ⟨s[0].toNat, s[1].toNat, fun _ => ⟨rfl, rfl⟩⟩
  · exact ⟨0, 0, fun h2 => absurd h2 h⟩
theorem none_of {u : ByteArray} (h : [] = u.data.toList) : u = ⟨#[]⟩ := by rw [bytes_eq h.symm]; rfl
set_option maxHeartbeats 1000000 in
theorem unwrap_is (s u : ByteArray) (most : Int) (w : World) (hs : s.size ≤ 10000) (hm : most ≤ 100000) (hL : Laid w) {e : Int} (hz : unwrapZ s.data.toList most = (u.data.toList, e)) :
    Calls Tryz.prog 74 #[.string s, .int .i64 most] w fun en w' => en = .returned (.tuple #[.string u, .int .i64 e]) ∧ Below w.heap.size w w' := by
  obtain ⟨a, b, hab⟩ := head_bytes s
  have HD := Lib.hid (headDemands_is s most w)
  obtain ⟨c, hc⟩ : ∃ c, headE s most a b = c := ⟨_, rfl⟩
  have HF := Lib.hid (headFirst_is s most w a b hab hc)
  by_cases h0 : c = 0
  · subst h0
    obtain ⟨m0, h2, hu⟩ := unwrapZ_on hab hc
    rw [hu] at hz
    obtain ⟨M, rfl⟩ := Int.eq_ofNat_of_zero_le m0
    have hz2 : (2 : Int) ≤ (s.size : Int) := by omega
    obtain ⟨t, ht⟩ : ∃ t, s.extract 2 s.size = t := ⟨_, rfl⟩
    have hts : t.size = s.size - 2 := by rw [← ht, ByteArray.size_extract]; omega
    rw [ht] at hz
    obtain ⟨o, n, e1, ho⟩ : ∃ (o : ByteArray) (n : Nat) (e1 : Int), inflZ t.data.toList (M : Int) = (o.data.toList, n, e1) := ⟨bytes (inflZ t.data.toList (M : Int)).1, _, _, by rw [bytes_data]⟩
    obtain ⟨hn, hol⟩ := inflZ_within ho
    rw [ho] at hz
    rw [← size_data] at hn hol
    have HI := Lib.hid (fun W (hW : Below w.heap.size w W) => inflate_is t (M : Int) W (by omega) hm (hL.later hW) ho)
    rw [← bytes_eq rfl] at HI
    have Ht := Lib.hid ht
    clear ht hab hc hu hL hts
    by_cases h1 : e1 = 0
    · subst h1
      rw [restZ_sum] at hz
      obtain ⟨r, hr⟩ : ∃ r, t.extract n t.size = r := ⟨_, rfl⟩
      have hrl : r.data.toList = t.data.toList.drop n := by rw [← hr, ext_from]
      rw [← hrl] at hz
      obtain ⟨c2, hc2⟩ : ∃ c2, smE r.data.toList o.data.toList = c2 := ⟨_, rfl⟩
      rw [hc2] at hz
      have HD2 := Lib.hid (fun W => sumDemands_is r o W)
      have HF2 := Lib.hid (fun W => sumFirst_is r o W (by unfold maxLen; omega) hc2)
      have Hr := Lib.hid hr
      have hnz : (n : Int) ≤ (t.size : Int) := by omega
      clear hr hrl hc2 ho
      by_cases h3 : c2 = 0
      · subst h3
        rw [if_pos rfl] at hz
        obtain ⟨hu, rfl⟩ := Prod.mk.inj hz
        obtain rfl : o = u := by rw [bytes_eq hu, bytes_of]
        clear hz hu
        go_enter Tryz.func74, Tryz.ntmps74
        go_wp2_with fail
        refine HD.out.mono ?_
        rintro e w1 ⟨rfl, rfl⟩
        go_wp2_with fail
        refine HF.out.mono ?_
        rintro e w1 ⟨rfl, hb⟩
        have Hb := Lib.hid hb
        clear hb
        go_wp2_with fail
        rw [Ht.out]
        refine (HI.out _ Hb.out).mono ?_
        rintro e w2 ⟨rfl, hb⟩
        have Hb2 := Lib.hid (Hb.out.trans (hb.mono Hb.out.size))
        clear hb
        go_wp2_with fail
        rw [Hr.out]
        refine (HD2.out _).mono ?_
        rintro e w3 ⟨rfl, rfl⟩
        go_wp2_with fail
        refine (HF2.out _).mono ?_
        rintro e w3 ⟨rfl, hb⟩
        have Hb3 := Lib.hid (Hb2.out.trans (hb.mono Hb2.out.size))
        clear hb
        go_wp2_with fail
        go_ret2
        exact ⟨rfl, Hb3.out⟩
      · rw [if_neg h3] at hz
        obtain ⟨hu, rfl⟩ := Prod.mk.inj hz
        obtain rfl := none_of hu
        have h3' : (c2 != 0) = true := by simpa using h3
        clear hz hu
        go_enter Tryz.func74, Tryz.ntmps74
        go_wp2_with fail
        refine HD.out.mono ?_
        rintro e w1 ⟨rfl, rfl⟩
        go_wp2_with fail
        refine HF.out.mono ?_
        rintro e w1 ⟨rfl, hb⟩
        have Hb := Lib.hid hb
        clear hb
        go_wp2_with fail
        rw [Ht.out]
        refine (HI.out _ Hb.out).mono ?_
        rintro e w2 ⟨rfl, hb⟩
        have Hb2 := Lib.hid (Hb.out.trans (hb.mono Hb.out.size))
        clear hb
        go_wp2_with fail
        rw [Hr.out]
        refine (HD2.out _).mono ?_
        rintro e w3 ⟨rfl, rfl⟩
        go_wp2_with fail
        refine (HF2.out _).mono ?_
        rintro e w3 ⟨rfl, hb⟩
        have Hb3 := Lib.hid (Hb2.out.trans (hb.mono Hb2.out.size))
        clear hb
        go_wp2_with fail
        go_ret2
        exact ⟨rfl, Hb3.out⟩
    · rw [restZ_err h1] at hz
      obtain ⟨hu, rfl⟩ := Prod.mk.inj hz
      obtain rfl := none_of hu
      have h1' : (e1 != 0) = true := by simpa using h1
      clear hz hu ho
      go_enter Tryz.func74, Tryz.ntmps74
      go_wp2_with fail
      refine HD.out.mono ?_
      rintro e w1 ⟨rfl, rfl⟩
      go_wp2_with fail
      refine HF.out.mono ?_
      rintro e w1 ⟨rfl, hb⟩
      have Hb := Lib.hid hb
      clear hb
      go_wp2_with fail
      rw [Ht.out]
      refine (HI.out _ Hb.out).mono ?_
      rintro e w2 ⟨rfl, hb⟩
      have Hb2 := Lib.hid (Hb.out.trans (hb.mono Hb.out.size))
      clear hb
      go_wp2_with fail
      go_ret2
      exact ⟨rfl, Hb2.out⟩
  · rw [unwrapZ_head hab (by rw [hc]; exact h0), hc] at hz
    obtain ⟨hu, rfl⟩ := Prod.mk.inj hz
    obtain rfl := none_of hu
    have h0' : (c != 0) = true := by simpa using h0
    clear hz hu hab hc
    go_enter Tryz.func74, Tryz.ntmps74
    go_wp2_with fail
    refine HD.out.mono ?_
    rintro e w1 ⟨rfl, rfl⟩
    go_wp2_with fail
    refine HF.out.mono ?_
    rintro e w1 ⟨rfl, hb⟩
    have Hb := Lib.hid hb
    clear hb
    go_wp2_with fail
    go_ret2
    exact ⟨rfl, Hb.out⟩
end Go.Proofs.YtiiiokikmjgliaaGreatDoor
