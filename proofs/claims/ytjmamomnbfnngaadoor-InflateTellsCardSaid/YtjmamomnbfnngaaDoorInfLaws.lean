/-
  The walks of the laws of the stage inflate: over the contract of package inflate (inflate_is).
-/
import Derived.Test.YtjmamomnbfnngaaDoorInflate
import Derived.Test.YtjmamomnbfnngaaDoorGPlain
namespace Go.Proofs.YtjmamomnbfnngaaDoor
open Go.RowKit
set_option maxRecDepth 100000
/-- It answers yes, and leaves what lay. -/
def Yes (w : World) (e : Ending) (w' : World) : Prop := e = .returned (.bool true) ∧ Below w.heap.size w w'
theorem inf_is (s u : ByteArray) (most : Int) (w : World) (hs : s.size ≤ 10000) (hm : most ≤ 100000) (hL : Laid w) {n : Nat} {e : Int} (hz : inflZ s.data.toList most = (u.data.toList, n, e)) :
    Calls Tryd.prog 7 #[.string s, .int .i64 most] w fun en w' => en = .returned (.tuple #[.string u, .int .i64 (n : Int), .int .i64 e]) ∧ Below w.heap.size w w' := by
  have h := inflate_is s most w hs hm hL hz
  rwa [← bytes_eq rfl] at h
theorem inflZ_text (l : List UInt8) (most : Int) : ∃ (u : ByteArray) (n : Nat) (e : Int), inflZ l most = (u.data.toList, n, e) := ⟨bytes (inflZ l most).1, (inflZ l most).2.1, (inflZ l most).2.2, by rw [bytes_data]⟩

set_option maxHeartbeats 1000000 in
theorem blocks_any (w : World) (hl : Laid w) : Calls Tryd.prog 6 #[] w (Yes w) := by
  have HL := Lib.hid hl
  clear hl
  go_enter Tryd.func6, Tryd.ntmps6
  go_wp2_with fail
  refine (inf_is _ _ _ _ (by decide) (by decide) HL.out ex_i1).mono ?_
  rintro e w1 ⟨rfl, hb⟩
  have Hb1 := Lib.hid hb
  clear hb
  go_wp2_with fail
  refine (inf_is _ _ _ _ (by decide) (by decide) (HL.out.later Hb1.out) ex_i2).mono ?_
  rintro e w2 ⟨rfl, hb⟩
  have Hb2 := Lib.hid (Hb1.out.trans (hb.mono Hb1.out.size))
  clear hb
  go_wp2_with fail
  refine (inf_is _ _ _ _ (by decide) (by decide) (HL.out.later Hb2.out) ex_i3).mono ?_
  rintro e w3 ⟨rfl, hb⟩
  have Hb3 := Lib.hid (Hb2.out.trans (hb.mono Hb2.out.size))
  clear hb
  go_wp2_with fail
  refine (inf_is _ _ _ _ (by decide) (by decide) (HL.out.later Hb3.out) ex_i4).mono ?_
  rintro e w4 ⟨rfl, hb⟩
  have Hb4 := Lib.hid (Hb3.out.trans (hb.mono Hb3.out.size))
  clear hb
  go_wp2_with fail
  refine (inf_is _ _ _ _ (by decide) (by decide) (HL.out.later Hb4.out) ex_i5).mono ?_
  rintro e w5 ⟨rfl, hb⟩
  have Hb5 := Lib.hid (Hb4.out.trans (hb.mono Hb4.out.size))
  clear hb
  go_wp2_with fail
  go_ret
  exact ⟨rfl, Hb5.out⟩

set_option maxHeartbeats 4000000 in
theorem cut_walk (s more : ByteArray) (cut : Int) (w : World) (hs : s.size ≤ maxLen) (hm : more.size ≤ maxLen) (hc0 : 0 ≤ cut) (hc1 : cut ≤ 65535) (hl : Laid w) : Calls Tryd.prog 4 #[.string s, .string more, .int .u16 cut] w (Yes w) := by
  unfold maxLen at hs hm
  have HL := Lib.hid hl
  clear hl
  by_cases hbig : (2000 : Int) < (s.size : Int) ∨ (¬ (2000 : Int) < (s.size : Int) ∧ (2000 : Int) < (more.size : Int))
  · have HB := Lib.hid (blocks_any w HL.out)
    rcases hbig with g1 | ⟨g1, g2⟩
    all_goals
      go_enter Tryd.func4, Tryd.ntmps4
      go_wp2_with fail
      refine HB.out.mono ?_
      rintro e w1 ⟨rfl, hb⟩
      have Hb := Lib.hid hb
      clear hb
      go_wp2_with fail
      go_ret
      exact ⟨rfl, Hb.out⟩
  · have g1 : ¬ (2000 : Int) < (s.size : Int) := by omega
    have g2 : ¬ (2000 : Int) < (more.size : Int) := by omega
    obtain ⟨u, n, e, hz⟩ := inflZ_text s.data.toList 20000
    have HI := Lib.hid (inf_is s u 20000 w (by omega) (by decide) HL.out hz)
    by_cases he : e = 0
    · subst he
      obtain ⟨hn1, hn2, hcut, hmore⟩ := inflZ_cut (M := 20000) hz
      rw [← size_data] at hn2
      obtain ⟨k, hk⟩ := Int.eq_ofNat_of_zero_le hc0
      subst hk
      obtain ⟨j, hj⟩ : ∃ j, k % n = j := ⟨_, rfl⟩
      have hjn : j < n := by rw [← hj]; exact Nat.mod_lt _ (by omega)
      have hjz : (k : Int) % (n : Int) = (j : Int) := by omega
      have hjz2 : (k : Int).tmod (n : Int) = (j : Int) := by rw [Int.tmod_eq_emod_of_nonneg (by omega)]; exact hjz
      have hn0 : ¬ (n : Int) < 1 := by omega
      have hns : ¬ (s.size : Int) < (n : Int) := by omega
      have hnz : ((n : Int) == 0) = false := by rw [beq_eq_false_iff_ne]; omega
      have hjs : (j : Int) ≤ (s.size : Int) := by omega
      have hns2 : (n : Int) ≤ (s.size : Int) := by omega
      have e1 : (s.extract 0 j).data.toList = s.data.toList.take j := by simp
      have e2 : (s.extract 0 n ++ more).data.toList = s.data.toList.take n ++ more.data.toList := by simp
      have HC1 : Hid (∀ W, Below w.heap.size w W → Calls Tryd.prog 7 #[.string (s.extract 0 j), .int .i64 20000] W fun en w' => en = .returned (.tuple #[.string (ByteArray.mk #[]), .int .i64 0, .int .i64 5]) ∧ Below W.heap.size W w') := Lib.hid fun W hW =>
        inf_is (s.extract 0 j) (ByteArray.mk #[]) 20000 W (by rw [size_data, e1, List.length_take, ← size_data]; omega) (by decide) (HL.out.later hW) (by rw [e1]; exact hcut j hjn)
      have HC2 : Hid (∀ W, Below w.heap.size w W → Calls Tryd.prog 7 #[.string (s.extract 0 n ++ more), .int .i64 20000] W fun en w' => en = .returned (.tuple #[.string u, .int .i64 (n : Int), .int .i64 0]) ∧ Below W.heap.size W w') := Lib.hid fun W hW =>
        inf_is (s.extract 0 n ++ more) u 20000 W (by rw [size_data, e2, List.length_append, List.length_take, ← size_data, ← size_data]; omega) (by decide) (HL.out.later hW) (by rw [e2]; exact hmore more.data.toList)
      clear hz hcut hmore e1 e2 hj
      have hkw : IntKind.i64.wrap (k : Int) = (k : Int) := IntWalk.i64_in _ (by omega)
      go_enter Tryd.func4, Tryd.ntmps4
      go_wp2_with fail
      refine HI.out.mono ?_
      rintro e w1 ⟨rfl, hb⟩
      have Hb1 := Lib.hid hb
      clear hb
      go_wp2_with fail
      refine (HC1.out _ Hb1.out).mono ?_
      rintro e w2 ⟨rfl, hb⟩
      have Hb2 := Lib.hid (Hb1.out.trans (hb.mono Hb1.out.size))
      clear hb
      go_wp2_with fail
      refine (HC2.out _ Hb2.out).mono ?_
      rintro e w3 ⟨rfl, hb⟩
      have Hb3 := Lib.hid (Hb2.out.trans (hb.mono Hb2.out.size))
      have HB := Lib.hid (blocks_any w3 (HL.out.later Hb3.out))
      clear hb
      go_wp2_with fail
      refine HB.out.mono ?_
      rintro e w4 ⟨rfl, hb⟩
      have Hb4 := Lib.hid (Hb3.out.trans (hb.mono Hb3.out.size))
      clear hb
      go_wp2_with fail
      go_ret
      exact ⟨rfl, Hb4.out⟩
    · have hez : (e != 0) = true := by simpa using he
      obtain ⟨hu, hn⟩ := inflZ_none hz he
      have hue : u = ByteArray.mk #[] := by rw [bytes_eq hu]; rfl
      subst hue hn
      clear hz he hu
      go_enter Tryd.func4, Tryd.ntmps4
      go_wp2_with fail
      refine HI.out.mono ?_
      rintro e w1 ⟨rfl, hb⟩
      have Hb1 := Lib.hid hb
      have HB := Lib.hid (blocks_any w1 (HL.out.later hb))
      clear hb
      go_wp2_with fail
      refine HB.out.mono ?_
      rintro e w2 ⟨rfl, hb⟩
      have Hb2 := Lib.hid (Hb1.out.trans (hb.mono Hb1.out.size))
      clear hb
      go_wp2_with fail
      go_ret
      exact ⟨rfl, Hb2.out⟩

set_option maxHeartbeats 4000000 in
theorem room_walk (s : ByteArray) (less more : Int) (w : World) (hs : s.size ≤ maxLen) (hl0 : 0 ≤ less) (hl1 : less ≤ 65535) (hm0 : 0 ≤ more) (hm1 : more ≤ 65535) (hl : Laid w) : Calls Tryd.prog 5 #[.string s, .int .u16 less, .int .u16 more] w (Yes w) := by
  unfold maxLen at hs
  have HL := Lib.hid hl
  clear hl
  by_cases hbig : (2000 : Int) < (s.size : Int)
  · have HB := Lib.hid (blocks_any w HL.out)
    go_enter Tryd.func5, Tryd.ntmps5
    go_wp2_with fail
    refine HB.out.mono ?_
    rintro e w1 ⟨rfl, hb⟩
    have Hb := Lib.hid hb
    clear hb
    go_wp2_with fail
    go_ret
    exact ⟨rfl, Hb.out⟩
  · have g1 : ¬ (2000 : Int) < (s.size : Int) := by omega
    obtain ⟨u, n, e, hz⟩ := inflZ_text s.data.toList 20000
    have HI := Lib.hid (inf_is s u 20000 w (by omega) (by decide) HL.out hz)
    by_cases he : e = 0
    · subst he
      obtain ⟨hroom, hless⟩ := inflZ_room (M := 20000) hz
      have husz : u.size = u.data.toList.length := size_data u
      have hu2 : u.size ≤ 20000 := by
        by_cases h : 20000 < u.data.toList.length
        · have := (hless 20000 h).symm.trans hz
          have h2 := (Prod.mk.inj (Prod.mk.inj this).2).2
          cases h2
        · omega
      obtain ⟨k, hk⟩ := Int.eq_ofNat_of_zero_le hl0
      subst hk
      obtain ⟨mo, hmo⟩ := Int.eq_ofNat_of_zero_le hm0
      subst hmo
      have hcast : (u.size : Int) + (mo : Int) = ((u.size + mo : Nat) : Int) := by omega
      have HC1 : Hid (∀ W, Below w.heap.size w W → Calls Tryd.prog 7 #[.string s, .int .i64 ((u.size : Int) + (mo : Int))] W fun en w' => en = .returned (.tuple #[.string u, .int .i64 (n : Int), .int .i64 0]) ∧ Below W.heap.size W w') := Lib.hid fun W hW =>
        inf_is s u _ W (by omega) (by omega) (HL.out.later hW) (by rw [hcast]; exact hroom _ (by omega))
      have hkw : IntKind.i64.wrap (mo : Int) = (mo : Int) := IntWalk.i64_in _ (by omega)
      have hkw2 : IntKind.i64.wrap (k : Int) = (k : Int) := IntWalk.i64_in _ (by omega)
      by_cases hu0 : u.size = 0
      · obtain rfl : u = ByteArray.mk #[] := by
          have h1 : u.data.toList = [] := List.eq_nil_of_length_eq_zero (by omega)
          rw [bytes_eq h1]; rfl
        have HC1e : Hid (∀ W, Below w.heap.size w W → Calls Tryd.prog 7 #[.string s, .int .i64 (mo : Int)] W fun en w' => en = .returned (.tuple #[.string (ByteArray.mk #[]), .int .i64 (n : Int), .int .i64 0]) ∧ Below W.heap.size W w') := Lib.hid fun W hW =>
          inf_is s (ByteArray.mk #[]) (mo : Int) W (by omega) (by omega) (HL.out.later hW) (hroom _ (by simp))
        clear hz hroom hless husz hcast hu0 hu2 HC1
        go_enter Tryd.func5, Tryd.ntmps5
        go_wp2_with fail
        refine HI.out.mono ?_
        rintro e w1 ⟨rfl, hb⟩
        have Hb1 := Lib.hid hb
        clear hb
        go_wp2_with fail
        refine (HC1e.out _ Hb1.out).mono ?_
        rintro e w2 ⟨rfl, hb⟩
        have Hb2 := Lib.hid (Hb1.out.trans (hb.mono Hb1.out.size))
        have HB := Lib.hid (blocks_any w2 (HL.out.later Hb2.out))
        clear hb
        go_wp2_with fail
        refine HB.out.mono ?_
        rintro e w3 ⟨rfl, hb⟩
        have Hb3 := Lib.hid (Hb2.out.trans (hb.mono Hb2.out.size))
        clear hb
        go_wp2_with fail
        go_ret
        exact ⟨rfl, Hb3.out⟩
      · have hpos : 0 < u.size := by omega
        obtain ⟨j, hj⟩ : ∃ j, k % u.size = j := ⟨_, rfl⟩
        have hjn : j < u.size := by rw [← hj]; exact Nat.mod_lt _ hpos
        have hjz : (k : Int) % (u.size : Int) = (j : Int) := by omega
        have hjz2 : (k : Int).tmod (u.size : Int) = (j : Int) := by rw [Int.tmod_eq_emod_of_nonneg (by omega)]; exact hjz
        have huz : ((u.size : Int) == 0) = false := by rw [beq_eq_false_iff_ne]; omega
        have hub : (u.toList == []) = false := by
          rw [Lib.toList_data]
          cases h : u.data.toList with
          | nil => rw [h] at husz; exact absurd husz hu0
          | cons a t => rfl
        have HC2 : Hid (∀ W, Below w.heap.size w W → Calls Tryd.prog 7 #[.string s, .int .i64 (j : Int)] W fun en w' => en = .returned (.tuple #[.string (ByteArray.mk #[]), .int .i64 0, .int .i64 7]) ∧ Below W.heap.size W w') := Lib.hid fun W hW =>
          inf_is s (ByteArray.mk #[]) (j : Int) W (by omega) (by omega) (HL.out.later hW) (hless j (by rw [← husz]; exact hjn))
        clear hz hroom hless husz hcast hj
        go_enter Tryd.func5, Tryd.ntmps5
        go_wp2_with fail
        refine HI.out.mono ?_
        rintro e w1 ⟨rfl, hb⟩
        have Hb1 := Lib.hid hb
        clear hb
        go_wp2_with fail
        refine (HC1.out _ Hb1.out).mono ?_
        rintro e w2 ⟨rfl, hb⟩
        have Hb2 := Lib.hid (Hb1.out.trans (hb.mono Hb1.out.size))
        clear hb
        go_wp2_with fail
        refine (HC2.out _ Hb2.out).mono ?_
        rintro e w3 ⟨rfl, hb⟩
        have Hb3 := Lib.hid (Hb2.out.trans (hb.mono Hb2.out.size))
        have HB := Lib.hid (blocks_any w3 (HL.out.later Hb3.out))
        clear hb
        go_wp2_with fail
        refine HB.out.mono ?_
        rintro e w4 ⟨rfl, hb⟩
        have Hb4 := Lib.hid (Hb3.out.trans (hb.mono Hb3.out.size))
        clear hb
        go_wp2_with fail
        go_ret
        exact ⟨rfl, Hb4.out⟩
    · have hez : (e != 0) = true := by simpa using he
      clear hz he
      go_enter Tryd.func5, Tryd.ntmps5
      go_wp2_with fail
      refine HI.out.mono ?_
      rintro e w1 ⟨rfl, hb⟩
      have Hb1 := Lib.hid hb
      have HB := Lib.hid (blocks_any w1 (HL.out.later hb))
      clear hb
      go_wp2_with fail
      refine HB.out.mono ?_
      rintro e w2 ⟨rfl, hb⟩
      have Hb2 := Lib.hid (Hb1.out.trans (hb.mono Hb1.out.size))
      clear hb
      go_wp2_with fail
      go_ret
      exact ⟨rfl, Hb2.out⟩

end Go.Proofs.YtjmamomnbfnngaaDoor
