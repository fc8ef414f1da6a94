/-
  CoRef, CoRefE: texts merged.
-/
import Derived.Test.YtiiiokikmjgliaaGreatDoorKCoP
import Derived.Test.YtiiiokikmjgliaaGreatDoorKCoE
import Derived.Test.YtiiiokikmjgliaaGreatDoorKHex
import Derived.Test.YtiiiokikmjgliaaGreatDoorKRunR
import Derived.Test.YtiiiokikmjgliaaGreatDoorKZr
import Derived.Test.YtiiiokikmjgliaaGreatDoorKPrR
/-
  The document's answer on filters: which one a name is, and whether they may be.
-/
namespace Go.Proofs.YtiiiokikmjgliaaGreatDoor
section
open Go.RowKit
set_option maxRecDepth 100000
theorem rKnown_is (x : ByteArray) (w : World) {k : Nat} (hk : knownC x.data.toList = k) :
    Calls Tryz.prog 27 #[.string x] w fun e w' => e = .returned (.int .i64 (k : Int)) ∧ Below w.heap.size w w' := by
  rcases name_cases x with ⟨hx, h⟩ | ⟨hx, h⟩ | ⟨hx, h⟩ | ⟨⟨_, h1⟩, ⟨_, h2⟩, ⟨_, h3⟩, h⟩
  all_goals
    rw [h] at hk
    subst hk
    clear h
    try subst hx
    go_enter Tryz.func27, Tryz.ntmps27
    go_wp2_with fail
    go_ret
    exact ⟨rfl, Below.refl _ _⟩
theorem checkC_early {ks : List Nat} {columns : Int} (h0 : 0 ≤ columns) (h1 : columns ≤ 256) (hz : 0 ∈ ks) : checkC ks columns = 16 := by
  unfold checkC
  rw [if_neg (by omega), if_pos (.inr (.inl hz))]
theorem checkC_many {ks : List Nat} {columns : Int} (h0 : 0 ≤ columns) (h1 : columns ≤ 256) (hz : 4 < ks.length) : checkC ks columns = 16 := by
  unfold checkC
  rw [if_neg (by omega), if_pos (.inl hz)]
def lastC (ks : List Nat) (j : Nat) : Nat := if j = 0 then 0 else (ks[j - 1]?).getD 0
set_option maxHeartbeats 2000000 in
theorem rCheckC_is (a : Option Addr) (cap : Nat) (xs : List ByteArray) (columns : Int) (w : World) (hn : xs.length ≤ 9223372036854775807) (hT : Texts w a xs) {c : Int} (hc : checkC (kindsC xs) columns = c) :
    Calls Tryz.prog 25 #[.slice a xs.length cap, .int .i64 columns] w fun e w' => e = .returned (.int .i64 c) ∧ Below w.heap.size w w' := by
  by_cases hr : columns < 0 ∨ 256 < columns
  · unfold checkC at hc
    rw [if_pos hr] at hc
    subst hc
    clear hT
    rcases hr with h0 | h1
    · go_enter Tryz.func25, Tryz.ntmps25
      go_wp2_with fail
      go_ret
      exact ⟨rfl, Below.refl _ _⟩
    · have h0 : ¬ columns < 0 := by omega
      go_enter Tryz.func25, Tryz.ntmps25
      go_wp2_with fail
      go_ret
      exact ⟨rfl, Below.refl _ _⟩
  · have h0 : ¬ columns < 0 := by omega
    have h1 : ¬ 256 < columns := by omega
    have Hc := Lib.hid hc
    have HT := Lib.hid hT
    clear hc hT hr
    obtain ⟨m, hm⟩ : ∃ m, min xs.length 5 = m := ⟨_, rfl⟩
    go_enter Tryz.func25, Tryz.ntmps25
    go_wp2_with fail
    go_loopg [5, 6] m (fun g s5 s6 wx => ∃ j : Nat, j + g = m ∧ s6 = .int .i64 j ∧ s5 = .int .i64 (lastC (kindsC xs) j : Int) ∧ Aside (∀ i, i < j → ¬ knownC (xs[i]?.getD ByteArray.empty).data.toList = 0) ∧ Below w.heap.size w wx)
    case atStart => exact ⟨0, by omega, rfl, rfl, fun i hi => absurd hi (by omega), Below.refl _ _⟩
    case round =>
      obtain ⟨j, hjg, rfl, rfl, HA, hb⟩ := hrel
      have Hb := Lib.hid hb
      clear hb
      cases gk with
      | zero =>
        obtain rfl : j = m := by omega
        obtain ⟨l, hl⟩ : ∃ l, lastC (kindsC xs) j = l := ⟨_, rfl⟩
        rw [hl]
        by_cases h5 : 5 ≤ xs.length
        · obtain rfl : j = 5 := by omega
          have g1 : ((5 : Nat) : Int) < (xs.length : Int) ∨ ¬ ((5 : Nat) : Int) < (xs.length : Int) := by omega
          have g2 : (4 : Int) < (xs.length : Int) := by omega
          have Hr : Hid (c = 16) := Lib.hid (by
            rw [← Hc.out]
            exact checkC_many (by omega) (by omega) (by rw [kindsC_length]; omega))
          clear hm hl hjg h5
          rcases g1 with g1 | g1
          · go_wp2_with fail
            go_ret
            exact ⟨by rw [Hr.out]; rfl, Hb.out⟩
          · go_wp2_with fail
            go_ret
            exact ⟨by rw [Hr.out]; rfl, Hb.out⟩
        · obtain rfl : j = xs.length := by omega
          have g1 : ¬ (4 : Int) < (xs.length : Int) := by omega
          have hz : ¬ 0 ∈ kindsC xs := fun h => by
            obtain ⟨i, hi, e⟩ := kindsC_zero.1 h
            exact HA.out i hi e
          have hlast : (kindsC xs).getLast? = some 3 ↔ l = 3 := by
            rw [← hl, List.getLast?_eq_getElem?, kindsC_length]
            unfold lastC
            by_cases hx0 : xs.length = 0
            · rw [if_pos hx0]
              obtain rfl : xs = [] := List.eq_nil_of_length_eq_zero hx0
              exact ⟨fun h => (by cases h), fun h => (by cases h)⟩
            · rw [if_neg hx0, kindsC_at (by omega)]
              exact ⟨fun h => Option.some.inj h, fun h => congrArg some h⟩
          have hcc := Hc.out
          unfold checkC at hcc
          rw [if_neg (by omega), kindsC_length] at hcc
          by_cases h3 : columns = 0
          · subst h3
            have Hr : Hid (c = 0) := Lib.hid (by
              rw [if_neg (by rintro (h | h | h); omega; exact hz h; exact h.1 rfl)] at hcc
              exact hcc.symm)
            clear hm hl hjg h5 hlast hz hcc
            go_wp2_with fail
            go_ret
            exact ⟨by rw [Hr.out]; rfl, Hb.out⟩
          · have g2 : 0 < columns := by omega
            by_cases h4 : l = 3
            · subst h4
              have Hr : Hid (c = 0) := Lib.hid (by
                rw [if_neg (by rintro (h | h | h); omega; exact hz h; exact h.2 (hlast.2 rfl))] at hcc
                exact hcc.symm)
              clear hm hl hjg h5 hlast hz hcc
              go_wp2_with fail
              go_ret
              exact ⟨by rw [Hr.out]; rfl, Hb.out⟩
            · have g3 : ((l : Int) != 3) = true := by rw [bne_iff_ne]; omega
              have Hr : Hid (c = 16) := Lib.hid (by
                rw [if_pos (.inr (.inr ⟨h3, fun h => h4 (hlast.1 h)⟩))] at hcc
                exact hcc.symm)
              clear hm hl hjg h5 hlast hz hcc
              go_wp2_with fail
              go_ret
              exact ⟨by rw [Hr.out]; rfl, Hb.out⟩
      | succ g =>
        have hj : j < xs.length := by omega
        have hj5 : (j : Int) < 5 := by omega
        have hjz : (j : Int) < (xs.length : Int) := by omega
        obtain ⟨x, hx⟩ : ∃ x, xs[j]?.getD ByteArray.empty = x := ⟨_, rfl⟩
        obtain ⟨p, off, rfl, hc⟩ := (HT.out.later Hb.out).at j hj
        rw [hx] at hc
        obtain ⟨k, hk⟩ : ∃ k, knownC x.data.toList = k := ⟨_, rfl⟩
        have HU := Lib.hid (rKnown_is x wr hk)
        have Hx := Lib.hid hx
        have Hk := Lib.hid hk
        have Hjg := Lib.hid hjg
        have hlast : lastC (kindsC xs) (j + 1) = k := by
          unfold lastC
          rw [if_neg (by omega), Nat.add_sub_cancel, kindsC_at hj, hx, hk]
          rfl
        have Hl := Lib.hid hlast
        clear hx hk hjg hlast hm
        by_cases hk0 : k = 0
        · subst hk0
          have Hr : Hid (c = 16) := Lib.hid (by
            rw [← Hc.out]
            exact checkC_early (by omega) (by omega) (kindsC_zero.2 ⟨j, hj, by rw [Hx.out]; exact Hk.out⟩))
          go_wp2_with fail
          refine HU.out.mono ?_
          rintro e w1 ⟨rfl, hb⟩
          have Hb1 := Lib.hid (Hb.out.trans (hb.mono Hb.out.size))
          clear hb hc
          go_wp2_with fail
          go_ret
          exact ⟨by rw [Hr.out]; rfl, Hb1.out⟩
        · have hk0' : ((k : Int) == 0) = false := by rw [beq_eq_false_iff_ne]; omega
          go_wp2_with fail
          refine HU.out.mono ?_
          rintro e w1 ⟨rfl, hb⟩
          have Hb1 := Lib.hid (Hb.out.trans (hb.mono Hb.out.size))
          clear hb hc
          go_wp2_with fail
          go_roundg g
          case measure => omega
          case rel => exact ⟨j + 1, by have := Hjg.out; omega, by go_num, by rw [Hl.out], fun i hi => by
            by_cases h : i = j
            · subst h
              rw [Hx.out, Hk.out]
              exact hk0
            · exact HA.out i (by omega), Hb1.out⟩
end
end Go.Proofs.YtiiiokikmjgliaaGreatDoor
/-
  The document's Encode by filters.
-/
namespace Go.Proofs.YtiiiokikmjgliaaGreatDoor
section
open Go.RowKit
set_option maxRecDepth 100000
theorem foldE_at {ks js : List Nat} {j k : Nat} {l : List UInt8} (hk : ks[j]? = some k) : foldE ks (js ++ [j]) l = encK k (foldE ks js l) := by
  rw [foldE_snoc, hk]
  rfl
theorem down_fits {xs : List ByteArray} {l : List UInt8} {m : Nat} (hm : m < xs.length) (hfit : growC (xs.length - 1) l.length ≤ 10000) : (foldE (kindsC xs) (downTo xs.length m) l).length ≤ 10000 := by
  have hg : growC (downTo xs.length m).length l.length ≤ 10000 := by
    rw [downTo_length]
    exact Nat.le_trans (growC_mono_left (by omega) _) hfit
  exact Nat.le_trans (foldE_length (kindsC xs) _ _ (by omega)) hg
set_option maxHeartbeats 4000000 in
theorem rEncodeLoop_is (a : Option Addr) (cap : Nat) (xs : List ByteArray) (columns : Int) (s p : ByteArray) (w : World) (hn : xs.length ≤ 9223372036854775807) (hT : Texts w a xs) (hs : s.size ≤ 100000)
    (hc0 : 0 ≤ columns) (hc1 : columns ≤ 256) (hch : checkC (kindsC xs) columns = 0) (hp : (columns = 0 ∧ p = s) ∨ (0 < columns ∧ encP s.data.toList columns = (p.data.toList, 0)))
    (hfit : growC (xs.length - 1) p.data.toList.length ≤ 10000) :
    Calls Tryz.prog 15 #[.slice a xs.length cap, .int .i64 columns, .string s] w fun e w' => e = .returned (.tuple #[.string (bytes (encKs (kindsC xs) p.data.toList)), .int .i64 0]) ∧ Below w.heap.size w w' := by
  have HC := Lib.hid (rCheckC_is a cap xs columns w hn hT hch)
  obtain ⟨_, _, h4, hz, _⟩ := checkC_ok hch
  rw [kindsC_length] at h4
  have hsz : ¬ (1048576 : Int) < (s.size : Int) := by omega
  have HT := Lib.hid hT
  have Hz := Lib.hid hz
  have Hfit := Lib.hid hfit
  clear hT hz hch hfit
  rcases hp with ⟨rfl, rfl⟩ | ⟨hcp, hp⟩
  · go_enter Tryz.func15, Tryz.ntmps15
    go_wp2_with fail
    refine HC.out.mono ?_
    rintro e w1 ⟨rfl, hb⟩
    have Hb := Lib.hid hb
    clear hb
    go_wp2_with fail
    go_loopg [2, 11] xs.length (fun g s2 s11 wx => ∃ (m : Nat) (i : Int) (t : ByteArray), m + g = xs.length ∧ i + 1 + m = xs.length ∧ s11 = .int .i64 i ∧ s2 = .string t ∧ Aside (foldE (kindsC xs) (downTo xs.length m) p.data.toList = t.data.toList) ∧ Below w.heap.size w wx)
    case atStart => exact ⟨0, _, p, by omega, by omega, rfl, rfl, rfl, Hb.out⟩
    case round =>
      obtain ⟨m, i, t, hmg, hi, rfl, rfl, HA, hb⟩ := hrel
      have Hb := Lib.hid hb
      clear hb
      cases gk with
      | zero =>
        obtain rfl : m = xs.length := by omega
        obtain rfl : i = -1 := by omega
        have Ht : Hid (bytes (encKs (kindsC xs) p.data.toList) = t) := Lib.hid (by
          have h := HA.out
          rw [← kindsC_length, foldE_all] at h
          rw [h, bytes_of])
        go_wp2_with fail
        go_ret2
        exact ⟨by rw [Ht.out]; rfl, Hb.out⟩
      | succ g =>
        obtain ⟨j, hj⟩ : ∃ j, xs.length - 1 - m = j := ⟨_, rfl⟩
        have hjn : j < xs.length := by omega
        obtain rfl : i = (j : Int) := by omega
        have hjz : (j : Int) < (xs.length : Int) := by omega
        obtain ⟨y, hy⟩ : ∃ y, xs[j]?.getD ByteArray.empty = y := ⟨_, rfl⟩
        obtain ⟨q, off, rfl, hcell⟩ := (HT.out.later Hb.out).at j hjn
        rw [hy] at hcell
        obtain ⟨k, hk⟩ : ∃ k, knownC y.data.toList = k := ⟨_, rfl⟩
        have hkj : (kindsC xs)[j]? = some k := by rw [kindsC_at hjn, hy, hk]
        have hk1 : 1 ≤ k := by
          rcases Nat.eq_zero_or_pos k with h | h
          · exact absurd (by rw [← h]; exact List.mem_of_getElem? hkj) Hz.out
          · exact h
        have hk3 : k ≤ 3 := by rw [← hk]; exact knownC_le _
        have hts : t.size ≤ 10000 := by
          have h := down_fits (m := m) (by omega) Hfit.out
          rw [HA.out] at h
          rw [size_data]; exact h
        obtain ⟨u, hu⟩ : ∃ u : ByteArray, encK k t.data.toList = u.data.toList := ⟨bytes (encK k t.data.toList), by rw [bytes_data]⟩
        have Hnext : Hid (foldE (kindsC xs) (downTo xs.length (m + 1)) p.data.toList = u.data.toList) := Lib.hid (by
          rw [downTo_succ, hj, foldE_at hkj, HA.out, hu])
        have HK := Lib.hid (rKnown_is y wr hk)
        have Hmg := Lib.hid hmg
        have Hi := Lib.hid hi
        have hk' : k = 1 ∨ k = 2 ∨ k = 3 := by omega
        clear hy hk hkj hmg hi hj hk1 hk3
        rcases hk' with rfl | rfl | rfl
        · have HM := Lib.hid (fun W => rEncH_any t W (by omega))
          rw [show encH t.data.toList = u.data.toList from hu, bytes_of] at HM
          clear hu
          go_wp2_with fail
          refine HK.out.mono ?_
          rintro e w2 ⟨rfl, hb⟩
          have Hb2 := Lib.hid (Hb.out.trans (hb.mono Hb.out.size))
          clear hb hcell
          go_wp2_with fail
          refine (HM.out _).mono ?_
          rintro e w3 ⟨rfl, hb⟩
          have Hb3 := Lib.hid (Hb2.out.trans (hb.mono Hb2.out.size))
          clear hb
          go_wp2_with fail
          go_roundg g
          case measure => omega
          case rel => exact ⟨m + 1, (j : Int) - 1, u, by have := Hmg.out; omega, by have := Hi.out; omega, rfl, rfl, Hnext.out, Hb3.out⟩
        · have HM := Lib.hid (fun W => rEncR_any t W (by omega))
          rw [show encAll t.data.toList = u.data.toList from hu, bytes_of] at HM
          clear hu
          go_wp2_with fail
          refine HK.out.mono ?_
          rintro e w2 ⟨rfl, hb⟩
          have Hb2 := Lib.hid (Hb.out.trans (hb.mono Hb.out.size))
          clear hb hcell
          go_wp2_with fail
          refine (HM.out _).mono ?_
          rintro e w3 ⟨rfl, hb⟩
          have Hb3 := Lib.hid (Hb2.out.trans (hb.mono Hb2.out.size))
          clear hb
          go_wp2_with fail
          go_roundg g
          case measure => omega
          case rel => exact ⟨m + 1, (j : Int) - 1, u, by have := Hmg.out; omega, by have := Hi.out; omega, rfl, rfl, Hnext.out, Hb3.out⟩
        · have HM := Lib.hid (fun W => rWrap_is t W hts (show wrapZ t.data.toList = u.data.toList from hu))
          clear hu
          go_wp2_with fail
          refine HK.out.mono ?_
          rintro e w2 ⟨rfl, hb⟩
          have Hb2 := Lib.hid (Hb.out.trans (hb.mono Hb.out.size))
          clear hb hcell
          go_wp2_with fail
          refine (HM.out _).mono ?_
          rintro e w3 ⟨rfl, hb⟩
          have Hb3 := Lib.hid (Hb2.out.trans (hb.mono Hb2.out.size))
          clear hb
          go_wp2_with fail
          go_roundg g
          case measure => omega
          case rel => exact ⟨m + 1, (j : Int) - 1, u, by have := Hmg.out; omega, by have := Hi.out; omega, rfl, rfl, Hnext.out, Hb3.out⟩
  · have HP := Lib.hid (fun W => rEncP_is s columns W hs (by omega) (by omega) hp)
    rw [bytes_of] at HP
    clear hp
    go_enter Tryz.func15, Tryz.ntmps15
    go_wp2_with fail
    refine HC.out.mono ?_
    rintro e w1 ⟨rfl, hb⟩
    have Hb := Lib.hid hb
    clear hb
    go_wp2_with fail
    refine (HP.out _).mono ?_
    rintro e wb ⟨rfl, hb⟩
    have Hb := Lib.hid (Hb.out.trans (hb.mono Hb.out.size))
    clear hb
    go_wp2_with fail
    go_loopg [2, 11] xs.length (fun g s2 s11 wx => ∃ (m : Nat) (i : Int) (t : ByteArray), m + g = xs.length ∧ i + 1 + m = xs.length ∧ s11 = .int .i64 i ∧ s2 = .string t ∧ Aside (foldE (kindsC xs) (downTo xs.length m) p.data.toList = t.data.toList) ∧ Below w.heap.size w wx)
    case atStart => exact ⟨0, _, p, by omega, by omega, rfl, rfl, rfl, Hb.out⟩
    case round =>
      obtain ⟨m, i, t, hmg, hi, rfl, rfl, HA, hb⟩ := hrel
      have Hb := Lib.hid hb
      clear hb
      cases gk with
      | zero =>
        obtain rfl : m = xs.length := by omega
        obtain rfl : i = -1 := by omega
        have Ht : Hid (bytes (encKs (kindsC xs) p.data.toList) = t) := Lib.hid (by
          have h := HA.out
          rw [← kindsC_length, foldE_all] at h
          rw [h, bytes_of])
        go_wp2_with fail
        go_ret2
        exact ⟨by rw [Ht.out]; rfl, Hb.out⟩
      | succ g =>
        obtain ⟨j, hj⟩ : ∃ j, xs.length - 1 - m = j := ⟨_, rfl⟩
        have hjn : j < xs.length := by omega
        obtain rfl : i = (j : Int) := by omega
        have hjz : (j : Int) < (xs.length : Int) := by omega
        obtain ⟨y, hy⟩ : ∃ y, xs[j]?.getD ByteArray.empty = y := ⟨_, rfl⟩
        obtain ⟨q, off, rfl, hcell⟩ := (HT.out.later Hb.out).at j hjn
        rw [hy] at hcell
        obtain ⟨k, hk⟩ : ∃ k, knownC y.data.toList = k := ⟨_, rfl⟩
        have hkj : (kindsC xs)[j]? = some k := by rw [kindsC_at hjn, hy, hk]
        have hk1 : 1 ≤ k := by
          rcases Nat.eq_zero_or_pos k with h | h
          · exact absurd (by rw [← h]; exact List.mem_of_getElem? hkj) Hz.out
          · exact h
        have hk3 : k ≤ 3 := by rw [← hk]; exact knownC_le _
        have hts : t.size ≤ 10000 := by
          have h := down_fits (m := m) (by omega) Hfit.out
          rw [HA.out] at h
          rw [size_data]; exact h
        obtain ⟨u, hu⟩ : ∃ u : ByteArray, encK k t.data.toList = u.data.toList := ⟨bytes (encK k t.data.toList), by rw [bytes_data]⟩
        have Hnext : Hid (foldE (kindsC xs) (downTo xs.length (m + 1)) p.data.toList = u.data.toList) := Lib.hid (by
          rw [downTo_succ, hj, foldE_at hkj, HA.out, hu])
        have HK := Lib.hid (rKnown_is y wr hk)
        have Hmg := Lib.hid hmg
        have Hi := Lib.hid hi
        have hk' : k = 1 ∨ k = 2 ∨ k = 3 := by omega
        clear hy hk hkj hmg hi hj hk1 hk3
        rcases hk' with rfl | rfl | rfl
        · have HM := Lib.hid (fun W => rEncH_any t W (by omega))
          rw [show encH t.data.toList = u.data.toList from hu, bytes_of] at HM
          clear hu
          go_wp2_with fail
          refine HK.out.mono ?_
          rintro e w2 ⟨rfl, hb⟩
          have Hb2 := Lib.hid (Hb.out.trans (hb.mono Hb.out.size))
          clear hb hcell
          go_wp2_with fail
          refine (HM.out _).mono ?_
          rintro e w3 ⟨rfl, hb⟩
          have Hb3 := Lib.hid (Hb2.out.trans (hb.mono Hb2.out.size))
          clear hb
          go_wp2_with fail
          go_roundg g
          case measure => omega
          case rel => exact ⟨m + 1, (j : Int) - 1, u, by have := Hmg.out; omega, by have := Hi.out; omega, rfl, rfl, Hnext.out, Hb3.out⟩
        · have HM := Lib.hid (fun W => rEncR_any t W (by omega))
          rw [show encAll t.data.toList = u.data.toList from hu, bytes_of] at HM
          clear hu
          go_wp2_with fail
          refine HK.out.mono ?_
          rintro e w2 ⟨rfl, hb⟩
          have Hb2 := Lib.hid (Hb.out.trans (hb.mono Hb.out.size))
          clear hb hcell
          go_wp2_with fail
          refine (HM.out _).mono ?_
          rintro e w3 ⟨rfl, hb⟩
          have Hb3 := Lib.hid (Hb2.out.trans (hb.mono Hb2.out.size))
          clear hb
          go_wp2_with fail
          go_roundg g
          case measure => omega
          case rel => exact ⟨m + 1, (j : Int) - 1, u, by have := Hmg.out; omega, by have := Hi.out; omega, rfl, rfl, Hnext.out, Hb3.out⟩
        · have HM := Lib.hid (fun W => rWrap_is t W hts (show wrapZ t.data.toList = u.data.toList from hu))
          clear hu
          go_wp2_with fail
          refine HK.out.mono ?_
          rintro e w2 ⟨rfl, hb⟩
          have Hb2 := Lib.hid (Hb.out.trans (hb.mono Hb.out.size))
          clear hb hcell
          go_wp2_with fail
          refine (HM.out _).mono ?_
          rintro e w3 ⟨rfl, hb⟩
          have Hb3 := Lib.hid (Hb2.out.trans (hb.mono Hb2.out.size))
          clear hb
          go_wp2_with fail
          go_roundg g
          case measure => omega
          case rel => exact ⟨m + 1, (j : Int) - 1, u, by have := Hmg.out; omega, by have := Hi.out; omega, rfl, rfl, Hnext.out, Hb3.out⟩
set_option maxHeartbeats 1000000 in
theorem rEncode_bad (a : Option Addr) (cap : Nat) (xs : List ByteArray) (columns : Int) (s : ByteArray) (w : World) (hn : xs.length ≤ 9223372036854775807) (hT : Texts w a xs) {c : Int} (hch : checkC (kindsC xs) columns = c) (hc : c ≠ 0) :
    Calls Tryz.prog 15 #[.slice a xs.length cap, .int .i64 columns, .string s] w fun e w' => e = .returned (.tuple #[.string (bytes []), .int .i64 c]) ∧ Below w.heap.size w w' := by
  have HC := Lib.hid (rCheckC_is a cap xs columns w hn hT hch)
  have hc' : (c != 0) = true := by simpa using hc
  clear hT hch hc
  go_enter Tryz.func15, Tryz.ntmps15
  go_wp2_with fail
  refine HC.out.mono ?_
  rintro e w1 ⟨rfl, hb⟩
  have Hb := Lib.hid hb
  clear hb
  go_wp2_with fail
  go_ret2
  exact ⟨rfl, Hb.out⟩
set_option maxHeartbeats 1000000 in
theorem rEncode_rowless (a : Option Addr) (cap : Nat) (xs : List ByteArray) (columns : Int) (s p : ByteArray) (w : World) (hn : xs.length ≤ 9223372036854775807) (hT : Texts w a xs) (hs : s.size ≤ 100000) (hc0 : 0 < columns) (hc1 : columns ≤ 256) {c : Int} (hp : encP s.data.toList columns = (p.data.toList, c)) (hc : c ≠ 0) (hch : checkC (kindsC xs) columns = 0) :
    Calls Tryz.prog 15 #[.slice a xs.length cap, .int .i64 columns, .string s] w fun e w' => e = .returned (.tuple #[.string (bytes []), .int .i64 c]) ∧ Below w.heap.size w w' := by
  have HC := Lib.hid (rCheckC_is a cap xs columns w hn hT hch)
  have hc' : (c != 0) = true := by simpa using hc
  have HP := Lib.hid (fun W => rEncP_is s columns W hs (by omega) (by omega) hp)
  rw [bytes_of] at HP
  have hsz : ¬ (1048576 : Int) < (s.size : Int) := by omega
  clear hT hch hc hp
  go_enter Tryz.func15, Tryz.ntmps15
  go_wp2_with fail
  refine HC.out.mono ?_
  rintro e w1 ⟨rfl, hb⟩
  have Hb := Lib.hid hb
  clear hb
  go_wp2_with fail
  refine (HP.out _).mono ?_
  rintro e w2 ⟨rfl, hb⟩
  have Hb2 := Lib.hid (Hb.out.trans (hb.mono Hb.out.size))
  clear hb
  go_wp2_with fail
  go_ret2
  exact ⟨rfl, Hb2.out⟩
theorem rEncodeC_is (a : Option Addr) (cap : Nat) (xs : List ByteArray) (columns : Int) (s : ByteArray) (w : World) (hn : xs.length ≤ 9223372036854775807) (hT : Texts w a xs) (hs : s.size ≤ 100000)
    (hfit : checkC (kindsC xs) columns = 0 → growC (xs.length - 1) (if columns = 0 then s.data.toList else (encP s.data.toList columns).1).length ≤ 10000) {o : List UInt8} {c : Int} (hE : encC (kindsC xs) columns s.data.toList = (o, c)) :
    Calls Tryz.prog 15 #[.slice a xs.length cap, .int .i64 columns, .string s] w fun e w' => e = .returned (.tuple #[.string (bytes o), .int .i64 c]) ∧ Below w.heap.size w w' := by
  obtain ⟨ch, hch⟩ : ∃ ch, checkC (kindsC xs) columns = ch := ⟨_, rfl⟩
  have hl : s.data.toList.length ≤ 1048576 := by rw [← size_data]; omega
  by_cases h0 : ch = 0
  · subst h0
    obtain ⟨hc0, hc1, _⟩ := checkC_ok hch
    by_cases h3 : columns = 0
    · have hf := hfit hch
      rw [if_pos h3] at hf
      subst h3
      rw [encC_plain hch hl] at hE
      obtain ⟨rfl, rfl⟩ := Prod.mk.inj hE
      exact rEncodeLoop_is a cap xs 0 s s w hn hT hs hc0 hc1 hch (.inl ⟨rfl, rfl⟩) hf
    · obtain ⟨p, e, hp⟩ := encP_text' s.data.toList columns
      rw [encC_rows hch hl h3 hp] at hE
      by_cases h4 : e = 0
      · subst h4
        rw [if_neg (by simp)] at hE
        obtain ⟨rfl, rfl⟩ := Prod.mk.inj hE
        have hf := hfit hch
        rw [if_neg h3, hp] at hf
        exact rEncodeLoop_is a cap xs columns s p w hn hT hs hc0 hc1 hch (.inr ⟨by omega, hp⟩) hf
      · rw [if_pos h4] at hE
        obtain ⟨rfl, rfl⟩ := Prod.mk.inj hE
        exact rEncode_rowless a cap xs columns s p w hn hT hs (by omega) hc1 hp h4 hch
  · rw [encC_check hch h0] at hE
    obtain ⟨rfl, rfl⟩ := Prod.mk.inj hE
    exact rEncode_bad a cap xs columns s w hn hT hch h0
end
end Go.Proofs.YtiiiokikmjgliaaGreatDoor
