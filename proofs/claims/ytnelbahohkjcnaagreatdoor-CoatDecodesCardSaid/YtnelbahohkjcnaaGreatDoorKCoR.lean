/-
  CoRef, CoRefE, CoRefD: texts merged.
-/
import Derived.Test.YtnelbahohkjcnaaGreatDoorKCoP
import Derived.Test.YtnelbahohkjcnaaGreatDoorKCoE
import Derived.Test.YtnelbahohkjcnaaGreatDoorKHex
import Derived.Test.YtnelbahohkjcnaaGreatDoorKRunR
import Derived.Test.YtnelbahohkjcnaaGreatDoorKZr
import Derived.Test.YtnelbahohkjcnaaGreatDoorKPrR
/-
  The document's answer on filters: which one a name is, and whether they may be.
-/
namespace Go.Proofs.YtnelbahohkjcnaaGreatDoor
section
open Go.RowKit
set_option maxRecDepth 100000
theorem rKnown_is (x : ByteArray) (w : World) {k : Nat} (hk : knownC x.data.toList = k) :
    Calls Tryz.prog 19 #[.string x] w fun e w' => e = .returned (.int .i64 (k : Int)) ∧ Below w.heap.size w w' := by
  rcases name_cases x with ⟨hx, h⟩ | ⟨hx, h⟩ | ⟨hx, h⟩ | ⟨⟨_, h1⟩, ⟨_, h2⟩, ⟨_, h3⟩, h⟩
  all_goals
    rw [h] at hk
    subst hk
    clear h
    try subst hx
    go_enter Tryz.func19, Tryz.ntmps19
    go_wp2_with fail
    go_ret
    exact ⟨rfl, Below.refl _ _⟩
theorem checkC_early {ks : List Nat} {columns : Int} (h0 : 0 ≤ columns) (h1 : columns ≤ 256) (hz : 0 ∈ ks) : checkC ks columns = 16 := by
  unfold checkC
  rw [if_neg (by omega), if_pos (.inr (.inl hz))]
theorem checkC_many {ks : List Nat} {columns : Int} (h0 : 0 ≤ columns) (h1 : columns ≤ 256) (hz : 4 < ks.length) : checkC ks columns = 16 := by
  unfold checkC
  rw [if_neg (by omega), if_pos (.inl hz)]
def lastC (ks : List Nat) (j : Nat) : Nat := if j = 0 then 0 else (ks[j - 1]?).getD 0
set_option maxHeartbeats 2000000 in
theorem rCheckC_is (a : Option Addr) (cap : Nat) (xs : List ByteArray) (columns : Int) (w : World) (hn : xs.length ≤ 9223372036854775807) (hT : Texts w a xs) {c : Int} (hc : checkC (kindsC xs) columns = c) :
    Calls Tryz.prog 11 #[.slice a xs.length cap, .int .i64 columns] w fun e w' => e = .returned (.int .i64 c) ∧ Below w.heap.size w w' := by
  by_cases hr : columns < 0 ∨ 256 < columns
  · unfold checkC at hc
    rw [if_pos hr] at hc
    subst hc
    clear hT
    rcases hr with h0 | h1
    · go_enter Tryz.func11, Tryz.ntmps11
      go_wp2_with fail
      go_ret
      exact ⟨rfl, Below.refl _ _⟩
    · have h0 : ¬ columns < 0 := by omega
      go_enter Tryz.func11, Tryz.ntmps11
      go_wp2_with fail
      go_ret
      exact ⟨rfl, Below.refl _ _⟩
  · have h0 : ¬ columns < 0 := by omega
    have h1 : ¬ 256 < columns := by omega
    have Hc := Lib.hid hc
    have HT := Lib.hid hT
    clear hc hT hr
    obtain ⟨m, hm⟩ : ∃ m, min xs.length 5 = m := ⟨_, rfl⟩
    go_enter Tryz.func11, Tryz.ntmps11
    go_wp2_with fail
    go_loopg [5, 6] m (fun g s5 s6 wx => ∃ j : Nat, j + g = m ∧ s6 = .int .i64 j ∧ s5 = .int .i64 (lastC (kindsC xs) j : Int) ∧ Aside (∀ i, i < j → ¬ knownC (xs[i]?.getD ByteArray.empty).data.toList = 0) ∧ Below w.heap.size w wx)
    case atStart => exact ⟨0, by omega, rfl, rfl, fun i hi => absurd hi (by omega), Below.refl _ _⟩
    case round =>
      obtain ⟨j, hjg, rfl, rfl, HA, hb⟩ := hrel
      have Hb := Lib.hid hb
      clear hb
      cases gk with
      | zero =>
        obtain rfl : j = m := by omega
        obtain ⟨l, hl⟩ : ∃ l, lastC (kindsC xs) j = l := ⟨_, rfl⟩
        rw [hl]
        by_cases h5 : 5 ≤ xs.length
        · obtain rfl : j = 5 := by omega
          have g1 : ((5 : Nat) : Int) < (xs.length : Int) ∨ ¬ ((5 : Nat) : Int) < (xs.length : Int) := by omega
          have g2 : (4 : Int) < (xs.length : Int) := by omega
          have Hr : Hid (c = 16) := Lib.hid (by
            rw [← Hc.out]
            exact checkC_many (by omega) (by omega) (by rw [kindsC_length]; omega))
          clear hm hl hjg h5
          rcases g1 with g1 | g1
          · go_wp2_with fail
            go_ret
            exact ⟨by rw [Hr.out]; rfl, Hb.out⟩
          · go_wp2_with fail
            go_ret
            exact ⟨by rw [Hr.out]; rfl, Hb.out⟩
        · obtain rfl : j = xs.length := by omega
          have g1 : ¬ (4 : Int) < (xs.length : Int) := by omega
          have hz : ¬ 0 ∈ kindsC xs := fun h => by
            obtain ⟨i, hi, e⟩ := kindsC_zero.1 h
            exact HA.out i hi e
          have hlast : (kindsC xs).getLast? = some 3 ↔ l = 3 := by
            rw [← hl, List.getLast?_eq_getElem?, kindsC_length]
            unfold lastC
            by_cases hx0 : xs.length = 0
            · rw [if_pos hx0]
              obtain rfl : xs = [] := List.eq_nil_of_length_eq_zero hx0
              exact ⟨fun h => (by cases h), fun h => (by cases h)⟩
            · rw [if_neg hx0, kindsC_at (by omega)]
              exact ⟨fun h => Option.some.inj h, fun h => congrArg some h⟩
          have hcc := Hc.out
          unfold checkC at hcc
          rw [if_neg (by omega), kindsC_length] at hcc
          by_cases h3 : columns = 0
          · subst h3
            have Hr : Hid (c = 0) := Lib.hid (by
              rw [if_neg (by rintro (h | h | h); omega; exact hz h; exact h.1 rfl)] at hcc
              exact hcc.symm)
            clear hm hl hjg h5 hlast hz hcc
            go_wp2_with fail
            go_ret
            exact ⟨by rw [Hr.out]; rfl, Hb.out⟩
          · have g2 : 0 < columns := by omega
            by_cases h4 : l = 3
            · subst h4
              have Hr : Hid (c = 0) := Lib.hid (by
                rw [if_neg (by rintro (h | h | h); omega; exact hz h; exact h.2 (hlast.2 rfl))] at hcc
                exact hcc.symm)
              clear hm hl hjg h5 hlast hz hcc
              go_wp2_with fail
              go_ret
              exact ⟨by rw [Hr.out]; rfl, Hb.out⟩
            · have g3 : ((l : Int) != 3) = true := by rw [bne_iff_ne]; omega
              have Hr : Hid (c = 16) := Lib.hid (by
                rw [if_pos (.inr (.inr ⟨h3, fun h => h4 (hlast.1 h)⟩))] at hcc
                exact hcc.symm)
              clear hm hl hjg h5 hlast hz hcc
              go_wp2_with fail
              go_ret
              exact ⟨by rw [Hr.out]; rfl, Hb.out⟩
      | succ g =>
        have hj : j < xs.length := by omega
        have hj5 : (j : Int) < 5 := by omega
        have hjz : (j : Int) < (xs.length : Int) := by omega
        obtain ⟨x, hx⟩ : ∃ x, xs[j]?.getD ByteArray.empty = x := ⟨_, rfl⟩
        obtain ⟨p, off, rfl, hc⟩ := (HT.out.later Hb.out).at j hj
        rw [hx] at hc
        obtain ⟨k, hk⟩ : ∃ k, knownC x.data.toList = k := ⟨_, rfl⟩
        have HU := Lib.hid (rKnown_is x wr hk)
        have Hx := Lib.hid hx
        have Hk := Lib.hid hk
        have Hjg := Lib.hid hjg
        have hlast : lastC (kindsC xs) (j + 1) = k := by
          unfold lastC
          rw [if_neg (by omega), Nat.add_sub_cancel, kindsC_at hj, hx, hk]
          rfl
        have Hl := Lib.hid hlast
        clear hx hk hjg hlast hm
        by_cases hk0 : k = 0
        · subst hk0
          have Hr : Hid (c = 16) := Lib.hid (by
            rw [← Hc.out]
            exact checkC_early (by omega) (by omega) (kindsC_zero.2 ⟨j, hj, by rw [Hx.out]; exact Hk.out⟩))
          go_wp2_with fail
          refine HU.out.mono ?_
          rintro e w1 ⟨rfl, hb⟩
          have Hb1 := Lib.hid (Hb.out.trans (hb.mono Hb.out.size))
          clear hb hc
          go_wp2_with fail
          go_ret
          exact ⟨by rw [Hr.out]; rfl, Hb1.out⟩
        · have hk0' : ((k : Int) == 0) = false := by rw [beq_eq_false_iff_ne]; omega
          go_wp2_with fail
          refine HU.out.mono ?_
          rintro e w1 ⟨rfl, hb⟩
          have Hb1 := Lib.hid (Hb.out.trans (hb.mono Hb.out.size))
          clear hb hc
          go_wp2_with fail
          go_roundg g
          case measure => omega
          case rel => exact ⟨j + 1, by have := Hjg.out; omega, by go_num, by rw [Hl.out], fun i hi => by
            by_cases h : i = j
            · subst h
              rw [Hx.out, Hk.out]
              exact hk0
            · exact HA.out i (by omega), Hb1.out⟩
end
end Go.Proofs.YtnelbahohkjcnaaGreatDoor
/-
  The document's Encode by filters.
-/
namespace Go.Proofs.YtnelbahohkjcnaaGreatDoor
section
open Go.RowKit
set_option maxRecDepth 100000
end
end Go.Proofs.YtnelbahohkjcnaaGreatDoor
/-
  The document's Decode by filters.
-/
namespace Go.Proofs.YtnelbahohkjcnaaGreatDoor
section
open Go.RowKit
set_option maxRecDepth 100000
theorem rOneC_is (y s u : ByteArray) (room b : Int) (w : World) {k : Nat} (hk : knownC y.data.toList = k) (hk1 : 1 ≤ k) (hs : s.size ≤ 100000) (hs3 : k = 3 → s.size ≤ 10000) (_hr0 : 0 ≤ room) (hr1 : room ≤ 100000) (h : decK k s.data.toList room = (u.data.toList, b)) :
    Calls Tryz.prog 27 #[.string y, .string s, .int .i64 room] w fun e w' => e = .returned (.tuple #[.string u, .int .i64 b]) ∧ Below w.heap.size w w' := by
  have hk3 : k ≤ 3 := by rw [← hk]; exact knownC_le _
  have HK := Lib.hid (rKnown_is y w hk)
  have hk' : k = 1 ∨ k = 2 ∨ k = 3 := by omega
  clear hk hk1 hk3
  rcases hk' with rfl | rfl | rfl
  · have HM := Lib.hid (fun W => rDecH_is s W (by omega) (show decH s.data.toList = (u.data.toList, b) from h))
    rw [bytes_of] at HM
    clear h
    go_enter Tryz.func27, Tryz.ntmps27
    go_wp2_with fail
    refine HK.out.mono ?_
    rintro e w1 ⟨rfl, hb⟩
    have Hb := Lib.hid hb
    clear hb
    go_wp2_with fail
    refine (HM.out _).mono ?_
    rintro e w2 ⟨rfl, hb⟩
    have Hb2 := Lib.hid (Hb.out.trans (hb.mono Hb.out.size))
    clear hb
    go_wp2_with fail
    go_ret2
    exact ⟨rfl, Hb2.out⟩
  · have HM := Lib.hid (fun W => rDecR_is s room W (by omega) (show decAll s.data.toList room = (u.data.toList, b) from h))
    rw [bytes_of] at HM
    clear h
    go_enter Tryz.func27, Tryz.ntmps27
    go_wp2_with fail
    refine HK.out.mono ?_
    rintro e w1 ⟨rfl, hb⟩
    have Hb := Lib.hid hb
    clear hb
    go_wp2_with fail
    refine (HM.out _).mono ?_
    rintro e w2 ⟨rfl, hb⟩
    have Hb2 := Lib.hid (Hb.out.trans (hb.mono Hb.out.size))
    clear hb
    go_wp2_with fail
    go_ret2
    exact ⟨rfl, Hb2.out⟩
  · have HM := Lib.hid (fun W => rUnwrap_is s u room W (hs3 rfl) hr1 (show unwrapZ s.data.toList room = (u.data.toList, b) from h))
    clear h
    go_enter Tryz.func27, Tryz.ntmps27
    go_wp2_with fail
    refine HK.out.mono ?_
    rintro e w1 ⟨rfl, hb⟩
    have Hb := Lib.hid hb
    clear hb
    go_wp2_with fail
    refine (HM.out _).mono ?_
    rintro e w2 ⟨rfl, hb⟩
    have Hb2 := Lib.hid (Hb.out.trans (hb.mono Hb.out.size))
    clear hb
    go_wp2_with fail
    go_ret2
    exact ⟨rfl, Hb2.out⟩
set_option maxHeartbeats 4000000 in
theorem rDecodeC_is (a : Option Addr) (cap : Nat) (xs : List ByteArray) (columns : Int) (s : ByteArray) (most : Int) (w : World) (hn : xs.length ≤ 9223372036854775807) (hT : Texts w a xs) (hs : s.size ≤ 100000)
    (hc0 : -9223372036854775808 ≤ columns) (hc1 : columns ≤ 9223372036854775807) (hm : most ≤ 6000)
    (hfit : checkC (kindsC xs) columns = 0 → 0 ≤ most → decFits (kindsC xs) s.data.toList (16 * most + 1024)) {o : List UInt8} {c : Int} (hD : decC (kindsC xs) columns s.data.toList most = (o, c)) :
    Calls Tryz.prog 13 #[.slice a xs.length cap, .int .i64 columns, .string s, .int .i64 most] w fun e w' => e = .returned (.tuple #[.string (bytes o), .int .i64 c]) ∧ Below w.heap.size w w' := by
  obtain ⟨ch, hch⟩ : ∃ ch, checkC (kindsC xs) columns = ch := ⟨_, rfl⟩
  have HC := Lib.hid (rCheckC_is a cap xs columns w hn hT hch)
  by_cases h0 : ch = 0
  · subst h0
    by_cases hmo : most < 0
    · rw [decC_arg hch (.inl hmo)] at hD
      obtain ⟨rfl, rfl⟩ := Prod.mk.inj hD
      clear hD hch hfit hT
      go_enter Tryz.func13, Tryz.ntmps13
      go_wp2_with fail
      refine HC.out.mono ?_
      rintro e w1 ⟨rfl, hb⟩
      have Hb := Lib.hid hb
      clear hb
      go_wp2_with fail
      go_ret2
      exact ⟨rfl, Hb.out⟩
    · have hm1 : ¬ (1048576 : Int) < most := by omega
      have Hfit := Lib.hid (hfit hch (by omega))
      have Hch := Lib.hid hch
      have HD := Lib.hid hD
      have HT := Lib.hid hT
      obtain ⟨room, hroom⟩ : ∃ room, 16 * most + 1024 = room := ⟨_, rfl⟩
      have hr0 : 0 ≤ room := by omega
      have hr1 : room ≤ 100000 := by omega
      obtain ⟨hc00, hc256, h4, hz, _⟩ := checkC_ok hch
      rw [kindsC_length] at h4
      have Hz := Lib.hid hz
      have Hroom := Lib.hid hroom
      rw [hroom] at Hfit
      obtain ⟨KO, hKO⟩ : ∃ KO, decKs (kindsC xs) s.data.toList room = KO := ⟨_, rfl⟩
      have HKO := Lib.hid hKO
      clear hD hch hfit hT hz hroom hKO
      go_enter Tryz.func13, Tryz.ntmps13
      go_wp2_with fail
      refine HC.out.mono ?_
      rintro e w1 ⟨rfl, hb⟩
      have Hb := Lib.hid hb
      clear hb
      go_wp2_with fail
      go_loopg [2, 11] xs.length (fun g s2 s30 wx => ∃ (j : Nat) (t : ByteArray), j + g = xs.length ∧ s30 = .int .i64 j ∧ s2 = .string t ∧ t.size ≤ 100000 ∧ Aside (decKs ((kindsC xs).drop j) t.data.toList room = KO) ∧ Aside (decFits ((kindsC xs).drop j) t.data.toList room) ∧ Below w.heap.size w wx)
      case atStart => exact ⟨0, s, by omega, rfl, rfl, hs, HKO.out, Hfit.out, Hb.out⟩
      case round =>
        obtain ⟨j, t, hjg, rfl, rfl, hts, HA, HF, hb⟩ := hrel
        have Hb := Lib.hid hb
        clear hb
        cases gk with
        | zero =>
          obtain rfl : j = xs.length := by omega
          have hko := HA.out
          rw [← kindsC_length, List.drop_length] at hko
          rw [show decKs [] t.data.toList room = (t.data.toList, 0) from rfl] at hko
          rw [← hko] at HKO
          by_cases h3 : columns = 0
          · subst h3
            have HD2 := HD.out
            rw [decC_plain Hch.out (by omega) (by omega) (by rw [Hroom.out]; exact HKO.out)] at HD2
            unfold mostC at HD2
            rw [← size_data] at HD2
            by_cases h5 : most < (t.size : Int)
            · rw [if_pos h5] at HD2
              obtain ⟨rfl, rfl⟩ := Prod.mk.inj HD2
              clear HD2 hko
              go_wp2_with fail
              go_ret2
              exact ⟨rfl, Hb.out⟩
            · rw [if_neg h5] at HD2
              obtain ⟨rfl, rfl⟩ := Prod.mk.inj HD2
              clear HD2 hko
              go_wp2_with fail
              go_ret2
              exact ⟨by rw [bytes_of]; rfl, Hb.out⟩
          · have h3' : 0 < columns := by omega
            obtain ⟨p, e1, hp⟩ := decP_text' t.data.toList columns
            have HD2 := HD.out
            rw [decC_rows Hch.out (by omega) (by omega) (by rw [Hroom.out]; exact HKO.out) h3 hp] at HD2
            have HP := Lib.hid (rDecP_is t columns wr hts hc0 hc1 hp)
            rw [bytes_of] at HP
            by_cases h6 : e1 = 0
            · subst h6
              rw [if_neg (by simp)] at HD2
              unfold mostC at HD2
              rw [← size_data] at HD2
              by_cases h5 : most < (p.size : Int)
              · rw [if_pos h5] at HD2
                obtain ⟨rfl, rfl⟩ := Prod.mk.inj HD2
                clear HD2 hko hp
                go_wp2_with fail
                refine HP.out.mono ?_
                rintro e w2 ⟨rfl, hb⟩
                have Hb2 := Lib.hid (Hb.out.trans (hb.mono Hb.out.size))
                clear hb
                go_wp2_with fail
                go_ret2
                exact ⟨rfl, Hb2.out⟩
              · rw [if_neg h5] at HD2
                obtain ⟨rfl, rfl⟩ := Prod.mk.inj HD2
                clear HD2 hko hp
                go_wp2_with fail
                refine HP.out.mono ?_
                rintro e w2 ⟨rfl, hb⟩
                have Hb2 := Lib.hid (Hb.out.trans (hb.mono Hb.out.size))
                clear hb
                go_wp2_with fail
                go_ret2
                exact ⟨by rw [bytes_of]; rfl, Hb2.out⟩
            · have h6' : (e1 != 0) = true := by simpa using h6
              rw [if_pos h6] at HD2
              obtain ⟨rfl, rfl⟩ := Prod.mk.inj HD2
              clear HD2 hko hp
              go_wp2_with fail
              refine HP.out.mono ?_
              rintro e w2 ⟨rfl, hb⟩
              have Hb2 := Lib.hid (Hb.out.trans (hb.mono Hb.out.size))
              clear hb
              go_wp2_with fail
              go_ret2
              exact ⟨rfl, Hb2.out⟩
        | succ g =>
          have hj : j < xs.length := by omega
          have hjz : (j : Int) < (xs.length : Int) := by omega
          obtain ⟨x, hx⟩ : ∃ x, xs[j]?.getD ByteArray.empty = x := ⟨_, rfl⟩
          obtain ⟨q, off, rfl, hcell⟩ := (HT.out.later Hb.out).at j hj
          rw [hx] at hcell
          obtain ⟨k, hk⟩ : ∃ k, knownC x.data.toList = k := ⟨_, rfl⟩
          have hkj : (kindsC xs)[j]? = some k := by rw [kindsC_at hj, hx, hk]
          have hk1 : 1 ≤ k := by
            rcases Nat.eq_zero_or_pos k with h | h
            · exact absurd (by rw [← h]; exact List.mem_of_getElem? hkj) Hz.out
            · exact h
          have hk3 : k ≤ 3 := by rw [← hk]; exact knownC_le _
          obtain ⟨u, e1, hu⟩ := decK_text k t.data.toList room
          have hstep := decKs_step hkj hu
          rw [HA.out] at hstep
          obtain ⟨f1, f2, f3⟩ := decFits_step (o := u.data.toList) hkj HF.out
          have HM := Lib.hid (rOneC_is x t u room e1 wr hk hk1 hts (fun h => by have := f2 h; rw [size_data]; exact this) hr0 hr1 hu)
          have Hstep := Lib.hid hstep
          have Hf3 := Lib.hid f3
          have Hu := Lib.hid hu
          have Hjg := Lib.hid hjg
          have hrz : 16 * most + 1024 = room := Hroom.out
          clear hx hk hkj hstep f1 f2 f3 hjg hu
          by_cases h6 : e1 = 0
          · subst h6
            have hus : u.size ≤ 100000 := by
              rw [size_data]
              exact decFits_first (Hf3.out Hu.out)
            have Hk2 : Hid (decKs ((kindsC xs).drop (j + 1)) u.data.toList room = KO) := Lib.hid (by rw [Hstep.out, if_neg (by simp)])
            clear Hstep
            go_wp2_with fail
            refine HM.out.mono ?_
            rintro e w3 ⟨rfl, hb⟩
            have Hb3 := Lib.hid (Hb.out.trans (hb.mono Hb.out.size))
            clear hb hcell
            go_wp2_with fail
            go_roundg g
            case measure => omega
            case rel => exact ⟨j + 1, u, by have := Hjg.out; omega, by go_num, rfl, hus, Hk2.out, Hf3.out Hu.out, Hb3.out⟩
          · have h6' : (e1 != 0) = true := by simpa using h6
            have Hko : Hid (KO = ([], e1)) := Lib.hid (by rw [Hstep.out, if_pos h6])
            have HD2 := HD.out
            rw [decC_err Hch.out (by omega) (by omega) (by rw [Hroom.out, HKO.out]; exact Hko.out) h6] at HD2
            obtain ⟨rfl, rfl⟩ := Prod.mk.inj HD2
            clear Hstep HD2
            go_wp2_with fail
            refine HM.out.mono ?_
            rintro e w3 ⟨rfl, hb⟩
            have Hb3 := Lib.hid (Hb.out.trans (hb.mono Hb.out.size))
            clear hb hcell
            go_wp2_with fail
            go_ret2
            exact ⟨rfl, Hb3.out⟩
  · have h0' : (ch != 0) = true := by simpa using h0
    rw [decC_check hch h0] at hD
    obtain ⟨rfl, rfl⟩ := Prod.mk.inj hD
    clear hD hch hfit hT
    go_enter Tryz.func13, Tryz.ntmps13
    go_wp2_with fail
    refine HC.out.mono ?_
    rintro e w1 ⟨rfl, hb⟩
    have Hb := Lib.hid hb
    clear hb
    go_wp2_with fail
    go_ret2
    exact ⟨rfl, Hb.out⟩
end
end Go.Proofs.YtnelbahohkjcnaaGreatDoor
