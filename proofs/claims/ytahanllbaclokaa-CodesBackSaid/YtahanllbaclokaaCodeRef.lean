/-
  The contracts of the document's Check, Refused, Longest, Find of codes.
-/
import Derived.Test.YtahanllbaclokaaRows
import Derived.Test.YtahanllbaclokaaCodePlain2
import Derived.Test.YtahanllbaclokaaNums
import Derived.WalkKit
import Derived.WalkSpells
import Derived.WalkLawsBesides
import Derived.WalkSmall
import Derived.Lib.Hide
import Derived.Deep.LoopGhost
namespace Go.Proofs.Ytahanllbaclokaa
open Go.RowKit

def longZ (ls : List Int) : Int := ls.foldl max 0
theorem longZ_snoc (ls : List Int) (l : Int) : longZ (ls ++ [l]) = max (longZ ls) l := by simp [longZ]
theorem take_more {ls : List Int} {j : Nat} {v : Int} (hj : j < ls.length) (h : ls[j]?.getD 0 = v) : ls.take (j + 1) = ls.take j ++ [v] := by
  rw [List.getElem?_eq_getElem hj] at h
  simp only [Option.getD_some] at h
  rw [List.take_succ_eq_append_getElem hj, h]

set_option maxHeartbeats 1000000 in
theorem rLong_any (p : Option Addr) (cap : Nat) (ls : List Int) (w : World) (hz : ls.length ≤ 9223372036854775807) (hp : Nums w p ls) :
    Calls Try.prog 33 #[.slice p ls.length cap] w fun e w' => e = .returned (.int .i64 (longZ ls)) ∧ w = w' := by
  have Hp := Lib.hid hp
  clear hp
  go_enter Try.func33, Try.ntmps33
  go_wp2_with fail
  go_loopg [3, 4] ls.length (fun g s3 s4 wx => ∃ (j : Nat) (m : Int), j + g = ls.length ∧ s4 = .int .i64 j ∧ s3 = .int .i64 m ∧ Aside (m = longZ (ls.take j)) ∧ w = wx)
  case atStart => exact ⟨0, 0, by omega, rfl, rfl, rfl, rfl⟩
  case round =>
    obtain ⟨j, m, hjg, rfl, rfl, HM, rfl⟩ := hrel
    cases gk with
    | zero =>
      obtain rfl : j = ls.length := by omega
      have Hr : Hid (longZ ls = m) := Lib.hid (by rw [HM.out, List.take_length])
      clear hjg
      go_wp2_with fail
      go_ret
      exact ⟨ret_int (by rw [Hr.out]), rfl⟩
    | succ g =>
      have hj : j < ls.length := by omega
      have hjz : (j : Int) < (ls.length : Int) := by omega
      obtain ⟨b, off, rfl, hc⟩ := Hp.out.at j hj
      obtain ⟨v, hv⟩ : ∃ v, ls[j]?.getD 0 = v := ⟨_, rfl⟩
      rw [hv] at hc
      have Hnext : Hid (longZ (ls.take (j + 1)) = max m v) := Lib.hid (by rw [take_more hj hv, longZ_snoc, HM.out])
      clear hv
      by_cases hmv : ¬ v ≤ m
      · have Hn2 : Hid (longZ (ls.take (j + 1)) = v) := Lib.hid (by rw [Hnext.out]; omega)
        go_wp2_with fail
        go_roundg g
        case measure => omega
        case rel => exact ⟨j + 1, v, by omega, by go_num, by first | rfl | (congr 1; omega), Hn2.out.symm, rfl⟩
      · have hvm : v ≤ m := by omega
        clear hmv
        have Hn2 : Hid (longZ (ls.take (j + 1)) = m) := Lib.hid (by rw [Hnext.out]; omega)
        go_wp2_with fail
        go_roundg g
        case measure => omega
        case rel => exact ⟨j + 1, m, by omega, by go_num, by first | rfl | (congr 1; omega), Hn2.out.symm, rfl⟩

/-- The first lengths are good, and take so much. -/
theorem check_bad {ls : List Int} {j : Nat} {v : Int} (h : ls.length ≤ 320) (hj : j < ls.length) (hv : ls[j]?.getD 0 = v) (hb : v < 0 ∨ 15 < v) : checkZ ls = 3 := by
  unfold checkZ
  rw [if_neg (by omega), if_neg]
  intro hall
  rw [List.getElem?_eq_getElem hj] at hv
  simp only [Option.getD_some] at hv
  have := List.all_eq_true.1 hall _ (List.getElem_mem hj)
  unfold okL at this
  rw [hv] at this
  simp only [decide_eq_true_eq] at this
  omega
theorem check_good {ls : List Int} (h : ls.length ≤ 320) (hall : ∀ l ∈ ls, 0 ≤ l ∧ l ≤ 15) : checkZ ls = if kraft ls = 0 then 12 else if 32768 < kraft ls then 7 else if kraft ls < 32768 then 5 else 0 := by
  unfold checkZ
  rw [if_neg (by omega), if_pos]
  rw [List.all_eq_true]
  intro l hl
  unfold okL
  simpa using hall l hl
theorem part_half {v k : Nat} (hv : v ≤ 15) (hk : k < v) : 2 ^ (15 - k) / 2 = 2 ^ (15 - (k + 1)) := by
  rw [show 15 - k = (15 - (k + 1)) + 1 by omega, Nat.pow_succ]; omega
theorem pow15 (k : Nat) : 2 ^ (15 - k) ≤ 32768 := by
  have : (2 : Nat) ^ (15 - k) ≤ 2 ^ 15 := Nat.pow_le_pow_right (by omega) (by omega)
  omega
set_option maxHeartbeats 2000000 in
theorem rCheck_any (p : Option Addr) (cap : Nat) (ls : List Int) (w : World) (hz : ls.length ≤ 9223372036854775807) (hp : Nums w p ls) :
    Calls Try.prog 13 #[.slice p ls.length cap] w fun e w' => e = .returned (.int .i64 (checkZ ls)) ∧ w = w' := by
  have Hp := Lib.hid hp
  clear hp
  by_cases hbig : (320 : Int) < (ls.length : Int)
  · have Hr : Hid (checkZ ls = 2) := Lib.hid (by unfold checkZ; rw [if_pos (by omega)])
    go_enter Try.func13, Try.ntmps13
    go_wp2_with fail
    go_ret
    exact ⟨ret_int (by rw [Hr.out]), rfl⟩
  · go_enter Try.func13, Try.ntmps13
    go_wp2_with fail
    go_loopg [3, 4] ls.length (fun g s3 s4 wx => ∃ (j m : Nat), j + g = ls.length ∧ s4 = .int .i64 j ∧ s3 = .int .i64 m ∧ m ≤ 32768 * j ∧ Aside (m = kraft (ls.take j) ∧ ∀ l ∈ ls.take j, 0 ≤ l ∧ l ≤ 15) ∧ w = wx)
    case atStart => exact ⟨0, 0, by omega, rfl, rfl, by omega, ⟨rfl, fun l hl => by simp at hl⟩, rfl⟩
    case round =>
      obtain ⟨j, m, hjg, rfl, rfl, hmb, HM, rfl⟩ := hrel
      cases gk with
      | zero =>
        obtain rfl : j = ls.length := by omega
        have hres := check_good (ls := ls) (by omega) (by have := HM.out.2; rwa [List.take_length] at this)
        rw [show kraft ls = m by rw [HM.out.1, List.take_length]] at hres
        by_cases h0 : m = 0
        · subst h0
          have Hr : Hid (checkZ ls = 12) := Lib.hid (by rw [hres]; rfl)
          clear hres hjg
          go_wp2_with fail
          go_ret
          exact ⟨ret_int (by rw [Hr.out]), rfl⟩
        · have h0z : ((m : Int) == 0) = false := by rw [beq_eq_false_iff_ne]; omega
          by_cases h1 : 32768 < m
          · have Hr : Hid (checkZ ls = 7) := Lib.hid (by rw [hres, if_neg h0, if_pos h1])
            have h1z : 32768 < (m : Int) := by omega
            clear hres hjg h0
            go_wp2_with fail
            go_ret
            exact ⟨ret_int (by rw [Hr.out]), rfl⟩
          · have h1z : ¬ 32768 < (m : Int) := by omega
            by_cases h2 : m < 32768
            · have Hr : Hid (checkZ ls = 5) := Lib.hid (by rw [hres, if_neg h0, if_neg h1, if_pos h2])
              have h2z : (m : Int) < 32768 := by omega
              clear hres hjg h0
              go_wp2_with fail
              go_ret
              exact ⟨ret_int (by rw [Hr.out]), rfl⟩
            · have Hr : Hid (checkZ ls = 0) := Lib.hid (by rw [hres, if_neg h0, if_neg h1, if_neg h2])
              have h2z : ¬ (m : Int) < 32768 := by omega
              clear hres hjg h0
              go_wp2_with fail
              go_ret
              exact ⟨ret_int (by rw [Hr.out]), rfl⟩
      | succ g =>
        have hj : j < ls.length := by omega
        have hjz : (j : Int) < (ls.length : Int) := by omega
        obtain ⟨b, off, rfl, hc⟩ := Hp.out.at j hj
        obtain ⟨v, hv⟩ : ∃ v, ls[j]?.getD 0 = v := ⟨_, rfl⟩
        rw [hv] at hc
        by_cases hbad : v < 0 ∨ 15 < v
        · have Hr := Lib.hid (check_bad (by omega) hj hv hbad)
          have hcase : v < 0 ∨ (¬ v < 0 ∧ 15 < v) := by omega
          clear hbad hv
          rcases hcase with h | ⟨h, h'⟩
          all_goals
            go_wp2_with fail
            go_ret
            exact ⟨ret_int (by rw [Hr.out]), rfl⟩
        · obtain ⟨n, rfl⟩ := Int.eq_ofNat_of_zero_le (show 0 ≤ v by omega)
          have h0 : ¬ (n : Int) < 0 := by omega
          have h15 : ¬ 15 < (n : Int) := by omega
          have hn : n ≤ 15 := by omega
          have Hk : Hid (kraft (ls.take (j + 1)) = m + partK (n : Int)) := Lib.hid (by rw [take_more hj hv, kraft_snoc, HM.out.1])
          have Hall : Hid (∀ l ∈ ls.take (j + 1), 0 ≤ l ∧ l ≤ 15) := Lib.hid fun l hl => by
            rw [take_more hj hv] at hl
            rcases List.mem_append.1 hl with hl | hl
            · exact HM.out.2 l hl
            · simp at hl; omega
          clear hbad hv
          go_wp2_with fail
          go_loopg [5, 6] n (fun g5 s5 s6 wx => ∃ (k z : Nat), k + g5 = n ∧ s6 = .int .i64 k ∧ s5 = .int .i64 z ∧ z ≤ 32768 ∧ Aside (z = 2 ^ (15 - k)) ∧ w = wx)
          case atStart => exact ⟨0, 32768, by omega, rfl, rfl, by omega, rfl, rfl⟩
          case round =>
            obtain ⟨k, z, hkg, rfl, rfl, hzb, HZ, rfl⟩ := hrel
            cases gk with
            | succ g5 =>
              have hkz : (k : Int) < (n : Int) := by omega
              obtain ⟨y, hy⟩ : ∃ y, z / 2 = y := ⟨_, rfl⟩
              have hyz : (z : Int) / 2 = (y : Int) := by omega
              have Hy : Hid (y = 2 ^ (15 - (k + 1))) := Lib.hid (by rw [← hy, HZ.out]; exact part_half hn (by omega))
              have hyb : y ≤ 32768 := by omega
              clear hy
              go_wp2_with fail
              go_roundg g5
              case measure => omega
              case rel => exact ⟨k + 1, y, by omega, by go_num, by go_num, hyb, Hy.out, rfl⟩
            | zero =>
              obtain rfl : k = n := by omega
              clear hkg
              by_cases hpos : 0 < k
              · have hpz : (0 : Int) < (k : Int) := by omega
                have Hp2 : Hid (partK (k : Int) = z) := Lib.hid (by unfold partK; rw [if_neg (by omega), HZ.out]; simp)
                go_wp2_with fail
                go_roundg g
                case measure => omega
                case rel => exact ⟨j + 1, m + z, by omega, by go_num, by go_num, by omega, ⟨by rw [Hk.out, Hp2.out], Hall.out⟩, rfl⟩
              · have hpz : ¬ (0 : Int) < (k : Int) := by omega
                have Hp2 : Hid (partK (k : Int) = 0) := Lib.hid (by unfold partK; rw [if_pos (by omega)])
                go_wp2_with fail
                go_roundg g
                case measure => omega
                case rel => exact ⟨j + 1, m, by omega, by go_num, rfl, by omega, ⟨by rw [Hk.out, Hp2.out]; rfl, Hall.out⟩, rfl⟩

set_option maxHeartbeats 1000000 in
theorem rRefused_any (p : Option Addr) (cap : Nat) (ls : List Int) (w : World) (hz : ls.length ≤ 9223372036854775807) (hp : Nums w p ls) :
    Calls Try.prog 28 #[.slice p ls.length cap] w fun e w' => e = .returned (.int .i64 (refusedZ ls)) ∧ w = w' := by
  have Hc := Lib.hid (rCheck_any p cap ls w hz hp)
  obtain ⟨c, hc⟩ : ∃ c, checkZ ls = c := ⟨_, rfl⟩
  have hr : refusedZ ls = if c = 12 ∨ c = 5 then 0 else c := by unfold refusedZ; rw [hc]
  rw [hc] at Hc
  clear hp
  by_cases h1 : c = 12
  · have Hr : Hid (refusedZ ls = 0) := Lib.hid (by rw [hr, if_pos (.inl h1)])
    subst h1
    clear hr hc
    go_enter Try.func28, Try.ntmps28
    go_wp2_with fail
    refine Hc.out.mono ?_
    rintro e w1 ⟨rfl, rfl⟩
    go_wp2_with fail
    go_ret
    exact ⟨ret_int (by rw [Hr.out]), rfl⟩
  · have h1z : (c == 12) = false := by simpa using h1
    by_cases h2 : c = 5
    · have Hr : Hid (refusedZ ls = 0) := Lib.hid (by rw [hr, if_pos (.inr h2)])
      subst h2
      clear hr hc h1 h1z
      go_enter Try.func28, Try.ntmps28
      go_wp2_with fail
      refine Hc.out.mono ?_
      rintro e w1 ⟨rfl, rfl⟩
      go_wp2_with fail
      go_ret
      exact ⟨ret_int (by rw [Hr.out]), rfl⟩
    · have h2z : (c == 5) = false := by simpa using h2
      have Hr : Hid (refusedZ ls = c) := Lib.hid (by rw [hr, if_neg (by omega)])
      clear hr hc h1 h2
      go_enter Try.func28, Try.ntmps28
      go_wp2_with fail
      refine Hc.out.mono ?_
      rintro e w1 ⟨rfl, rfl⟩
      go_wp2_with fail
      go_ret
      exact ⟨ret_int (by rw [Hr.out]), rfl⟩

end Go.Proofs.Ytahanllbaclokaa
