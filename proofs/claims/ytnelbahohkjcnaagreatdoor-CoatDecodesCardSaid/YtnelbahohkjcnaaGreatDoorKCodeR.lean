/-
  CodeRef, CodeRef2, CodeRef3, CodeRef4, RowAt, CodePut: texts merged.
-/
import Derived.Test.YtnelbahohkjcnaaGreatDoorRows
import Derived.Test.YtnelbahohkjcnaaGreatDoorKPlain
import Derived.Test.YtnelbahohkjcnaaGreatDoorKRows
import Derived.WalkKit
import Derived.WalkSpells
import Derived.WalkLawsBesides
import Derived.WalkSmall
import Derived.Lib.Hide
import Derived.Deep.LoopGhost
import Derived.Laws.OwnMore
import Derived.Deep.OwnRows
/-
  The contracts of the document's Check, Refused, Longest, Find of codes.
-/
namespace Go.Proofs.YtnelbahohkjcnaaGreatDoor
section
open Go.RowKit
def longZ (ls : List Int) : Int := ls.foldl max 0
theorem longZ_snoc (ls : List Int) (l : Int) : longZ (ls ++ [l]) = max (longZ ls) l := by simp [longZ]
theorem take_more {ls : List Int} {j : Nat} {v : Int} (hj : j < ls.length) (h : ls[j]?.getD 0 = v) : ls.take (j + 1) = ls.take j ++ [v] := by
  rw [List.getElem?_eq_getElem hj] at h
  simp only [Option.getD_some] at h
  rw [List.take_succ_eq_append_getElem hj, h]
set_option maxHeartbeats 1000000 in
theorem rLong_any (p : Option Addr) (cap : Nat) (ls : List Int) (w : World) (hz : ls.length ≤ 9223372036854775807) (hp : Nums w p ls) :
    Calls Tryz.prog 172 #[.slice p ls.length cap] w fun e w' => e = .returned (.int .i64 (longZ ls)) ∧ w = w' := by
  have Hp := Lib.hid hp
  clear hp
  go_enter Tryz.func172, Tryz.ntmps172
  go_wp2_with fail
  go_loopg [3, 4] ls.length (fun g s3 s4 wx => ∃ (j : Nat) (m : Int), j + g = ls.length ∧ s4 = .int .i64 j ∧ s3 = .int .i64 m ∧ Aside (m = longZ (ls.take j)) ∧ w = wx)
  case atStart => exact ⟨0, 0, by omega, rfl, rfl, rfl, rfl⟩
  case round =>
    obtain ⟨j, m, hjg, rfl, rfl, HM, rfl⟩ := hrel
    cases gk with
    | zero =>
      obtain rfl : j = ls.length := by omega
      have Hr : Hid (longZ ls = m) := Lib.hid (by rw [HM.out, List.take_length])
      clear hjg
      go_wp2_with fail
      go_ret
      exact ⟨ret_int (by rw [Hr.out]), rfl⟩
    | succ g =>
      have hj : j < ls.length := by omega
      have hjz : (j : Int) < (ls.length : Int) := by omega
      obtain ⟨b, off, rfl, hc⟩ := Hp.out.at j hj
      obtain ⟨v, hv⟩ : ∃ v, ls[j]?.getD 0 = v := ⟨_, rfl⟩
      rw [hv] at hc
      have Hnext : Hid (longZ (ls.take (j + 1)) = max m v) := Lib.hid (by rw [take_more hj hv, longZ_snoc, HM.out])
      clear hv
      by_cases hmv : ¬ v ≤ m
      · have Hn2 : Hid (longZ (ls.take (j + 1)) = v) := Lib.hid (by rw [Hnext.out]; omega)
        go_wp2_with fail
        go_roundg g
        case measure => omega
        case rel => exact ⟨j + 1, v, by omega, by go_num, by first | rfl | (congr 1; omega), Hn2.out.symm, rfl⟩
      · have hvm : v ≤ m := by omega
        clear hmv
        have Hn2 : Hid (longZ (ls.take (j + 1)) = m) := Lib.hid (by rw [Hnext.out]; omega)
        go_wp2_with fail
        go_roundg g
        case measure => omega
        case rel => exact ⟨j + 1, m, by omega, by go_num, by first | rfl | (congr 1; omega), Hn2.out.symm, rfl⟩
theorem check_bad {ls : List Int} {j : Nat} {v : Int} (h : ls.length ≤ 320) (hj : j < ls.length) (hv : ls[j]?.getD 0 = v) (hb : v < 0 ∨ 15 < v) : checkZ ls = 3 := by
  unfold checkZ
  rw [if_neg (by omega), if_neg]
  intro hall
  rw [List.getElem?_eq_getElem hj] at hv
  simp only [Option.getD_some] at hv
  have := List.all_eq_true.1 hall _ (List.getElem_mem hj)
  unfold okL at this
  rw [hv] at this
  simp only [decide_eq_true_eq] at this
  omega
theorem check_good {ls : List Int} (h : ls.length ≤ 320) (hall : ∀ l ∈ ls, 0 ≤ l ∧ l ≤ 15) : checkZ ls = if kraft ls = 0 then 12 else if 32768 < kraft ls then 7 else if kraft ls < 32768 then 5 else 0 := by
  unfold checkZ
  rw [if_neg (by omega), if_pos]
  rw [List.all_eq_true]
  intro l hl
  unfold okL
  simpa using hall l hl
theorem part_half {v k : Nat} (hv : v ≤ 15) (hk : k < v) : 2 ^ (15 - k) / 2 = 2 ^ (15 - (k + 1)) := by
  rw [show 15 - k = (15 - (k + 1)) + 1 by omega, Nat.pow_succ]; omega
set_option maxHeartbeats 2000000 in
theorem rCheck_any (p : Option Addr) (cap : Nat) (ls : List Int) (w : World) (hz : ls.length ≤ 9223372036854775807) (hp : Nums w p ls) :
    Calls Tryz.prog 127 #[.slice p ls.length cap] w fun e w' => e = .returned (.int .i64 (checkZ ls)) ∧ w = w' := by
  have Hp := Lib.hid hp
  clear hp
  by_cases hbig : (320 : Int) < (ls.length : Int)
  · have Hr : Hid (checkZ ls = 2) := Lib.hid (by unfold checkZ; rw [if_pos (by omega)])
    go_enter Tryz.func127, Tryz.ntmps127
    go_wp2_with fail
    go_ret
    exact ⟨ret_int (by rw [Hr.out]), rfl⟩
  · go_enter Tryz.func127, Tryz.ntmps127
    go_wp2_with fail
    go_loopg [3, 4] ls.length (fun g s3 s4 wx => ∃ (j m : Nat), j + g = ls.length ∧ s4 = .int .i64 j ∧ s3 = .int .i64 m ∧ m ≤ 32768 * j ∧ Aside (m = kraft (ls.take j) ∧ ∀ l ∈ ls.take j, 0 ≤ l ∧ l ≤ 15) ∧ w = wx)
    case atStart => exact ⟨0, 0, by omega, rfl, rfl, by omega, ⟨rfl, fun l hl => by simp at hl⟩, rfl⟩
    case round =>
      obtain ⟨j, m, hjg, rfl, rfl, hmb, HM, rfl⟩ := hrel
      cases gk with
      | zero =>
        obtain rfl : j = ls.length := by omega
        have hres := check_good (ls := ls) (by omega) (by have := HM.out.2; rwa [List.take_length] at this)
        rw [show kraft ls = m by rw [HM.out.1, List.take_length]] at hres
        by_cases h0 : m = 0
        · subst h0
          have Hr : Hid (checkZ ls = 12) := Lib.hid (by rw [hres]; rfl)
          clear hres hjg
          go_wp2_with fail
          go_ret
          exact ⟨ret_int (by rw [Hr.out]), rfl⟩
        · have h0z : ((m : Int) == 0) = false := by rw [beq_eq_false_iff_ne]; omega
          by_cases h1 : 32768 < m
          · have Hr : Hid (checkZ ls = 7) := Lib.hid (by rw [hres, if_neg h0, if_pos h1])
            have h1z : 32768 < (m : Int) := by omega
            clear hres hjg h0
            go_wp2_with fail
            go_ret
            exact ⟨ret_int (by rw [Hr.out]), rfl⟩
          · have h1z : ¬ 32768 < (m : Int) := by omega
            by_cases h2 : m < 32768
            · have Hr : Hid (checkZ ls = 5) := Lib.hid (by rw [hres, if_neg h0, if_neg h1, if_pos h2])
              have h2z : (m : Int) < 32768 := by omega
              clear hres hjg h0
              go_wp2_with fail
              go_ret
              exact ⟨ret_int (by rw [Hr.out]), rfl⟩
            · have Hr : Hid (checkZ ls = 0) := Lib.hid (by rw [hres, if_neg h0, if_neg h1, if_neg h2])
              have h2z : ¬ (m : Int) < 32768 := by omega
              clear hres hjg h0
              go_wp2_with fail
              go_ret
              exact ⟨ret_int (by rw [Hr.out]), rfl⟩
      | succ g =>
        have hj : j < ls.length := by omega
        have hjz : (j : Int) < (ls.length : Int) := by omega
        obtain ⟨b, off, rfl, hc⟩ := Hp.out.at j hj
        obtain ⟨v, hv⟩ : ∃ v, ls[j]?.getD 0 = v := ⟨_, rfl⟩
        rw [hv] at hc
        by_cases hbad : v < 0 ∨ 15 < v
        · have Hr := Lib.hid (check_bad (by omega) hj hv hbad)
          have hcase : v < 0 ∨ (¬ v < 0 ∧ 15 < v) := by omega
          clear hbad hv
          rcases hcase with h | ⟨h, h'⟩
          all_goals
            go_wp2_with fail
            go_ret
            exact ⟨ret_int (by rw [Hr.out]), rfl⟩
        · obtain ⟨n, rfl⟩ := Int.eq_ofNat_of_zero_le (show 0 ≤ v by omega)
          have h0 : ¬ (n : Int) < 0 := by omega
          have h15 : ¬ 15 < (n : Int) := by omega
          have hn : n ≤ 15 := by omega
          have Hk : Hid (kraft (ls.take (j + 1)) = m + partK (n : Int)) := Lib.hid (by rw [take_more hj hv, kraft_snoc, HM.out.1])
          have Hall : Hid (∀ l ∈ ls.take (j + 1), 0 ≤ l ∧ l ≤ 15) := Lib.hid fun l hl => by
            rw [take_more hj hv] at hl
            rcases List.mem_append.1 hl with hl | hl
            · exact HM.out.2 l hl
            · simp at hl; omega
          clear hbad hv
          go_wp2_with fail
          go_loopg [5, 6] n (fun g5 s5 s6 wx => ∃ (k z : Nat), k + g5 = n ∧ s6 = .int .i64 k ∧ s5 = .int .i64 z ∧ z ≤ 32768 ∧ Aside (z = 2 ^ (15 - k)) ∧ w = wx)
          case atStart => exact ⟨0, 32768, by omega, rfl, rfl, by omega, rfl, rfl⟩
          case round =>
            obtain ⟨k, z, hkg, rfl, rfl, hzb, HZ, rfl⟩ := hrel
            cases gk with
            | succ g5 =>
              have hkz : (k : Int) < (n : Int) := by omega
              obtain ⟨y, hy⟩ : ∃ y, z / 2 = y := ⟨_, rfl⟩
              have hyz : (z : Int) / 2 = (y : Int) := by omega
              have Hy : Hid (y = 2 ^ (15 - (k + 1))) := Lib.hid (by rw [← hy, HZ.out]; exact part_half hn (by omega))
              have hyb : y ≤ 32768 := by omega
              clear hy
              go_wp2_with fail
              go_roundg g5
              case measure => omega
              case rel => exact ⟨k + 1, y, by omega, by go_num, by go_num, hyb, Hy.out, rfl⟩
            | zero =>
              obtain rfl : k = n := by omega
              clear hkg
              by_cases hpos : 0 < k
              · have hpz : (0 : Int) < (k : Int) := by omega
                have Hp2 : Hid (partK (k : Int) = z) := Lib.hid (by unfold partK; rw [if_neg (by omega), HZ.out]; simp)
                go_wp2_with fail
                go_roundg g
                case measure => omega
                case rel => exact ⟨j + 1, m + z, by omega, by go_num, by go_num, by omega, ⟨by rw [Hk.out, Hp2.out], Hall.out⟩, rfl⟩
              · have hpz : ¬ (0 : Int) < (k : Int) := by omega
                have Hp2 : Hid (partK (k : Int) = 0) := Lib.hid (by unfold partK; rw [if_pos (by omega)])
                go_wp2_with fail
                go_roundg g
                case measure => omega
                case rel => exact ⟨j + 1, m, by omega, by go_num, rfl, by omega, ⟨by rw [Hk.out, Hp2.out]; rfl, Hall.out⟩, rfl⟩
set_option maxHeartbeats 1000000 in
theorem rRefused_any (p : Option Addr) (cap : Nat) (ls : List Int) (w : World) (hz : ls.length ≤ 9223372036854775807) (hp : Nums w p ls) :
    Calls Tryz.prog 117 #[.slice p ls.length cap] w fun e w' => e = .returned (.int .i64 (refusedZ ls)) ∧ w = w' := by
  have Hc := Lib.hid (rCheck_any p cap ls w hz hp)
  obtain ⟨c, hc⟩ : ∃ c, checkZ ls = c := ⟨_, rfl⟩
  have hr : refusedZ ls = if c = 12 ∨ c = 5 then 0 else c := by unfold refusedZ; rw [hc]
  rw [hc] at Hc
  clear hp
  by_cases h1 : c = 12
  · have Hr : Hid (refusedZ ls = 0) := Lib.hid (by rw [hr, if_pos (.inl h1)])
    subst h1
    clear hr hc
    go_enter Tryz.func117, Tryz.ntmps117
    go_wp2_with fail
    refine Hc.out.mono ?_
    rintro e w1 ⟨rfl, rfl⟩
    go_wp2_with fail
    go_ret
    exact ⟨ret_int (by rw [Hr.out]), rfl⟩
  · have h1z : (c == 12) = false := by simpa using h1
    by_cases h2 : c = 5
    · have Hr : Hid (refusedZ ls = 0) := Lib.hid (by rw [hr, if_pos (.inr h2)])
      subst h2
      clear hr hc h1 h1z
      go_enter Tryz.func117, Tryz.ntmps117
      go_wp2_with fail
      refine Hc.out.mono ?_
      rintro e w1 ⟨rfl, rfl⟩
      go_wp2_with fail
      go_ret
      exact ⟨ret_int (by rw [Hr.out]), rfl⟩
    · have h2z : (c == 5) = false := by simpa using h2
      have Hr : Hid (refusedZ ls = c) := Lib.hid (by rw [hr, if_neg (by omega)])
      clear hr hc h1 h2
      go_enter Tryz.func117, Tryz.ntmps117
      go_wp2_with fail
      refine Hc.out.mono ?_
      rintro e w1 ⟨rfl, rfl⟩
      go_wp2_with fail
      go_ret
      exact ⟨ret_int (by rw [Hr.out]), rfl⟩
end
end Go.Proofs.YtnelbahohkjcnaaGreatDoor
/-
  The contracts of the document's Find, Bits, Put of codes.
-/
namespace Go.Proofs.YtnelbahohkjcnaaGreatDoor
section
open Go.RowKit
theorem asZ_getD (cs : List Nat) {j : Nat} (h : j < cs.length) : (asZ cs)[j]?.getD 0 = ((cs[j] : Nat) : Int) := by
  rw [List.getElem?_eq_getElem (by rw [asZ_length]; exact h)]
  simp [asZ]
theorem findC_step {ls : List Int} {cs : List Nat} {w x j : Nat} (hl : j < ls.length) (hc : j < cs.length) :
    findC (ls.drop j) (cs.drop j) w x j = if ls[j] = (w : Int) ∧ cs[j] = x ∧ 0 < w then (j : Int) else findC (ls.drop (j + 1)) (cs.drop (j + 1)) w x (j + 1) := by
  rw [List.drop_eq_getElem_cons hl, List.drop_eq_getElem_cons hc, findC]
theorem findC_over {ls : List Int} {cs : List Nat} {w x j : Nat} (h : ¬ (j < cs.length ∧ j < ls.length)) : findC (ls.drop j) (cs.drop j) w x j = -1 := by
  by_cases hc : j < cs.length
  · rw [List.drop_of_length_le (show ls.length ≤ j by omega)]; rfl
  · rw [List.drop_of_length_le (show cs.length ≤ j by omega)]
    cases ls.drop j <;> rfl
set_option maxHeartbeats 2000000 in
theorem rFind_any (p1 p2 : Option Addr) (c1 c2 : Nat) (ls : List Int) (cs : List Nat) (wd x : Nat) (w : World) (_hz1 : ls.length ≤ 1000) (hz2 : cs.length ≤ 1000) (hw : wd ≤ 1000) (_hx : x ≤ 1000000) (hp1 : Nums w p1 ls) (hp2 : Nums w p2 (asZ cs)) :
    Calls Tryz.prog 173 #[.slice p1 ls.length c1, .slice p2 cs.length c2, .int .i64 (wd : Int), .int .i64 (x : Int)] w fun e w' => e = .returned (.int .i64 (findC ls cs wd x 0)) ∧ w = w' := by
  have Hp1 := Lib.hid hp1
  have Hp2 := Lib.hid hp2
  clear hp1 hp2
  go_enter Tryz.func173, Tryz.ntmps173
  go_wp2_with fail
  go_loopg [9] (ls.length + 1) (fun g s9 wx => ∃ j : Nat, j + g = ls.length + 1 ∧ s9 = .int .i64 j ∧ Aside (findC ls cs wd x 0 = findC (ls.drop j) (cs.drop j) wd x j) ∧ w = wx)
  case atStart => exact ⟨0, by omega, rfl, rfl, rfl⟩
  case round =>
    obtain ⟨j, hjg, rfl, HF, rfl⟩ := hrel
    by_cases hin : j < cs.length ∧ j < ls.length
    · obtain ⟨hc, hl⟩ := hin
      have hcz : (j : Int) < (cs.length : Int) := by omega
      have hlz : (j : Int) < (ls.length : Int) := by omega
      obtain ⟨b, off, rfl, hc1⟩ := Hp1.out.at j hl
      obtain ⟨b2, off2, rfl, hc2⟩ := Hp2.out.at j (by rw [asZ_length]; exact hc)
      rw [asZ_getD cs hc] at hc2
      rw [List.getElem?_eq_getElem hl] at hc1
      simp only [Option.getD_some] at hc1
      have hst := findC_step (w := wd) (x := x) hl hc
      obtain ⟨l, hlv⟩ : ∃ l, ls[j] = l := ⟨_, rfl⟩
      obtain ⟨c, hcv⟩ : ∃ c, cs[j] = c := ⟨_, rfl⟩
      rw [hlv] at hc1 hst
      rw [hcv] at hc2 hst
      clear hlv hcv
      by_cases h1 : l = (wd : Int)
      · have h1z : (l == (wd : Int)) = true := beq_iff_eq.2 h1
        by_cases h2 : c = x
        · have h2z : ((c : Int) == (x : Int)) = true := beq_iff_eq.2 (by rw [h2])
          by_cases h3 : 0 < wd
          · have Hr : Hid (findC ls cs wd x 0 = (j : Int)) := Lib.hid (by rw [HF.out, hst, if_pos ⟨h1, h2, h3⟩])
            have h3z : 0 < (wd : Int) := by omega
            clear hst h1 h2
            go_wp2_with fail
            go_ret
            exact ⟨ret_int (by rw [Hr.out]), rfl⟩
          · have Hn : Hid (findC ls cs wd x 0 = findC (ls.drop (j + 1)) (cs.drop (j + 1)) wd x (j + 1)) := Lib.hid (by rw [HF.out, hst, if_neg fun h => h3 h.2.2])
            have h3z : ¬ 0 < (wd : Int) := by omega
            clear hst h1 h2
            go_wp2_with fail
            go_roundg (ls.length - j)
            case measure => omega
            case rel => exact ⟨j + 1, by omega, by go_num, Hn.out, rfl⟩
        · have h2z : ((c : Int) == (x : Int)) = false := by rw [beq_eq_false_iff_ne]; omega
          have Hn : Hid (findC ls cs wd x 0 = findC (ls.drop (j + 1)) (cs.drop (j + 1)) wd x (j + 1)) := Lib.hid (by rw [HF.out, hst, if_neg fun h => h2 h.2.1])
          clear hst h1 h2
          go_wp2_with fail
          go_roundg (ls.length - j)
          case measure => omega
          case rel => exact ⟨j + 1, by omega, by go_num, Hn.out, rfl⟩
      · have h1z : (l == (wd : Int)) = false := by simpa using h1
        have Hn : Hid (findC ls cs wd x 0 = findC (ls.drop (j + 1)) (cs.drop (j + 1)) wd x (j + 1)) := Lib.hid (by rw [HF.out, hst, if_neg fun h => h1 h.1])
        clear hst h1
        go_wp2_with fail
        go_roundg (ls.length - j)
        case measure => omega
        case rel => exact ⟨j + 1, by omega, by go_num, Hn.out, rfl⟩
    · have Hr : Hid (findC ls cs wd x 0 = -1) := Lib.hid (by rw [HF.out, findC_over hin])
      have hcase : ¬ (j : Int) < (cs.length : Int) ∨ ((j : Int) < (cs.length : Int) ∧ ¬ (j : Int) < (ls.length : Int)) := by omega
      clear hin
      rcases hcase with h | ⟨h, h'⟩
      all_goals
        go_wp2_with fail
        go_ret
        exact ⟨ret_int (by rw [Hr.out]), rfl⟩
theorem bitsOf_take {s : ByteArray} {k : Nat} (h : k < s.size) : bitsOf (s.data.toList.take (k + 1)) = bitsOf (s.data.toList.take k) ++ bitsN 8 s[k].toNat := by
  rw [take_snoc s k h, bitsOf_append]
  simp [bitsOf]
set_option maxRecDepth 100000 in
set_option maxHeartbeats 2000000 in
theorem rBits_any (s : ByteArray) (w : World) (hs : s.size ≤ 100000) : Calls Tryz.prog 95 #[.string s] w (RowNew w (bitsOf s.data.toList)) := by
  go_enter Tryz.func95, Tryz.ntmps95
  go_wp2_with fail
  go_loopg [3, 4] s.size (fun g s3 s4 wx => ∃ k : Nat, k + g = s.size ∧ s4 = .int .i64 k ∧ Aside (Own64 wx w.heap.size s3 (asZ (bitsOf (s.data.toList.take k)))) ∧ Below w.heap.size w wx)
  case atStart => exact ⟨0, by omega, rfl, Own64.made w 0 #[] (Nat.le_refl _) (by decide) rfl, (Below.refl _ w).alloc (Nat.le_refl _) _⟩
  case round =>
    obtain ⟨k, hkg, rfl, HO, hb⟩ := hrel
    have Hb := Lib.hid hb
    clear hb
    cases gk with
    | zero =>
      obtain rfl : k = s.size := by omega
      rw [List.take_of_length_le (show s.data.toList.length ≤ s.size by rw [← size_data]; exact Nat.le_refl _)] at HO
      go_wp2_with fail
      go_ret
      exact Own64.row_new (row := bitsOf s.data.toList) HO.out Hb.out
    | succ g =>
      have hk : k < s.size := by omega
      have hkz : (k : Int) < (s.size : Int) := by omega
      have hc := s[k].toNat_lt
      have Hnext := Lib.hid (bitsOf_take hk)
      obtain ⟨c, hcv⟩ : ∃ c, s[k].toNat = c := ⟨_, rfl⟩
      rw [hcv] at Hnext hc
      go_wp2_with fail
      go_loopg [3, 5, 6] 8 (fun g5 s3 s5 s6 wx => ∃ (j x : Nat), j + g5 = 8 ∧ s6 = .int .i64 j ∧ s5 = .int .i64 x ∧ x ≤ 255 ∧ Aside (x = c / 2 ^ j ∧ Own64 wx w.heap.size s3 (asZ (bitsOf (s.data.toList.take k) ++ bitsN j c))) ∧ Below w.heap.size w wx)
      case atStart => exact ⟨0, c, by omega, rfl, rfl, by omega, ⟨by simp, by rw [bitsN, List.append_nil]; exact HO.out⟩, Hb.out⟩
      case round =>
        obtain ⟨j, x, hjg, rfl, rfl, hx, HX, hb2⟩ := hrel
        have Hb2 := Lib.hid hb2
        clear hb2
        cases gk with
        | zero =>
          obtain rfl : j = 8 := by omega
          go_wp2_with fail
          go_roundg g
          case measure => omega
          case rel => exact ⟨k + 1, by omega, by go_num, by show Own64 _ _ _ _; rw [Hnext.out]; exact HX.out.2, Hb2.out⟩
        | succ g5 =>
          have hjz : (j : Int) < 8 := by omega
          have hlen : (asZ (bitsOf (s.data.toList.take k) ++ bitsN j c)).length ≤ 1000000 := by rw [asZ_length, List.length_append, bitsN_length, bitsOf_length, List.length_take, ← size_data]; omega
          obtain ⟨r, hr2⟩ : ∃ r, x % 2 = r := ⟨_, rfl⟩
          obtain ⟨y, hy2⟩ : ∃ y, x / 2 = y := ⟨_, rfl⟩
          have hxb2 : (x : Int) % 2 = (r : Int) := by omega
          have hx2 : (x : Int) / 2 = (y : Int) := by omega
          have hyb : y ≤ 255 := by omega
          have Hn2 : Hid (y = c / 2 ^ (j + 1) ∧ bitsN (j + 1) c = bitsN j c ++ [r]) := Lib.hid (by
            rw [← hy2, ← hr2, HX.out.1]
            exact ⟨by rw [Nat.div_div_eq_div_mul, Nat.pow_succ], bitsN_snoc j c⟩)
          clear hr2 hy2
          go_wp2_with (at_builtin; refine wpList_append64 rfl (.tmp 22) (.tmp 25) rfl w.heap.size _ (asZ (bitsOf (s.data.toList.take k) ++ bitsN j c)) rfl (HX.out.2.alloc _) ⟨wr.heap.size, 0, none⟩ 1 [(r : Int)] rfl (cells_newZ _ _) (by simp) (by simp; omega) w (Hb2.out.alloc Hb2.out.size _) (by have := Hb2.out.size; simp; omega) ?_; intro v3 w3 Ho3 Hb3 _)
          go_roundg g5
          case measure => omega
          case rel => exact ⟨j + 1, y, by omega, by go_num, by go_num, hyb, ⟨Hn2.out.1, by rw [Hn2.out.2, ← List.append_assoc, asZ_snoc]; exact Ho3.out⟩, Hb3.out⟩
end
end Go.Proofs.YtnelbahohkjcnaaGreatDoor
/-
  The contracts of the document's Read of codes.
-/
namespace Go.Proofs.YtnelbahohkjcnaaGreatDoor
section
open Go.RowKit
theorem cellsZ_set (l : List Int) (j : Nat) (v : Int) : (cellsZ l).set j (.int .i64 v) = cellsZ (l.set j v) := by unfold cellsZ; rw [List.map_set]
theorem Own64.set {w : World} {B g n cap : Nat} {l : List Int} (h : Own64 w B (.slice (some ⟨g, 0, none⟩) n cap) l) (j : Nat) (v : Int) : Own64 (w.setCell ⟨g, j, none⟩ (.int .i64 v)) B (.slice (some ⟨g, 0, none⟩) n cap) (l.set j v) := by
  obtain ⟨h1, g', cap', hv⟩ := h
  have hn : n = l.length := by injection hv
  subst hn
  have h2 := (World.ownsRow.stored h1 j (.int .i64 v)).1
  rw [cellsZ_set] at h2
  unfold Own64
  rw [List.length_set]
  exact ⟨h2, _, _, rfl⟩
theorem Own64.there {w : World} {B g n cap : Nat} {l : List Int} (h : Own64 w B (.slice (some ⟨g, 0, none⟩) n cap) l) {j : Nat} (hj : j < l.length) : ∃ v, w.cell? ⟨g, j, none⟩ = some (.int .i64 v) ∧ w.frozen? ⟨g, j, none⟩ = false ∧ B ≤ g := by
  obtain ⟨g', cap', hv, _, hc⟩ := h.at
  obtain ⟨h1, _⟩ := h
  have hg : g = g' := by injection hv with e1 _ _; injection e1 with e1; injection e1
  have hn : n = l.length := by injection hv
  subst hg hn
  exact ⟨_, hc j hj, World.ownsRow.frozenAt h1 j, (h1.lt g rfl).1⟩
theorem asZ_set (l : List Nat) (j v : Nat) : (asZ l).set j (v : Int) = asZ (l.set j v) := by unfold asZ; rw [List.map_set]
theorem asZ_append (a b : List Nat) : asZ (a ++ b) = asZ a ++ asZ b := by simp [asZ]
def onC (n : Nat) (r : Int × Nat × Int) : Int × Nat × Int := (r.1, r.2.1 + n, r.2.2)
theorem readC_end {ls : List Int} {cs : List Nat} {n code : Nat} {r : List Nat} : readC ls cs 0 n code r = (0, 0, 4) := rfl
theorem readC_short {ls : List Int} {cs : List Nat} {k n code : Nat} : readC ls cs (k + 1) n code [] = (0, 0, 5) := rfl
theorem readC_hit {ls : List Int} {cs : List Nat} {k n code b : Nat} {r : List Nat} (h : 0 ≤ findC ls cs (n + 1) (2 * code + b) 0) : readC ls cs (k + 1) n code (b :: r) = (findC ls cs (n + 1) (2 * code + b) 0, 1, 0) := by rw [readC, if_pos h]
theorem readC_miss {ls : List Int} {cs : List Nat} {k n code b : Nat} {r : List Nat} (h : ¬ 0 ≤ findC ls cs (n + 1) (2 * code + b) 0) : readC ls cs (k + 1) n code (b :: r) = onC 1 (readC ls cs k (n + 1) (2 * code + b) r) := by rw [readC, if_neg h]; rfl
theorem onC_onC (a b : Nat) (r : Int × Nat × Int) : onC a (onC b r) = onC (a + b) r := by unfold onC; simp; omega
theorem onC_zero (r : Int × Nat × Int) : onC 0 r = r := rfl
theorem readC_le (ls : List Int) (cs : List Nat) : ∀ (k n code : Nat) (l : List Nat), (readC ls cs k n code l).2.1 ≤ l.length
  | 0, _, _, _ => by rw [readC_end]; exact Nat.zero_le _
  | _ + 1, _, _, [] => by rw [readC_short]; exact Nat.zero_le _
  | k + 1, n, code, b :: r => by
    by_cases h : 0 ≤ findC ls cs (n + 1) (2 * code + b) 0
    · rw [readC_hit h]; simp
    · rw [readC_miss h]
      have := readC_le ls cs k (n + 1) (2 * code + b) r
      unfold onC
      simp only [List.length_cons]; omega
set_option maxRecDepth 100000 in
set_option maxHeartbeats 2000000 in
theorem rRead_is (p1 p2 p3 : Option Addr) (c1 c2 c3 : Nat) (ls : List Int) (cs bs : List Nat) (pos L : Nat) (w : World) (hz1 : ls.length ≤ 1000) (hz2 : cs.length ≤ 1000) (hz3 : bs.length ≤ 1000000) (hL : longZ ls = (L : Int)) (hL15 : L ≤ 15) (hb2 : ∀ b ∈ bs, b < 2) (hpos : pos ≤ bs.length)
    (hp1 : Nums w p1 ls) (hp2 : Nums w p2 (asZ cs)) (hp3 : Nums w p3 (asZ bs)) {sy e : Int} {m : Nat} (h : readC ls cs L 0 0 (bs.drop pos) = (sy, m, e)) :
    Calls Tryz.prog 154 #[.slice p1 ls.length c1, .slice p2 cs.length c2, .slice p3 bs.length c3, .int .i64 (pos : Int)] w fun en w' => en = .returned (.tuple #[.int .i64 sy, .int .i64 ((pos + m : Nat) : Int), .int .i64 e]) ∧ w = w' := by
  have Hp1 := Lib.hid hp1
  have Hp2 := Lib.hid hp2
  have Hp3 := Lib.hid hp3
  have H := Lib.hid h
  have Hlong := Lib.hid (rLong_any p1 c1 ls w (by omega) hp1)
  have Hb2 := Lib.hid hb2
  rw [hL] at Hlong
  clear hp1 hp2 hp3 h hb2
  go_enter Tryz.func154, Tryz.ntmps154
  go_wp2_with fail
  refine Hlong.out.mono ?_
  rintro e w1 ⟨rfl, rfl⟩
  go_wp2_with fail
  go_loopg [3, 11, 13] L (fun g s3 s11 s13 wx => ∃ (n code : Nat), n + g = L ∧ s13 = .int .i64 ((n : Int) + 1) ∧ s3 = .int .i64 ((pos : Int) + n) ∧ s11 = .int .i64 code ∧ Aside (code < 2 ^ n) ∧ pos + n ≤ bs.length ∧ Aside ((sy, m, e) = onC n (readC ls cs g n code (bs.drop (pos + n)))) ∧ w = wx)
  case atStart => exact ⟨0, 0, by omega, rfl, by go_num, rfl, by show 0 < 1; omega, by omega, by show _ = _; rw [onC_zero]; exact H.out.symm, rfl⟩
  case round =>
    obtain ⟨n, code, hng, rfl, rfl, rfl, HC, hpn, HR, rfl⟩ := hrel
    have hcode : code ≤ 32768 := by
      have h1 := HC.out
      have h2 : (2 : Nat) ^ n ≤ 2 ^ 15 := Nat.pow_le_pow_right (by omega) (by omega)
      omega
    cases gk with
    | zero =>
      have Hr : Hid ((sy, m, e) = (0, n, 4)) := Lib.hid (by rw [HR.out, readC_end]; unfold onC; simp)
      have hnz : ¬ (n : Int) + 1 ≤ (L : Int) := by omega
      go_wp2_with fail
      go_ret3
      simp only [Prod.mk.injEq] at Hr
      obtain ⟨rfl, rfl, rfl⟩ := Hr.out
      exact ⟨rfl, rfl⟩
    | succ g =>
      have hnz : (n : Int) + 1 ≤ (L : Int) := by omega
      by_cases hend : pos + n < bs.length
      · have hez : ¬ (bs.length : Int) ≤ (pos : Int) + (n : Int) := by omega
        obtain ⟨b3, off3, rfl, hc3⟩ := Hp3.out.at (pos + n) (by rw [asZ_length]; exact hend)
        rw [asZ_getD bs hend] at hc3
        have hbb := Hb2.out _ (List.getElem_mem hend)
        have hr := HR.out
        rw [List.drop_eq_getElem_cons hend] at hr
        obtain ⟨b, hb⟩ : ∃ b, bs[pos + n] = b := ⟨_, rfl⟩
        rw [hb] at hc3 hbb hr
        obtain ⟨code2, hcd⟩ : ∃ x, 2 * code + b = x := ⟨_, rfl⟩
        have hcz : 2 * (code : Int) + (b : Int) = (code2 : Int) := by omega
        have hc2b : code2 ≤ 65537 := by omega
        have Hlt : Hid (code2 < 2 ^ (n + 1)) := Lib.hid (by have := HC.out; rw [Nat.pow_succ]; omega)
        have q1 : ((pos : Int) + (n : Int)).toNat = pos + n := by omega
        have q2 : (pos : Int) + (n : Int) < (bs.length : Int) := by omega
        have Hfind := Lib.hid (rFind_any p1 p2 c1 c2 ls cs (n + 1) code2 w hz1 hz2 (by omega) (by omega) Hp1.out Hp2.out)
        rw [Int.natCast_add] at Hfind
        obtain ⟨fv, hfv⟩ : ∃ fv, findC ls cs (n + 1) code2 0 = fv := ⟨_, rfl⟩
        rw [hfv] at Hfind
        by_cases hhit : 0 ≤ fv
        · have Hr : Hid ((sy, m, e) = (fv, 1 + n, 0)) := Lib.hid (by
            rw [hr, readC_hit (by rw [hcd, hfv]; exact hhit), hcd, hfv]; rfl)
          clear hr hb hcd hfv hend hbb
          go_wp2_with fail
          refine Hfind.out.mono ?_
          rintro e w1 ⟨rfl, rfl⟩
          go_wp2_with fail
          go_ret3
          simp only [Prod.mk.injEq] at Hr
          obtain ⟨rfl, rfl, rfl⟩ := Hr.out
          exact ⟨by rw [show ((pos + (1 + n) : Nat) : Int) = (pos : Int) + (n : Int) + 1 by omega]; rfl, rfl⟩
        · have Hr : Hid ((sy, m, e) = onC (n + 1) (readC ls cs g (n + 1) code2 (bs.drop (pos + (n + 1))))) := Lib.hid (by
            rw [hr, readC_miss (by rw [hcd, hfv]; exact hhit), hcd, onC_onC]; rfl)
          clear hr hb hcd hfv hbb
          go_wp2_with fail
          refine Hfind.out.mono ?_
          rintro e w1 ⟨rfl, rfl⟩
          go_wp2_with fail
          go_roundg g
          case measure => omega
          case rel => exact ⟨n + 1, code2, by omega, by go_num, by go_num, by first | rfl | go_num, Hlt.out, by omega, Hr.out, rfl⟩
      · have hez : (bs.length : Int) ≤ (pos : Int) + (n : Int) := by omega
        have Hr : Hid ((sy, m, e) = (0, n, 5)) := Lib.hid (by rw [HR.out, List.drop_of_length_le (by omega), readC_short]; unfold onC; simp)
        clear hend
        go_wp2_with fail
        go_ret3
        simp only [Prod.mk.injEq] at Hr
        obtain ⟨rfl, rfl, rfl⟩ := Hr.out
        exact ⟨rfl, rfl⟩
end
end Go.Proofs.YtnelbahohkjcnaaGreatDoor
/-
  The contract of the document's Codes.
-/
namespace Go.Proofs.YtnelbahohkjcnaaGreatDoor
section
open Go.RowKit
set_option maxRecDepth 100000 in
set_option maxHeartbeats 2000000 in
theorem rCodes_good (p : Option Addr) (cap : Nat) (ls : List Int) (w : World) (hp : Nums w p ls) (he : refusedZ ls = 0) :
    Calls Tryz.prog 83 #[.slice p ls.length cap] w fun en w' => ∃ g' cap', en = .returned (.tuple #[.slice (some ⟨g', 0, none⟩) ls.length cap', .int .i64 0]) ∧ BitsAt w' g' (codesN (natsOf ls)) ∧ Below w.heap.size w w' ∧ w.heap.size ≤ g' := by
  obtain ⟨hl, hall, hk⟩ := refusedZ_zero he
  have Hr := Lib.hid (rRefused_any p cap ls w (by omega) hp)
  rw [he] at Hr
  have Hp := Lib.hid hp
  have Hall := Lib.hid hall
  have Hk := Lib.hid hk
  have Hns : Hid ((natsOf ls).length = ls.length) := Lib.hid (natsOf_length ls)
  clear hp he hall hk
  go_enter Tryz.func83, Tryz.ntmps83
  go_wp2_with fail
  refine Hr.out.mono ?_
  rintro en w1 ⟨rfl, rfl⟩
  go_wp2_with fail
  go_loopg [5, 6] ls.length (fun gg s5 s6 wx => ∃ k : Nat, k + gg = ls.length ∧ s6 = .int .i64 k ∧ Aside (Own64 wx w.heap.size s5 (asZ (List.replicate k 0))) ∧ Below w.heap.size w wx)
  case atStart => exact ⟨0, by omega, rfl, Own64.made w 0 #[] (Nat.le_refl _) (by decide) rfl, (Below.refl _ w).alloc (Nat.le_refl _) _⟩
  case round =>
    obtain ⟨k, hkg, rfl, HO, hb⟩ := hrel
    have Hb := Lib.hid hb
    clear hb
    cases gk with
    | succ gg =>
      have hkz : (k : Int) < (ls.length : Int) := by omega
      have hlen : (asZ (List.replicate k 0)).length ≤ 2000000 := by rw [asZ_length, List.length_replicate]; omega
      go_wp2_with (at_builtin; refine wpList_append64 rfl (.tmp 22) (.tmp 23) rfl w.heap.size _ (asZ (List.replicate k 0)) rfl (HO.out.alloc _) ⟨wr.heap.size, 0, none⟩ 1 [0] rfl (cells_newZ _ _) (by simp) (by simp; omega) w (Hb.out.alloc Hb.out.size _) (by have := Hb.out.size; simp; omega) ?_; intro v3 w3 Ho3 Hb3 _)
      go_roundg gg
      case measure => omega
      case rel => exact ⟨k + 1, by omega, by go_num, by show Own64 _ _ _ _; rw [List.replicate_succ', asZ_snoc]; exact Ho3.out, Hb3.out⟩
    | zero =>
      obtain rfl : k = ls.length := by omega
      obtain ⟨g3, cap3, hv⟩ := HO.out.2
      rw [asZ_length, List.length_replicate] at hv
      subst hv
      clear hkg
      go_wp2_with fail
      go_loopg [7, 8] 15 (fun gg s7 s8 wx => ∃ n m : Nat, n + gg = 15 ∧ s8 = .int .i64 ((n : Int) + 1) ∧ s7 = .int .i64 (m : Int) ∧ m ≤ 32768 ∧ Aside (m = endC (natsOf ls) n ∧ Own64 wx w.heap.size (.slice (some ⟨g3, 0, none⟩) ls.length cap3) (asZ (partC (natsOf ls) n 0))) ∧ Below w.heap.size w wx)
      case atStart => exact ⟨0, 0, by omega, rfl, rfl, by omega, ⟨rfl, by rw [← partC_none, Hns.out]; exact HO.out⟩, Hb.out⟩
      case round =>
        obtain ⟨n, m, hng, rfl, rfl, hm, HM, hb2⟩ := hrel
        have Hb2 := Lib.hid hb2
        clear hb2
        cases gk with
        | zero =>
          have hnz : ¬ (n : Int) + 1 ≤ 15 := by omega
          obtain rfl : n = 15 := by omega
          have hfin : Own64 wr w.heap.size (.slice (some ⟨g3, 0, none⟩) ls.length cap3) (asZ (codesN (natsOf ls))) := by have := HM.out.2; rwa [partC_all (natsOf_le Hall.out)] at this
          have Hfin := Lib.hid hfin
          clear hfin
          go_wp2_with fail
          go_ret2
          obtain ⟨g', cap', hv, hB, hbits⟩ := Own64.bits Hfin.out
          rw [codesN_length, Hns.out] at hv
          exact ⟨g', ⟨cap', congrArg (fun v => Ending.returned (.tuple #[v, .int .i64 0])) hv⟩, hbits, Hb2.out, hB⟩
        | succ gg =>
          have hnz : (n : Int) + 1 ≤ 15 := by omega
          have Hend : Hid (∀ j, nextC (natsOf ls) n j ≤ 32768) := Lib.hid fun j => Nat.le_trans (nextC_le _ _ _) (endC_small Hall.out Hk.out (by omega))
          go_wp2_with fail
          go_loopg [7, 9] ls.length (fun g9 s7 s9 wx => ∃ j x : Nat, j + g9 = ls.length ∧ s9 = .int .i64 (j : Int) ∧ s7 = .int .i64 (x : Int) ∧ x ≤ 65536 ∧ Aside (x = nextC (natsOf ls) n j ∧ Own64 wx w.heap.size (.slice (some ⟨g3, 0, none⟩) ls.length cap3) (asZ (partC (natsOf ls) n j))) ∧ Below w.heap.size w wx)
          case atStart => exact ⟨0, 2 * m, by omega, rfl, by go_num, by omega, ⟨by rw [nextC_zero, HM.out.1], HM.out.2⟩, Hb2.out⟩
          case round =>
            obtain ⟨j, x, hjg, rfl, rfl, hx, HX, hb3⟩ := hrel
            have Hb3 := Lib.hid hb3
            clear hb3
            cases gk with
            | zero =>
              obtain rfl : j = ls.length := by omega
              have hxs : x ≤ 32768 := by rw [HX.out.1]; exact Hend.out _
              have Hx2 : Hid (x = endC (natsOf ls) (n + 1) ∧ Own64 wr w.heap.size (.slice (some ⟨g3, 0, none⟩) ls.length cap3) (asZ (partC (natsOf ls) (n + 1) 0))) := Lib.hid (by
                have h1 := HX.out
                rw [← Hns.out, nextC_end, partC_next, Hns.out] at h1
                exact h1)
              clear hjg
              go_wp2_with fail
              go_roundg gg
              case measure => omega
              case rel => exact ⟨n + 1, x, by omega, by go_num, rfl, hxs, Hx2.out, Hb3.out⟩
            | succ g9 =>
              have hj : j < ls.length := by omega
              have hjz : (j : Int) < (ls.length : Int) := by omega
              obtain ⟨b, off, rfl, hc⟩ := (Hp.out.later Hb3.out).at j hj
              obtain ⟨v, hv⟩ : ∃ v, ls[j]?.getD 0 = v := ⟨_, rfl⟩
              rw [hv] at hc
              have hnat := natsOf_at hj
              rw [hv] at hnat
              have hv0 : 0 ≤ v ∧ v ≤ 15 := by
                rw [List.getElem?_eq_getElem hj] at hv
                simp only [Option.getD_some] at hv
                have := Hall.out _ (List.getElem_mem hj)
                rwa [hv] at this
              have hjn : j < (natsOf ls).length := by rw [Hns.out]; exact hj
              by_cases hvn : v = (n : Int) + 1
              · have hvz : (v == (n : Int) + 1) = true := by simpa using hvn
                have hat : (natsOf ls)[j]?.getD 0 = n + 1 := by omega
                obtain ⟨v0, hcell, hfz, hBg⟩ := HX.out.2.there (j := j) (by rw [asZ_length, partC_length]; exact hjn)
                have hset := HX.out.2.set j (x : Int)
                rw [asZ_set, HX.out.1, partC_hit hjn hat, ← HX.out.1] at hset
                have Hset := Lib.hid hset
                have Hx2 : Hid (x + 1 = nextC (natsOf ls) n (j + 1)) := Lib.hid (by rw [nextC_hit hat hjn, HX.out.1])
                have hx2 : x + 1 ≤ 32768 := by rw [Hx2.out]; exact Hend.out _
                clear hset hv hnat hat hvn
                go_wp2_with fail
                go_roundg g9
                case measure => omega
                case rel => exact ⟨j + 1, x + 1, by omega, by go_num, by go_num, by omega, ⟨Hx2.out, Hset.out⟩, Hb3.out.setCell hBg _⟩
              · have hvz : (v == (n : Int) + 1) = false := by simpa using hvn
                have hat : (natsOf ls)[j]?.getD 0 ≠ n + 1 := by omega
                have Hx2 : Hid (x = nextC (natsOf ls) n (j + 1) ∧ Own64 wr w.heap.size (.slice (some ⟨g3, 0, none⟩) ls.length cap3) (asZ (partC (natsOf ls) n (j + 1)))) := Lib.hid (by
                  rw [nextC_miss hat hjn, ← partC_miss hat]; exact HX.out)
                clear hv hnat hat hvn
                go_wp2_with fail
                go_roundg g9
                case measure => omega
                case rel => exact ⟨j + 1, x, by omega, by go_num, rfl, hx, Hx2.out, Hb3.out⟩
end
end Go.Proofs.YtnelbahohkjcnaaGreatDoor
/-
  Rows of numbers that were made at their whole length.
-/
namespace Go.Proofs.YtnelbahohkjcnaaGreatDoor
section
open Go.RowKit
def RowAt (w : World) (g : Nat) (l : List Nat) : Prop := w.heap[g]? = some (.cells (cellsZ (asZ l)).toArray 3 (0, 0))
theorem RowAt.cell {w : World} {g : Nat} {l : List Nat} (h : RowAt w g l) {j x : Nat} (hj : l[j]? = some x) : w.cell? ⟨g, j, none⟩ = some (.int .i64 (x : Int)) := by
  obtain ⟨h1, h2⟩ := List.getElem?_eq_some_iff.1 hj
  rw [cell_of_row _ _ _ _ _ _ h, List.getElem?_toArray, cellsZ_at (by rw [asZ_length]; exact h1), asZ_get, h2]
theorem RowAt.free {w : World} {g : Nat} {l : List Nat} (h : RowAt w g l) (j : Nat) : w.frozen? ⟨g, j, none⟩ = false := frozen_of_row _ _ _ _ _ h
theorem RowAt.put {w : World} {g : Nat} {l : List Nat} (h : RowAt w g l) (j x : Nat) : RowAt (w.setCell ⟨g, j, none⟩ (.int .i64 (x : Int))) g (l.set j x) := by
  unfold RowAt
  rw [heap_setCell_same _ _ _ _ _ _ h, List.setIfInBounds_toArray]
  unfold cellsZ asZ
  rw [List.map_set, List.map_set]
theorem RowAt.lt {w : World} {g : Nat} {l : List Nat} (h : RowAt w g l) : g < w.heap.size := by
  rcases Nat.lt_or_ge g w.heap.size with h' | h'
  · exact h'
  · unfold RowAt at h; rw [Array.getElem?_eq_none h'] at h; simp at h
theorem RowAt.later {w w' : World} {g : Nat} {l : List Nat} (h : RowAt w g l) (hb : Below w.heap.size w w') : RowAt w' g l := (hb.block g h.lt).trans h
theorem RowAt.other {w : World} {g : Nat} {l : List Nat} (h : RowAt w g l) {a : Addr} (v : Value) (hne : g ≠ a.block) : RowAt (w.setCell a v) g l := (heap_setCell_other _ _ _ _ hne).trans h
theorem RowAt.nums {w : World} {g : Nat} {l : List Nat} (h : RowAt w g l) : Nums w (some ⟨g, 0, none⟩) (asZ l) :=
  .inr ⟨g, 0, rfl, fun i hi => by
    rw [asZ_length] at hi
    rw [Nat.zero_add, h.cell (List.getElem?_eq_getElem hi), asZ_getD l hi]⟩
theorem made_zeros (n : Nat) : madeCells (Value.int .i64 0).cells n = (cellsZ (asZ (List.replicate n 0))).toArray := by
  unfold madeCells cellsZ asZ
  apply Array.ext
  · simp
  · intro i h1 h2
    simp [Value.cells, Nat.mod_one]
theorem make_row (n : Nat) (W : World) (h : n ≤ 100000) :
    (Instr.makeSlice 88 (.int .i64 (n : Int)) (.int .i64 (n : Int))).run Tryz.prog W = .ok (.slice (some ⟨W.heap.size, 0, none⟩) n n) (W.alloc (.cells (cellsZ (asZ (List.replicate n 0))).toArray 3)) := by
  obtain ⟨i0, hi, hz0, hz1, hz2⟩ := info_parts info64
  have hr := run_make (P := Tryz.prog) W 88 3 i0 (.int .i64 0) Tryz.underlying88 hi hz0 .i64 .i64 (n : Int) (n : Int) (by omega) (by omega) (by rw [hz2]; omega) (by omega)
  rw [hz1, Int.toNat_natCast, Nat.mul_one, made_zeros] at hr
  exact hr
end
end Go.Proofs.YtnelbahohkjcnaaGreatDoor
/-
  The contract of the document's Put of codes.
-/
namespace Go.Proofs.YtnelbahohkjcnaaGreatDoor
section
open Go.RowKit
end
end Go.Proofs.YtnelbahohkjcnaaGreatDoor
