/-
  CodeRef, CodeRef2, CodeRef3, CodeRef4, RowAt, CodePut: texts merged.
-/
import Derived.Test.YtiiiokikmjgliaaGreatDoorRows
import Derived.Test.YtiiiokikmjgliaaGreatDoorKPlain
import Derived.Test.YtiiiokikmjgliaaGreatDoorKRows
import Derived.WalkKit
import Derived.WalkSpells
import Derived.WalkLawsBesides
import Derived.WalkSmall
import Derived.Lib.Hide
import Derived.Deep.LoopGhost
import Derived.Laws.OwnMore
import Derived.Deep.OwnRows
/-
  The contracts of the document's Check, Refused, Longest, Find of codes.
-/
namespace Go.Proofs.YtiiiokikmjgliaaGreatDoor
section
open Go.RowKit
def longZ (ls : List Int) : Int := ls.foldl max 0
theorem longZ_snoc (ls : List Int) (l : Int) : longZ (ls ++ [l]) = max (longZ ls) l := by simp [longZ]
theorem take_more {ls : List Int} {j : Nat} {v : Int} (hj : j < ls.length) (h : ls[j]?.getD 0 = v) : ls.take (j + 1) = ls.take j ++ [v] := by
  rw [List.getElem?_eq_getElem hj] at h
  simp only [Option.getD_some] at h
  rw [List.take_succ_eq_append_getElem hj, h]
theorem check_bad {ls : List Int} {j : Nat} {v : Int} (h : ls.length ≤ 320) (hj : j < ls.length) (hv : ls[j]?.getD 0 = v) (hb : v < 0 ∨ 15 < v) : checkZ ls = 3 := by
  unfold checkZ
  rw [if_neg (by omega), if_neg]
  intro hall
  rw [List.getElem?_eq_getElem hj] at hv
  simp only [Option.getD_some] at hv
  have := List.all_eq_true.1 hall _ (List.getElem_mem hj)
  unfold okL at this
  rw [hv] at this
  simp only [decide_eq_true_eq] at this
  omega
theorem check_good {ls : List Int} (h : ls.length ≤ 320) (hall : ∀ l ∈ ls, 0 ≤ l ∧ l ≤ 15) : checkZ ls = if kraft ls = 0 then 12 else if 32768 < kraft ls then 7 else if kraft ls < 32768 then 5 else 0 := by
  unfold checkZ
  rw [if_neg (by omega), if_pos]
  rw [List.all_eq_true]
  intro l hl
  unfold okL
  simpa using hall l hl
theorem part_half {v k : Nat} (hv : v ≤ 15) (hk : k < v) : 2 ^ (15 - k) / 2 = 2 ^ (15 - (k + 1)) := by
  rw [show 15 - k = (15 - (k + 1)) + 1 by omega, Nat.pow_succ]; omega
set_option maxHeartbeats 2000000 in
theorem rCheck_any (p : Option Addr) (cap : Nat) (ls : List Int) (w : World) (hz : ls.length ≤ 9223372036854775807) (hp : Nums w p ls) :
    Calls Tryz.prog 129 #[.slice p ls.length cap] w fun e w' => e = .returned (.int .i64 (checkZ ls)) ∧ w = w' := by
  have Hp := Lib.hid hp
  clear hp
  by_cases hbig : (320 : Int) < (ls.length : Int)
  · have Hr : Hid (checkZ ls = 2) := Lib.hid (by unfold checkZ; rw [if_pos (by omega)])
    go_enter Tryz.func129, Tryz.ntmps129
    go_wp2_with fail
    go_ret
    exact ⟨ret_int (by rw [Hr.out]), rfl⟩
  · go_enter Tryz.func129, Tryz.ntmps129
    go_wp2_with fail
    go_loopg [3, 4] ls.length (fun g s3 s4 wx => ∃ (j m : Nat), j + g = ls.length ∧ s4 = .int .i64 j ∧ s3 = .int .i64 m ∧ m ≤ 32768 * j ∧ Aside (m = kraft (ls.take j) ∧ ∀ l ∈ ls.take j, 0 ≤ l ∧ l ≤ 15) ∧ w = wx)
    case atStart => exact ⟨0, 0, by omega, rfl, rfl, by omega, ⟨rfl, fun l hl => by simp at hl⟩, rfl⟩
    case round =>
      obtain ⟨j, m, hjg, rfl, rfl, hmb, HM, rfl⟩ := hrel
      cases gk with
      | zero =>
        obtain rfl : j = ls.length := by omega
        have hres := check_good (ls := ls) (by omega) (by have := HM.out.2; rwa [List.take_length] at this)
        rw [show kraft ls = m by rw [HM.out.1, List.take_length]] at hres
        by_cases h0 : m = 0
        · subst h0
          have Hr : Hid (checkZ ls = 12) := Lib.hid (by rw [hres]; rfl)
          clear hres hjg
          go_wp2_with fail
          go_ret
          exact ⟨ret_int (by rw [Hr.out]), rfl⟩
        · have h0z : ((m : Int) == 0) = false := by rw [beq_eq_false_iff_ne]; omega
          by_cases h1 : 32768 < m
          · have Hr : Hid (checkZ ls = 7) := Lib.hid (by rw [hres, if_neg h0, if_pos h1])
            have h1z : 32768 < (m : Int) := by omega
            clear hres hjg h0
            go_wp2_with fail
            go_ret
            exact ⟨ret_int (by rw [Hr.out]), rfl⟩
          · have h1z : ¬ 32768 < (m : Int) := by omega
            by_cases h2 : m < 32768
            · have Hr : Hid (checkZ ls = 5) := Lib.hid (by rw [hres, if_neg h0, if_neg h1, if_pos h2])
              have h2z : (m : Int) < 32768 := by omega
              clear hres hjg h0
              go_wp2_with fail
              go_ret
              exact ⟨ret_int (by rw [Hr.out]), rfl⟩
            · have Hr : Hid (checkZ ls = 0) := Lib.hid (by rw [hres, if_neg h0, if_neg h1, if_neg h2])
              have h2z : ¬ (m : Int) < 32768 := by omega
              clear hres hjg h0
              go_wp2_with fail
              go_ret
              exact ⟨ret_int (by rw [Hr.out]), rfl⟩
      | succ g =>
        have hj : j < ls.length := by omega
        have hjz : (j : Int) < (ls.length : Int) := by omega
        obtain ⟨b, off, rfl, hc⟩ := Hp.out.at j hj
        obtain ⟨v, hv⟩ : ∃ v, ls[j]?.getD 0 = v := ⟨_, rfl⟩
        rw [hv] at hc
        by_cases hbad : v < 0 ∨ 15 < v
        · have Hr := Lib.hid (check_bad (by omega) hj hv hbad)
          have hcase : v < 0 ∨ (¬ v < 0 ∧ 15 < v) := by omega
          clear hbad hv
          rcases hcase with h | ⟨h, h'⟩
          all_goals
            go_wp2_with fail
            go_ret
            exact ⟨ret_int (by rw [Hr.out]), rfl⟩
        · obtain ⟨n, rfl⟩ := Int.eq_ofNat_of_zero_le (show 0 ≤ v by omega)
          have h0 : ¬ (n : Int) < 0 := by omega
          have h15 : ¬ 15 < (n : Int) := by omega
          have hn : n ≤ 15 := by omega
          have Hk : Hid (kraft (ls.take (j + 1)) = m + partK (n : Int)) := Lib.hid (by rw [take_more hj hv, kraft_snoc, HM.out.1])
          have Hall : Hid (∀ l ∈ ls.take (j + 1), 0 ≤ l ∧ l ≤ 15) := Lib.hid fun l hl => by
            rw [take_more hj hv] at hl
            rcases List.mem_append.1 hl with hl | hl
            · exact HM.out.2 l hl
            · simp at hl; omega
          clear hbad hv
          go_wp2_with fail
          go_loopg [5, 6] n (fun g5 s5 s6 wx => ∃ (k z : Nat), k + g5 = n ∧ s6 = .int .i64 k ∧ s5 = .int .i64 z ∧ z ≤ 32768 ∧ Aside (z = 2 ^ (15 - k)) ∧ w = wx)
          case atStart => exact ⟨0, 32768, by omega, rfl, rfl, by omega, rfl, rfl⟩
          case round =>
            obtain ⟨k, z, hkg, rfl, rfl, hzb, HZ, rfl⟩ := hrel
            cases gk with
            | succ g5 =>
              have hkz : (k : Int) < (n : Int) := by omega
              obtain ⟨y, hy⟩ : ∃ y, z / 2 = y := ⟨_, rfl⟩
              have hyz : (z : Int) / 2 = (y : Int) := by omega
              have Hy : Hid (y = 2 ^ (15 - (k + 1))) := Lib.hid (by rw [← hy, HZ.out]; exact part_half hn (by omega))
              have hyb : y ≤ 32768 := by omega
              clear hy
              go_wp2_with fail
              go_roundg g5
              case measure => omega
              case rel => exact ⟨k + 1, y, by omega, by go_num, by go_num, hyb, Hy.out, rfl⟩
            | zero =>
              obtain rfl : k = n := by omega
              clear hkg
              by_cases hpos : 0 < k
              · have hpz : (0 : Int) < (k : Int) := by omega
                have Hp2 : Hid (partK (k : Int) = z) := Lib.hid (by unfold partK; rw [if_neg (by omega), HZ.out]; simp)
                go_wp2_with fail
                go_roundg g
                case measure => omega
                case rel => exact ⟨j + 1, m + z, by omega, by go_num, by go_num, by omega, ⟨by rw [Hk.out, Hp2.out], Hall.out⟩, rfl⟩
              · have hpz : ¬ (0 : Int) < (k : Int) := by omega
                have Hp2 : Hid (partK (k : Int) = 0) := Lib.hid (by unfold partK; rw [if_pos (by omega)])
                go_wp2_with fail
                go_roundg g
                case measure => omega
                case rel => exact ⟨j + 1, m, by omega, by go_num, rfl, by omega, ⟨by rw [Hk.out, Hp2.out]; rfl, Hall.out⟩, rfl⟩
set_option maxHeartbeats 1000000 in
theorem rRefused_any (p : Option Addr) (cap : Nat) (ls : List Int) (w : World) (hz : ls.length ≤ 9223372036854775807) (hp : Nums w p ls) :
    Calls Tryz.prog 103 #[.slice p ls.length cap] w fun e w' => e = .returned (.int .i64 (refusedZ ls)) ∧ w = w' := by
  have Hc := Lib.hid (rCheck_any p cap ls w hz hp)
  obtain ⟨c, hc⟩ : ∃ c, checkZ ls = c := ⟨_, rfl⟩
  have hr : refusedZ ls = if c = 12 ∨ c = 5 then 0 else c := by unfold refusedZ; rw [hc]
  rw [hc] at Hc
  clear hp
  by_cases h1 : c = 12
  · have Hr : Hid (refusedZ ls = 0) := Lib.hid (by rw [hr, if_pos (.inl h1)])
    subst h1
    clear hr hc
    go_enter Tryz.func103, Tryz.ntmps103
    go_wp2_with fail
    refine Hc.out.mono ?_
    rintro e w1 ⟨rfl, rfl⟩
    go_wp2_with fail
    go_ret
    exact ⟨ret_int (by rw [Hr.out]), rfl⟩
  · have h1z : (c == 12) = false := by simpa using h1
    by_cases h2 : c = 5
    · have Hr : Hid (refusedZ ls = 0) := Lib.hid (by rw [hr, if_pos (.inr h2)])
      subst h2
      clear hr hc h1 h1z
      go_enter Tryz.func103, Tryz.ntmps103
      go_wp2_with fail
      refine Hc.out.mono ?_
      rintro e w1 ⟨rfl, rfl⟩
      go_wp2_with fail
      go_ret
      exact ⟨ret_int (by rw [Hr.out]), rfl⟩
    · have h2z : (c == 5) = false := by simpa using h2
      have Hr : Hid (refusedZ ls = c) := Lib.hid (by rw [hr, if_neg (by omega)])
      clear hr hc h1 h2
      go_enter Tryz.func103, Tryz.ntmps103
      go_wp2_with fail
      refine Hc.out.mono ?_
      rintro e w1 ⟨rfl, rfl⟩
      go_wp2_with fail
      go_ret
      exact ⟨ret_int (by rw [Hr.out]), rfl⟩
end
end Go.Proofs.YtiiiokikmjgliaaGreatDoor
/-
  The contracts of the document's Find, Bits, Put of codes.
-/
namespace Go.Proofs.YtiiiokikmjgliaaGreatDoor
section
open Go.RowKit
theorem asZ_getD (cs : List Nat) {j : Nat} (h : j < cs.length) : (asZ cs)[j]?.getD 0 = ((cs[j] : Nat) : Int) := by
  rw [List.getElem?_eq_getElem (by rw [asZ_length]; exact h)]
  simp [asZ]
end
end Go.Proofs.YtiiiokikmjgliaaGreatDoor
/-
  The contracts of the document's Read of codes.
-/
namespace Go.Proofs.YtiiiokikmjgliaaGreatDoor
section
open Go.RowKit
theorem cellsZ_set (l : List Int) (j : Nat) (v : Int) : (cellsZ l).set j (.int .i64 v) = cellsZ (l.set j v) := by unfold cellsZ; rw [List.map_set]
theorem Own64.set {w : World} {B g n cap : Nat} {l : List Int} (h : Own64 w B (.slice (some ⟨g, 0, none⟩) n cap) l) (j : Nat) (v : Int) : Own64 (w.setCell ⟨g, j, none⟩ (.int .i64 v)) B (.slice (some ⟨g, 0, none⟩) n cap) (l.set j v) := by
  obtain ⟨h1, g', cap', hv⟩ := h
  have hn : n = l.length := by injection hv
  subst hn
  have h2 := (World.ownsRow.stored h1 j (.int .i64 v)).1
  rw [cellsZ_set] at h2
  unfold Own64
  rw [List.length_set]
  exact ⟨h2, _, _, rfl⟩
theorem Own64.there {w : World} {B g n cap : Nat} {l : List Int} (h : Own64 w B (.slice (some ⟨g, 0, none⟩) n cap) l) {j : Nat} (hj : j < l.length) : ∃ v, w.cell? ⟨g, j, none⟩ = some (.int .i64 v) ∧ w.frozen? ⟨g, j, none⟩ = false ∧ B ≤ g := by
  obtain ⟨g', cap', hv, _, hc⟩ := h.at
  obtain ⟨h1, _⟩ := h
  have hg : g = g' := by injection hv with e1 _ _; injection e1 with e1; injection e1
  have hn : n = l.length := by injection hv
  subst hg hn
  exact ⟨_, hc j hj, World.ownsRow.frozenAt h1 j, (h1.lt g rfl).1⟩
theorem asZ_set (l : List Nat) (j v : Nat) : (asZ l).set j (v : Int) = asZ (l.set j v) := by unfold asZ; rw [List.map_set]
theorem asZ_append (a b : List Nat) : asZ (a ++ b) = asZ a ++ asZ b := by simp [asZ]
def onC (n : Nat) (r : Int × Nat × Int) : Int × Nat × Int := (r.1, r.2.1 + n, r.2.2)
theorem readC_end {ls : List Int} {cs : List Nat} {n code : Nat} {r : List Nat} : readC ls cs 0 n code r = (0, 0, 4) := rfl
theorem readC_short {ls : List Int} {cs : List Nat} {k n code : Nat} : readC ls cs (k + 1) n code [] = (0, 0, 5) := rfl
theorem readC_hit {ls : List Int} {cs : List Nat} {k n code b : Nat} {r : List Nat} (h : 0 ≤ findC ls cs (n + 1) (2 * code + b) 0) : readC ls cs (k + 1) n code (b :: r) = (findC ls cs (n + 1) (2 * code + b) 0, 1, 0) := by rw [readC, if_pos h]
theorem readC_miss {ls : List Int} {cs : List Nat} {k n code b : Nat} {r : List Nat} (h : ¬ 0 ≤ findC ls cs (n + 1) (2 * code + b) 0) : readC ls cs (k + 1) n code (b :: r) = onC 1 (readC ls cs k (n + 1) (2 * code + b) r) := by rw [readC, if_neg h]; rfl
theorem onC_onC (a b : Nat) (r : Int × Nat × Int) : onC a (onC b r) = onC (a + b) r := by unfold onC; simp; omega
theorem onC_zero (r : Int × Nat × Int) : onC 0 r = r := rfl
end
end Go.Proofs.YtiiiokikmjgliaaGreatDoor
/-
  The contract of the document's Codes.
-/
namespace Go.Proofs.YtiiiokikmjgliaaGreatDoor
section
open Go.RowKit
set_option maxRecDepth 100000 in
set_option maxHeartbeats 2000000 in
theorem rCodes_good (p : Option Addr) (cap : Nat) (ls : List Int) (w : World) (hp : Nums w p ls) (he : refusedZ ls = 0) :
    Calls Tryz.prog 77 #[.slice p ls.length cap] w fun en w' => ∃ g' cap', en = .returned (.tuple #[.slice (some ⟨g', 0, none⟩) ls.length cap', .int .i64 0]) ∧ BitsAt w' g' (codesN (natsOf ls)) ∧ Below w.heap.size w w' ∧ w.heap.size ≤ g' := by
  obtain ⟨hl, hall, hk⟩ := refusedZ_zero he
  have Hr := Lib.hid (rRefused_any p cap ls w (by omega) hp)
  rw [he] at Hr
  have Hp := Lib.hid hp
  have Hall := Lib.hid hall
  have Hk := Lib.hid hk
  have Hns : Hid ((natsOf ls).length = ls.length) := Lib.hid (natsOf_length ls)
  clear hp he hall hk
  go_enter Tryz.func77, Tryz.ntmps77
  go_wp2_with fail
  refine Hr.out.mono ?_
  rintro en w1 ⟨rfl, rfl⟩
  go_wp2_with fail
  go_loopg [5, 6] ls.length (fun gg s5 s6 wx => ∃ k : Nat, k + gg = ls.length ∧ s6 = .int .i64 k ∧ Aside (Own64 wx w.heap.size s5 (asZ (List.replicate k 0))) ∧ Below w.heap.size w wx)
  case atStart => exact ⟨0, by omega, rfl, Own64.made w 0 #[] (Nat.le_refl _) (by decide) rfl, (Below.refl _ w).alloc (Nat.le_refl _) _⟩
  case round =>
    obtain ⟨k, hkg, rfl, HO, hb⟩ := hrel
    have Hb := Lib.hid hb
    clear hb
    cases gk with
    | succ gg =>
      have hkz : (k : Int) < (ls.length : Int) := by omega
      have hlen : (asZ (List.replicate k 0)).length ≤ 2000000 := by rw [asZ_length, List.length_replicate]; omega
      go_wp2_with (at_builtin; refine wpList_append64 rfl (.tmp 22) (.tmp 23) rfl w.heap.size _ (asZ (List.replicate k 0)) rfl (HO.out.alloc _) ⟨wr.heap.size, 0, none⟩ 1 [0] rfl (cells_newZ _ _) (by simp) (by simp; omega) w (Hb.out.alloc Hb.out.size _) (by have := Hb.out.size; simp; omega) ?_; intro v3 w3 Ho3 Hb3 _)
      go_roundg gg
      case measure => omega
      case rel => exact ⟨k + 1, by omega, by go_num, by show Own64 _ _ _ _; rw [List.replicate_succ', asZ_snoc]; exact Ho3.out, Hb3.out⟩
    | zero =>
      obtain rfl : k = ls.length := by omega
      obtain ⟨g3, cap3, hv⟩ := HO.out.2
      rw [asZ_length, List.length_replicate] at hv
      subst hv
      clear hkg
      go_wp2_with fail
      go_loopg [7, 8] 15 (fun gg s7 s8 wx => ∃ n m : Nat, n + gg = 15 ∧ s8 = .int .i64 ((n : Int) + 1) ∧ s7 = .int .i64 (m : Int) ∧ m ≤ 32768 ∧ Aside (m = endC (natsOf ls) n ∧ Own64 wx w.heap.size (.slice (some ⟨g3, 0, none⟩) ls.length cap3) (asZ (partC (natsOf ls) n 0))) ∧ Below w.heap.size w wx)
      case atStart => exact ⟨0, 0, by omega, rfl, rfl, by omega, ⟨rfl, by rw [← partC_none, Hns.out]; exact HO.out⟩, Hb.out⟩
      case round =>
        obtain ⟨n, m, hng, rfl, rfl, hm, HM, hb2⟩ := hrel
        have Hb2 := Lib.hid hb2
        clear hb2
        cases gk with
        | zero =>
          have hnz : ¬ (n : Int) + 1 ≤ 15 := by omega
          obtain rfl : n = 15 := by omega
          have hfin : Own64 wr w.heap.size (.slice (some ⟨g3, 0, none⟩) ls.length cap3) (asZ (codesN (natsOf ls))) := by have := HM.out.2; rwa [partC_all (natsOf_le Hall.out)] at this
          have Hfin := Lib.hid hfin
          clear hfin
          go_wp2_with fail
          go_ret2
          obtain ⟨g', cap', hv, hB, hbits⟩ := Own64.bits Hfin.out
          rw [codesN_length, Hns.out] at hv
          exact ⟨g', ⟨cap', congrArg (fun v => Ending.returned (.tuple #[v, .int .i64 0])) hv⟩, hbits, Hb2.out, hB⟩
        | succ gg =>
          have hnz : (n : Int) + 1 ≤ 15 := by omega
          have Hend : Hid (∀ j, nextC (natsOf ls) n j ≤ 32768) := Lib.hid fun j => Nat.le_trans (nextC_le _ _ _) (endC_small Hall.out Hk.out (by omega))
          go_wp2_with fail
          go_loopg [7, 9] ls.length (fun g9 s7 s9 wx => ∃ j x : Nat, j + g9 = ls.length ∧ s9 = .int .i64 (j : Int) ∧ s7 = .int .i64 (x : Int) ∧ x ≤ 65536 ∧ Aside (x = nextC (natsOf ls) n j ∧ Own64 wx w.heap.size (.slice (some ⟨g3, 0, none⟩) ls.length cap3) (asZ (partC (natsOf ls) n j))) ∧ Below w.heap.size w wx)
          case atStart => exact ⟨0, 2 * m, by omega, rfl, by go_num, by omega, ⟨by rw [nextC_zero, HM.out.1], HM.out.2⟩, Hb2.out⟩
          case round =>
            obtain ⟨j, x, hjg, rfl, rfl, hx, HX, hb3⟩ := hrel
            have Hb3 := Lib.hid hb3
            clear hb3
            cases gk with
            | zero =>
              obtain rfl : j = ls.length := by omega
              have hxs : x ≤ 32768 := by rw [HX.out.1]; exact Hend.out _
              have Hx2 : Hid (x = endC (natsOf ls) (n + 1) ∧ Own64 wr w.heap.size (.slice (some ⟨g3, 0, none⟩) ls.length cap3) (asZ (partC (natsOf ls) (n + 1) 0))) := Lib.hid (by
                have h1 := HX.out
                rw [← Hns.out, nextC_end, partC_next, Hns.out] at h1
                exact h1)
              clear hjg
              go_wp2_with fail
              go_roundg gg
              case measure => omega
              case rel => exact ⟨n + 1, x, by omega, by go_num, rfl, hxs, Hx2.out, Hb3.out⟩
            | succ g9 =>
              have hj : j < ls.length := by omega
              have hjz : (j : Int) < (ls.length : Int) := by omega
              obtain ⟨b, off, rfl, hc⟩ := (Hp.out.later Hb3.out).at j hj
              obtain ⟨v, hv⟩ : ∃ v, ls[j]?.getD 0 = v := ⟨_, rfl⟩
              rw [hv] at hc
              have hnat := natsOf_at hj
              rw [hv] at hnat
              have hv0 : 0 ≤ v ∧ v ≤ 15 := by
                rw [List.getElem?_eq_getElem hj] at hv
                simp only [Option.getD_some] at hv
                have := Hall.out _ (List.getElem_mem hj)
                rwa [hv] at this
              have hjn : j < (natsOf ls).length := by rw [Hns.out]; exact hj
              by_cases hvn : v = (n : Int) + 1
              · have hvz : (v == (n : Int) + 1) = true := by simpa using hvn
                have hat : (natsOf ls)[j]?.getD 0 = n + 1 := by omega
                obtain ⟨v0, hcell, hfz, hBg⟩ := HX.out.2.there (j := j) (by rw [asZ_length, partC_length]; exact hjn)
                have hset := HX.out.2.set j (x : Int)
                rw [asZ_set, HX.out.1, partC_hit hjn hat, ← HX.out.1] at hset
                have Hset := Lib.hid hset
                have Hx2 : Hid (x + 1 = nextC (natsOf ls) n (j + 1)) := Lib.hid (by rw [nextC_hit hat hjn, HX.out.1])
                have hx2 : x + 1 ≤ 32768 := by rw [Hx2.out]; exact Hend.out _
                clear hset hv hnat hat hvn
                go_wp2_with fail
                go_roundg g9
                case measure => omega
                case rel => exact ⟨j + 1, x + 1, by omega, by go_num, by go_num, by omega, ⟨Hx2.out, Hset.out⟩, Hb3.out.setCell hBg _⟩
              · have hvz : (v == (n : Int) + 1) = false := by simpa using hvn
                have hat : (natsOf ls)[j]?.getD 0 ≠ n + 1 := by omega
                have Hx2 : Hid (x = nextC (natsOf ls) n (j + 1) ∧ Own64 wr w.heap.size (.slice (some ⟨g3, 0, none⟩) ls.length cap3) (asZ (partC (natsOf ls) n (j + 1)))) := Lib.hid (by
                  rw [nextC_miss hat hjn, ← partC_miss hat]; exact HX.out)
                clear hv hnat hat hvn
                go_wp2_with fail
                go_roundg g9
                case measure => omega
                case rel => exact ⟨j + 1, x, by omega, by go_num, rfl, hx, Hx2.out, Hb3.out⟩
end
end Go.Proofs.YtiiiokikmjgliaaGreatDoor
/-
  Rows of numbers that were made at their whole length.
-/
namespace Go.Proofs.YtiiiokikmjgliaaGreatDoor
section
open Go.RowKit
def RowAt (w : World) (g : Nat) (l : List Nat) : Prop := w.heap[g]? = some (.cells (cellsZ (asZ l)).toArray 3 (0, 0))
theorem RowAt.cell {w : World} {g : Nat} {l : List Nat} (h : RowAt w g l) {j x : Nat} (hj : l[j]? = some x) : w.cell? ⟨g, j, none⟩ = some (.int .i64 (x : Int)) := by
  obtain ⟨h1, h2⟩ := List.getElem?_eq_some_iff.1 hj
  rw [cell_of_row _ _ _ _ _ _ h, List.getElem?_toArray, cellsZ_at (by rw [asZ_length]; exact h1), asZ_get, h2]
theorem RowAt.free {w : World} {g : Nat} {l : List Nat} (h : RowAt w g l) (j : Nat) : w.frozen? ⟨g, j, none⟩ = false := frozen_of_row _ _ _ _ _ h
theorem RowAt.put {w : World} {g : Nat} {l : List Nat} (h : RowAt w g l) (j x : Nat) : RowAt (w.setCell ⟨g, j, none⟩ (.int .i64 (x : Int))) g (l.set j x) := by
  unfold RowAt
  rw [heap_setCell_same _ _ _ _ _ _ h, List.setIfInBounds_toArray]
  unfold cellsZ asZ
  rw [List.map_set, List.map_set]
theorem RowAt.lt {w : World} {g : Nat} {l : List Nat} (h : RowAt w g l) : g < w.heap.size := by
  rcases Nat.lt_or_ge g w.heap.size with h' | h'
  · exact h'
  · unfold RowAt at h; rw [Array.getElem?_eq_none h'] at h; simp at h
theorem RowAt.later {w w' : World} {g : Nat} {l : List Nat} (h : RowAt w g l) (hb : Below w.heap.size w w') : RowAt w' g l := (hb.block g h.lt).trans h
theorem RowAt.other {w : World} {g : Nat} {l : List Nat} (h : RowAt w g l) {a : Addr} (v : Value) (hne : g ≠ a.block) : RowAt (w.setCell a v) g l := (heap_setCell_other _ _ _ _ hne).trans h
theorem RowAt.nums {w : World} {g : Nat} {l : List Nat} (h : RowAt w g l) : Nums w (some ⟨g, 0, none⟩) (asZ l) :=
  .inr ⟨g, 0, rfl, fun i hi => by
    rw [asZ_length] at hi
    rw [Nat.zero_add, h.cell (List.getElem?_eq_getElem hi), asZ_getD l hi]⟩
theorem made_zeros (n : Nat) : madeCells (Value.int .i64 0).cells n = (cellsZ (asZ (List.replicate n 0))).toArray := by
  unfold madeCells cellsZ asZ
  apply Array.ext
  · simp
  · intro i h1 h2
    simp [Value.cells, Nat.mod_one]
theorem make_row (n : Nat) (W : World) (h : n ≤ 100000) :
    (Instr.makeSlice 100 (.int .i64 (n : Int)) (.int .i64 (n : Int))).run Tryz.prog W = .ok (.slice (some ⟨W.heap.size, 0, none⟩) n n) (W.alloc (.cells (cellsZ (asZ (List.replicate n 0))).toArray 3)) := by
  obtain ⟨i0, hi, hz0, hz1, hz2⟩ := info_parts info64
  have hr := run_make (P := Tryz.prog) W 100 3 i0 (.int .i64 0) Tryz.underlying100 hi hz0 .i64 .i64 (n : Int) (n : Int) (by omega) (by omega) (by rw [hz2]; omega) (by omega)
  rw [hz1, Int.toNat_natCast, Nat.mul_one, made_zeros] at hr
  exact hr
end
end Go.Proofs.YtiiiokikmjgliaaGreatDoor
/-
  The contract of the document's Put of codes.
-/
namespace Go.Proofs.YtiiiokikmjgliaaGreatDoor
section
open Go.RowKit
def partly (row : List Nat) (wd code t : Nat) : List Nat := row ++ (List.replicate (wd - t) 0 ++ (bitsN t code).reverse)
theorem partly_length {row : List Nat} {wd code t : Nat} (h : t ≤ wd) : (partly row wd code t).length = row.length + wd := by
  unfold partly
  rw [List.length_append, List.length_append, List.length_replicate, List.length_reverse, bitsN_length]; omega
theorem partly_step {row : List Nat} {wd code t : Nat} (h : t < wd) : (partly row wd code t).set (row.length + (wd - (t + 1))) (code / 2 ^ t % 2) = partly row wd code (t + 1) := by
  unfold partly
  rw [bitsN_snoc, List.reverse_append, List.set_append_right _ _ (by omega), Nat.add_sub_cancel_left]
  congr 1
  rw [show wd - t = (wd - (t + 1)) + 1 by omega, List.replicate_succ', List.append_assoc, List.set_append_right _ _ (by rw [List.length_replicate]; exact Nat.le_refl _), List.length_replicate, Nat.sub_self]
  rfl
theorem partly_end (row : List Nat) (wd code : Nat) : partly row wd code wd = row ++ codeBits wd code := by
  unfold partly codeBits
  rw [Nat.sub_self]; rfl
set_option maxRecDepth 100000 in
set_option maxHeartbeats 2000000 in
theorem rPutC_any (g c : Nat) (row : List Nat) (wd code : Nat) (w : World) (hr : BitsAt w g row) (hl : row.length ≤ 1000000) (hw : wd ≤ 15) (hc : code ≤ 1000000) :
    Calls Tryz.prog 80 #[.slice (some ⟨g, 0, none⟩) row.length c, .int .i64 (wd : Int), .int .i64 (code : Int)] w (RowNew w (row ++ codeBits wd code)) := by
  have Hin := Lib.hid hr
  have Hal := Lib.hid (asZ_length row)
  clear hr
  go_enter Tryz.func80, Tryz.ntmps80
  go_wp2_with (at_builtin; refine wpList_append64_any rfl (.tmp 11) (.tmp 12) rfl w.heap.size _ [] rfl (Own64.made w 0 #[] (Nat.le_refl _) (by decide) rfl) ⟨g, 0, none⟩ c (asZ row) (by rw [Hal.out]; rfl) (Hin.out.news_alloc _) (by rw [Hal.out]; simp; omega) w ((Below.refl _ w).alloc (Nat.le_refl _) _) (by simp) ?_; intro v2 w2 Ho2 Hb2 hf2; obtain ⟨g2, cap2, hf⟩ := hf2; rw [show ([] : List Int).length + (asZ row).length = row.length by rw [Hal.out]; simp] at hf; subst hf)
  go_loopg [7, 9] wd (fun gg s7 s9 wx => ∃ k : Nat, k + gg = wd ∧ s9 = .int .i64 k ∧ Aside (Own64 wx w.heap.size s7 (asZ (row ++ List.replicate k 0))) ∧ Below w.heap.size w wx)
  case atStart => exact ⟨0, by omega, rfl, by show Own64 _ _ _ _; simpa using Ho2.out, Hb2.out⟩
  case round =>
    obtain ⟨k, hkg, rfl, HO, hb⟩ := hrel
    have Hb := Lib.hid hb
    clear hb
    cases gk with
    | succ gg =>
      have hkz : (k : Int) < (wd : Int) := by omega
      have hlen : (asZ (row ++ List.replicate k 0)).length ≤ 2000000 := by rw [asZ_length, List.length_append, List.length_replicate]; omega
      go_wp2_with (at_builtin; refine wpList_append64 rfl (.tmp 21) (.tmp 22) rfl w.heap.size _ (asZ (row ++ List.replicate k 0)) rfl (HO.out.alloc _) ⟨wr.heap.size, 0, none⟩ 1 [0] rfl (cells_newZ _ _) (by simp) (by simp; omega) w (Hb.out.alloc Hb.out.size _) (by have := Hb.out.size; simp; omega) ?_; intro v3 w3 Ho3 Hb3 _)
      go_roundg gg
      case measure => omega
      case rel => exact ⟨k + 1, by omega, by go_num, by show Own64 _ _ _ _; rw [List.replicate_succ', ← List.append_assoc, asZ_snoc]; exact Ho3.out, Hb3.out⟩
    | zero =>
      obtain rfl : k = wd := by omega
      obtain ⟨g3, cap3, hv⟩ := HO.out.2
      rw [asZ_length, List.length_append, List.length_replicate] at hv
      subst hv
      clear hkg
      go_wp2_with fail
      go_loopg [2, 10] k (fun gg s2 s10 wx => ∃ x : Nat, gg ≤ k ∧ s10 = .int .i64 ((gg : Int) - 1) ∧ s2 = .int .i64 x ∧ x ≤ 1000000 ∧ Aside (x = code / 2 ^ (k - gg) ∧ Own64 wx w.heap.size (.slice (some ⟨g3, 0, none⟩) (row.length + k) cap3) (asZ (partly row k code (k - gg)))) ∧ Below w.heap.size w wx)
      case atStart => exact ⟨code, Nat.le_refl _, rfl, rfl, hc, ⟨by simp, by rw [Nat.sub_self]; unfold partly; simpa [bitsN] using HO.out⟩, Hb.out⟩
      case round =>
        obtain ⟨x, hgk, rfl, rfl, hx, HX, hb2⟩ := hrel
        have Hb2 := Lib.hid hb2
        clear hb2
        cases gk with
        | zero =>
          have hfin : Own64 wr w.heap.size (.slice (some ⟨g3, 0, none⟩) (row.length + k) cap3) (asZ (row ++ codeBits k code)) := by have := HX.out.2; rwa [Nat.sub_zero, partly_end] at this
          have Hfin := Lib.hid hfin
          clear hfin
          go_wp2_with fail
          go_ret
          exact Own64.row_new Hfin.out Hb2.out
        | succ gg =>
          have hgz : 0 ≤ ((gg + 1 : Nat) : Int) - 1 := by omega
          obtain ⟨v0, hcell, hfz, hBg⟩ := HX.out.2.there (j := row.length + gg) (by rw [asZ_length, partly_length (by omega)]; omega)
          obtain ⟨r, hr2⟩ : ∃ r, x % 2 = r := ⟨_, rfl⟩
          obtain ⟨y, hy2⟩ : ∃ y, x / 2 = y := ⟨_, rfl⟩
          have hxb2 : (x : Int) % 2 = (r : Int) := by omega
          have hx2 : (x : Int) / 2 = (y : Int) := by omega
          have hyb : y ≤ 1000000 := by omega
          have q1 : ((row.length : Int) + (gg : Int)).toNat = row.length + gg := by omega
          have q2 : (row.length : Int) + (gg : Int) < (row.length : Int) + (k : Int) := by omega
          have hset := HX.out.2.set (row.length + gg) (r : Int)
          have hps := partly_step (row := row) (wd := k) (code := code) (t := k - (gg + 1)) (by omega)
          rw [show k - (k - (gg + 1) + 1) = gg by omega, show k - (gg + 1) + 1 = k - gg by omega, ← HX.out.1, hr2] at hps
          rw [asZ_set, hps] at hset
          have Hset := Lib.hid hset
          have Hy : Hid (y = code / 2 ^ (k - gg)) := Lib.hid (by rw [← hy2, HX.out.1, Nat.div_div_eq_div_mul, ← Nat.pow_succ, show (k - (gg + 1)).succ = k - gg by omega])
          clear hr2 hy2 hset hps
          go_wp2_with fail
          go_roundg gg
          case measure => omega
          case rel => exact ⟨y, by omega, by go_num, by go_num, hyb, ⟨Hy.out, Hset.out⟩, Hb2.out.setCell hBg _⟩
end
end Go.Proofs.YtiiiokikmjgliaaGreatDoor
