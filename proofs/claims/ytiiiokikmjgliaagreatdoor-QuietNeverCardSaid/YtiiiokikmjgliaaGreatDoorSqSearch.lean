/-
  The contracts of sort.Search over the tables of package squeeze.
-/
import Derived.Test.YtiiiokikmjgliaaGreatDoorKBlk
import Derived.Test.YtiiiokikmjgliaaGreatDoorKRows
import Derived.Deep.RegionHeld3
import Derived.BigQuiet
import Derived.Deep.QuietTactic
import Derived.Deep.RegionWith
import Derived.Deep.LoopGhost
namespace Go.Proofs.YtiiiokikmjgliaaGreatDoor
open Go.RowKit
set_option maxRecDepth 100000
theorem topK_above {f : Nat → Nat} {n : Nat} : ∀ m j, topK f n m < j → j ≤ m → n < f j
  | 0, j, h, h2 => by omega
  | m + 1, j, h, h2 => by
    unfold topK at h
    split at h
    · omega
    · rename_i h1
      by_cases hj : j = m + 1
      · subst hj; omega
      · exact topK_above m j h (by omega)
theorem lengthN_up : ∀ a : Fin 29, ∀ b : Fin 29, a.val ≤ b.val → lengthN a.val ≤ lengthN b.val := by decide +kernel
theorem distN_up : ∀ a b : Nat, a ≤ b → distN a ≤ distN b := by
  intro a b h
  induction b with
  | zero => rw [show a = 0 by omega]; exact Nat.le_refl _
  | succ b ih =>
    by_cases hb : a = b + 1
    · rw [hb]; exact Nat.le_refl _
    · have := ih (by omega)
      have := Nat.pow_pos (n := extraN b 4 2) (show 0 < 2 by omega)
      rw [distN]
      omega
theorem lens_iff {n h : Nat} (h3 : 3 ≤ n) (hh : h < 29) : n < lengthN h ↔ lenK n < h := by
  constructor
  · intro a
    rcases Nat.lt_or_ge (lenK n) h with b | b
    · exact b
    · have c := topK_at (f := lengthN) (n := n) (show lengthN 0 ≤ n from h3) 28
      have d := topK_le lengthN n 28
      have := lengthN_up ⟨h, hh⟩ ⟨lenK n, by unfold lenK; omega⟩ b
      unfold lenK at this
      simp only at this
      omega
  · intro a
    exact topK_above 28 h a (by omega)
theorem dists_iff {n h : Nat} (h3 : 1 ≤ n) (hh : h < 30) : n < distN h ↔ farK n < h := by
  constructor
  · intro a
    rcases Nat.lt_or_ge (farK n) h with b | b
    · exact b
    · have c := topK_at (f := distN) (n := n) (show distN 0 ≤ n from h3) 29
      have := distN_up h (farK n) b
      unfold farK at this
      omega
  · intro a
    exact topK_above 29 h a (by omega)
theorem half_i64 (a : Nat) (h : a ≤ 100) : (IntKind.u64.wrap (a : Int) = (a : Int)) := by rw [IntKind.wrap_u64]; omega
set_option maxHeartbeats 1000000 in
theorem lensLess_is (i n c : Nat) (w : World) (hi : i < 29) (_hn : n ≤ 100000) (hL : LaidQ w) (hc : w.cell? ⟨c, 0, none⟩ = some (.int .i64 (n : Int))) :
    Calls Tryz.prog 158 #[.int .i64 (i : Int), .pointer (some ⟨c, 0, none⟩)] w fun e w' => e = .returned (.bool (decide (n < lengthN i))) ∧ Below w.heap.size w w' := by
  have c0 := (hL.len hi).1
  have hb : decide ((n : Int) < (lengthN i : Int)) = decide (n < lengthN i) := by rw [decide_eq_decide]; omega
  obtain ⟨x, hx⟩ : ∃ x, lengthN i = x := ⟨_, rfl⟩
  rw [hx] at c0 hb ⊢
  have hiz : ¬ (29 : Int) ≤ (i : Int) := by omega
  have hiz2 : (i : Int) < 29 := by omega
  have Hb := Lib.hid hb
  clear hx hL hb
  go_enter Tryz.func158, Tryz.ntmps158
  go_wp2_with fail
  go_region
  all_goals
    go_wp2_with fail
    go_ret
    exact ⟨by rw [← Hb.out]; rfl, (Below.refl _ w).drew⟩
set_option maxHeartbeats 2000000 in
theorem lensSearch_is (n c k : Nat) (w : World) (hn : n ≤ 100000) (hL : LaidQ w) (hc : w.cell? ⟨c, 0, none⟩ = some (.int .i64 (n : Int))) (hk : k < 29) (hiff : ∀ h, h < 29 → (n < lengthN h ↔ k < h)) :
    Calls Tryz.prog 157 #[.int .i64 29, .func (.func 158) #[] #[.pointer (some ⟨c, 0, none⟩)]] w fun e w' => e = .returned (.int .i64 ((k + 1 : Nat) : Int)) ∧ Below w.heap.size w w' := by
  have HL := Lib.hid hL
  have Hc := Lib.hid hc
  have Hiff := Lib.hid hiff
  clear hL hc hiff
  go_enter Tryz.func157, Tryz.ntmps157
  go_wp2_with fail
  go_loopg [5, 6] 29 (fun g s5 s6 wx => ∃ i j : Nat, s5 = .int .i64 (i : Int) ∧ s6 = .int .i64 (j : Int) ∧ i ≤ k + 1 ∧ k + 1 ≤ j ∧ j ≤ 29 ∧ j - i = g ∧ Below w.heap.size w wx)
  case atStart => exact ⟨0, 29, rfl, rfl, by omega, by omega, by omega, rfl, Below.refl _ w⟩
  case round =>
    obtain ⟨i, j, rfl, rfl, hi, hj, hj2, hg, hb⟩ := hrel
    have Hb := Lib.hid hb
    clear hb
    by_cases hij : i < j
    · have hijz : (i : Int) < (j : Int) := by omega
      obtain ⟨h, hh⟩ : ∃ h, (i + j) / 2 = h := ⟨_, rfl⟩
      have hw1 := half_i64 (i + j) (by omega)
      have hhm : h < 29 := by omega
      have HC := Lib.hid (lensLess_is h n c wr hhm hn (HL.out.later Hb.out) (cell_later Hc.out Hb.out))
      have hhz : ((i : Int) + (j : Int)) / 2 = (h : Int) := by omega
      have Hm := Lib.hid (Hiff.out h hhm)
      by_cases hd : n < lengthN h
      · have hkh := Hm.out.1 hd
        rw [show decide (n < lengthN h) = true by simpa using hd] at HC
        clear hd hw1 hhm
        go_wp2_with fail
        refine HC.out.mono ?_
        rintro e w1 ⟨rfl, hb⟩
        have Hb1 := Lib.hid (Hb.out.trans (hb.mono Hb.out.size))
        clear hb
        go_wp2_with fail
        go_roundg (h - i)
        case measure => omega
        case rel => exact ⟨i, h, rfl, rfl, by omega, by omega, by omega, rfl, Hb1.out⟩
      · have hkh : h ≤ k := by
          rcases Nat.lt_or_ge k h with c | c
          · exact absurd (Hm.out.2 c) hd
          · exact c
        rw [show decide (n < lengthN h) = false by simpa using hd] at HC
        clear hd hw1 hhm
        go_wp2_with fail
        refine HC.out.mono ?_
        rintro e w1 ⟨rfl, hb⟩
        have Hb1 := Lib.hid (Hb.out.trans (hb.mono Hb.out.size))
        clear hb
        go_wp2_with fail
        go_roundg (j - (h + 1))
        case measure => omega
        case rel => exact ⟨h + 1, j, by go_num, rfl, by omega, by omega, by omega, rfl, Hb1.out⟩
    · obtain rfl : i = k + 1 := by omega
      obtain rfl : j = k + 1 := by omega
      have hge : ¬ ((k + 1 : Nat) : Int) < ((k + 1 : Nat) : Int) := by omega
      go_wp2_with fail
      go_ret
      exact ⟨rfl, Hb.out⟩
set_option maxHeartbeats 1000000 in
theorem distsLess_is (i n c : Nat) (w : World) (hi : i < 30) (_hn : n ≤ 100000) (hL : LaidQ w) (hc : w.cell? ⟨c, 0, none⟩ = some (.int .i64 (n : Int))) :
    Calls Tryz.prog 160 #[.int .i64 (i : Int), .pointer (some ⟨c, 0, none⟩)] w fun e w' => e = .returned (.bool (decide (n < distN i))) ∧ Below w.heap.size w w' := by
  have c0 := (hL.far hi).1
  have hb : decide ((n : Int) < (distN i : Int)) = decide (n < distN i) := by rw [decide_eq_decide]; omega
  obtain ⟨x, hx⟩ : ∃ x, distN i = x := ⟨_, rfl⟩
  rw [hx] at c0 hb ⊢
  have hiz : ¬ (30 : Int) ≤ (i : Int) := by omega
  have hiz2 : (i : Int) < 30 := by omega
  have Hb := Lib.hid hb
  clear hx hL hb
  go_enter Tryz.func160, Tryz.ntmps160
  go_wp2_with fail
  go_region
  all_goals
    go_wp2_with fail
    go_ret
    exact ⟨by rw [← Hb.out]; rfl, (Below.refl _ w).drew⟩
set_option maxHeartbeats 2000000 in
theorem distsSearch_is (n c k : Nat) (w : World) (hn : n ≤ 100000) (hL : LaidQ w) (hc : w.cell? ⟨c, 0, none⟩ = some (.int .i64 (n : Int))) (hk : k < 30) (hiff : ∀ h, h < 30 → (n < distN h ↔ k < h)) :
    Calls Tryz.prog 157 #[.int .i64 30, .func (.func 160) #[] #[.pointer (some ⟨c, 0, none⟩)]] w fun e w' => e = .returned (.int .i64 ((k + 1 : Nat) : Int)) ∧ Below w.heap.size w w' := by
  have HL := Lib.hid hL
  have Hc := Lib.hid hc
  have Hiff := Lib.hid hiff
  clear hL hc hiff
  go_enter Tryz.func157, Tryz.ntmps157
  go_wp2_with fail
  go_loopg [5, 6] 30 (fun g s5 s6 wx => ∃ i j : Nat, s5 = .int .i64 (i : Int) ∧ s6 = .int .i64 (j : Int) ∧ i ≤ k + 1 ∧ k + 1 ≤ j ∧ j ≤ 30 ∧ j - i = g ∧ Below w.heap.size w wx)
  case atStart => exact ⟨0, 30, rfl, rfl, by omega, by omega, by omega, rfl, Below.refl _ w⟩
  case round =>
    obtain ⟨i, j, rfl, rfl, hi, hj, hj2, hg, hb⟩ := hrel
    have Hb := Lib.hid hb
    clear hb
    by_cases hij : i < j
    · have hijz : (i : Int) < (j : Int) := by omega
      obtain ⟨h, hh⟩ : ∃ h, (i + j) / 2 = h := ⟨_, rfl⟩
      have hw1 := half_i64 (i + j) (by omega)
      have hhm : h < 30 := by omega
      have HC := Lib.hid (distsLess_is h n c wr hhm hn (HL.out.later Hb.out) (cell_later Hc.out Hb.out))
      have hhz : ((i : Int) + (j : Int)) / 2 = (h : Int) := by omega
      have Hm := Lib.hid (Hiff.out h hhm)
      by_cases hd : n < distN h
      · have hkh := Hm.out.1 hd
        rw [show decide (n < distN h) = true by simpa using hd] at HC
        clear hd hw1 hhm
        go_wp2_with fail
        refine HC.out.mono ?_
        rintro e w1 ⟨rfl, hb⟩
        have Hb1 := Lib.hid (Hb.out.trans (hb.mono Hb.out.size))
        clear hb
        go_wp2_with fail
        go_roundg (h - i)
        case measure => omega
        case rel => exact ⟨i, h, rfl, rfl, by omega, by omega, by omega, rfl, Hb1.out⟩
      · have hkh : h ≤ k := by
          rcases Nat.lt_or_ge k h with c | c
          · exact absurd (Hm.out.2 c) hd
          · exact c
        rw [show decide (n < distN h) = false by simpa using hd] at HC
        clear hd hw1 hhm
        go_wp2_with fail
        refine HC.out.mono ?_
        rintro e w1 ⟨rfl, hb⟩
        have Hb1 := Lib.hid (Hb.out.trans (hb.mono Hb.out.size))
        clear hb
        go_wp2_with fail
        go_roundg (j - (h + 1))
        case measure => omega
        case rel => exact ⟨h + 1, j, by go_num, rfl, by omega, by omega, by omega, rfl, Hb1.out⟩
    · obtain rfl : i = k + 1 := by omega
      obtain rfl : j = k + 1 := by omega
      have hge : ¬ ((k + 1 : Nat) : Int) < ((k + 1 : Nat) : Int) := by omega
      go_wp2_with fail
      go_ret
      exact ⟨rfl, Hb.out⟩
end Go.Proofs.YtiiiokikmjgliaaGreatDoor
