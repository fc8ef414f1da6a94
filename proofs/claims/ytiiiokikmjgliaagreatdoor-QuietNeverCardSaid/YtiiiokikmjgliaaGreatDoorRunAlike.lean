/-
  runs.alike: with how many alike bytes a text begins.
-/
import Derived.Test.YtiiiokikmjgliaaGreatDoorKRunR
namespace Go.Proofs.YtiiiokikmjgliaaGreatDoor
open Go.RowKit
set_option maxRecDepth 100000
def headLen : List UInt8 → Nat
  | [] => 0
  | x :: t => runLen x 128 (x :: t)
theorem headLen_le (l : List UInt8) : headLen l ≤ 128 ∧ headLen l ≤ l.length := by
  cases l with
  | nil => exact ⟨by decide, Nat.le_refl _⟩
  | cons x t => exact runLen_le x 128 (x :: t)
theorem headLen_alike (l : List UInt8) : 3 ≤ headLen l ↔ alikeB l = true := by
  constructor
  · intro h
    match l, h with
    | [], h => exact absurd h (by decide)
    | [x], h => exact absurd h (by simp [headLen, runLen])
    | [x, b], h => exact absurd h (by simp [headLen, runLen]; split <;> omega)
    | x :: b :: c :: r, h =>
      simp only [headLen, runLen, if_pos] at h
      by_cases e1 : b = x
      · by_cases e2 : c = x
        · subst e1; subst e2; simp [alikeB]
        · rw [if_neg e2] at h; split at h <;> omega
      · rw [if_neg e1] at h; omega
  · intro h
    cases l with
    | nil => cases h
    | cons x t => exact runLen_alike h
theorem drewN_more (w : World) (a b : Nat) : w.drewN (a + b) = (w.drewN a).drewN b := by simp
theorem ret_nat {a b : Nat} (h : a = b) : Ending.returned (.int .i64 (b : Int)) = .returned (.int .i64 (a : Int)) := by rw [h]
set_option maxRecDepth 100000 in
set_option maxHeartbeats 1000000 in
theorem pAlike_any (s : ByteArray) (w : World) (hs : s.size ≤ 1000000) :
    Calls Tryz.prog 92 #[.string s] w fun e w' => e = .returned (.int .i64 (headLen s.data.toList : Int)) ∧ ∃ q, w.drewN q = w' := by
  by_cases h0 : s.size = 0
  · have hl : headLen s.data.toList = 0 := by
      rw [show s.data.toList = [] from List.eq_nil_of_length_eq_zero (by rw [← size_data]; exact h0)]; rfl
    rw [hl]
    go_enter Tryz.func92, Tryz.ntmps92
    go_wp2_with fail
    go_loopg [3] 0 (fun g s3 wx => ∃ (q : Nat), s3 = .int .i64 0 ∧ w.drewN q = wx)
    case atStart => exact ⟨0, rfl, rfl⟩
    case round =>
      obtain ⟨q, rfl, rfl⟩ := hrel
      go_wp2_with fail
      go_quiet (fail)
      go_wp2_with fail
      go_ret
      exact ⟨rfl, _, drewN_more _ _ _⟩
  · have hx : 0 < s.size := by omega
    have hxz : (0 : Int) < (s.size : Int) := by omega
    obtain ⟨c, hc⟩ : ∃ c : UInt8, s[0] = c := ⟨_, rfl⟩
    have hd : s.data.toList = c :: s.data.toList.drop 1 := by rw [← hc]; exact drop_at (s := s) (k := 0) hx
    have hl : headLen s.data.toList = runLen c 128 s.data.toList := by rw [hd]; rfl
    have Hl := Lib.hid hl
    clear hl hd
    go_enter Tryz.func92, Tryz.ntmps92
    go_wp2_with fail
    go_loopg [3] 128 (fun g s3 wx => ∃ (m q : Nat), m + g = 128 ∧ s3 = .int .i64 m ∧ m ≤ s.size ∧ Aside (runLen c 128 s.data.toList = m + runLen c (128 - m) (s.data.toList.drop m)) ∧ w.drewN q = wx)
    case atStart => exact ⟨0, 0, by omega, rfl, by omega, by show _ = _; simp, rfl⟩
    case round =>
      obtain ⟨m, q, hmg, rfl, hms, HM, rfl⟩ := hrel
      by_cases hgo : ∃ hj : m < s.size, m < 128 ∧ s[m] = c
      · obtain ⟨hj, hm, hcc⟩ := hgo
        have hc' : ((s[m].toNat : Int) == (c.toNat : Int)) = true := by rw [hcc]; simp
        have hjz : (m : Int) < (s.size : Int) := by omega
        have hmz : (m : Int) < 128 := by omega
        have Hm := Lib.hid (runLen_more hj hm hcc)
        clear hcc
        by_cases h128 : (s.size : Int) < 128
        all_goals
          go_wp2_with fail
          go_quiet (fail)
          go_wp2_with fail
          go_roundg (127 - m)
          case measure => omega
          case rel => exact ⟨m + 1, _, by omega, by go_num, by omega, by show _ = _; rw [HM.out, Hm.out]; omega, rfl⟩
      · have hstop := runLen_stop (s := s) (c := c) (j := m) (m := m) (by
          by_cases h1 : m < s.size
          · by_cases h2 : s[m] = c
            · exact .inr (.inr fun h3 => hgo ⟨h1, h3, h2⟩)
            · exact .inr (.inl ⟨h1, h2⟩)
          · exact .inl h1)
        have hlen : headLen s.data.toList = m := by rw [Hl.out, HM.out, hstop]; omega
        have Hlen := Lib.hid hlen
        have hexit : decide (m < s.size) = false ∨ decide ((m : Int) < 128) = false ∨ (∃ hj : m < s.size, (m : Int) < (s.size : Int) ∧ (m : Int) < 128 ∧ ((s[m].toNat : Int) == (c.toNat : Int)) = false) := by
          by_cases h1 : m < s.size
          · by_cases h2 : m < 128
            · exact .inr (.inr ⟨h1, by omega, by omega, byte_ne fun h3 => hgo ⟨h1, h2, h3⟩⟩)
            · exact .inr (.inl (decide_eq_false (by omega)))
          · exact .inl (decide_eq_false (by omega))
        clear hgo hstop hlen
        rcases hexit with h1 | h1 | ⟨hj, h1, h2, h3⟩
        · by_cases h128 : (s.size : Int) < 128
          · go_wp2_with fail
            go_quiet (fail)
            go_wp2_with fail
            go_ret
            exact ⟨ret_nat Hlen.out, _, drewN_more _ _ _⟩
          · have h2 : decide ((m : Int) < 128) = false := by rw [decide_eq_false_iff_not] at h1 ⊢; omega
            go_wp2_with fail
            go_quiet (fail)
            go_wp2_with fail
            go_ret
            exact ⟨ret_nat Hlen.out, _, drewN_more _ _ _⟩
        · by_cases h128 : (s.size : Int) < 128
          · have h2 : decide (m < s.size) = false := by rw [decide_eq_false_iff_not] at h1 ⊢; omega
            go_wp2_with fail
            go_quiet (fail)
            go_wp2_with fail
            go_ret
            exact ⟨ret_nat Hlen.out, _, drewN_more _ _ _⟩
          · go_wp2_with fail
            go_quiet (fail)
            go_wp2_with fail
            go_ret
            exact ⟨ret_nat Hlen.out, _, drewN_more _ _ _⟩
        · by_cases h128 : (s.size : Int) < 128
          all_goals
            go_wp2_with fail
            go_quiet (fail)
            go_wp2_with fail
            go_ret
            exact ⟨ret_nat Hlen.out, _, drewN_more _ _ _⟩
end Go.Proofs.YtiiiokikmjgliaaGreatDoor
