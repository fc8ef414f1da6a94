/-
  WrSmall, WrHex: texts merged.
-/
import Derived.Test.YtejgcnmbngdkiaaGreatDoorNWr
import Derived.Test.YtejgcnmbngdkiaaGreatDoorNOct
import Derived.Test.YtejgcnmbngdkiaaGreatDoorNOwn
import Derived.Deep.LoopGhost
/-
  Small functions of package write: which byte is shown, which one stands in a name, a gap, a word.
-/
namespace Go.Proofs.YtejgcnmbngdkiaaGreatDoor
section
open Go.RowKit
set_option maxRecDepth 100000

set_option maxHeartbeats 1000000 in
theorem shown_is (c : UInt8) (w : World) : Calls Tryz.prog 70 #[.int .u8 (c.toNat : Int)] w fun e w' => e = .returned (.bool (shownB c)) ∧ w = w' := by
  have hcases : (c.toNat : Int) < 32 ∨ (32 ≤ (c.toNat : Int) ∧ (c.toNat : Int) ≤ 126) ∨ 126 < (c.toNat : Int) := by omega
  rcases hcases with h | ⟨h, h'⟩ | h
  · have Hr : Hid (shownB c = false) := Lib.hid (decide_eq_false (by omega))
    have h1 : ¬ (32 : Int) ≤ (c.toNat : Int) := by omega
    go_enter Tryz.func70, Tryz.ntmps70
    go_wp2
    go_ret
    exact ⟨ret_bool Hr.out.symm, rfl⟩
  · have Hr : Hid (shownB c = true) := Lib.hid (decide_eq_true (by omega))
    go_enter Tryz.func70, Tryz.ntmps70
    go_wp2
    go_ret
    exact ⟨ret_bool Hr.out.symm, rfl⟩
  · have Hr : Hid (shownB c = false) := Lib.hid (decide_eq_false (by omega))
    have h1 : (32 : Int) ≤ (c.toNat : Int) := by omega
    have h2 : ¬ (c.toNat : Int) ≤ 126 := by omega
    go_enter Tryz.func70, Tryz.ntmps70
    go_wp2
    go_ret
    exact ⟨ret_bool Hr.out.symm, rfl⟩

set_option maxHeartbeats 1000000 in
theorem bare_is (c : UInt8) (w : World) : Calls Tryz.prog 46 #[.int .u8 (c.toNat : Int)] w fun e w' => e = .returned (.bool (bareB c)) ∧ w = w' := by
  have Hs := Lib.hid (fun W => shown_is c W)
  have Hk := Lib.hid (fun W => kind_any (c.toNat : Int) W)
  obtain ⟨r, hr⟩ : ∃ r, bareB c = r := ⟨_, rfl⟩
  rw [hr]
  unfold bareB at hr
  cases hs : shownB c
  · rw [hs] at hr Hs
    have Hr := Lib.hid hr
    clear hr hs
    go_enter Tryz.func46, Tryz.ntmps46
    go_wp2_with (go_at_call 70; refine (Hs.out _).mono ?_; rintro e w1 ⟨rfl, rfl⟩)
    go_ret
    exact ⟨ret_bool Hr.out, rfl⟩
  · rw [hs] at hr Hs
    obtain ⟨k, hk⟩ : ∃ k, kindI (c.toNat : Int) = k := ⟨_, rfl⟩
    simp only [hk] at hr Hk
    clear hk hs
    by_cases h2 : k = 2
    · subst h2
      by_cases h35 : (c.toNat : Int) = 35
      · have Hr : Hid (false = r) := Lib.hid (by rw [← hr]; have : c.toNat = 35 := by omega
                                                 simp [this])
        clear hr
        have h3 : ((c.toNat : Int) != 35) = false := by simp [h35]
        have h4 : decide ((c.toNat : Int) = 35) = true := by simp [h35]
        clear h35
        go_enter Tryz.func46, Tryz.ntmps46
        go_wp2_with (first | (go_at_call 70; refine (Hs.out _).mono ?_; rintro e w1 ⟨rfl, rfl⟩) | (go_at_call 71; refine (Hk.out _).mono ?_; rintro e w1 ⟨rfl, rfl⟩))
        go_ret
        exact ⟨ret_bool Hr.out, rfl⟩
      · have Hr : Hid (true = r) := Lib.hid (by rw [← hr]; have : c.toNat ≠ 35 := by omega
                                                simp [this])
        clear hr
        have h3 : ((c.toNat : Int) != 35) = true := by simp [h35]
        go_enter Tryz.func46, Tryz.ntmps46
        go_wp2_with (first | (go_at_call 70; refine (Hs.out _).mono ?_; rintro e w1 ⟨rfl, rfl⟩) | (go_at_call 71; refine (Hk.out _).mono ?_; rintro e w1 ⟨rfl, rfl⟩))
        go_ret
        exact ⟨ret_bool Hr.out, rfl⟩
    · have Hr : Hid (false = r) := Lib.hid (by rw [← hr]; simp [h2])
      clear hr
      have h3 : (k == 2) = false := by simpa using h2
      go_enter Tryz.func46, Tryz.ntmps46
      go_wp2_with (first | (go_at_call 70; refine (Hs.out _).mono ?_; rintro e w1 ⟨rfl, rfl⟩) | (go_at_call 71; refine (Hk.out _).mono ?_; rintro e w1 ⟨rfl, rfl⟩))
      go_ret
      exact ⟨ret_bool Hr.out, rfl⟩

theorem all_take_snoc {f : UInt8 → Bool} {s : ByteArray} {k : Nat} (h : k < s.size) : (s.data.toList.take (k + 1)).all f = ((s.data.toList.take k).all f && f s[k]) := by rw [take_snoc s k h]; simp
set_option maxHeartbeats 1000000 in
theorem line_is (s : ByteArray) (w : World) (hs : s.size ≤ maxLen) : Calls Tryz.prog 48 #[.string s] w fun e w' => e = .returned (.bool (s.data.toList.all shownB)) ∧ w = w' := by
  unfold maxLen at hs
  go_enter Tryz.func48, Tryz.ntmps48
  go_wp2_with fail
  go_loopg [6] s.size (fun g s6 wx => ∃ k : Nat, k + g = s.size ∧ s6 = .int .i64 k ∧ Aside ((s.data.toList.take k).all shownB = true) ∧ w = wx)
  case atStart => exact ⟨0, by omega, rfl, rfl, rfl⟩
  case round =>
    obtain ⟨k, hkg, rfl, HI, rfl⟩ := hrel
    cases gk with
    | zero =>
      obtain rfl : k = s.size := by omega
      have Hr : Hid (s.data.toList.all shownB = true) := Lib.hid (by have := HI.out; rwa [List.take_of_length_le (by rw [← size_data]; exact Nat.le_refl _)] at this)
      go_wp2_with fail
      go_ret
      exact ⟨ret_bool Hr.out.symm, rfl⟩
    | succ g =>
      have hk : k < s.size := by omega
      have hkz : (k : Int) < (s.size : Int) := by omega
      have Hs := Lib.hid (fun W => shown_is s[k] W)
      have Hn := Lib.hid (all_take_snoc (f := shownB) hk)
      obtain ⟨t, ht⟩ : ∃ t, shownB s[k] = t := ⟨_, rfl⟩
      rw [ht] at Hs Hn
      cases t
      · have Hr : Hid (s.data.toList.all shownB = false) := Lib.hid (by
          rw [List.all_eq_false]
          exact ⟨s[k], byte_mem s k hk, by rw [ht]; decide⟩)
        clear ht
        go_wp2_with (go_at_call 70; refine (Hs.out _).mono ?_; rintro e w1 ⟨rfl, rfl⟩)
        go_ret
        exact ⟨ret_bool Hr.out.symm, rfl⟩
      · clear ht
        go_wp2_with (go_at_call 70; refine (Hs.out _).mono ?_; rintro e w1 ⟨rfl, rfl⟩)
        go_roundg g
        case measure => omega
        case rel => exact ⟨k + 1, by omega, by go_num, by show _ = _; rw [Hn.out, HI.out]; rfl, rfl⟩

theorem word_is (n : Int) (w : World) : Calls Tryz.prog 26 #[.int .i64 n] w fun e w' => e = .returned (.string (bytes (boolW n))) ∧ w = w' := by
  by_cases h : n = 0
  · subst h
    go_enter Tryz.func26, Tryz.ntmps26
    go_wp2
    go_ret
    exact ⟨rfl, rfl⟩
  · have Hr : Hid (boolW n = [116, 114, 117, 101]) := Lib.hid (by unfold boolW; rw [if_neg h])
    go_enter Tryz.func26, Tryz.ntmps26
    go_wp2
    go_ret
    exact ⟨by rw [Hr.out]; rfl, rfl⟩
theorem gap_is (i : Nat) (w : World) : Calls Tryz.prog 51 #[.int .i64 (i : Int)] w fun e w' => e = .returned (.string (bytes (gapW i))) ∧ w = w' := by
  by_cases h : i = 0
  · subst h
    go_enter Tryz.func51, Tryz.ntmps51
    go_wp2
    go_ret
    exact ⟨rfl, rfl⟩
  · have Hr : Hid (gapW i = [32]) := Lib.hid (by unfold gapW; rw [if_neg h])
    have h2 : ¬ (i : Int) = 0 := by omega
    go_enter Tryz.func51, Tryz.ntmps51
    go_wp2
    go_ret
    exact ⟨by rw [Hr.out]; rfl, rfl⟩

theorem digit_hi (c : UInt8) (w : World) : Calls Tryz.prog 72 #[.int .i64 ((c.toNat : Int) / 16)] w fun e w' => e = .returned (.int .u8 ((digB (c.toNat / 16)).toNat : Int)) ∧ w = w' := by
  have h1 := c.toNat_lt
  rw [digB_nat (show c.toNat / 16 < 16 by omega)]
  exact digit_any ((c.toNat / 16 : Nat) : Int) w (by omega) (by omega)
theorem digit_lo (c : UInt8) (w : World) : Calls Tryz.prog 72 #[.int .i64 ((c.toNat : Int) % 16)] w fun e w' => e = .returned (.int .u8 ((digB (c.toNat % 16)).toNat : Int)) ∧ w = w' := by
  have h1 := c.toNat_lt
  rw [digB_nat (show c.toNat % 16 < 16 by omega)]
  exact digit_any ((c.toNat % 16 : Nat) : Int) w (by omega) (by omega)
end
end Go.Proofs.YtejgcnmbngdkiaaGreatDoor
/-
  A byte's two digits.
-/
namespace Go.Proofs.YtejgcnmbngdkiaaGreatDoor
section
open Go.RowKit
set_option maxRecDepth 100000

theorem two_text (a b : UInt8) (w : World) : (convert 44 9 (.slice (some ⟨w.heap.size, 0, none⟩) 2 2)).run Tryz.prog (w.alloc (.cells #[.int .u8 (a.toNat : Int), .int .u8 (b.toNat : Int)] 5)) =
    .ok (.string (bytes [a, b])) (w.alloc (.cells #[.int .u8 (a.toNat : Int), .int .u8 (b.toNat : Int)] 5)) := by
  have e : (w.alloc (.cells #[.int .u8 (a.toNat : Int), .int .u8 (b.toNat : Int)] 5)).heap[w.heap.size]? = some (.cells #[.int .u8 (a.toNat : Int), .int .u8 (b.toNat : Int)] 5 (0, 0)) := heap_alloc_new w _
  refine run_convert_bytes_back (P := Tryz.prog) _ 44 9 5 ⟨w.heap.size, 0, none⟩ 2 [a, b] Tryz.underlying44 Tryz.underlying5 Tryz.underlying9 fun j hj => ?_
  have e2 : (⟨w.heap.size, 0, none⟩ : Addr).add j = ⟨w.heap.size, j, none⟩ := by unfold Addr.add; split <;> simp_all
  rw [e2, cell_of_row _ _ _ _ _ _ e]
  match j, hj with
  | 0, _ => rfl
  | 1, _ => rfl
set_option maxHeartbeats 1000000 in
theorem hexd_is (c : UInt8) (w : World) : Calls Tryz.prog 47 #[.int .u8 (c.toNat : Int)] w fun e w' => e = .returned (.string (bytes [digB (c.toNat / 16), digB (c.toNat % 16)])) ∧ Below w.heap.size w w' := by
  have Hh := Lib.hid (fun W => digit_hi c W)
  have Hl := Lib.hid (fun W => digit_lo c W)
  have hlt := c.toNat_lt
  obtain ⟨a, ha⟩ : ∃ a, digB (c.toNat / 16) = a := ⟨_, rfl⟩
  obtain ⟨b, hb⟩ : ∃ b, digB (c.toNat % 16) = b := ⟨_, rfl⟩
  rw [ha] at Hh ⊢
  rw [hb] at Hl ⊢
  clear ha hb
  have hcv := two_text a b w
  go_enter Tryz.func47, Tryz.ntmps47
  go_wp2_with (go_at_call 72; first | ((with_reducible refine (Hh.out _).mono ?_); rintro e w1 ⟨rfl, rfl⟩) | ((with_reducible refine (Hl.out _).mono ?_); rintro e w1 ⟨rfl, rfl⟩))
  go_ret
  exact ⟨rfl, (Below.refl _ w).alloc (Nat.le_refl _) _⟩
end
end Go.Proofs.YtejgcnmbngdkiaaGreatDoor
