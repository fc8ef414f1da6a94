/-
  The contracts of the document's Piece, length, distance, number.
-/
import Derived.Test.YtboiljclenikbaaGreatDoorHPlain
import Derived.Test.YtboiljclenikbaaGreatDoorSqSearch
import Derived.Test.YtboiljclenikbaaGreatDoorHRefI
import Derived.Test.YtboiljclenikbaaGreatDoorHHeld
import Derived.Test.YtboiljclenikbaaGreatDoorHCodeR
import Derived.Deep.QuietTactic
import Derived.BigQuiet
import Derived.Deep.LoopGhost
namespace Go.Proofs.YtboiljclenikbaaGreatDoor
open Go.RowKit
set_option maxRecDepth 100000
set_option maxHeartbeats 1000000 in
theorem rPutB_nil (n k : Nat) (w : World) (hk : k ≤ 16) (hn : n < 2 ^ k) :
    Calls Tryz.prog 100 #[.slice none 0 0, .int .i64 (n : Int), .int .i64 (k : Int)] w fun en w' => ∃ g cap, en = .returned (.tuple #[.slice (some ⟨g, 0, none⟩) k cap, .int .i64 0]) ∧ BitsAt w' g (bitsN k n) ∧ Below w.heap.size w w' ∧ w.heap.size ≤ g := by
  have Hpow := Lib.hid fun W => rPower_any k W hk
  have hp2 : (2 : Nat) ^ k ≤ 2 ^ 16 := Nat.pow_le_pow_right (by omega) hk
  obtain ⟨z, hz⟩ : ∃ z, 2 ^ k = z := ⟨_, rfl⟩
  rw [hz] at Hpow hn hp2
  have h1 : ¬ (k : Int) < 0 := by omega
  have h2 : ¬ 16 < (k : Int) := by omega
  have h3 : ¬ (n : Int) < 0 := by omega
  have h4 : ¬ (z : Int) ≤ (n : Int) := by omega
  have h5 : decide (z ≤ n) = false := decide_eq_false (by omega)
  clear hz
  go_enter Tryz.func100, Tryz.ntmps100
  go_wp2_with fail
  refine (Hpow.out _).mono ?_
  rintro e w1 ⟨rfl, rfl⟩
  go_wp2_with fail
  go_loopg [1, 8, 9] k (fun gg s1 s8 s9 wx => ∃ (j x : Nat), j + gg = k ∧ s9 = .int .i64 j ∧ s1 = .int .i64 x ∧ x ≤ 65536 ∧ Aside (x = n / 2 ^ j ∧ Own64 wx w.heap.size s8 (asZ (bitsN j n))) ∧ Below w.heap.size w wx)
  case atStart => exact ⟨0, n, by omega, rfl, rfl, by omega, ⟨by simp, Own64.made w 0 #[] (Nat.le_refl _) (by decide) rfl⟩, (Below.refl _ w).alloc (Nat.le_refl _) _⟩
  case round =>
    obtain ⟨j, x, hjg, rfl, rfl, hx, HX, hb⟩ := hrel
    have Hb := Lib.hid hb
    clear hb
    cases gk with
    | zero =>
      obtain rfl : j = k := by omega
      obtain ⟨g', cap', hv, hB, hr⟩ := HX.out.2.bits
      rw [bitsN_length] at hv
      subst hv
      have HR := Lib.hid hr
      clear hr
      go_wp2_with fail
      go_ret2
      exact ⟨g', cap', rfl, HR.out, Hb.out, hB⟩
    | succ gg =>
      have hjz : (j : Int) < (k : Int) := by omega
      have hlen : (asZ (bitsN j n)).length ≤ 2000000 := by rw [asZ_length, bitsN_length]; omega
      obtain ⟨r, hr2⟩ : ∃ r, x % 2 = r := ⟨_, rfl⟩
      obtain ⟨y, hy2⟩ : ∃ y, x / 2 = y := ⟨_, rfl⟩
      have hb2 : (x : Int) % 2 = (r : Int) := by omega
      have hx2 : (x : Int) / 2 = (y : Int) := by omega
      have hyb : y ≤ 65536 := by omega
      have Hnext : Hid (y = n / 2 ^ (j + 1) ∧ bitsN (j + 1) n = bitsN j n ++ [r]) := Lib.hid (by
        rw [← hy2, ← hr2, HX.out.1]
        exact ⟨by rw [Nat.div_div_eq_div_mul, Nat.pow_succ], bitsN_snoc j n⟩)
      clear hr2 hy2
      go_wp2_with (at_builtin; refine wpList_append64 rfl (.tmp 34) (.tmp 37) rfl w.heap.size _ (asZ (bitsN j n)) rfl (HX.out.2.alloc _) ⟨wr.heap.size, 0, none⟩ 1 [(r : Int)] rfl (cells_newZ _ _) (by simp) (by simp; omega) w (Hb.out.alloc Hb.out.size _) (by have := Hb.out.size; simp; omega) ?_; intro v3 w3 Ho3 Hb3 _)
      go_roundg gg
      case measure => omega
      case rel => exact ⟨j + 1, y, by omega, by go_num, by go_num, hyb, ⟨Hnext.out.1, by rw [Hnext.out.2, asZ_snoc]; exact Ho3.out⟩, Hb3.out⟩
/-- A row, and bits that are put behind it. -/
theorem rnumber_is (g c n k : Nat) (row : List Nat) (w : World) (hr : BitsAt w g row) (hl : row.length ≤ 900000) (hk : k ≤ 16) (hn : n < 2 ^ k) :
    Calls Tryz.prog 62 #[.slice (some ⟨g, 0, none⟩) row.length c, .int .i64 (n : Int), .int .i64 (k : Int)] w fun en w' => ∃ g' cap', en = .returned (.slice (some ⟨g', 0, none⟩) (row.length + k) cap') ∧ BitsAt w' g' (row ++ bitsN k n) ∧ Below w.heap.size w w' := by
  have hp2 : (2 : Nat) ^ k ≤ 2 ^ 16 := Nat.pow_le_pow_right (by omega) hk
  have HP := Lib.hid (rPutB_is g c row (n : Int) (k : Int) w hr (by omega) (by omega) (by omega) (by omega) (by omega) (putB_ok hk hn))
  clear hr hp2
  go_enter Tryz.func62, Tryz.ntmps62
  go_wp2_with fail
  refine HP.out.mono ?_
  rintro e w1 ⟨g', cap', rfl, hb, hB, _⟩
  have H1 := Lib.hid hb
  have HB1 := Lib.hid hB
  rw [List.length_append, bitsN_length]
  clear hb hB HP
  go_wp2_with fail
  go_ret
  exact ⟨g', cap', rfl, H1.out, HB1.out⟩
theorem rnumber_nil (n k : Nat) (w : World) (hk : k ≤ 16) (hn : n < 2 ^ k) :
    Calls Tryz.prog 62 #[.slice none 0 0, .int .i64 (n : Int), .int .i64 (k : Int)] w fun en w' => ∃ g' cap', en = .returned (.slice (some ⟨g', 0, none⟩) k cap') ∧ BitsAt w' g' (bitsN k n) ∧ Below w.heap.size w w' := by
  have HP := Lib.hid (rPutB_nil n k w hk hn)
  clear hn
  go_enter Tryz.func62, Tryz.ntmps62
  go_wp2_with fail
  refine HP.out.mono ?_
  rintro e w1 ⟨g', cap', rfl, hb, hB, _⟩
  have H1 := Lib.hid hb
  have HB1 := Lib.hid hB
  clear hb hB HP
  go_wp2_with fail
  go_ret
  exact ⟨g', cap', rfl, H1.out, HB1.out⟩
theorem rlength_is (n : Nat) (w : World) (h1 : 3 ≤ n) (h2 : n ≤ 258) : Calls Tryz.prog 65 #[.int .i64 (n : Int)] w fun e w' => e = .returned (.int .i64 (lenK n : Int)) ∧ w = w' := by
  have hm := (lenK_facts h1 h2).1
  have Hiff := Lib.hid (fun h hh => lens_iff (n := n) (h := h) h1 hh)
  obtain ⟨m, hmm⟩ : ∃ m, lenK n = m := ⟨_, rfl⟩
  rw [hmm] at hm Hiff ⊢
  clear hmm
  go_enter Tryz.func65, Tryz.ntmps65
  go_wp2_with fail
  go_loopg [3] m (fun gg s3 wx => ∃ k : Nat, s3 = .int .i64 (k : Int) ∧ k + gg = m ∧ w = wx)
  case atStart => exact ⟨0, rfl, by omega, rfl⟩
  case round =>
    obtain ⟨k, rfl, hkg, rfl⟩ := hrel
    cases gk with
    | succ gg =>
      have hk28 : (k : Int) < 28 := by omega
      have HL := rLength_any (k + 1) w (by omega)
      have hle : (lengthN (k + 1) : Int) ≤ (n : Int) := by
        have := (Hiff.out (k + 1) (by omega)).1
        omega
      obtain ⟨x, hx⟩ : ∃ x, lengthN (k + 1) = x := ⟨_, rfl⟩
      rw [hx, show ((k + 1 : Nat) : Int) = (k : Int) + 1 by omega] at HL
      rw [hx] at hle
      have HL := Lib.hid HL
      clear hx
      go_wp2_with fail
      refine HL.out.mono ?_
      rintro e w1 ⟨rfl, rfl⟩
      go_wp2_with fail
      go_roundg gg
      case measure => omega
      case rel => exact ⟨k + 1, by go_num, by omega, rfl⟩
    | zero =>
      obtain rfl : k = m := by omega
      by_cases hk28 : k < 28
      · have hkz : (k : Int) < 28 := by omega
        have HL := rLength_any (k + 1) w (by omega)
        have hle : ¬ (lengthN (k + 1) : Int) ≤ (n : Int) := by
          have := (Hiff.out (k + 1) (by omega)).2
          omega
        obtain ⟨x, hx⟩ : ∃ x, lengthN (k + 1) = x := ⟨_, rfl⟩
        rw [hx, show ((k + 1 : Nat) : Int) = (k : Int) + 1 by omega] at HL
        rw [hx] at hle
        have HL := Lib.hid HL
        clear hx
        go_wp2_with fail
        refine HL.out.mono ?_
        rintro e w1 ⟨rfl, rfl⟩
        go_wp2_with fail
        go_ret
        exact ⟨rfl, rfl⟩
      · have hkz : ¬ (k : Int) < 28 := by omega
        go_wp2_with fail
        go_ret
        exact ⟨rfl, rfl⟩
theorem rdistance_is (n : Nat) (w : World) (h1 : 1 ≤ n) (h2 : n ≤ 32768) : Calls Tryz.prog 66 #[.int .i64 (n : Int)] w fun e w' => e = .returned (.int .i64 (farK n : Int)) ∧ w = w' := by
  have hm := (farK_facts h1 h2).1
  have Hiff := Lib.hid (fun h hh => dists_iff (n := n) (h := h) h1 hh)
  obtain ⟨m, hmm⟩ : ∃ m, farK n = m := ⟨_, rfl⟩
  rw [hmm] at hm Hiff ⊢
  clear hmm
  go_enter Tryz.func66, Tryz.ntmps66
  go_wp2_with fail
  go_loopg [3] m (fun gg s3 wx => ∃ k : Nat, s3 = .int .i64 (k : Int) ∧ k + gg = m ∧ w = wx)
  case atStart => exact ⟨0, rfl, by omega, rfl⟩
  case round =>
    obtain ⟨k, rfl, hkg, rfl⟩ := hrel
    cases gk with
    | succ gg =>
      have hk28 : (k : Int) < 29 := by omega
      have HL := rDistance_any (k + 1) w (by omega)
      have hle : (distN (k + 1) : Int) ≤ (n : Int) := by
        have := (Hiff.out (k + 1) (by omega)).1
        omega
      obtain ⟨x, hx⟩ : ∃ x, distN (k + 1) = x := ⟨_, rfl⟩
      rw [hx, show ((k + 1 : Nat) : Int) = (k : Int) + 1 by omega] at HL
      rw [hx] at hle
      have HL := Lib.hid HL
      clear hx
      go_wp2_with fail
      refine HL.out.mono ?_
      rintro e w1 ⟨rfl, rfl⟩
      go_wp2_with fail
      go_roundg gg
      case measure => omega
      case rel => exact ⟨k + 1, by go_num, by omega, rfl⟩
    | zero =>
      obtain rfl : k = m := by omega
      by_cases hk28 : k < 29
      · have hkz : (k : Int) < 29 := by omega
        have HL := rDistance_any (k + 1) w (by omega)
        have hle : ¬ (distN (k + 1) : Int) ≤ (n : Int) := by
          have := (Hiff.out (k + 1) (by omega)).2
          omega
        obtain ⟨x, hx⟩ : ∃ x, distN (k + 1) = x := ⟨_, rfl⟩
        rw [hx, show ((k + 1 : Nat) : Int) = (k : Int) + 1 by omega] at HL
        rw [hx] at hle
        have HL := Lib.hid HL
        clear hx
        go_wp2_with fail
        refine HL.out.mono ?_
        rintro e w1 ⟨rfl, rfl⟩
        go_wp2_with fail
        go_ret
        exact ⟨rfl, rfl⟩
      · have hkz : ¬ (k : Int) < 29 := by omega
        go_wp2_with fail
        go_ret
        exact ⟨rfl, rfl⟩
end Go.Proofs.YtboiljclenikbaaGreatDoor
