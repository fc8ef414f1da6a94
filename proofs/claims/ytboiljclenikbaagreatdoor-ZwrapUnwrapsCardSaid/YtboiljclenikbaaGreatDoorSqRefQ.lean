/-
  The contract of the document's Piece.
-/
import Derived.Test.YtboiljclenikbaaGreatDoorHWin
namespace Go.Proofs.YtboiljclenikbaaGreatDoor
open Go.RowKit
set_option maxRecDepth 100000
set_option maxHeartbeats 4000000 in
theorem rPiece_is (s : ByteArray) (a : Nat) (w : World) (hs : s.size ≤ 100000) (ha : a < s.size) {n d : Nat} (hp : pieceN s.data.toList a (farN a) = (n, d)) :
    Calls Tryz.prog 63 #[.string s, .int .i64 (a : Int)] w fun e w' => e = .returned (.tuple #[.int .i64 (n : Int), .int .i64 (d : Int)]) ∧ Below w.heap.size w w' := by
  have HP := Lib.hid hp
  have hfar : farN a = min a 32768 := rfl
  obtain ⟨D, hD⟩ : ∃ D, farN a = D := ⟨_, rfl⟩
  rw [hD] at HP hfar
  clear hp hD
  go_enter Tryz.func63, Tryz.ntmps63
  go_wp2_with fail
  go_loopg [6, 7, 8, 9] D (fun gg s6 s7 s8 s9 wx => ∃ (k x b : Nat) (fr : Int), k + gg = D ∧ s6 = .int .i64 (x : Int) ∧ s7 = .int .i64 (b : Int) ∧ s8 = .int .i64 fr ∧ fr = (a : Int) - 1 - (k : Int) ∧ x ≤ 258 ∧ Aside (pieceN s.data.toList a k = (x, b)) ∧ Below w.heap.size w wx)
  case atStart => exact ⟨0, 0, 0, _, by omega, rfl, rfl, rfl, by omega, by omega, rfl, below_same _⟩
  case round =>
    obtain ⟨k, x, b, fr, hkg, rfl, rfl, rfl, hfr, hx, HX, hb⟩ := hrel
    have Hb := Lib.hid hb
    clear hb
    cases gk with
    | zero =>
      have HE : Hid (n = x ∧ d = b) := Lib.hid (by
        have h1 := HX.out
        rw [show k = D by omega, HP.out] at h1
        exact Prod.mk.inj h1)
      by_cases hneg : fr < 0
      · have hz : ¬ (0 : Int) ≤ fr := by omega
        clear hfr
        go_wp2_with fail
        go_ret2
        exact ⟨by rw [HE.out.1, HE.out.2]; rfl, Hb.out⟩
      · have hz : (0 : Int) ≤ fr := by omega
        have hz2 : ¬ (a : Int) - fr ≤ 32768 := by omega
        have hz3 : fr ≤ 100000 := by omega
        clear hfr
        go_wp2_with fail
        go_ret2
        exact ⟨by rw [HE.out.1, HE.out.2]; rfl, Hb.out⟩
    | succ gg =>
      obtain ⟨j, hj⟩ := Int.eq_ofNat_of_zero_le (show 0 ≤ fr by omega)
      have hja : j + (k + 1) = a := by omega
      rw [hj]
      clear hfr hj
      have hz2 : (a : Int) - (j : Int) ≤ 32768 := by omega
      obtain ⟨r, hr⟩ : ∃ r, likeN s.data.toList a j = r := ⟨_, rfl⟩
      have Hmo : Hid (mostN s.data.toList a = min 258 (s.size - a)) := Lib.hid (by unfold mostN; rw [← size_data])
      have hle := likeN_le s.data.toList a j
      have HS := Lib.hid (runN_stop s.data.toList (mostN s.data.toList a) j a)
      have HE := Lib.hid (runN_like s.data.toList (mostN s.data.toList a) j a)
      have hstep : pieceN s.data.toList a (k + 1) = if x < r then (r, k + 1) else (x, b) := by
        rw [pieceN, HX.out, show a - (k + 1) = j by omega, hr]
      have HStep := Lib.hid hstep
      have Hr := Lib.hid hr
      rw [hr, Hmo.out] at hle
      unfold likeN at hr
      rw [hr] at HS HE
      rw [Hmo.out] at HS
      clear hr hstep
      go_wp2_with fail
      go_loopg [9] r (fun g9 s9 wx2 => ∃ i : Nat, s9 = .int .i64 (i : Int) ∧ i + g9 = r ∧ Below w.heap.size w wx2)
      case atStart => exact ⟨0, rfl, by omega, Hb.out⟩
      case round =>
        obtain ⟨i, rfl, hig, hb2⟩ := hrel
        have Hb2 := Lib.hid hb2
        clear hb2
        cases gk with
        | succ g9 =>
          have h258 : (i : Int) < 258 := by omega
          obtain ⟨p, hp⟩ : ∃ p, j + i = p := ⟨_, rfl⟩
          obtain ⟨q, hq⟩ : ∃ q, a + i = q := ⟨_, rfl⟩
          have hps : p < s.size := by omega
          have hqs : q < s.size := by omega
          have hbt := byte_test hqs hps
          have he := HE.out i (by omega)
          rw [hp, hq] at he
          rw [← he] at hbt
          simp only [decide_true] at hbt
          have hpz : (j : Int) + (i : Int) = (p : Int) := by omega
          have hqz : (a : Int) + (i : Int) = (q : Int) := by omega
          have hqs2 : (q : Int) < (s.size : Int) := by omega
          clear he hp hq
          go_wp2_with fail
          go_quiet (fail)
          have Hb3 := Lib.hid (below_drewN Hb2.out nq)
          go_wp2_with fail
          go_roundg g9
          case measure => omega
          case rel => exact ⟨i + 1, by go_num, by omega, Hb3.out⟩
        | zero =>
          obtain rfl : i = r := by omega
          have hexit : (¬ i < 258) ∨ (i < 258 ∧ ¬ a + i < s.size) ∨ (i < 258 ∧ a + i < s.size) := by omega
          rcases hexit with h1 | ⟨h1, h2⟩ | ⟨h1, h2⟩
          · have hA : decide ((i : Int) < 258) = false := by rw [decide_eq_false_iff_not]; omega
            clear h1
            by_cases hxr : x < i
            · have HX2 : Hid (pieceN s.data.toList a (k + 1) = (i, k + 1)) := Lib.hid (by rw [HStep.out, if_pos hxr])
              have hxz : (x : Int) < (i : Int) := by omega
              go_wp2_with fail
              go_quiet (fail)
              have Hb3 := Lib.hid (below_drewN Hb2.out nq)
              go_wp2_with fail
              go_roundg gg
              case measure => omega
              case rel => exact ⟨k + 1, i, k + 1, (j : Int) - 1, by omega, rfl, by congr 1; omega, rfl, by omega, by omega, HX2.out, Hb3.out⟩
            · have HX2 : Hid (pieceN s.data.toList a (k + 1) = (x, b)) := Lib.hid (by rw [HStep.out, if_neg hxr])
              have hxz : ¬ (x : Int) < (i : Int) := by omega
              go_wp2_with fail
              go_quiet (fail)
              have Hb3 := Lib.hid (below_drewN Hb2.out nq)
              go_wp2_with fail
              go_roundg gg
              case measure => omega
              case rel => exact ⟨k + 1, x, b, (j : Int) - 1, by omega, rfl, rfl, rfl, by omega, by omega, HX2.out, Hb3.out⟩
          · have hA : (i : Int) < 258 := by omega
            have hB : decide ((a : Int) + (i : Int) < (s.size : Int)) = false := by rw [decide_eq_false_iff_not]; omega
            clear h1 h2
            by_cases hxr : x < i
            · have HX2 : Hid (pieceN s.data.toList a (k + 1) = (i, k + 1)) := Lib.hid (by rw [HStep.out, if_pos hxr])
              have hxz : (x : Int) < (i : Int) := by omega
              go_wp2_with fail
              go_quiet (fail)
              have Hb3 := Lib.hid (below_drewN Hb2.out nq)
              go_wp2_with fail
              go_roundg gg
              case measure => omega
              case rel => exact ⟨k + 1, i, k + 1, (j : Int) - 1, by omega, rfl, by congr 1; omega, rfl, by omega, by omega, HX2.out, Hb3.out⟩
            · have HX2 : Hid (pieceN s.data.toList a (k + 1) = (x, b)) := Lib.hid (by rw [HStep.out, if_neg hxr])
              have hxz : ¬ (x : Int) < (i : Int) := by omega
              go_wp2_with fail
              go_quiet (fail)
              have Hb3 := Lib.hid (below_drewN Hb2.out nq)
              go_wp2_with fail
              go_roundg gg
              case measure => omega
              case rel => exact ⟨k + 1, x, b, (j : Int) - 1, by omega, rfl, rfl, rfl, by omega, by omega, HX2.out, Hb3.out⟩
          · have hA : (i : Int) < 258 := by omega
            obtain ⟨p, hp⟩ : ∃ p, j + i = p := ⟨_, rfl⟩
            obtain ⟨q, hq⟩ : ∃ q, a + i = q := ⟨_, rfl⟩
            have hps : p < s.size := by omega
            have hqs : q < s.size := by omega
            have hbt := byte_test hqs hps
            have he := HS.out (by omega)
            rw [hp, hq] at he
            rw [decide_eq_false (fun e => he e.symm)] at hbt
            have hpz : (j : Int) + (i : Int) = (p : Int) := by omega
            have hqz : (a : Int) + (i : Int) = (q : Int) := by omega
            have hqs2 : (q : Int) < (s.size : Int) := by omega
            clear he hp hq h1 h2
            by_cases hxr : x < i
            · have HX2 : Hid (pieceN s.data.toList a (k + 1) = (i, k + 1)) := Lib.hid (by rw [HStep.out, if_pos hxr])
              have hxz : (x : Int) < (i : Int) := by omega
              go_wp2_with fail
              go_quiet (fail)
              have Hb3 := Lib.hid (below_drewN Hb2.out nq)
              go_wp2_with fail
              go_roundg gg
              case measure => omega
              case rel => exact ⟨k + 1, i, k + 1, (j : Int) - 1, by omega, rfl, by congr 1; omega, rfl, by omega, by omega, HX2.out, Hb3.out⟩
            · have HX2 : Hid (pieceN s.data.toList a (k + 1) = (x, b)) := Lib.hid (by rw [HStep.out, if_neg hxr])
              have hxz : ¬ (x : Int) < (i : Int) := by omega
              go_wp2_with fail
              go_quiet (fail)
              have Hb3 := Lib.hid (below_drewN Hb2.out nq)
              go_wp2_with fail
              go_roundg gg
              case measure => omega
              case rel => exact ⟨k + 1, x, b, (j : Int) - 1, by omega, rfl, rfl, rfl, by omega, by omega, HX2.out, Hb3.out⟩
end Go.Proofs.YtboiljclenikbaaGreatDoor
