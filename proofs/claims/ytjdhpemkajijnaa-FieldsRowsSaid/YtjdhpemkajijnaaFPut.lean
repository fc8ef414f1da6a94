/-
  The contract of Put of package fields.
-/
import Derived.Test.YtjdhpemkajijnaaFNeed
import Derived.Laws.IdiomStrings
namespace Go.Proofs.Ytjdhpemkajijnaa
open Go.RowKit

theorem conv_part (W : World) (T : TypeId) (l : List UInt8) (lo n cap : Nat) (hn : lo + n ≤ l.length) {u : ByteArray} (hu : (l.drop lo).take n = u.data.toList) :
    (convert 48 9 (.slice (some ⟨W.heap.size, lo, none⟩) n cap)).run Try.prog (W.alloc (.cells (l.map fun c => Value.int .u8 (c.toNat : Int)).toArray T)) = .ok (.string u) (W.alloc (.cells (l.map fun c => Value.int .u8 (c.toNat : Int)).toArray T)) := by
  have hlen : ((l.drop lo).take n).length = n := by simp; omega
  have h := run_convert_bytes_back (P := Try.prog) (W.alloc (.cells (l.map fun c => Value.int .u8 (c.toNat : Int)).toArray T)) 48 9 5 ⟨W.heap.size, lo, none⟩ cap ((l.drop lo).take n) Try.underlying48 Try.underlying5 Try.underlying9 (fun j hj => by
    have e : (⟨W.heap.size, lo, none⟩ : Addr).add j = ⟨W.heap.size, lo + j, none⟩ := by unfold Addr.add; split <;> simp_all
    rw [hlen] at hj
    rw [e, World.cell?_alloc_new]
    have h1 : lo + j < l.length := by omega
    simp [h1])
  rw [hlen] at h
  rw [h]
  have e : bytes ((l.drop lo).take n) = u := by rw [hu, bytes_of]
  rw [← e]; rfl
/-- An array of eight bytes, cut at a place. -/
theorem slice_arr (W : World) (p : Nat) : ∀ lo : Nat, lo ≤ 8 → (Instr.sliceAt 46 (.pointer (some ⟨p, 0, none⟩)) (some (.int .i64 (lo : Int))) none none).run Try.prog W = .ok (.slice (some ⟨p, if lo = 8 then 0 else lo, none⟩) (8 - lo) (8 - lo)) W
  | 0, _ => by kernel_rfl
  | 1, _ => by kernel_rfl
  | 2, _ => by kernel_rfl
  | 3, _ => by kernel_rfl
  | 4, _ => by kernel_rfl
  | 5, _ => by kernel_rfl
  | 6, _ => by kernel_rfl
  | 7, _ => by kernel_rfl
  | 8, _ => by kernel_rfl
  | n + 9, h => by omega
theorem slice_arr_is (k : Nat) (hk : k ≤ 8) : ∃ off, off + k ≤ 8 ∧ ((off = 8 - k) ∨ k = 0) ∧ ∀ (W : World) (p : Nat), (Instr.sliceAt 46 (.pointer (some ⟨p, 0, none⟩)) (some (.int .i64 (8 - (k : Int)))) none none).run Try.prog W = .ok (.slice (some ⟨p, off, none⟩) k k) W := by
  refine ⟨if 8 - k = 8 then 0 else 8 - k, by split <;> omega, by split <;> omega, fun W p => ?_⟩
  have h := slice_arr W p (8 - k) (by omega)
  have e : ((8 - k : Nat) : Int) = 8 - (k : Int) := by omega
  have e2 : 8 - (8 - k) = k := by omega
  rw [e, e2] at h
  exact h
theorem loN_split : ∀ (i k n : Nat), (loN (i + k) n).drop i = loN k n
  | 0, k, n => by simp
  | i + 1, k, n => by
    have e : i + 1 + k = (i + k) + 1 := by omega
    rw [e, loN, List.drop_succ_cons, loN_split i k n]
theorem loN_tail (k n : Nat) (h : k ≤ 8) : (loN 8 n).drop (8 - k) = loN k n := by
  have := loN_split (8 - k) k n
  rwa [show 8 - k + k = 8 by omega] at this

set_option maxRecDepth 100000 in
set_option maxHeartbeats 2000000 in
theorem fPut_nat (n k : Nat) (w : World) (h1 : n ≤ 9223372036854775807) (hk : k ≤ 8) (hfit : n < 256 ^ k) {u : ByteArray} (hu : loN k n = u.data.toList) :
    Calls Try.prog 7 #[.int .i64 (n : Int), .int .i64 (k : Int)] w fun e w' => e = .returned (.tuple #[.string u, .int .i64 0]) ∧ Below w.heap.size w w' := by
  have hw0 : ¬ (k : Int) < 0 := by omega
  have hw8 : ¬ (8 : Int) < (k : Int) := by omega
  have hn0 : ¬ (n : Int) < 0 := by omega
  have hwid := (widN_iff k n).2 hfit
  have hneed : needF [(n : Int)] = widN n := by
    unfold needF needFrom needFrom
    rw [if_neg hn0, Int.toNat_natCast, Nat.max_eq_right (Nat.zero_le _)]
  have hgt : ¬ (k : Int) < needF [(n : Int)] := by rw [hneed]; omega
  obtain ⟨nd, hnd⟩ : ∃ nd, needF [(n : Int)] = nd := ⟨_, rfl⟩
  rw [hnd] at hgt
  have Hnd := Lib.hid hnd
  have Hu := Lib.hid hu
  clear hnd hneed hwid hfit hu
  obtain ⟨off, ho1, ho2, hcut⟩ := slice_arr_is k hk
  have hpart : ((loN 8 n).drop off).take k = u.data.toList := by
    rw [← Hu.out]
    rcases ho2 with rfl | rfl
    · rw [loN_tail k n hk]; exact List.take_of_length_le (by rw [loN_length]; exact Nat.le_refl _)
    · simp [loN]
  obtain ⟨c0, c1, c2, c3, c4, c5, c6, c7, hl⟩ := loN8 n
  rw [hl] at hpart
  have Hpart := Lib.hid hpart
  have Hl := Lib.hid hl
  clear hl hpart ho2
  have hgt' : nd ≤ (k : Int) := by omega
  have Ho := Lib.hid ho1
  clear ho1
  go_enter Try.func7, Try.ntmps7
  go_wp2_with fail
  refine (isWidth_yes _ _ (by omega) (by omega)).mono ?_
  rintro e w1 ⟨rfl, rfl⟩
  go_wp2_with fail
  refine (fNeed_any _ 1 [(n : Int)] _ (by simp) (ints_of (by simp; omega)) (nums_one _ _)).mono ?_
  rw [Hnd.out]
  rintro e w1 ⟨rfl, hb⟩
  have Hb := Lib.hid (((Below.refl _ w).alloc (Nat.le_refl _) _).trans (hb.mono (by simp)))
  clear hb
  go_wp2_with fail
  refine (spread_is n _ h1 Hl.out).mono ?_
  rintro e w2 ⟨rfl, hb⟩
  have Hb2 := Lib.hid (Hb.out.trans (hb.mono Hb.out.size))
  have hconv := conv_part w2 46 [c0, c1, c2, c3, c4, c5, c6, c7] off k k Ho.out Hpart.out
  simp only [List.map_cons, List.map_nil] at hconv
  clear hb
  go_wp2_with fail
  go_ret2
  exact ⟨rfl, Hb2.out.alloc Hb2.out.size _⟩

theorem fPut_is (n width : Int) (w : World) (h0 : -9223372036854775808 ≤ n) (h1 : n ≤ 9223372036854775807) {u : ByteArray} {b : Int} (h : putF n width = (u.data.toList, b)) :
    Calls Try.prog 7 #[.int .i64 n, .int .i64 width] w fun e w' => e = .returned (.tuple #[.string u, .int .i64 b]) ∧ Below w.heap.size w w' := by
  by_cases hw : width < 0 ∨ 8 < width
  · rw [putF_arg hw] at h
    obtain ⟨hu, rfl⟩ := Prod.mk.inj h
    obtain rfl : u = ByteArray.empty := by
      have e := bytes_of u
      rw [← hu] at e
      rw [← e]; rfl
    clear h hu
    have Hw := Lib.hid hw
    clear hw
    go_enter Try.func7, Try.ntmps7
    go_wp2_with fail
    refine (isWidth_no _ _ Hw.out).mono ?_
    rintro e w1 ⟨rfl, rfl⟩
    go_wp2_with fail
    go_ret2
    exact ⟨rfl, Below.refl _ _⟩
  · obtain ⟨k, rfl⟩ := Int.eq_ofNat_of_zero_le (show 0 ≤ width by omega)
    by_cases hn : n < 0
    · rw [putF_neg hw hn] at h
      obtain ⟨hu, rfl⟩ := Prod.mk.inj h
      obtain rfl : u = ByteArray.empty := by
        have e := bytes_of u
        rw [← hu] at e
        rw [← e]; rfl
      have Hw := Lib.hid hw
      clear h hu hw
      go_enter Try.func7, Try.ntmps7
      go_wp2_with fail
      refine (isWidth_yes _ _ (by have := Hw.out; omega) (by have := Hw.out; omega)).mono ?_
      rintro e w1 ⟨rfl, rfl⟩
      go_wp2_with fail
      go_ret2
      exact ⟨rfl, Below.refl _ _⟩
    · obtain ⟨m, rfl⟩ := Int.eq_ofNat_of_zero_le (show 0 ≤ n by omega)
      by_cases hfit : m < 256 ^ k
      · rw [putF_ok (by omega) hfit] at h
        obtain ⟨hu, rfl⟩ := Prod.mk.inj h
        exact fPut_nat m k w (by omega) (by omega) hfit hu
      · rw [putF_big (by omega) (by omega)] at h
        obtain ⟨hu, rfl⟩ := Prod.mk.inj h
        obtain rfl : u = ByteArray.empty := by
          have e := bytes_of u
          rw [← hu] at e
          rw [← e]; rfl
        have hneed : needF [(m : Int)] = widN m := by
          unfold needF needFrom needFrom
          rw [if_neg hn, Int.toNat_natCast, Nat.max_eq_right (Nat.zero_le _)]
        have hgt : (k : Int) < needF [(m : Int)] := by
          have := mt (widN_iff k m).1 hfit
          rw [hneed]; omega
        obtain ⟨nd, hnd⟩ : ∃ nd, needF [(m : Int)] = nd := ⟨_, rfl⟩
        rw [hnd] at hgt
        have Hnd := Lib.hid hnd
        have Hw := Lib.hid hw
        have hm : ¬ (m : Int) < 0 := hn
        clear h hu hw hnd hneed hfit
        go_enter Try.func7, Try.ntmps7
        go_wp2_with fail
        refine (isWidth_yes _ _ (by have := Hw.out; omega) (by have := Hw.out; omega)).mono ?_
        rintro e w1 ⟨rfl, rfl⟩
        go_wp2_with fail
        refine (fNeed_any _ 1 [(m : Int)] _ (by simp) (ints_of (by simp; omega)) (nums_one _ _)).mono ?_
        rw [Hnd.out]
        rintro e w1 ⟨rfl, hb⟩
        have Hb := Lib.hid (((Below.refl _ w).alloc (Nat.le_refl _) _).trans (hb.mono (by simp)))
        clear hb
        go_wp2_with fail
        go_ret2
        exact ⟨rfl, Hb.out⟩

end Go.Proofs.Ytjdhpemkajijnaa
