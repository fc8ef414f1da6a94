/-
  The contracts of the document's small functions on rows of bits: power, Bit, Get, Whole, Bytes.
-/
import Derived.Test.YtcnokejjpcpphaaRows
import Derived.Test.YtcnokejjpcpphaaBitPlain
import Derived.WalkKit
import Derived.WalkSpells
import Derived.WalkLawsBesides
import Derived.WalkSmall
import Derived.Lib.Hide
import Derived.Deep.LoopGhost
import Derived.BigQuiet
import Derived.Deep.QuietTactic
namespace Go.Proofs.Ytcnokejjpcpphaa
open Go.RowKit

set_option maxHeartbeats 1000000 in
theorem rPower_any (v : Nat) (w : World) (h : v ≤ 16) :
    Calls Try.prog 22 #[.int .i64 (v : Int)] w fun e w' => e = .returned (.int .i64 ((2 ^ v : Nat) : Int)) ∧ w = w' := by
  go_enter Try.func22, Try.ntmps22
  go_wp2_with fail
  go_loopg [3, 4] v (fun g s3 s4 wx => ∃ (j z : Nat), j + g = v ∧ s4 = .int .i64 j ∧ s3 = .int .i64 z ∧ z ≤ 65536 ∧ Aside (z = 2 ^ j) ∧ w = wx)
  case atStart => exact ⟨0, 1, by omega, rfl, rfl, by omega, rfl, rfl⟩
  case round =>
    obtain ⟨j, z, hjg, rfl, rfl, hz, HZ, rfl⟩ := hrel
    cases gk with
    | zero =>
      obtain rfl : j = v := by omega
      go_wp2_with fail
      go_ret
      exact ⟨ret_int (by rw [HZ.out]), rfl⟩
    | succ g =>
      have hjz : (j : Int) < (v : Int) := by omega
      have hz2 : Hid (2 * z ≤ 65536) := Lib.hid (by
        have h1 : (2 : Nat) ^ (j + 1) ≤ 2 ^ 16 := Nat.pow_le_pow_right (by omega) (by omega)
        rw [Nat.pow_succ] at h1
        have := HZ.out
        omega)
      go_wp2_with fail
      go_roundg g
      case measure => omega
      case rel => exact ⟨j + 1, 2 * z, by omega, by go_num, by go_num, hz2.out, by show _ = _; rw [HZ.out, Nat.pow_succ]; omega, rfl⟩

theorem calm_one {P : Program} {f : FuncId} {args : Array Value} {w : World} {n : Nat} {v : Value}
    (h : Calls P f args (w.drewN n) fun e w' => e = .returned v ∧ w.drewN n = w') : Calls P f args (w.drewN n) fun e w'' => e = .returned v ∧ ∃ m, w'' = w.drewN m :=
  h.mono fun _ _ ⟨he, hm⟩ => ⟨he, n, hm.symm⟩
theorem power_pos (k : Nat) : 0 < 2 ^ k := Nat.pow_pos (by omega)
set_option maxHeartbeats 1000000 in
theorem rBit_any (s : ByteArray) (pos : Nat) (w : World) (h : pos < 8 * s.size) (hs : s.size ≤ 1000000) :
    ∃ b : Nat, (bitsOf s.data.toList)[pos]? = some b ∧ b < 2 ∧ Calls Try.prog 26 #[.string s, .int .i64 (pos : Int)] w fun e w' => e = .returned (.int .i64 (b : Int)) ∧ ∃ q, w.drewN q = w' := by
  obtain ⟨k, hk8⟩ : ∃ k, pos / 8 = k := ⟨_, rfl⟩
  obtain ⟨r, hr8⟩ : ∃ r, pos % 8 = r := ⟨_, rfl⟩
  have hk : k < s.size := by omega
  have hr : r < 8 := by omega
  have hb := bitsOf_get s.data.toList pos s[k] (by rw [hk8]; exact Lib.data_getElem? s _ hk)
  rw [hr8] at hb
  refine ⟨_, hb, by omega, ?_⟩
  have hc := s[k].toNat_lt
  have hp := power_pos r
  have hp2 : 2 ^ r ≤ 128 := by
    have : (2 : Nat) ^ r ≤ 2 ^ 7 := Nat.pow_le_pow_right (by omega) (by omega)
    omega
  have Hpow := Lib.hid (fun W => rPower_any r W (by omega))
  obtain ⟨z, hz⟩ : ∃ z, 2 ^ r = z := ⟨_, rfl⟩
  rw [hz] at Hpow hp hp2 hb ⊢
  clear hb
  have q1 : IntKind.i64.wrap ((pos : Int) / 8) = (k : Int) := by rw [IntKind.wrap_i64]; omega
  have q2 : (pos : Int).tmod 8 = (r : Int) := by rw [Int.tmod_eq_emod_of_nonneg (by omega)]; omega
  have q2' : (pos : Int) % 8 = (r : Int) := by omega
  have hkz : (k : Int) < (s.size : Int) := by omega
  clear hk8 hr8
  obtain ⟨c, hcn⟩ : ∃ c, s[k].toNat = c := ⟨_, rfl⟩
  rw [hcn] at hc ⊢
  obtain ⟨y, hy⟩ : ∃ y : Nat, c / z = y := ⟨_, rfl⟩
  have hyc : y ≤ c := by rw [← hy]; exact Nat.div_le_self _ _
  rw [hy]
  have q3 : IntKind.i64.wrap (c : Int) = (c : Int) := by rw [IntKind.wrap_i64]; omega
  have q4 : (c : Int).tdiv (z : Int) = (y : Int) := by rw [Int.tdiv_eq_ediv_of_nonneg (by omega), ← hy]; simp
  have q5 : (c : Int) / (z : Int) = (y : Int) := by rw [← hy]; simp
  have q6 : IntKind.i64.wrap (y : Int) = (y : Int) := by rw [IntKind.wrap_i64]; omega
  obtain ⟨x, hx⟩ : ∃ x : Nat, y % 2 = x := ⟨_, rfl⟩
  rw [hx]
  have q7 : (y : Int).tmod 2 = (x : Int) := by rw [Int.tmod_eq_emod_of_nonneg (by omega)]; omega
  have q7' : (y : Int) % 2 = (x : Int) := by omega
  have q8 : ((z : Int) == 0) = false := by rw [beq_eq_false_iff_ne]; omega
  have q9 : ¬ (z : Int) = 0 := by omega
  clear hy hz hx
  go_enter Try.func26, Try.ntmps26
  go_wp2_with fail
  go_quiet ((go_at_call 22; exact calm_one (Hpow.out _)))
  go_wp2_with fail
  go_ret
  exact ⟨rfl, _, rfl⟩

theorem bit_there {s : ByteArray} {pos : Nat} (h : pos < 8 * s.size) : ∃ b, (bitsOf s.data.toList)[pos]? = some b ∧ b < 2 := by
  have hl : pos < (bitsOf s.data.toList).length := by rw [bitsOf_length, ← size_data]; exact h
  exact ⟨_, List.getElem?_eq_getElem hl, bitsOf_two _ _ (List.getElem_mem hl)⟩
theorem rBit_is (s : ByteArray) (pos b : Nat) (w : World) (h : pos < 8 * s.size) (hs : s.size ≤ 1000000) (hb : (bitsOf s.data.toList)[pos]? = some b) :
    Calls Try.prog 26 #[.string s, .int .i64 (pos : Int)] w fun e w' => e = .returned (.int .i64 (b : Int)) ∧ ∃ q, w.drewN q = w' := by
  obtain ⟨c, hc, _, hr⟩ := rBit_any s pos w h hs
  obtain rfl : c = b := Option.some.inj (hc.symm.trans hb)
  exact hr
set_option maxHeartbeats 1000000 in
theorem rGetB_is (s : ByteArray) (pos : Nat) (width : Int) (w : World) (hp : pos ≤ 8 * s.size) (hs : s.size ≤ 1000000) (_h0 : -9223372036854775808 ≤ width) (_h1 : width ≤ 9223372036854775807) {n e : Int} {to : Nat} (h : getB s.data.toList pos width = (n, to, e)) :
    Calls Try.prog 15 #[.string s, .int .i64 (pos : Int), .int .i64 width] w fun en w' => en = .returned (.tuple #[.int .i64 n, .int .i64 (to : Int), .int .i64 e]) ∧ ∃ q, w.drewN q = w' := by
  by_cases hbad : width < 0 ∨ 16 < width
  · have Hr := Lib.hid ((getB_arg hbad).symm.trans h)
    have hcase : width < 0 ∨ (¬ width < 0 ∧ 16 < width) := by omega
    clear hbad h
    rcases hcase with h | ⟨h, h'⟩
    all_goals
      go_enter Try.func15, Try.ntmps15
      go_wp2_with fail
      go_ret3
      simp only [Prod.mk.injEq] at Hr
      obtain ⟨rfl, rfl, rfl⟩ := Hr.out
      exact ⟨rfl, 0, rfl⟩
  · obtain ⟨v, rfl⟩ := Int.eq_ofNat_of_zero_le (show 0 ≤ width by omega)
    have hv : v ≤ 16 := by omega
    have h1 : ¬ (v : Int) < 0 := by omega
    have h2 : ¬ 16 < (v : Int) := by omega
    clear hbad
    have hlen : s.data.toList.length = s.size := by rw [← size_data]
    by_cases hsh : pos + v ≤ 8 * s.size
    · have Hr := Lib.hid ((getB_ok hv (by rw [hlen]; exact hsh)).symm.trans h)
      have hshz : ¬ 8 * (s.size : Int) - (pos : Int) < (v : Int) := by omega
      clear h hlen
      go_enter Try.func15, Try.ntmps15
      go_wp2_with fail
      go_loopg [9, 10] v (fun g s9 s10 wx => ∃ (z q : Nat), g ≤ v ∧ s10 = .int .i64 ((g : Int) - 1) ∧ s9 = .int .i64 z ∧ z < 65536 ∧ Aside (z = numB ((((bitsOf s.data.toList).drop pos).take v).drop g)) ∧ w.drewN q = wx)
      case atStart => exact ⟨0, 0, Nat.le_refl _, rfl, rfl, by omega, by show 0 = _; rw [List.drop_of_length_le (by rw [List.length_take]; omega)]; rfl, rfl⟩
      case round =>
        obtain ⟨z, q, hgv, rfl, rfl, hz, HZ, rfl⟩ := hrel
        cases gk with
        | zero =>
          go_wp2_with fail
          go_ret3
          simp only [Prod.mk.injEq] at Hr
          obtain ⟨rfl, rfl, rfl⟩ := Hr.out
          exact ⟨by rw [HZ.out]; rfl, q, rfl⟩
        | succ g =>
          obtain ⟨b, hb, hb2⟩ := bit_there (show pos + g < 8 * s.size by omega)
          have Hcall := Lib.hid fun W => rBit_is s (pos + g) b W (by omega) hs hb
          have Hst := Lib.hid (take_at (v := v) hb (by omega))
          have Hlt := Lib.hid (part_lt (L := bitsOf s.data.toList) (pos := pos) (v := v) (g := g) (bitsOf_two _) hv)
          have hgz : 0 ≤ ((g + 1 : Nat) : Int) - 1 := by omega
          have hgi : (pos : Int) + (((g + 1 : Nat) : Int) - 1) = ((pos + g : Nat) : Int) := by omega
          rw [Int.natCast_add] at Hcall
          clear hb
          go_wp2_with fail
          refine (Hcall.out _).mono ?_
          rintro e w1 ⟨rfl, q2, rfl⟩
          go_wp2_with fail
          go_roundg g
          case measure => omega
          case rel =>
            have hnew : numB ((((bitsOf s.data.toList).drop pos).take v).drop g) = b + 2 * z := by rw [Hst.out, HZ.out]; rfl
            exact ⟨b + 2 * z, _, by omega, by go_num, by first | go_num | (congr 1; omega), by rw [← hnew]; exact Hlt.out, hnew.symm, rfl⟩
    · have Hr := Lib.hid ((getB_short hv (by rw [hlen]; omega)).symm.trans h)
      have hshz : 8 * (s.size : Int) - (pos : Int) < (v : Int) := by omega
      clear h hlen
      go_enter Try.func15, Try.ntmps15
      go_wp2_with fail
      go_ret3
      simp only [Prod.mk.injEq] at Hr
      obtain ⟨rfl, rfl, rfl⟩ := Hr.out
      exact ⟨rfl, 0, rfl⟩

set_option maxHeartbeats 1000000 in
theorem rWhole_any (pos : Nat) (w : World) (h : pos ≤ 8000000) :
    Calls Try.prog 20 #[.int .i64 (pos : Int)] w fun e w' => e = .returned (.int .i64 (wholeN pos : Int)) ∧ w = w' := by
  have hr : ((pos : Int) + 7) / 8 * 8 = (wholeN pos : Int) := by unfold wholeN; omega
  go_enter Try.func20, Try.ntmps20
  go_wp2_with fail
  go_ret
  exact ⟨ret_int (by first | done | exact hr | omega), rfl⟩
theorem whole_bound {pos n : Nat} (h : pos ≤ 8 * n) : wholeN pos / 8 ≤ n := by unfold wholeN; omega
set_option maxHeartbeats 1000000 in
theorem rBytesB_is (s : ByteArray) (pos : Nat) (n : Int) (w : World) (hp : pos ≤ 8 * s.size) (hs : s.size ≤ 1000000) (_h0 : -9223372036854775808 ≤ n) (_h1 : n ≤ 9223372036854775807) {u : ByteArray} {e : Int} {to : Nat} (h : bytesB s.data.toList pos n = (u.data.toList, to, e)) :
    Calls Try.prog 17 #[.string s, .int .i64 (pos : Int), .int .i64 n] w fun en w' => en = .returned (.tuple #[.string u, .int .i64 (to : Int), .int .i64 e]) ∧ w = w' := by
  have hlen : s.data.toList.length = s.size := by rw [← size_data]
  have hwb := whole_bound hp
  have Hw := Lib.hid fun W => rWhole_any pos W (by omega)
  obtain ⟨k, hk⟩ : ∃ k, wholeN pos / 8 = k := ⟨_, rfl⟩
  have hq : (wholeN pos : Int) / 8 = (k : Int) := by omega
  have hq2 : (wholeN pos : Int).tdiv 8 = (k : Int) := by rw [Int.tdiv_eq_ediv_of_nonneg (by omega)]; exact hq
  have hwl : wholeN pos ≤ 8000008 := by unfold wholeN; omega
  rw [hk] at hwb
  obtain ⟨m, hm⟩ : ∃ m, wholeN pos = m := ⟨_, rfl⟩
  rw [hm] at hq hq2 hwl Hw
  by_cases hneg : n < 0
  · have Hr : Hid ((([] : List UInt8), pos, (2 : Int)) = (u.data.toList, to, e)) := Lib.hid (by rw [← h]; unfold bytesB; rw [if_pos hneg])
    clear h
    go_enter Try.func17, Try.ntmps17
    go_wp2_with fail
    go_ret3
    simp only [Prod.mk.injEq] at Hr
    obtain ⟨h1, rfl, rfl⟩ := Hr.out
    exact ⟨by rw [← bytes_of u, ← h1]; rfl, rfl⟩
  · by_cases hsh : (s.size : Int) - (k : Int) < n
    · have Hr : Hid ((([] : List UInt8), pos, (5 : Int)) = (u.data.toList, to, e)) := Lib.hid (by rw [← h]; unfold bytesB; rw [if_neg hneg, hk, hlen, if_pos hsh])
      clear h hk hm
      go_enter Try.func17, Try.ntmps17
      go_wp2_with fail
      refine (Hw.out _).mono ?_
      rintro e w1 ⟨rfl, rfl⟩
      go_wp2_with fail
      go_ret3
      simp only [Prod.mk.injEq] at Hr
      obtain ⟨h1, rfl, rfl⟩ := Hr.out
      exact ⟨by rw [← bytes_of u, ← h1]; rfl, rfl⟩
    · obtain ⟨v, rfl⟩ := Int.eq_ofNat_of_zero_le (show 0 ≤ n by omega)
      have hv : k + v ≤ s.size := by omega
      have Hr : Hid (((s.extract k (k + v)).data.toList, 8 * (k + v), (0 : Int)) = (u.data.toList, to, e)) := Lib.hid (by
        rw [← h]; unfold bytesB; rw [if_neg hneg, hk, hlen, if_neg hsh, Int.toNat_natCast, Lib.extract_data, Nat.add_sub_cancel_left])
      have q1 : ((k : Int) + (v : Int)).toNat = k + v := by omega
      clear h hk hm
      go_enter Try.func17, Try.ntmps17
      go_wp2_with fail
      refine (Hw.out _).mono ?_
      rintro e w1 ⟨rfl, rfl⟩
      go_wp2_with fail
      go_ret3
      simp only [Prod.mk.injEq] at Hr
      obtain ⟨h1, rfl, rfl⟩ := Hr.out
      exact ⟨by rw [← bytes_of u, ← h1, bytes_of]; rfl, rfl⟩

end Go.Proofs.Ytcnokejjpcpphaa
