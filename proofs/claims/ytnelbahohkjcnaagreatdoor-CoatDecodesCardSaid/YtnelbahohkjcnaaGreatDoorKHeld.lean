/-
  BitHold, BitTouch, BitRef, BitReader, BitText, BitRef2, BitBytes: texts merged.
-/
import Derived.Test.YtnelbahohkjcnaaGreatDoorKPlain
import Derived.Test.YtnelbahohkjcnaaGreatDoorKRows
import Derived.Deep.RegionWith
import Derived.BigQuiet
import Derived.Deep.QuietTactic
import Derived.Deep.RegionLaw
import Derived.Test.YtnelbahohkjcnaaGreatDoorRows
import Derived.WalkKit
import Derived.WalkSpells
import Derived.WalkLawsBesides
import Derived.WalkSmall
import Derived.Lib.Hide
import Derived.Deep.LoopGhost
import Derived.Deep.RegionHeld3
import Derived.Test.YtnelbahohkjcnaaGreatDoorShelf
/-
  The contracts of bitrow's bits that stand between: come, leave, isWidth.
-/
namespace Go.Proofs.YtnelbahohkjcnaaGreatDoor
section
open Go.RowKit
theorem i64_nat (n : Nat) (h : n < 9223372036854775808) : wrap64 (n : Int) = (n : Int) := by unfold wrap64; omega
theorem i64_or_nat (x c n : Nat) (hx : x < 2 ^ c) (hb : x + 2 ^ c * n < 9223372036854775808) : bits .or .i64 (x : Int) ((2 ^ c * n : Nat) : Int) = ((x + 2 ^ c * n : Nat) : Int) := by
  have h1 : x < 18446744073709551616 := by omega
  have h2 : 2 ^ c * n < 18446744073709551616 := by omega
  show IntKind.i64.wrap ((BitVec.ofInt 64 ((x : Nat) : Int) ||| BitVec.ofInt 64 ((2 ^ c * n : Nat) : Int)).toNat : Int) = _
  have e : ∀ m : Nat, m < 18446744073709551616 → (BitVec.ofInt 64 (m : Int)).toNat = m := fun m hm => by
    rw [BitVec.toNat_ofInt, show (m : Int) % ((2 ^ 64 : Nat) : Int) = (m : Int) by omega, Int.toNat_natCast]
  rw [BitVec.toNat_or, e _ h1, e _ h2, Nat.or_comm, ← Nat.two_pow_add_eq_or_of_lt hx n, Nat.add_comm, IntKind.wrap_i64]
  omega
theorem i64_and_low (x k : Nat) (hx : x < 9223372036854775808) (hk : k ≤ 30) : bits .and .i64 (x : Int) ((2 ^ k : Nat) - 1 : Int) = ((x % 2 ^ k : Nat) : Int) := by
  have hp : 0 < 2 ^ k := Nat.pow_pos (by omega)
  have hp2 : 2 ^ k ≤ 2 ^ 30 := Nat.pow_le_pow_right (by omega) hk
  have e : ∀ m : Nat, m < 18446744073709551616 → (BitVec.ofInt 64 (m : Int)).toNat = m := fun m hm => by
    rw [BitVec.toNat_ofInt, show (m : Int) % ((2 ^ 64 : Nat) : Int) = (m : Int) by omega, Int.toNat_natCast]
  rw [show (((2 ^ k : Nat) : Int) - 1) = ((2 ^ k - 1 : Nat) : Int) by omega]
  show IntKind.i64.wrap ((BitVec.ofInt 64 ((x : Nat) : Int) &&& BitVec.ofInt 64 ((2 ^ k - 1 : Nat) : Int)).toNat : Int) = _
  rw [BitVec.toNat_and, e _ (by omega), e _ (by omega), Nat.and_two_pow_sub_one_eq_mod, IntKind.wrap_i64]
  have := Nat.mod_le x (2 ^ k)
  omega
theorem pow_two_int (k : Nat) : (2 : Int) ^ k = ((2 ^ k : Nat) : Int) := by simp
def twoSet (w : World) (b : Nat) (x y : Int) : World := ((w.setCell ⟨b, 0, none⟩ (.int .i64 x)).setCell ⟨b, 1, none⟩ (.int .i64 y)).drew
set_option maxHeartbeats 1000000 in
theorem come_is (b : Nat) (L : List Nat) (n k : Nat) (w : World) (h2 : ∀ b ∈ L, b < 2) (hl : L.length ≤ 15) (hn : n < 2 ^ k) (hk : k ≤ 16) (h0 : w.cell? ⟨b, 0, none⟩ = some (.int .i64 (numB L : Int))) (h1 : w.cell? ⟨b, 1, none⟩ = some (.int .i64 (L.length : Int)))
   (hf : w.frozen? ⟨b, 0, none⟩ = false) (hf1 : w.frozen? ⟨b, 1, none⟩ = false) :
    Calls Tryz.prog 189 #[.pointer (some ⟨b, 0, none⟩), .int .i64 (n : Int), .int .i64 (k : Int)] w fun e w' => e = .returned (.tuple #[]) ∧ w' = twoSet w b (numB (L ++ bitsN k n)) ((L ++ bitsN k n).length : Nat) := by
  have hx := numB_lt L h2
  have hor := i64_or_nat (numB L) L.length n hx (by
    have e1 : (2 : Nat) ^ L.length ≤ 2 ^ 15 := Nat.pow_le_pow_right (by omega) hl
    have e2 : (2 : Nat) ^ k ≤ 2 ^ 16 := Nat.pow_le_pow_right (by omega) hk
    have e3 : 2 ^ L.length * n ≤ 2 ^ 15 * 2 ^ 16 := Nat.mul_le_mul e1 (by omega)
    omega)
  have hsh : wrap64 ((n : Int) * 2 ^ L.length) = ((2 ^ L.length * n : Nat) : Int) := by
    have e1 : (2 : Nat) ^ L.length ≤ 2 ^ 15 := Nat.pow_le_pow_right (by omega) hl
    have e2 : (2 : Nat) ^ k ≤ 2 ^ 16 := Nat.pow_le_pow_right (by omega) hk
    have e3 : 2 ^ L.length * n ≤ 2 ^ 15 * 2 ^ 16 := Nat.mul_le_mul e1 (by omega)
    rw [pow_two_int, ← Int.natCast_mul, Nat.mul_comm n, i64_nat _ (by omega)]
  have hnum : numB L + 2 ^ L.length * n = numB (L ++ bitsN k n) := by rw [numB_append, numB_bitsN k n hn]
  rw [hnum] at hor
  have hlen : (L ++ bitsN k n).length = L.length + k := by rw [List.length_append, bitsN_length]
  rw [hlen]
  obtain ⟨z, hz⟩ : ∃ z, numB (L ++ bitsN k n) = z := ⟨_, rfl⟩
  obtain ⟨x, hx2⟩ : ∃ x, numB L = x := ⟨_, rfl⟩
  obtain ⟨c, hc⟩ : ∃ c, L.length = c := ⟨_, rfl⟩
  obtain ⟨y, hy⟩ : ∃ y : Nat, 2 ^ c * n = y := ⟨_, rfl⟩
  rw [hz] at hor ⊢
  rw [hx2] at hor h0
  rw [hc] at hor h1 hsh hl ⊢
  rw [hy] at hor hsh
  have Hor := Lib.hid hor
  have Hsh := Lib.hid hsh
  clear hor hsh hnum hlen hz hx2 hc hy hx h2 hn
  go_enter Tryz.func189, Tryz.ntmps189
  go_wp2_with fail
  go_region
  all_goals
    go_wp2_with fail
    rw [Hsh.out, Hor.out]
    go_end0
    exact ⟨rfl, rfl⟩
set_option maxHeartbeats 1000000 in
theorem leave_is (b : Nat) (L : List Nat) (k : Nat) (w : World) (h2 : ∀ b ∈ L, b < 2) (hl : L.length ≤ 31) (hk : k ≤ 16) (hkl : k ≤ L.length) (h0 : w.cell? ⟨b, 0, none⟩ = some (.int .i64 (numB L : Int))) (h1 : w.cell? ⟨b, 1, none⟩ = some (.int .i64 (L.length : Int)))
   (hf : w.frozen? ⟨b, 0, none⟩ = false) (hf1 : w.frozen? ⟨b, 1, none⟩ = false) :
    Calls Tryz.prog 190 #[.pointer (some ⟨b, 0, none⟩), .int .i64 (k : Int)] w fun e w' => e = .returned (.int .i64 (numB (L.take k) : Int)) ∧ w' = twoSet w b (numB (L.drop k)) ((L.drop k).length : Nat) := by
  have hx := numB_lt L h2
  have hx3 : (2 : Nat) ^ L.length ≤ 2 ^ 31 := Nat.pow_le_pow_right (by omega) hl
  obtain ⟨ht, hd⟩ := numB_parts k L h2 hkl
  have hand := i64_and_low (numB L) k (by omega) (by omega)
  rw [← ht] at hand
  rw [List.length_drop]
  obtain ⟨t, htt⟩ : ∃ t, numB (L.take k) = t := ⟨_, rfl⟩
  obtain ⟨d, hdd⟩ : ∃ d, numB (L.drop k) = d := ⟨_, rfl⟩
  obtain ⟨x, hx2⟩ : ∃ x, numB L = x := ⟨_, rfl⟩
  obtain ⟨c, hc⟩ : ∃ c, L.length = c := ⟨_, rfl⟩
  rw [htt] at hand ⊢
  rw [hdd] at hd ⊢
  rw [hx2] at hand hd h0
  rw [hc] at h1 hkl hl ⊢
  have hp2 : 2 ^ k ≤ 65536 := by
    have : (2 : Nat) ^ k ≤ 2 ^ 16 := Nat.pow_le_pow_right (by omega) hk
    omega
  have hck : ((c - k : Nat) : Int) = (c : Int) - (k : Int) := by omega
  rw [hck]
  have hdz : (x : Int) / ((2 ^ k : Nat) : Int) = (d : Int) := by rw [hd]; rfl
  have hpk := pow_two_int k
  obtain ⟨p, hp⟩ : ∃ p, 2 ^ k = p := ⟨_, rfl⟩
  have hp0 : 0 < p := by rw [← hp]; exact Nat.pow_pos (by omega)
  rw [hp] at hpk hp2 hand hdz
  have Hand := Lib.hid hand
  have Hdz := Lib.hid hdz
  clear hand hdz ht hd htt hdd hx2 hc hx hx3 h2 hck hp
  go_enter Tryz.func190, Tryz.ntmps190
  go_wp2_with fail
  go_region
  all_goals
    go_wp2_with fail
    rw [Hand.out, Hdz.out]
    go_ret
    exact ⟨rfl, rfl⟩
theorem isWidth_is (k : Int) (w : World) {b : Bool} (hb : decide (0 ≤ k ∧ k ≤ 16) = b) :
    Calls Tryz.prog 188 #[.int .i64 k] w fun e w' => e = .returned (.bool b) ∧ w = w' := by
  subst hb
  by_cases h1 : 0 ≤ k
  · by_cases h2 : k ≤ 16
    · go_enter Tryz.func188, Tryz.ntmps188
      go_wp2_with fail
      go_ret
      exact ⟨by simp [h1, h2], rfl⟩
    · go_enter Tryz.func188, Tryz.ntmps188
      go_wp2_with fail
      go_ret
      exact ⟨by simp [h2], rfl⟩
  · go_enter Tryz.func188, Tryz.ntmps188
    go_wp2_with fail
    go_ret
    exact ⟨by simp; omega, rfl⟩
end
end Go.Proofs.YtnelbahohkjcnaaGreatDoor
/-
  Bits that stand between, and what they turn of memory.
-/
namespace Go.Proofs.YtnelbahohkjcnaaGreatDoor
section
open Go.RowKit
theorem Touches.two {F F' : List Nat} {w w' : World} (h : Touches F F' w w') {b : Nat} (hb : b ∈ F') (x y : Int) : Touches F F' w (twoSet w' b x y) := ((h.setCell (a := ⟨b, 0, none⟩) hb _).setCell (a := ⟨b, 1, none⟩) hb _).drew
theorem two_block (w : World) (b : Nat) (x y : Int) (k : Nat) (h : k ≠ b) : (twoSet w b x y).heap[k]? = w.heap[k]? :=
  (Below.heap_setCell _ ⟨b, 1, none⟩ _ k h).trans (Below.heap_setCell _ ⟨b, 0, none⟩ _ k h)
theorem two_size (w : World) (b : Nat) (x y : Int) : (twoSet w b x y).heap.size = w.heap.size := by simp [twoSet, World.setCell, World.drew]
end
end Go.Proofs.YtnelbahohkjcnaaGreatDoor
/-
  The contracts of the document's small functions on rows of bits: power, Bit, Get, Whole, Bytes.
-/
namespace Go.Proofs.YtnelbahohkjcnaaGreatDoor
section
open Go.RowKit
set_option maxHeartbeats 1000000 in
theorem rPower_any (v : Nat) (w : World) (h : v ≤ 16) :
    Calls Tryz.prog 152 #[.int .i64 (v : Int)] w fun e w' => e = .returned (.int .i64 ((2 ^ v : Nat) : Int)) ∧ w = w' := by
  go_enter Tryz.func152, Tryz.ntmps152
  go_wp2_with fail
  go_loopg [3, 4] v (fun g s3 s4 wx => ∃ (j z : Nat), j + g = v ∧ s4 = .int .i64 j ∧ s3 = .int .i64 z ∧ z ≤ 65536 ∧ Aside (z = 2 ^ j) ∧ w = wx)
  case atStart => exact ⟨0, 1, by omega, rfl, rfl, by omega, rfl, rfl⟩
  case round =>
    obtain ⟨j, z, hjg, rfl, rfl, hz, HZ, rfl⟩ := hrel
    cases gk with
    | zero =>
      obtain rfl : j = v := by omega
      go_wp2_with fail
      go_ret
      exact ⟨ret_int (by rw [HZ.out]), rfl⟩
    | succ g =>
      have hjz : (j : Int) < (v : Int) := by omega
      have hz2 : Hid (2 * z ≤ 65536) := Lib.hid (by
        have h1 : (2 : Nat) ^ (j + 1) ≤ 2 ^ 16 := Nat.pow_le_pow_right (by omega) (by omega)
        rw [Nat.pow_succ] at h1
        have := HZ.out
        omega)
      go_wp2_with fail
      go_roundg g
      case measure => omega
      case rel => exact ⟨j + 1, 2 * z, by omega, by go_num, by go_num, hz2.out, by show _ = _; rw [HZ.out, Nat.pow_succ]; omega, rfl⟩
theorem calm_one {P : Program} {f : FuncId} {args : Array Value} {w : World} {n : Nat} {v : Value}
    (h : Calls P f args (w.drewN n) fun e w' => e = .returned v ∧ w.drewN n = w') : Calls P f args (w.drewN n) fun e w'' => e = .returned v ∧ ∃ m, w'' = w.drewN m :=
  h.mono fun _ _ ⟨he, hm⟩ => ⟨he, n, hm.symm⟩
theorem power_pos (k : Nat) : 0 < 2 ^ k := Nat.pow_pos (by omega)
set_option maxHeartbeats 1000000 in
theorem rBit_any (s : ByteArray) (pos : Nat) (w : World) (h : pos < 8 * s.size) (hs : s.size ≤ 1000000) :
    ∃ b : Nat, (bitsOf s.data.toList)[pos]? = some b ∧ b < 2 ∧ Calls Tryz.prog 153 #[.string s, .int .i64 (pos : Int)] w fun e w' => e = .returned (.int .i64 (b : Int)) ∧ ∃ q, w.drewN q = w' := by
  obtain ⟨k, hk8⟩ : ∃ k, pos / 8 = k := ⟨_, rfl⟩
  obtain ⟨r, hr8⟩ : ∃ r, pos % 8 = r := ⟨_, rfl⟩
  have hk : k < s.size := by omega
  have hr : r < 8 := by omega
  have hb := bitsOf_get s.data.toList pos s[k] (by rw [hk8]; exact Lib.data_getElem? s _ hk)
  rw [hr8] at hb
  refine ⟨_, hb, by omega, ?_⟩
  have hc := s[k].toNat_lt
  have hp := power_pos r
  have hp2 : 2 ^ r ≤ 128 := by
    have : (2 : Nat) ^ r ≤ 2 ^ 7 := Nat.pow_le_pow_right (by omega) (by omega)
    omega
  have Hpow := Lib.hid (fun W => rPower_any r W (by omega))
  obtain ⟨z, hz⟩ : ∃ z, 2 ^ r = z := ⟨_, rfl⟩
  rw [hz] at Hpow hp hp2 hb ⊢
  clear hb
  have q1 : IntKind.i64.wrap ((pos : Int) / 8) = (k : Int) := by rw [IntKind.wrap_i64]; omega
  have q2 : (pos : Int).tmod 8 = (r : Int) := by rw [Int.tmod_eq_emod_of_nonneg (by omega)]; omega
  have q2' : (pos : Int) % 8 = (r : Int) := by omega
  have hkz : (k : Int) < (s.size : Int) := by omega
  clear hk8 hr8
  obtain ⟨c, hcn⟩ : ∃ c, s[k].toNat = c := ⟨_, rfl⟩
  rw [hcn] at hc ⊢
  obtain ⟨y, hy⟩ : ∃ y : Nat, c / z = y := ⟨_, rfl⟩
  have hyc : y ≤ c := by rw [← hy]; exact Nat.div_le_self _ _
  rw [hy]
  have q3 : IntKind.i64.wrap (c : Int) = (c : Int) := by rw [IntKind.wrap_i64]; omega
  have q4 : (c : Int).tdiv (z : Int) = (y : Int) := by rw [Int.tdiv_eq_ediv_of_nonneg (by omega), ← hy]; simp
  have q5 : (c : Int) / (z : Int) = (y : Int) := by rw [← hy]; simp
  have q6 : IntKind.i64.wrap (y : Int) = (y : Int) := by rw [IntKind.wrap_i64]; omega
  obtain ⟨x, hx⟩ : ∃ x : Nat, y % 2 = x := ⟨_, rfl⟩
  rw [hx]
  have q7 : (y : Int).tmod 2 = (x : Int) := by rw [Int.tmod_eq_emod_of_nonneg (by omega)]; omega
  have q7' : (y : Int) % 2 = (x : Int) := by omega
  have q8 : ((z : Int) == 0) = false := by rw [beq_eq_false_iff_ne]; omega
  have q9 : ¬ (z : Int) = 0 := by omega
  clear hy hz hx
  go_enter Tryz.func153, Tryz.ntmps153
  go_wp2_with fail
  go_quiet ((go_at_call 152; exact calm_one (Hpow.out _)))
  go_wp2_with fail
  go_ret
  exact ⟨rfl, _, rfl⟩
theorem bit_there {s : ByteArray} {pos : Nat} (h : pos < 8 * s.size) : ∃ b, (bitsOf s.data.toList)[pos]? = some b ∧ b < 2 := by
  have hl : pos < (bitsOf s.data.toList).length := by rw [bitsOf_length, ← size_data]; exact h
  exact ⟨_, List.getElem?_eq_getElem hl, bitsOf_two _ _ (List.getElem_mem hl)⟩
theorem rBit_is (s : ByteArray) (pos b : Nat) (w : World) (h : pos < 8 * s.size) (hs : s.size ≤ 1000000) (hb : (bitsOf s.data.toList)[pos]? = some b) :
    Calls Tryz.prog 153 #[.string s, .int .i64 (pos : Int)] w fun e w' => e = .returned (.int .i64 (b : Int)) ∧ ∃ q, w.drewN q = w' := by
  obtain ⟨c, hc, _, hr⟩ := rBit_any s pos w h hs
  obtain rfl : c = b := Option.some.inj (hc.symm.trans hb)
  exact hr
set_option maxHeartbeats 1000000 in
theorem rGetB_is (s : ByteArray) (pos : Nat) (width : Int) (w : World) (hp : pos ≤ 8 * s.size) (hs : s.size ≤ 1000000) (_h0 : -9223372036854775808 ≤ width) (_h1 : width ≤ 9223372036854775807) {n e : Int} {tq : Nat} (h : getB s.data.toList pos width = (n, tq, e)) :
    Calls Tryz.prog 122 #[.string s, .int .i64 (pos : Int), .int .i64 width] w fun en w' => en = .returned (.tuple #[.int .i64 n, .int .i64 (tq : Int), .int .i64 e]) ∧ ∃ q, w.drewN q = w' := by
  by_cases hbad : width < 0 ∨ 16 < width
  · have Hr := Lib.hid ((getB_arg hbad).symm.trans h)
    have hcase : width < 0 ∨ (¬ width < 0 ∧ 16 < width) := by omega
    clear hbad h
    rcases hcase with h | ⟨h, h'⟩
    all_goals
      go_enter Tryz.func122, Tryz.ntmps122
      go_wp2_with fail
      go_ret3
      simp only [Prod.mk.injEq] at Hr
      obtain ⟨rfl, rfl, rfl⟩ := Hr.out
      exact ⟨rfl, 0, rfl⟩
  · obtain ⟨v, rfl⟩ := Int.eq_ofNat_of_zero_le (show 0 ≤ width by omega)
    have hv : v ≤ 16 := by omega
    have h1 : ¬ (v : Int) < 0 := by omega
    have h2 : ¬ 16 < (v : Int) := by omega
    clear hbad
    have hlen : s.data.toList.length = s.size := by rw [← size_data]
    by_cases hsh : pos + v ≤ 8 * s.size
    · have Hr := Lib.hid ((getB_ok hv (by rw [hlen]; exact hsh)).symm.trans h)
      have hshz : ¬ 8 * (s.size : Int) - (pos : Int) < (v : Int) := by omega
      clear h hlen
      go_enter Tryz.func122, Tryz.ntmps122
      go_wp2_with fail
      go_loopg [9, 10] v (fun g s9 s10 wx => ∃ (z q : Nat), g ≤ v ∧ s10 = .int .i64 ((g : Int) - 1) ∧ s9 = .int .i64 z ∧ z < 65536 ∧ Aside (z = numB ((((bitsOf s.data.toList).drop pos).take v).drop g)) ∧ w.drewN q = wx)
      case atStart => exact ⟨0, 0, Nat.le_refl _, rfl, rfl, by omega, by show 0 = _; rw [List.drop_of_length_le (by rw [List.length_take]; omega)]; rfl, rfl⟩
      case round =>
        obtain ⟨z, q, hgv, rfl, rfl, hz, HZ, rfl⟩ := hrel
        cases gk with
        | zero =>
          go_wp2_with fail
          go_ret3
          simp only [Prod.mk.injEq] at Hr
          obtain ⟨rfl, rfl, rfl⟩ := Hr.out
          exact ⟨by rw [HZ.out]; rfl, q, rfl⟩
        | succ g =>
          obtain ⟨b, hb, hb2⟩ := bit_there (show pos + g < 8 * s.size by omega)
          have Hcall := Lib.hid fun W => rBit_is s (pos + g) b W (by omega) hs hb
          have Hst := Lib.hid (take_at (v := v) hb (by omega))
          have Hlt := Lib.hid (part_lt (L := bitsOf s.data.toList) (pos := pos) (v := v) (g := g) (bitsOf_two _) hv)
          have hgz : 0 ≤ ((g + 1 : Nat) : Int) - 1 := by omega
          have hgi : (pos : Int) + (((g + 1 : Nat) : Int) - 1) = ((pos + g : Nat) : Int) := by omega
          rw [Int.natCast_add] at Hcall
          clear hb
          go_wp2_with fail
          refine (Hcall.out _).mono ?_
          rintro e w1 ⟨rfl, q2, rfl⟩
          go_wp2_with fail
          go_roundg g
          case measure => omega
          case rel =>
            have hnew : numB ((((bitsOf s.data.toList).drop pos).take v).drop g) = b + 2 * z := by rw [Hst.out, HZ.out]; rfl
            exact ⟨b + 2 * z, _, by omega, by go_num, by first | go_num | (congr 1; omega), by rw [← hnew]; exact Hlt.out, hnew.symm, rfl⟩
    · have Hr := Lib.hid ((getB_short hv (by rw [hlen]; omega)).symm.trans h)
      have hshz : 8 * (s.size : Int) - (pos : Int) < (v : Int) := by omega
      clear h hlen
      go_enter Tryz.func122, Tryz.ntmps122
      go_wp2_with fail
      go_ret3
      simp only [Prod.mk.injEq] at Hr
      obtain ⟨rfl, rfl, rfl⟩ := Hr.out
      exact ⟨rfl, 0, rfl⟩
set_option maxHeartbeats 1000000 in
theorem rWhole_any (pos : Nat) (w : World) (h : pos ≤ 8000000) :
    Calls Tryz.prog 101 #[.int .i64 (pos : Int)] w fun e w' => e = .returned (.int .i64 (wholeN pos : Int)) ∧ w = w' := by
  have hr : ((pos : Int) + 7) / 8 * 8 = (wholeN pos : Int) := by unfold wholeN; omega
  go_enter Tryz.func101, Tryz.ntmps101
  go_wp2_with fail
  go_ret
  exact ⟨ret_int (by first | done | exact hr | omega), rfl⟩
theorem whole_bound {pos n : Nat} (h : pos ≤ 8 * n) : wholeN pos / 8 ≤ n := by unfold wholeN; omega
set_option maxHeartbeats 1000000 in
theorem rBytesB_is (s : ByteArray) (pos : Nat) (n : Int) (w : World) (hp : pos ≤ 8 * s.size) (hs : s.size ≤ 1000000) (_h0 : -9223372036854775808 ≤ n) (_h1 : n ≤ 9223372036854775807) {u : ByteArray} {e : Int} {tq : Nat} (h : bytesB s.data.toList pos n = (u.data.toList, tq, e)) :
    Calls Tryz.prog 123 #[.string s, .int .i64 (pos : Int), .int .i64 n] w fun en w' => en = .returned (.tuple #[.string u, .int .i64 (tq : Int), .int .i64 e]) ∧ w = w' := by
  have hlen : s.data.toList.length = s.size := by rw [← size_data]
  have hwb := whole_bound hp
  have Hw := Lib.hid fun W => rWhole_any pos W (by omega)
  obtain ⟨k, hk⟩ : ∃ k, wholeN pos / 8 = k := ⟨_, rfl⟩
  have hq : (wholeN pos : Int) / 8 = (k : Int) := by omega
  have hq2 : (wholeN pos : Int).tdiv 8 = (k : Int) := by rw [Int.tdiv_eq_ediv_of_nonneg (by omega)]; exact hq
  have hwl : wholeN pos ≤ 8000008 := by unfold wholeN; omega
  rw [hk] at hwb
  obtain ⟨m, hm⟩ : ∃ m, wholeN pos = m := ⟨_, rfl⟩
  rw [hm] at hq hq2 hwl Hw
  by_cases hneg : n < 0
  · have Hr : Hid ((([] : List UInt8), pos, (2 : Int)) = (u.data.toList, tq, e)) := Lib.hid (by rw [← h]; unfold bytesB; rw [if_pos hneg])
    clear h
    go_enter Tryz.func123, Tryz.ntmps123
    go_wp2_with fail
    go_ret3
    simp only [Prod.mk.injEq] at Hr
    obtain ⟨h1, rfl, rfl⟩ := Hr.out
    exact ⟨by rw [← bytes_of u, ← h1]; rfl, rfl⟩
  · by_cases hsh : (s.size : Int) - (k : Int) < n
    · have Hr : Hid ((([] : List UInt8), pos, (5 : Int)) = (u.data.toList, tq, e)) := Lib.hid (by rw [← h]; unfold bytesB; rw [if_neg hneg, hk, hlen, if_pos hsh])
      clear h hk hm
      go_enter Tryz.func123, Tryz.ntmps123
      go_wp2_with fail
      refine (Hw.out _).mono ?_
      rintro e w1 ⟨rfl, rfl⟩
      go_wp2_with fail
      go_ret3
      simp only [Prod.mk.injEq] at Hr
      obtain ⟨h1, rfl, rfl⟩ := Hr.out
      exact ⟨by rw [← bytes_of u, ← h1]; rfl, rfl⟩
    · obtain ⟨v, rfl⟩ := Int.eq_ofNat_of_zero_le (show 0 ≤ n by omega)
      have hv : k + v ≤ s.size := by omega
      have Hr : Hid (((s.extract k (k + v)).data.toList, 8 * (k + v), (0 : Int)) = (u.data.toList, tq, e)) := Lib.hid (by
        rw [← h]; unfold bytesB; rw [if_neg hneg, hk, hlen, if_neg hsh, Int.toNat_natCast, Lib.extract_data, Nat.add_sub_cancel_left])
      have q1 : ((k : Int) + (v : Int)).toNat = k + v := by omega
      clear h hk hm
      go_enter Tryz.func123, Tryz.ntmps123
      go_wp2_with fail
      refine (Hw.out _).mono ?_
      rintro e w1 ⟨rfl, rfl⟩
      go_wp2_with fail
      go_ret3
      simp only [Prod.mk.injEq] at Hr
      obtain ⟨h1, rfl, rfl⟩ := Hr.out
      exact ⟨by rw [← bytes_of u, ← h1, bytes_of]; rfl, rfl⟩
end
end Go.Proofs.YtnelbahohkjcnaaGreatDoor
/-
  The contracts of bitrow's Reader: New, Get, At.
-/
namespace Go.Proofs.YtnelbahohkjcnaaGreatDoor
section
open Go.RowKit
def RdCell (w : World) (b : Nat) (s : ByteArray) (next : Nat) (L : List Nat) : Prop := w.heap[b]? = some (.cells #[.int .i64 (numB L : Int), .int .i64 (L.length : Int), .string s, .int .i64 (next : Int)] 185 (0, 0))
theorem RdCell.held {w : World} {b : Nat} {s : ByteArray} {next : Nat} {L : List Nat} (h : RdCell w b s next L) : w.cell? ⟨b, 0, none⟩ = some (.int .i64 (numB L : Int)) := by rw [cell_of_row _ _ _ _ _ _ h]; rfl
theorem RdCell.count {w : World} {b : Nat} {s : ByteArray} {next : Nat} {L : List Nat} (h : RdCell w b s next L) : w.cell? ⟨b, 1, none⟩ = some (.int .i64 (L.length : Int)) := by rw [cell_of_row _ _ _ _ _ _ h]; rfl
theorem RdCell.text {w : World} {b : Nat} {s : ByteArray} {next : Nat} {L : List Nat} (h : RdCell w b s next L) : w.cell? ⟨b, 2, none⟩ = some (.string s) := by rw [cell_of_row _ _ _ _ _ _ h]; rfl
theorem RdCell.next {w : World} {b : Nat} {s : ByteArray} {next : Nat} {L : List Nat} (h : RdCell w b s next L) : w.cell? ⟨b, 3, none⟩ = some (.int .i64 (next : Int)) := by rw [cell_of_row _ _ _ _ _ _ h]; rfl
theorem RdCell.free {w : World} {b : Nat} {s : ByteArray} {next : Nat} {L : List Nat} (h : RdCell w b s next L) (j : Nat) : w.frozen? ⟨b, j, none⟩ = false := frozen_of_row _ _ _ _ _ h
theorem RdCell.lt {w : World} {b : Nat} {s : ByteArray} {next : Nat} {L : List Nat} (h : RdCell w b s next L) : b < w.heap.size := by
  rcases Nat.lt_or_ge b w.heap.size with h' | h'
  · exact h'
  · unfold RdCell at h; rw [Array.getElem?_eq_none h'] at h; cases h
theorem RdCell.two {w : World} {b : Nat} {s : ByteArray} {next : Nat} {L : List Nat} (h : RdCell w b s next L) (L' : List Nat) : RdCell (twoSet w b (numB L') (L'.length : Nat)) b s next L' := by
  have h1 := heap_setCell_same _ _ 0 _ _ (.int .i64 (numB L' : Int)) h
  exact heap_setCell_same _ _ 1 _ _ (.int .i64 (L'.length : Int)) h1
theorem RdCell.put {w : World} {b : Nat} {s : ByteArray} {next : Nat} {L : List Nat} (h : RdCell w b s next L) (n' : Nat) : RdCell (w.setCell ⟨b, 3, none⟩ (.int .i64 (n' : Int))) b s n' L := heap_setCell_same _ _ 3 _ _ (.int .i64 (n' : Int)) h
theorem RdCell.put_int {w : World} {b : Nat} {s : ByteArray} {next : Nat} {L : List Nat} (h : RdCell w b s next L) {n' : Nat} {z : Int} (hz : z = (n' : Int)) : RdCell (w.setCell ⟨b, 3, none⟩ (.int .i64 z)) b s n' L := by
  subst hz; exact h.put n'
def ReaderAt (w : World) (b : Nat) (s : ByteArray) (pos : Nat) (F : List Nat) : Prop := ∃ next L, F = [b] ∧ L.length < 8 ∧ HeldR s.data.toList pos next L ∧ RdCell w b s next L
theorem ReaderAt.lt {w : World} {b : Nat} {s : ByteArray} {pos : Nat} {F : List Nat} (h : ReaderAt w b s pos F) : ∀ k ∈ F, k < w.heap.size := by
  obtain ⟨next, L, rfl, _, _, h⟩ := h
  intro k hk
  obtain rfl : k = b := by simpa using hk
  exact h.lt
theorem ReaderAt.move {w w' : World} {b : Nat} {s : ByteArray} {pos : Nat} {F : List Nat} (h : ReaderAt w b s pos F) (_ : w.heap.size ≤ w'.heap.size) (hk : ∀ k ∈ F, w'.heap[k]? = w.heap[k]?) : ReaderAt w' b s pos F := by
  obtain ⟨next, L, rfl, h1, h2, h⟩ := h
  exact ⟨next, L, rfl, h1, h2, (hk b (by simp)).trans h⟩
theorem ReaderAt.later' {w w' : World} {b : Nat} {s : ByteArray} {pos : Nat} {F : List Nat} (h : ReaderAt w b s pos F) (hb : Below w.drew.heap.size w.drew w') : ReaderAt w' b s pos F := h.move hb.size fun k hk => hb.block k (h.lt k hk)
theorem rNew_is (s : ByteArray) (w : World) (_hs : s.size ≤ 100000) :
    Calls Tryz.prog 146 #[.string s] w fun en w' => ∃ b F, en = .returned (.pointer (some ⟨b, 0, none⟩)) ∧ ReaderAt w' b s 0 F ∧ (∀ k ∈ F, w.heap.size ≤ k) ∧ Below w.heap.size w w' := by
  go_enter Tryz.func146, Tryz.ntmps146
  go_wp2_with fail
  go_ret
  exact ⟨w.heap.size, [w.heap.size], rfl, ⟨0, [], rfl, by decide, ⟨rfl, rfl, Nat.zero_le _⟩, heap_alloc_new w _⟩, by simp, (below_same w).alloc (Nat.le_refl _) _⟩
set_option maxHeartbeats 1000000 in
theorem rAt_is (b : Nat) (s : ByteArray) (pos : Nat) (F : List Nat) (w : World) (h : ReaderAt w b s pos F) (_hp : pos ≤ 8 * s.size) (hs : s.size ≤ 100000) :
    Calls Tryz.prog 148 #[.pointer (some ⟨b, 0, none⟩)] w fun en w' => en = .returned (.int .i64 (pos : Int)) ∧ Below w.heap.size w w' := by
  obtain ⟨next, L, hF, hL, hH, hC⟩ := h
  have c1 := hC.count
  have c3 := hC.next
  have h1 := hH.2.1
  have h2 := hH.2.2
  rw [← size_data] at h2
  have HR : Hid (8 * (next : Int) - (L.length : Int) = (pos : Int)) := Lib.hid (by omega)
  clear hH hC h1 hF
  go_enter Tryz.func148, Tryz.ntmps148
  go_wp2_with fail
  go_region
  all_goals
    go_wp2_with fail
    go_ret
    exact ⟨ret_int HR.out, (below_same w).drew⟩
set_option maxHeartbeats 1000000 in
theorem rGet_arg (b : Addr) (width : Int) (w : World) (hw : width < 0 ∨ 16 < width) :
    Calls Tryz.prog 167 #[.pointer (some b), .int .i64 width] w fun en w' => en = .returned (.tuple #[.int .i64 0, .int .i64 2]) ∧ w = w' := by
  have Hw := Lib.hid (fun W => isWidth_is width W (b := false) (by simp; omega))
  clear hw
  go_enter Tryz.func167, Tryz.ntmps167
  go_wp2_with fail
  refine (Hw.out _).mono ?_
  rintro e w1 ⟨rfl, rfl⟩
  go_wp2_with fail
  go_ret2
  exact ⟨rfl, rfl⟩
set_option maxHeartbeats 1000000 in
theorem rGet_short (b k next : Nat) (L : List Nat) (s : ByteArray) (w : World) (hk : k ≤ 16) (hC : RdCell w b s next L) (hL : L.length < 8) (hn : next ≤ s.size) (_hs : s.size ≤ 100000) (hsh : L.length + 8 * (s.size - next) < k) :
    Calls Tryz.prog 167 #[.pointer (some ⟨b, 0, none⟩), .int .i64 (k : Int)] w fun en w' => en = .returned (.tuple #[.int .i64 0, .int .i64 5]) ∧ w' = w.drew := by
  have Hw := Lib.hid (fun W => isWidth_is (k : Int) W (b := true) (by simp; omega))
  have c1 := hC.count
  have c2 := hC.text
  have c3 := hC.next
  have hz : (L.length : Int) + 8 * ((s.size : Int) - (next : Int)) < (k : Int) := by omega
  clear hC hsh
  go_enter Tryz.func167, Tryz.ntmps167
  go_wp2_with fail
  refine (Hw.out _).mono ?_
  rintro e w1 ⟨rfl, rfl⟩
  go_wp2_with fail
  go_region
  all_goals
    go_wp2_with fail
    go_ret2
    exact ⟨rfl, rfl⟩
theorem come8_is (b : Nat) (L : List Nat) (n : Nat) (w : World) (h2 : ∀ b ∈ L, b < 2) (hl : L.length ≤ 15) (hn : n < 256) (h0 : w.cell? ⟨b, 0, none⟩ = some (.int .i64 (numB L : Int))) (h1 : w.cell? ⟨b, 1, none⟩ = some (.int .i64 (L.length : Int)))
   (hf : w.frozen? ⟨b, 0, none⟩ = false) (hf1 : w.frozen? ⟨b, 1, none⟩ = false) :
    Calls Tryz.prog 189 #[.pointer (some ⟨b, 0, none⟩), .int .i64 (n : Int), .int .i64 8] w fun e w' => e = .returned (.tuple #[]) ∧ w' = twoSet w b (numB (L ++ bitsN 8 n)) ((L ++ bitsN 8 n).length : Nat) :=
  come_is b L n 8 w h2 hl hn (by decide) h0 h1 hf hf1
set_option maxHeartbeats 2000000 in
theorem rGet_ok (b k pos next : Nat) (L : List Nat) (s : ByteArray) (w : World) (hk : k ≤ 16) (hH : HeldR s.data.toList pos next L) (hC : RdCell w b s next L) (hL : L.length < 8) (hs : s.size ≤ 100000) (hen : pos + k ≤ 8 * s.size) :
    Calls Tryz.prog 167 #[.pointer (some ⟨b, 0, none⟩), .int .i64 (k : Int)] w fun en w' => en = .returned (.tuple #[.int .i64 (numB (((bitsOf s.data.toList).drop pos).take k) : Int), .int .i64 0]) ∧ ∃ F', ReaderAt w' b s (pos + k) F' ∧ Touches [b] F' w w' := by
  have Hw := Lib.hid (fun W => isWidth_is (k : Int) W (b := true) (by simp; omega))
  have c1 := hC.count
  have c2 := hC.text
  have c3 := hC.next
  have hn := hH.2.2
  have h8 := hH.2.1
  rw [← size_data] at hn
  have hz : ¬ (L.length : Int) + 8 * ((s.size : Int) - (next : Int)) < (k : Int) := by omega
  have HH := Lib.hid hH
  have HC : Hid (RdCell w.drew b s next L) := Lib.hid hC
  clear hH hC h8
  go_enter Tryz.func167, Tryz.ntmps167
  go_wp2_with fail
  refine (Hw.out _).mono ?_
  rintro e w1 ⟨rfl, rfl⟩
  go_wp2_with fail
  go_region
  all_goals
    go_wp2_with fail
    clear c1 c2 c3
    go_loopg [] k (fun g wx => ∃ (m : Nat) (M : List Nat), k ≤ M.length + g ∧ M.length < k + 8 ∧ m ≤ s.size ∧ Aside (HeldR s.data.toList pos m M ∧ RdCell wx b s m M ∧ Touches [b] [b] w wx))
    case atStart => exact ⟨next, L, by omega, by omega, hn, HH.out, HC.out, (Touches.refl _ _).drew⟩
    case round =>
      obtain ⟨m, M, hg, hM, hm, HI⟩ := hrel
      have c1 := HI.out.2.1.count
      by_cases hlt : M.length < k
      · have hmm : m < s.size := by have := HI.out.1.2.1; omega
        have hmz : (m : Int) < (s.size : Int) := by omega
        have hc := s[m].toNat_lt
        have hwc : IntKind.i64.wrap (s[m].toNat : Int) = (s[m].toNat : Int) := by rw [IntKind.wrap_i64]; omega
        have c2 := HI.out.2.1.text
        have c3 := HI.out.2.1.next
        have Hl := Lib.hid (come8_is b M s[m].toNat wr.drew HI.out.1.two (by omega) hc HI.out.2.1.held HI.out.2.1.count (HI.out.2.1.free 0) (HI.out.2.1.free 1))
        have HC2 : Hid (RdCell (twoSet wr.drew b (numB (M ++ bitsN 8 s[m].toNat)) ((M ++ bitsN 8 s[m].toNat).length : Nat)) b s m (M ++ bitsN 8 s[m].toNat)) := Lib.hid (RdCell.two (w := wr.drew) HI.out.2.1 _)
        have HH2 := Lib.hid (HI.out.1.more (c := s[m]) (Lib.data_getElem? s _ hmm))
        have HT2 := Lib.hid (HI.out.2.2.drew.two (b := b) (by simp) (numB (M ++ bitsN 8 s[m].toNat)) ((M ++ bitsN 8 s[m].toNat).length : Nat))
        have hlen : (M ++ bitsN 8 s[m].toNat).length = M.length + 8 := by rw [List.length_append, bitsN_length]
        obtain ⟨W2, hW2⟩ : ∃ W2, twoSet wr.drew b (numB (M ++ bitsN 8 s[m].toNat)) ((M ++ bitsN 8 s[m].toNat).length : Nat) = W2 := ⟨_, rfl⟩
        rw [hW2] at Hl HC2 HT2
        obtain ⟨N, hN⟩ : ∃ N, M ++ bitsN 8 s[m].toNat = N := ⟨_, rfl⟩
        rw [hN] at HC2 HH2 hlen
        have d3 := HC2.out.next
        have f3 := HC2.out.free 3
        clear hW2 hN
        go_wp2_with fail
        go_region_with (first | (go_at_call 189; refine Hl.out.mono ?_; rintro e w1 ⟨rfl, rfl⟩))
        all_goals
          have HC3 := Lib.hid (HC2.out.put_int (n' := m + 1) (z := (m : Int) + 1) (by omega))
          have HT3 := Lib.hid (HT2.out.setCell (a := ⟨b, 3, none⟩) (by simp) (.int .i64 ((m : Int) + 1)))
          go_wp2_with fail
          go_roundg (k - N.length)
          case measure => omega
          case rel => exact ⟨m + 1, N, by omega, by omega, by omega, HH2.out, HC3.out, HT3.out⟩
      · have hge : ¬ (M.length : Int) < (k : Int) := by omega
        have Hl := Lib.hid (leave_is b M k wr HI.out.1.two (by omega) hk (by omega) HI.out.2.1.held HI.out.2.1.count (HI.out.2.1.free 0) (HI.out.2.1.free 1))
        have HC2 := Lib.hid (HI.out.2.1.two (M.drop k))
        have HH2 := Lib.hid (HI.out.1.less (v := k) (by omega))
        have HT2 := Lib.hid (HI.out.2.2.two (b := b) (by simp) (numB (M.drop k)) ((M.drop k).length : Nat))
        have hd : (M.drop k).length < 8 := by rw [List.length_drop]; omega
        have ht := HI.out.1.take (v := k) (by omega)
        rw [ht] at Hl
        obtain ⟨W2, hW2⟩ : ∃ W2, twoSet wr b (numB (M.drop k)) ((M.drop k).length : Nat) = W2 := ⟨_, rfl⟩
        rw [hW2] at Hl HC2 HT2
        clear ht hW2
        go_wp2_with fail
        refine Hl.out.mono ?_
        rintro e w1 ⟨rfl, rfl⟩
        go_wp2_with fail
        go_ret2
        exact ⟨rfl, [b], ⟨m, _, rfl, hd, HH2.out, HC2.out⟩, HT2.out⟩
theorem rGet_is (b : Nat) (s : ByteArray) (pos : Nat) (F : List Nat) (width : Int) (w : World) (h : ReaderAt w b s pos F) (_hp : pos ≤ 8 * s.size) (hs : s.size ≤ 100000) (_h0 : -9223372036854775808 ≤ width) (_h1 : width ≤ 9223372036854775807)
    {n e : Int} {tq : Nat} (hr : getB s.data.toList pos width = (n, tq, e)) :
    Calls Tryz.prog 167 #[.pointer (some ⟨b, 0, none⟩), .int .i64 width] w fun en w' => en = .returned (.tuple #[.int .i64 n, .int .i64 e]) ∧ ∃ F', ReaderAt w' b s tq F' ∧ Touches F F' w w' := by
  by_cases hw : width < 0 ∨ 16 < width
  · rw [getB_arg hw] at hr
    obtain ⟨rfl, hr2⟩ := Prod.mk.inj hr
    obtain ⟨rfl, rfl⟩ := Prod.mk.inj hr2
    refine (rGet_arg ⟨b, 0, none⟩ width w hw).mono ?_
    rintro e w' ⟨rfl, rfl⟩
    exact ⟨rfl, F, h, Touches.refl _ _⟩
  · obtain ⟨k, rfl⟩ := Int.eq_ofNat_of_zero_le (show 0 ≤ width by omega)
    have hk : k ≤ 16 := by omega
    obtain ⟨next, L, rfl, hL, hH, hC⟩ := h
    have h8 := hH.2.1
    have hn := hH.2.2
    have hsz := size_data s
    by_cases hen : pos + k ≤ 8 * s.size
    · have hr2 := (getB_ok (l := s.data.toList) (pos := pos) hk (by rw [← hsz]; exact hen)).symm.trans hr
      obtain ⟨rfl, hr3⟩ := Prod.mk.inj hr2
      obtain ⟨rfl, rfl⟩ := Prod.mk.inj hr3
      exact rGet_ok b k pos next L s w hk hH hC hL hs hen
    · have hr2 := (getB_short (l := s.data.toList) (pos := pos) hk (by rw [← hsz]; omega)).symm.trans hr
      obtain ⟨rfl, hr3⟩ := Prod.mk.inj hr2
      obtain ⟨rfl, rfl⟩ := Prod.mk.inj hr3
      rw [← hsz] at hn
      refine (rGet_short b k next L s w hk hC hL hn hs (by omega)).mono ?_
      rintro e w' ⟨rfl, rfl⟩
      exact ⟨rfl, [b], ⟨next, L, rfl, hL, hH, hC⟩, (Touches.refl _ _).drew⟩
theorem ReaderAt.later {w w' : World} {b : Nat} {s : ByteArray} {pos : Nat} {F : List Nat} (h : ReaderAt w b s pos F) (hb : Below w.heap.size w w') : ReaderAt w' b s pos F := h.move hb.size fun k hk => hb.block k (h.lt k hk)
end
end Go.Proofs.YtnelbahohkjcnaaGreatDoor
/-
  The contracts of the document's Align and Text of rows of bits.
-/
namespace Go.Proofs.YtnelbahohkjcnaaGreatDoor
section
open Go.RowKit
end
end Go.Proofs.YtnelbahohkjcnaaGreatDoor
/-
  The contract of the document's Put of rows of bits.
-/
namespace Go.Proofs.YtnelbahohkjcnaaGreatDoor
section
open Go.RowKit
end
end Go.Proofs.YtnelbahohkjcnaaGreatDoor
/-
  The contracts of bitrow's Reader: Bytes, Align.
-/
namespace Go.Proofs.YtnelbahohkjcnaaGreatDoor
section
open Go.RowKit
theorem extract_is (s : ByteArray) (a n : Nat) (_h : a + n ≤ s.size) : s.extract a (a + n) = bytes ((s.data.toList.drop a).take n) := by
  apply bytes_eq
  rw [ByteArray.data_extract, Array.toList_extract]
  simp
set_option maxHeartbeats 1000000 in
theorem rAlign_is (b : Nat) (s : ByteArray) (pos : Nat) (F : List Nat) (w : World) (h : ReaderAt w b s pos F) (_hp : pos ≤ 8 * s.size) (_hs : s.size ≤ 100000) :
    Calls Tryz.prog 191 #[.pointer (some ⟨b, 0, none⟩)] w fun en w' => en = .returned (.tuple #[]) ∧ ∃ F', ReaderAt w' b s (wholeN pos) F' ∧ Touches F F' w w' := by
  obtain ⟨next, L, rfl, hL, hH, hC⟩ := h
  have c1 := hC.count
  have Hl := Lib.hid (leave_is b L L.length w.drew hH.two (by omega) (by omega) (Nat.le_refl _) hC.held hC.count (hC.free 0) (hC.free 1))
  have HC : Hid (RdCell (twoSet w.drew b (numB (L.drop L.length)) ((L.drop L.length).length : Nat)) b s next (L.drop L.length)) := Lib.hid (RdCell.two (w := w.drew) hC _)
  have HH := Lib.hid (hH.less (Nat.le_refl _))
  have hw : pos + L.length = wholeN pos := by have := hH.2.1; unfold wholeN; omega
  rw [hw] at HH
  have HT := Lib.hid ((Touches.refl [b] w).drew.two (b := b) (by simp) (numB (L.drop L.length)) ((L.drop L.length).length : Nat))
  have hd : (L.drop L.length).length < 8 := by rw [List.length_drop]; omega
  obtain ⟨W2, hW2⟩ : ∃ W2, twoSet w.drew b (numB (L.drop L.length)) ((L.drop L.length).length : Nat) = W2 := ⟨_, rfl⟩
  rw [hW2] at Hl HC HT
  clear hH hC hw hW2
  go_enter Tryz.func191, Tryz.ntmps191
  go_wp2_with fail
  go_region_with (first | (go_at_call 190; refine Hl.out.mono ?_; rintro e w1 ⟨rfl, rfl⟩))
  all_goals
    go_wp2_with fail
    go_end0
    exact ⟨rfl, [b], ⟨next, _, rfl, hd, HH.out, HC.out⟩, HT.out⟩
theorem clone_is (s : ByteArray) (w : World) (hs : s.size ≤ 100000) : Calls Tryz.prog 35 #[.string s] w fun e w' => e = .returned (.string s) ∧ Below w.heap.size w w' := by
  have H := Lib.hid (fun W => Any.stringslite_Clone Tryz.laysM316 s W (by omega))
  go_enter Tryz.func35, Tryz.ntmps35
  go_wp2_with fail
  refine (H.out _).mono ?_
  rintro e w1 ⟨rfl, hb⟩
  have Hb := Lib.hid hb
  clear hb
  go_wp2_with fail
  go_ret
  exact ⟨rfl, Hb.out⟩
set_option maxHeartbeats 2000000 in
theorem rBytes_ok (b n pos : Nat) (s : ByteArray) (F : List Nat) (w : World) (h : ReaderAt w b s pos F) (hp : pos ≤ 8 * s.size) (hs : s.size ≤ 100000) (hen : wholeN pos / 8 + n ≤ s.size) :
    Calls Tryz.prog 192 #[.pointer (some ⟨b, 0, none⟩), .int .i64 (n : Int)] w fun en w' => en = .returned (.tuple #[.string (bytes ((s.data.toList.drop (wholeN pos / 8)).take n)), .int .i64 0]) ∧ ∃ F', ReaderAt w' b s (8 * (wholeN pos / 8 + n)) F' ∧ Touches F F' w w' := by
  have Ha := Lib.hid (rAlign_is b s pos F w.drew h hp hs)
  obtain ⟨next, L, rfl, hL, hH, hC⟩ := h
  have c2 := hC.text
  have c3 := hC.next
  have h8 := hH.2.1
  have hn := hH.2.2
  rw [← size_data] at hn
  have hnx : wholeN pos / 8 = next := by unfold wholeN; omega
  rw [hnx] at hen ⊢
  have hz : ¬ (s.size : Int) - (next : Int) < (n : Int) := by omega
  have Hnx := Lib.hid hnx
  clear hC hH h8 hnx
  go_enter Tryz.func192, Tryz.ntmps192
  go_wp2_with fail
  go_region
  all_goals
    go_wp2_with fail
    refine Ha.out.mono ?_
    rintro e w1 ⟨rfl, F', ⟨next', L', hF', hL', hH', hC'⟩, ht⟩
    subst hF'
    have hn8 : next' = next ∧ L' = [] := by
      have h1 := hH'.2.1
      have h2 := Hnx.out
      have h3 : L'.length = 0 := by unfold wholeN at h1 h2; omega
      refine ⟨by unfold wholeN at h1 h2; omega, List.eq_nil_of_length_eq_zero h3⟩
    obtain ⟨rfl, rfl⟩ := hn8
    have HC' := Lib.hid hC'
    have c2' := hC'.text
    have c3' := hC'.next
    have f3' := hC'.free 3
    have HT := Lib.hid ht
    have HC2 := Lib.hid (hC'.put_int (n' := next' + n) (z := (next' : Int) + (n : Int)) (by omega))
    have HT2 : Hid (Touches [b] [b] w (w1.setCell ⟨b, 3, none⟩ (.int .i64 ((next' : Int) + (n : Int)))).drew) := Lib.hid (Touches.setCell (w := w) ht (a := ⟨b, 3, none⟩) (by simp) _).drew
    have hx := extract_is s next' n hen
    obtain ⟨x, hxx⟩ : ∃ x, s.extract next' (next' + n) = x := ⟨_, rfl⟩
    have hxs : x.size ≤ 100000 := by
      rw [← hxx, hx, bytes_size, List.length_take]; omega
    have Hc := Lib.hid (fun W => clone_is x W hxs)
    rw [hxx] at hx
    have Hx := Lib.hid hx
    clear hx
    clear hC' hH' ht c2 c3
    go_wp2_with fail
    go_region_with (first | (go_at_call 35; refine (Hc.out _).mono ?_; rintro e w2 ⟨rfl, hb⟩))
    all_goals
      have Hb := Lib.hid hb
      clear hb
      go_wp2_with fail
      go_ret2
      refine ⟨by rw [← Hx.out]; rfl, [b], ?_, HT2.out.trans (.of_below Hb.out)⟩
      refine ReaderAt.later' ⟨next' + n, [], rfl, by decide, ?_, HC2.out⟩ Hb.out
      refine ⟨rfl, ?_, ?_⟩
      · simp
      · rw [← size_data]; exact hen
set_option maxHeartbeats 1000000 in
theorem rBytes_short (b n next : Nat) (L : List Nat) (s : ByteArray) (w : World) (hC : RdCell w b s next L) (hn : next ≤ s.size) (_hs : s.size ≤ 100000) (hsh : s.size - next < n) (_hn : n ≤ 9223372036854775807) :
    Calls Tryz.prog 192 #[.pointer (some ⟨b, 0, none⟩), .int .i64 (n : Int)] w fun en w' => en = .returned (.tuple #[.string ⟨#[]⟩, .int .i64 5]) ∧ w' = w.drew := by
  have c2 := hC.text
  have c3 := hC.next
  have hz : (s.size : Int) - (next : Int) < (n : Int) := by omega
  clear hC hsh
  go_enter Tryz.func192, Tryz.ntmps192
  go_wp2_with fail
  go_region
  all_goals
    go_wp2_with fail
    go_ret2
    exact ⟨rfl, rfl⟩
end
end Go.Proofs.YtnelbahohkjcnaaGreatDoor
