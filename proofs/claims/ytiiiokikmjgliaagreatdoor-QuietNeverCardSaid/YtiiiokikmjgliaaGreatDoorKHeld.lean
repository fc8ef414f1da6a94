/-
  BitHold, BitTouch, BitRef, BitReader, BitText, BitRef2, BitBytes: texts merged.
-/
import Derived.Test.YtiiiokikmjgliaaGreatDoorKPlain
import Derived.Test.YtiiiokikmjgliaaGreatDoorKRows
import Derived.Deep.RegionWith
import Derived.BigQuiet
import Derived.Deep.QuietTactic
import Derived.Deep.RegionLaw
import Derived.Test.YtiiiokikmjgliaaGreatDoorRows
import Derived.WalkKit
import Derived.WalkSpells
import Derived.WalkLawsBesides
import Derived.WalkSmall
import Derived.Lib.Hide
import Derived.Deep.LoopGhost
import Derived.Deep.RegionHeld3
import Derived.Test.YtiiiokikmjgliaaGreatDoorShelf
/-
  The contracts of bitrow's bits that stand between: come, leave, isWidth.
-/
namespace Go.Proofs.YtiiiokikmjgliaaGreatDoor
section
open Go.RowKit
theorem i64_nat (n : Nat) (h : n < 9223372036854775808) : wrap64 (n : Int) = (n : Int) := by unfold wrap64; omega
theorem i64_or_nat (x c n : Nat) (hx : x < 2 ^ c) (hb : x + 2 ^ c * n < 9223372036854775808) : bits .or .i64 (x : Int) ((2 ^ c * n : Nat) : Int) = ((x + 2 ^ c * n : Nat) : Int) := by
  have h1 : x < 18446744073709551616 := by omega
  have h2 : 2 ^ c * n < 18446744073709551616 := by omega
  show IntKind.i64.wrap ((BitVec.ofInt 64 ((x : Nat) : Int) ||| BitVec.ofInt 64 ((2 ^ c * n : Nat) : Int)).toNat : Int) = _
  have e : ∀ m : Nat, m < 18446744073709551616 → (BitVec.ofInt 64 (m : Int)).toNat = m := fun m hm => by
    rw [BitVec.toNat_ofInt, show (m : Int) % ((2 ^ 64 : Nat) : Int) = (m : Int) by omega, Int.toNat_natCast]
  rw [BitVec.toNat_or, e _ h1, e _ h2, Nat.or_comm, ← Nat.two_pow_add_eq_or_of_lt hx n, Nat.add_comm, IntKind.wrap_i64]
  omega
theorem i64_and_low (x k : Nat) (hx : x < 9223372036854775808) (hk : k ≤ 30) : bits .and .i64 (x : Int) ((2 ^ k : Nat) - 1 : Int) = ((x % 2 ^ k : Nat) : Int) := by
  have hp : 0 < 2 ^ k := Nat.pow_pos (by omega)
  have hp2 : 2 ^ k ≤ 2 ^ 30 := Nat.pow_le_pow_right (by omega) hk
  have e : ∀ m : Nat, m < 18446744073709551616 → (BitVec.ofInt 64 (m : Int)).toNat = m := fun m hm => by
    rw [BitVec.toNat_ofInt, show (m : Int) % ((2 ^ 64 : Nat) : Int) = (m : Int) by omega, Int.toNat_natCast]
  rw [show (((2 ^ k : Nat) : Int) - 1) = ((2 ^ k - 1 : Nat) : Int) by omega]
  show IntKind.i64.wrap ((BitVec.ofInt 64 ((x : Nat) : Int) &&& BitVec.ofInt 64 ((2 ^ k - 1 : Nat) : Int)).toNat : Int) = _
  rw [BitVec.toNat_and, e _ (by omega), e _ (by omega), Nat.and_two_pow_sub_one_eq_mod, IntKind.wrap_i64]
  have := Nat.mod_le x (2 ^ k)
  omega
theorem pow_two_int (k : Nat) : (2 : Int) ^ k = ((2 ^ k : Nat) : Int) := by simp
def twoSet (w : World) (b : Nat) (x y : Int) : World := ((w.setCell ⟨b, 0, none⟩ (.int .i64 x)).setCell ⟨b, 1, none⟩ (.int .i64 y)).drew
set_option maxHeartbeats 1000000 in
theorem come_is (b : Nat) (L : List Nat) (n k : Nat) (w : World) (h2 : ∀ b ∈ L, b < 2) (hl : L.length ≤ 15) (hn : n < 2 ^ k) (hk : k ≤ 16) (h0 : w.cell? ⟨b, 0, none⟩ = some (.int .i64 (numB L : Int))) (h1 : w.cell? ⟨b, 1, none⟩ = some (.int .i64 (L.length : Int)))
   (hf : w.frozen? ⟨b, 0, none⟩ = false) (hf1 : w.frozen? ⟨b, 1, none⟩ = false) :
    Calls Tryz.prog 162 #[.pointer (some ⟨b, 0, none⟩), .int .i64 (n : Int), .int .i64 (k : Int)] w fun e w' => e = .returned (.tuple #[]) ∧ w' = twoSet w b (numB (L ++ bitsN k n)) ((L ++ bitsN k n).length : Nat) := by
  have hx := numB_lt L h2
  have hor := i64_or_nat (numB L) L.length n hx (by
    have e1 : (2 : Nat) ^ L.length ≤ 2 ^ 15 := Nat.pow_le_pow_right (by omega) hl
    have e2 : (2 : Nat) ^ k ≤ 2 ^ 16 := Nat.pow_le_pow_right (by omega) hk
    have e3 : 2 ^ L.length * n ≤ 2 ^ 15 * 2 ^ 16 := Nat.mul_le_mul e1 (by omega)
    omega)
  have hsh : wrap64 ((n : Int) * 2 ^ L.length) = ((2 ^ L.length * n : Nat) : Int) := by
    have e1 : (2 : Nat) ^ L.length ≤ 2 ^ 15 := Nat.pow_le_pow_right (by omega) hl
    have e2 : (2 : Nat) ^ k ≤ 2 ^ 16 := Nat.pow_le_pow_right (by omega) hk
    have e3 : 2 ^ L.length * n ≤ 2 ^ 15 * 2 ^ 16 := Nat.mul_le_mul e1 (by omega)
    rw [pow_two_int, ← Int.natCast_mul, Nat.mul_comm n, i64_nat _ (by omega)]
  have hnum : numB L + 2 ^ L.length * n = numB (L ++ bitsN k n) := by rw [numB_append, numB_bitsN k n hn]
  rw [hnum] at hor
  have hlen : (L ++ bitsN k n).length = L.length + k := by rw [List.length_append, bitsN_length]
  rw [hlen]
  obtain ⟨z, hz⟩ : ∃ z, numB (L ++ bitsN k n) = z := ⟨_, rfl⟩
  obtain ⟨x, hx2⟩ : ∃ x, numB L = x := ⟨_, rfl⟩
  obtain ⟨c, hc⟩ : ∃ c, L.length = c := ⟨_, rfl⟩
  obtain ⟨y, hy⟩ : ∃ y : Nat, 2 ^ c * n = y := ⟨_, rfl⟩
  rw [hz] at hor ⊢
  rw [hx2] at hor h0
  rw [hc] at hor h1 hsh hl ⊢
  rw [hy] at hor hsh
  have Hor := Lib.hid hor
  have Hsh := Lib.hid hsh
  clear hor hsh hnum hlen hz hx2 hc hy hx h2 hn
  go_enter Tryz.func162, Tryz.ntmps162
  go_wp2_with fail
  go_region
  all_goals
    go_wp2_with fail
    rw [Hsh.out, Hor.out]
    go_end0
    exact ⟨rfl, rfl⟩
set_option maxHeartbeats 1000000 in
theorem leave_is (b : Nat) (L : List Nat) (k : Nat) (w : World) (h2 : ∀ b ∈ L, b < 2) (hl : L.length ≤ 31) (hk : k ≤ 16) (hkl : k ≤ L.length) (h0 : w.cell? ⟨b, 0, none⟩ = some (.int .i64 (numB L : Int))) (h1 : w.cell? ⟨b, 1, none⟩ = some (.int .i64 (L.length : Int)))
   (hf : w.frozen? ⟨b, 0, none⟩ = false) (hf1 : w.frozen? ⟨b, 1, none⟩ = false) :
    Calls Tryz.prog 163 #[.pointer (some ⟨b, 0, none⟩), .int .i64 (k : Int)] w fun e w' => e = .returned (.int .i64 (numB (L.take k) : Int)) ∧ w' = twoSet w b (numB (L.drop k)) ((L.drop k).length : Nat) := by
  have hx := numB_lt L h2
  have hx3 : (2 : Nat) ^ L.length ≤ 2 ^ 31 := Nat.pow_le_pow_right (by omega) hl
  obtain ⟨ht, hd⟩ := numB_parts k L h2 hkl
  have hand := i64_and_low (numB L) k (by omega) (by omega)
  rw [← ht] at hand
  rw [List.length_drop]
  obtain ⟨t, htt⟩ : ∃ t, numB (L.take k) = t := ⟨_, rfl⟩
  obtain ⟨d, hdd⟩ : ∃ d, numB (L.drop k) = d := ⟨_, rfl⟩
  obtain ⟨x, hx2⟩ : ∃ x, numB L = x := ⟨_, rfl⟩
  obtain ⟨c, hc⟩ : ∃ c, L.length = c := ⟨_, rfl⟩
  rw [htt] at hand ⊢
  rw [hdd] at hd ⊢
  rw [hx2] at hand hd h0
  rw [hc] at h1 hkl hl ⊢
  have hp2 : 2 ^ k ≤ 65536 := by
    have : (2 : Nat) ^ k ≤ 2 ^ 16 := Nat.pow_le_pow_right (by omega) hk
    omega
  have hck : ((c - k : Nat) : Int) = (c : Int) - (k : Int) := by omega
  rw [hck]
  have hdz : (x : Int) / ((2 ^ k : Nat) : Int) = (d : Int) := by rw [hd]; rfl
  have hpk := pow_two_int k
  obtain ⟨p, hp⟩ : ∃ p, 2 ^ k = p := ⟨_, rfl⟩
  have hp0 : 0 < p := by rw [← hp]; exact Nat.pow_pos (by omega)
  rw [hp] at hpk hp2 hand hdz
  have Hand := Lib.hid hand
  have Hdz := Lib.hid hdz
  clear hand hdz ht hd htt hdd hx2 hc hx hx3 h2 hck hp
  go_enter Tryz.func163, Tryz.ntmps163
  go_wp2_with fail
  go_region
  all_goals
    go_wp2_with fail
    rw [Hand.out, Hdz.out]
    go_ret
    exact ⟨rfl, rfl⟩
theorem isWidth_is (k : Int) (w : World) {b : Bool} (hb : decide (0 ≤ k ∧ k ≤ 16) = b) :
    Calls Tryz.prog 161 #[.int .i64 k] w fun e w' => e = .returned (.bool b) ∧ w = w' := by
  subst hb
  by_cases h1 : 0 ≤ k
  · by_cases h2 : k ≤ 16
    · go_enter Tryz.func161, Tryz.ntmps161
      go_wp2_with fail
      go_ret
      exact ⟨by simp [h1, h2], rfl⟩
    · go_enter Tryz.func161, Tryz.ntmps161
      go_wp2_with fail
      go_ret
      exact ⟨by simp [h2], rfl⟩
  · go_enter Tryz.func161, Tryz.ntmps161
    go_wp2_with fail
    go_ret
    exact ⟨by simp; omega, rfl⟩
end
end Go.Proofs.YtiiiokikmjgliaaGreatDoor
/-
  Bits that stand between, and what they turn of memory.
-/
namespace Go.Proofs.YtiiiokikmjgliaaGreatDoor
section
open Go.RowKit
theorem Touches.two {F F' : List Nat} {w w' : World} (h : Touches F F' w w') {b : Nat} (hb : b ∈ F') (x y : Int) : Touches F F' w (twoSet w' b x y) := ((h.setCell (a := ⟨b, 0, none⟩) hb _).setCell (a := ⟨b, 1, none⟩) hb _).drew
theorem two_block (w : World) (b : Nat) (x y : Int) (k : Nat) (h : k ≠ b) : (twoSet w b x y).heap[k]? = w.heap[k]? :=
  (Below.heap_setCell _ ⟨b, 1, none⟩ _ k h).trans (Below.heap_setCell _ ⟨b, 0, none⟩ _ k h)
theorem two_size (w : World) (b : Nat) (x y : Int) : (twoSet w b x y).heap.size = w.heap.size := by simp [twoSet, World.setCell, World.drew]
end
end Go.Proofs.YtiiiokikmjgliaaGreatDoor
/-
  The contracts of the document's small functions on rows of bits: power, Bit, Get, Whole, Bytes.
-/
namespace Go.Proofs.YtiiiokikmjgliaaGreatDoor
section
open Go.RowKit
set_option maxHeartbeats 1000000 in
theorem rPower_any (v : Nat) (w : World) (h : v ≤ 16) :
    Calls Tryz.prog 130 #[.int .i64 (v : Int)] w fun e w' => e = .returned (.int .i64 ((2 ^ v : Nat) : Int)) ∧ w = w' := by
  go_enter Tryz.func130, Tryz.ntmps130
  go_wp2_with fail
  go_loopg [3, 4] v (fun g s3 s4 wx => ∃ (j z : Nat), j + g = v ∧ s4 = .int .i64 j ∧ s3 = .int .i64 z ∧ z ≤ 65536 ∧ Aside (z = 2 ^ j) ∧ w = wx)
  case atStart => exact ⟨0, 1, by omega, rfl, rfl, by omega, rfl, rfl⟩
  case round =>
    obtain ⟨j, z, hjg, rfl, rfl, hz, HZ, rfl⟩ := hrel
    cases gk with
    | zero =>
      obtain rfl : j = v := by omega
      go_wp2_with fail
      go_ret
      exact ⟨ret_int (by rw [HZ.out]), rfl⟩
    | succ g =>
      have hjz : (j : Int) < (v : Int) := by omega
      have hz2 : Hid (2 * z ≤ 65536) := Lib.hid (by
        have h1 : (2 : Nat) ^ (j + 1) ≤ 2 ^ 16 := Nat.pow_le_pow_right (by omega) (by omega)
        rw [Nat.pow_succ] at h1
        have := HZ.out
        omega)
      go_wp2_with fail
      go_roundg g
      case measure => omega
      case rel => exact ⟨j + 1, 2 * z, by omega, by go_num, by go_num, hz2.out, by show _ = _; rw [HZ.out, Nat.pow_succ]; omega, rfl⟩
end
end Go.Proofs.YtiiiokikmjgliaaGreatDoor
/-
  The contracts of bitrow's Reader: New, Get, At.
-/
namespace Go.Proofs.YtiiiokikmjgliaaGreatDoor
section
open Go.RowKit
def RdCell (w : World) (b : Nat) (s : ByteArray) (next : Nat) (L : List Nat) : Prop := w.heap[b]? = some (.cells #[.int .i64 (numB L : Int), .int .i64 (L.length : Int), .string s, .int .i64 (next : Int)] 165 (0, 0))
theorem RdCell.held {w : World} {b : Nat} {s : ByteArray} {next : Nat} {L : List Nat} (h : RdCell w b s next L) : w.cell? ⟨b, 0, none⟩ = some (.int .i64 (numB L : Int)) := by rw [cell_of_row _ _ _ _ _ _ h]; rfl
theorem RdCell.count {w : World} {b : Nat} {s : ByteArray} {next : Nat} {L : List Nat} (h : RdCell w b s next L) : w.cell? ⟨b, 1, none⟩ = some (.int .i64 (L.length : Int)) := by rw [cell_of_row _ _ _ _ _ _ h]; rfl
theorem RdCell.text {w : World} {b : Nat} {s : ByteArray} {next : Nat} {L : List Nat} (h : RdCell w b s next L) : w.cell? ⟨b, 2, none⟩ = some (.string s) := by rw [cell_of_row _ _ _ _ _ _ h]; rfl
theorem RdCell.next {w : World} {b : Nat} {s : ByteArray} {next : Nat} {L : List Nat} (h : RdCell w b s next L) : w.cell? ⟨b, 3, none⟩ = some (.int .i64 (next : Int)) := by rw [cell_of_row _ _ _ _ _ _ h]; rfl
theorem RdCell.free {w : World} {b : Nat} {s : ByteArray} {next : Nat} {L : List Nat} (h : RdCell w b s next L) (j : Nat) : w.frozen? ⟨b, j, none⟩ = false := frozen_of_row _ _ _ _ _ h
theorem RdCell.lt {w : World} {b : Nat} {s : ByteArray} {next : Nat} {L : List Nat} (h : RdCell w b s next L) : b < w.heap.size := by
  rcases Nat.lt_or_ge b w.heap.size with h' | h'
  · exact h'
  · unfold RdCell at h; rw [Array.getElem?_eq_none h'] at h; cases h
theorem RdCell.two {w : World} {b : Nat} {s : ByteArray} {next : Nat} {L : List Nat} (h : RdCell w b s next L) (L' : List Nat) : RdCell (twoSet w b (numB L') (L'.length : Nat)) b s next L' := by
  have h1 := heap_setCell_same _ _ 0 _ _ (.int .i64 (numB L' : Int)) h
  exact heap_setCell_same _ _ 1 _ _ (.int .i64 (L'.length : Int)) h1
theorem RdCell.put {w : World} {b : Nat} {s : ByteArray} {next : Nat} {L : List Nat} (h : RdCell w b s next L) (n' : Nat) : RdCell (w.setCell ⟨b, 3, none⟩ (.int .i64 (n' : Int))) b s n' L := heap_setCell_same _ _ 3 _ _ (.int .i64 (n' : Int)) h
theorem RdCell.put_int {w : World} {b : Nat} {s : ByteArray} {next : Nat} {L : List Nat} (h : RdCell w b s next L) {n' : Nat} {z : Int} (hz : z = (n' : Int)) : RdCell (w.setCell ⟨b, 3, none⟩ (.int .i64 z)) b s n' L := by
  subst hz; exact h.put n'
def ReaderAt (w : World) (b : Nat) (s : ByteArray) (pos : Nat) (F : List Nat) : Prop := ∃ next L, F = [b] ∧ L.length < 8 ∧ HeldR s.data.toList pos next L ∧ RdCell w b s next L
theorem ReaderAt.lt {w : World} {b : Nat} {s : ByteArray} {pos : Nat} {F : List Nat} (h : ReaderAt w b s pos F) : ∀ k ∈ F, k < w.heap.size := by
  obtain ⟨next, L, rfl, _, _, h⟩ := h
  intro k hk
  obtain rfl : k = b := by simpa using hk
  exact h.lt
theorem ReaderAt.move {w w' : World} {b : Nat} {s : ByteArray} {pos : Nat} {F : List Nat} (h : ReaderAt w b s pos F) (_ : w.heap.size ≤ w'.heap.size) (hk : ∀ k ∈ F, w'.heap[k]? = w.heap[k]?) : ReaderAt w' b s pos F := by
  obtain ⟨next, L, rfl, h1, h2, h⟩ := h
  exact ⟨next, L, rfl, h1, h2, (hk b (by simp)).trans h⟩
theorem ReaderAt.later' {w w' : World} {b : Nat} {s : ByteArray} {pos : Nat} {F : List Nat} (h : ReaderAt w b s pos F) (hb : Below w.drew.heap.size w.drew w') : ReaderAt w' b s pos F := h.move hb.size fun k hk => hb.block k (h.lt k hk)
theorem rNew_is (s : ByteArray) (w : World) (_hs : s.size ≤ 100000) :
    Calls Tryz.prog 123 #[.string s] w fun en w' => ∃ b F, en = .returned (.pointer (some ⟨b, 0, none⟩)) ∧ ReaderAt w' b s 0 F ∧ (∀ k ∈ F, w.heap.size ≤ k) ∧ Below w.heap.size w w' := by
  go_enter Tryz.func123, Tryz.ntmps123
  go_wp2_with fail
  go_ret
  exact ⟨w.heap.size, [w.heap.size], rfl, ⟨0, [], rfl, by decide, ⟨rfl, rfl, Nat.zero_le _⟩, heap_alloc_new w _⟩, by simp, (below_same w).alloc (Nat.le_refl _) _⟩
set_option maxHeartbeats 1000000 in
theorem rAt_is (b : Nat) (s : ByteArray) (pos : Nat) (F : List Nat) (w : World) (h : ReaderAt w b s pos F) (_hp : pos ≤ 8 * s.size) (hs : s.size ≤ 100000) :
    Calls Tryz.prog 125 #[.pointer (some ⟨b, 0, none⟩)] w fun en w' => en = .returned (.int .i64 (pos : Int)) ∧ Below w.heap.size w w' := by
  obtain ⟨next, L, hF, hL, hH, hC⟩ := h
  have c1 := hC.count
  have c3 := hC.next
  have h1 := hH.2.1
  have h2 := hH.2.2
  rw [← size_data] at h2
  have HR : Hid (8 * (next : Int) - (L.length : Int) = (pos : Int)) := Lib.hid (by omega)
  clear hH hC h1 hF
  go_enter Tryz.func125, Tryz.ntmps125
  go_wp2_with fail
  go_region
  all_goals
    go_wp2_with fail
    go_ret
    exact ⟨ret_int HR.out, (below_same w).drew⟩
set_option maxHeartbeats 1000000 in
theorem rGet_arg (b : Addr) (width : Int) (w : World) (hw : width < 0 ∨ 16 < width) :
    Calls Tryz.prog 142 #[.pointer (some b), .int .i64 width] w fun en w' => en = .returned (.tuple #[.int .i64 0, .int .i64 2]) ∧ w = w' := by
  have Hw := Lib.hid (fun W => isWidth_is width W (b := false) (by simp; omega))
  clear hw
  go_enter Tryz.func142, Tryz.ntmps142
  go_wp2_with fail
  refine (Hw.out _).mono ?_
  rintro e w1 ⟨rfl, rfl⟩
  go_wp2_with fail
  go_ret2
  exact ⟨rfl, rfl⟩
set_option maxHeartbeats 1000000 in
theorem rGet_short (b k next : Nat) (L : List Nat) (s : ByteArray) (w : World) (hk : k ≤ 16) (hC : RdCell w b s next L) (hL : L.length < 8) (hn : next ≤ s.size) (_hs : s.size ≤ 100000) (hsh : L.length + 8 * (s.size - next) < k) :
    Calls Tryz.prog 142 #[.pointer (some ⟨b, 0, none⟩), .int .i64 (k : Int)] w fun en w' => en = .returned (.tuple #[.int .i64 0, .int .i64 5]) ∧ w' = w.drew := by
  have Hw := Lib.hid (fun W => isWidth_is (k : Int) W (b := true) (by simp; omega))
  have c1 := hC.count
  have c2 := hC.text
  have c3 := hC.next
  have hz : (L.length : Int) + 8 * ((s.size : Int) - (next : Int)) < (k : Int) := by omega
  clear hC hsh
  go_enter Tryz.func142, Tryz.ntmps142
  go_wp2_with fail
  refine (Hw.out _).mono ?_
  rintro e w1 ⟨rfl, rfl⟩
  go_wp2_with fail
  go_region
  all_goals
    go_wp2_with fail
    go_ret2
    exact ⟨rfl, rfl⟩
theorem come8_is (b : Nat) (L : List Nat) (n : Nat) (w : World) (h2 : ∀ b ∈ L, b < 2) (hl : L.length ≤ 15) (hn : n < 256) (h0 : w.cell? ⟨b, 0, none⟩ = some (.int .i64 (numB L : Int))) (h1 : w.cell? ⟨b, 1, none⟩ = some (.int .i64 (L.length : Int)))
   (hf : w.frozen? ⟨b, 0, none⟩ = false) (hf1 : w.frozen? ⟨b, 1, none⟩ = false) :
    Calls Tryz.prog 162 #[.pointer (some ⟨b, 0, none⟩), .int .i64 (n : Int), .int .i64 8] w fun e w' => e = .returned (.tuple #[]) ∧ w' = twoSet w b (numB (L ++ bitsN 8 n)) ((L ++ bitsN 8 n).length : Nat) :=
  come_is b L n 8 w h2 hl hn (by decide) h0 h1 hf hf1
set_option maxHeartbeats 2000000 in
theorem rGet_ok (b k pos next : Nat) (L : List Nat) (s : ByteArray) (w : World) (hk : k ≤ 16) (hH : HeldR s.data.toList pos next L) (hC : RdCell w b s next L) (hL : L.length < 8) (hs : s.size ≤ 100000) (hen : pos + k ≤ 8 * s.size) :
    Calls Tryz.prog 142 #[.pointer (some ⟨b, 0, none⟩), .int .i64 (k : Int)] w fun en w' => en = .returned (.tuple #[.int .i64 (numB (((bitsOf s.data.toList).drop pos).take k) : Int), .int .i64 0]) ∧ ∃ F', ReaderAt w' b s (pos + k) F' ∧ Touches [b] F' w w' := by
  have Hw := Lib.hid (fun W => isWidth_is (k : Int) W (b := true) (by simp; omega))
  have c1 := hC.count
  have c2 := hC.text
  have c3 := hC.next
  have hn := hH.2.2
  have h8 := hH.2.1
  rw [← size_data] at hn
  have hz : ¬ (L.length : Int) + 8 * ((s.size : Int) - (next : Int)) < (k : Int) := by omega
  have HH := Lib.hid hH
  have HC : Hid (RdCell w.drew b s next L) := Lib.hid hC
  clear hH hC h8
  go_enter Tryz.func142, Tryz.ntmps142
  go_wp2_with fail
  refine (Hw.out _).mono ?_
  rintro e w1 ⟨rfl, rfl⟩
  go_wp2_with fail
  go_region
  all_goals
    go_wp2_with fail
    clear c1 c2 c3
    go_loopg [] k (fun g wx => ∃ (m : Nat) (M : List Nat), k ≤ M.length + g ∧ M.length < k + 8 ∧ m ≤ s.size ∧ Aside (HeldR s.data.toList pos m M ∧ RdCell wx b s m M ∧ Touches [b] [b] w wx))
    case atStart => exact ⟨next, L, by omega, by omega, hn, HH.out, HC.out, (Touches.refl _ _).drew⟩
    case round =>
      obtain ⟨m, M, hg, hM, hm, HI⟩ := hrel
      have c1 := HI.out.2.1.count
      by_cases hlt : M.length < k
      · have hmm : m < s.size := by have := HI.out.1.2.1; omega
        have hmz : (m : Int) < (s.size : Int) := by omega
        have hc := s[m].toNat_lt
        have hwc : IntKind.i64.wrap (s[m].toNat : Int) = (s[m].toNat : Int) := by rw [IntKind.wrap_i64]; omega
        have c2 := HI.out.2.1.text
        have c3 := HI.out.2.1.next
        have Hl := Lib.hid (come8_is b M s[m].toNat wr.drew HI.out.1.two (by omega) hc HI.out.2.1.held HI.out.2.1.count (HI.out.2.1.free 0) (HI.out.2.1.free 1))
        have HC2 : Hid (RdCell (twoSet wr.drew b (numB (M ++ bitsN 8 s[m].toNat)) ((M ++ bitsN 8 s[m].toNat).length : Nat)) b s m (M ++ bitsN 8 s[m].toNat)) := Lib.hid (RdCell.two (w := wr.drew) HI.out.2.1 _)
        have HH2 := Lib.hid (HI.out.1.more (c := s[m]) (Lib.data_getElem? s _ hmm))
        have HT2 := Lib.hid (HI.out.2.2.drew.two (b := b) (by simp) (numB (M ++ bitsN 8 s[m].toNat)) ((M ++ bitsN 8 s[m].toNat).length : Nat))
        have hlen : (M ++ bitsN 8 s[m].toNat).length = M.length + 8 := by rw [List.length_append, bitsN_length]
        obtain ⟨W2, hW2⟩ : ∃ W2, twoSet wr.drew b (numB (M ++ bitsN 8 s[m].toNat)) ((M ++ bitsN 8 s[m].toNat).length : Nat) = W2 := ⟨_, rfl⟩
        rw [hW2] at Hl HC2 HT2
        obtain ⟨N, hN⟩ : ∃ N, M ++ bitsN 8 s[m].toNat = N := ⟨_, rfl⟩
        rw [hN] at HC2 HH2 hlen
        have d3 := HC2.out.next
        have f3 := HC2.out.free 3
        clear hW2 hN
        go_wp2_with fail
        go_region_with (first | (go_at_call 162; refine Hl.out.mono ?_; rintro e w1 ⟨rfl, rfl⟩))
        all_goals
          have HC3 := Lib.hid (HC2.out.put_int (n' := m + 1) (z := (m : Int) + 1) (by omega))
          have HT3 := Lib.hid (HT2.out.setCell (a := ⟨b, 3, none⟩) (by simp) (.int .i64 ((m : Int) + 1)))
          go_wp2_with fail
          go_roundg (k - N.length)
          case measure => omega
          case rel => exact ⟨m + 1, N, by omega, by omega, by omega, HH2.out, HC3.out, HT3.out⟩
      · have hge : ¬ (M.length : Int) < (k : Int) := by omega
        have Hl := Lib.hid (leave_is b M k wr HI.out.1.two (by omega) hk (by omega) HI.out.2.1.held HI.out.2.1.count (HI.out.2.1.free 0) (HI.out.2.1.free 1))
        have HC2 := Lib.hid (HI.out.2.1.two (M.drop k))
        have HH2 := Lib.hid (HI.out.1.less (v := k) (by omega))
        have HT2 := Lib.hid (HI.out.2.2.two (b := b) (by simp) (numB (M.drop k)) ((M.drop k).length : Nat))
        have hd : (M.drop k).length < 8 := by rw [List.length_drop]; omega
        have ht := HI.out.1.take (v := k) (by omega)
        rw [ht] at Hl
        obtain ⟨W2, hW2⟩ : ∃ W2, twoSet wr b (numB (M.drop k)) ((M.drop k).length : Nat) = W2 := ⟨_, rfl⟩
        rw [hW2] at Hl HC2 HT2
        clear ht hW2
        go_wp2_with fail
        refine Hl.out.mono ?_
        rintro e w1 ⟨rfl, rfl⟩
        go_wp2_with fail
        go_ret2
        exact ⟨rfl, [b], ⟨m, _, rfl, hd, HH2.out, HC2.out⟩, HT2.out⟩
theorem rGet_is (b : Nat) (s : ByteArray) (pos : Nat) (F : List Nat) (width : Int) (w : World) (h : ReaderAt w b s pos F) (_hp : pos ≤ 8 * s.size) (hs : s.size ≤ 100000) (_h0 : -9223372036854775808 ≤ width) (_h1 : width ≤ 9223372036854775807)
    {n e : Int} {tq : Nat} (hr : getB s.data.toList pos width = (n, tq, e)) :
    Calls Tryz.prog 142 #[.pointer (some ⟨b, 0, none⟩), .int .i64 width] w fun en w' => en = .returned (.tuple #[.int .i64 n, .int .i64 e]) ∧ ∃ F', ReaderAt w' b s tq F' ∧ Touches F F' w w' := by
  by_cases hw : width < 0 ∨ 16 < width
  · rw [getB_arg hw] at hr
    obtain ⟨rfl, hr2⟩ := Prod.mk.inj hr
    obtain ⟨rfl, rfl⟩ := Prod.mk.inj hr2
    refine (rGet_arg ⟨b, 0, none⟩ width w hw).mono ?_
    rintro e w' ⟨rfl, rfl⟩
    exact ⟨rfl, F, h, Touches.refl _ _⟩
  · obtain ⟨k, rfl⟩ := Int.eq_ofNat_of_zero_le (show 0 ≤ width by omega)
    have hk : k ≤ 16 := by omega
    obtain ⟨next, L, rfl, hL, hH, hC⟩ := h
    have h8 := hH.2.1
    have hn := hH.2.2
    have hsz := size_data s
    by_cases hen : pos + k ≤ 8 * s.size
    · have hr2 := (getB_ok (l := s.data.toList) (pos := pos) hk (by rw [← hsz]; exact hen)).symm.trans hr
      obtain ⟨rfl, hr3⟩ := Prod.mk.inj hr2
      obtain ⟨rfl, rfl⟩ := Prod.mk.inj hr3
      exact rGet_ok b k pos next L s w hk hH hC hL hs hen
    · have hr2 := (getB_short (l := s.data.toList) (pos := pos) hk (by rw [← hsz]; omega)).symm.trans hr
      obtain ⟨rfl, hr3⟩ := Prod.mk.inj hr2
      obtain ⟨rfl, rfl⟩ := Prod.mk.inj hr3
      rw [← hsz] at hn
      refine (rGet_short b k next L s w hk hC hL hn hs (by omega)).mono ?_
      rintro e w' ⟨rfl, rfl⟩
      exact ⟨rfl, [b], ⟨next, L, rfl, hL, hH, hC⟩, (Touches.refl _ _).drew⟩
theorem ReaderAt.later {w w' : World} {b : Nat} {s : ByteArray} {pos : Nat} {F : List Nat} (h : ReaderAt w b s pos F) (hb : Below w.heap.size w w') : ReaderAt w' b s pos F := h.move hb.size fun k hk => hb.block k (h.lt k hk)
end
end Go.Proofs.YtiiiokikmjgliaaGreatDoor
/-
  The contracts of the document's Align and Text of rows of bits.
-/
namespace Go.Proofs.YtiiiokikmjgliaaGreatDoor
section
open Go.RowKit
set_option maxHeartbeats 1000000 in
theorem rAlignB_any (g c : Nat) (row : List Nat) (w : World) (hr : BitsAt w g row) (hl : row.length ≤ 1000000) :
    Calls Tryz.prog 106 #[.slice (some ⟨g, 0, none⟩) row.length c] w (RowNew w (alignB row)) := by
  have Hin := Lib.hid hr
  have Hal := Lib.hid (asZ_length row)
  have hp8 := padN_lt row.length
  clear hr
  go_enter Tryz.func106, Tryz.ntmps106
  go_wp2_with (at_builtin; refine wpList_append64_any rfl (.tmp 4) (.tmp 5) rfl w.heap.size _ [] rfl (Own64.made w 0 #[] (Nat.le_refl _) (by decide) rfl) ⟨g, 0, none⟩ c (asZ row) (by rw [Hal.out]; rfl) (Hin.out.news_alloc _) (by rw [Hal.out]; simp; omega) w ((Below.refl _ w).alloc (Nat.le_refl _) _) (by simp) ?_; intro v2 w2 Ho2 Hb2 _)
  go_loopg [3] (padN row.length) (fun gg s3 wx => ∃ k : Nat, k + gg = padN row.length ∧ Aside (Own64 wx w.heap.size s3 (asZ (row ++ List.replicate k 0))) ∧ Below w.heap.size w wx)
  case atStart => exact ⟨0, by omega, by show Own64 _ _ _ _; simpa using Ho2.out, Hb2.out⟩
  case round =>
    obtain ⟨k, hkg, HO, hb⟩ := hrel
    have Hb := Lib.hid hb
    clear hb
    obtain ⟨g2, cap2, hv⟩ := HO.out.2
    rw [asZ_length, List.length_append, List.length_replicate] at hv
    subst hv
    by_cases hstop : (row.length + k) % 8 = 0
    · obtain rfl := align_stop hstop (by omega)
      have hz : ¬ 0 < ((row.length : Int) + (padN row.length : Int)) % 8 := by omega
      clear hstop hkg
      go_wp2_with fail
      go_ret
      exact Own64.row_new (row := alignB row) HO.out Hb.out
    · have hk1 := align_step hstop (by omega)
      have hz : 0 < ((row.length : Int) + (k : Int)) % 8 := by omega
      have hlen : (asZ (row ++ List.replicate k 0)).length ≤ 2000000 := by rw [asZ_length, List.length_append, List.length_replicate]; omega
      clear hstop
      go_wp2_with (at_builtin; refine wpList_append64 rfl (.tmp 11) (.tmp 12) rfl w.heap.size _ (asZ (row ++ List.replicate k 0)) rfl (HO.out.alloc _) ⟨wr.heap.size, 0, none⟩ 1 [0] rfl (cells_newZ _ _) (by simp) (by simp; omega) w (Hb.out.alloc Hb.out.size _) (by have := Hb.out.size; simp; omega) ?_; intro v3 w3 Ho3 Hb3 _)
      go_roundg (padN row.length - (k + 1))
      case measure => omega
      case rel => exact ⟨k + 1, by omega, by show Own64 _ _ _ _; rw [List.replicate_succ', ← List.append_assoc, asZ_snoc]; exact Ho3.out, Hb3.out⟩
set_option maxRecDepth 100000 in
set_option maxHeartbeats 2000000 in
theorem rTextB_any (g c : Nat) (row : List Nat) (w : World) (hr : BitsAt w g row) (hl : row.length ≤ 1000000) (h2 : ∀ b ∈ row, b < 2) :
    Calls Tryz.prog 86 #[.slice (some ⟨g, 0, none⟩) row.length c] w fun en w' => en = .returned (.string (bytes (textB row))) ∧ Below w.heap.size w w' := by
  have Hin := Lib.hid hr
  have Hal2 := Lib.hid (alignB_two h2)
  have hA := alignB_length row
  have hp8 := padN_lt row.length
  have hw := padN_whole row.length
  have Htxt : Hid (textB row = packB (alignB row)) := Lib.hid rfl
  clear hr h2
  go_enter Tryz.func86, Tryz.ntmps86
  go_wp2_with fail
  refine (rAlignB_any g c row _ Hin.out hl).mono ?_
  rintro e w1 ⟨g', cap', rfl, hbits, hb1, hg'⟩
  have Hb1 := Lib.hid hb1
  have Hbits := Lib.hid hbits
  obtain ⟨A, hAA⟩ : ∃ A, alignB row = A := ⟨_, rfl⟩
  rw [hAA] at Hbits Hal2 Htxt hA
  obtain ⟨N, hN⟩ : ∃ N, A.length = N := ⟨_, rfl⟩
  have hN8 : N % 8 = 0 := by omega
  have hNb : N ≤ 1000008 := by omega
  clear hb1 hbits hA hw hp8
  go_wp2_with fail
  go_loopg [3, 4] N (fun gg s3 s4 wx => ∃ (i : Nat) (l : List UInt8), i + gg = N ∧ s4 = .int .i64 i ∧ i % 8 = 0 ∧ l.length ≤ i ∧ Aside (Own8 wx w1.heap.size s3 l ∧ l ++ packB (A.drop i) = packB A) ∧ Below w1.heap.size w1 wx)
  case atStart => exact ⟨0, [], by omega, rfl, rfl, by simp, ⟨Own8.made w1 0 #[] (Nat.le_refl _) (by decide) rfl, rfl⟩, (Below.refl _ w1).alloc (Nat.le_refl _) _⟩
  case round =>
    obtain ⟨i, l, hig, rfl, hi8, hli, HO, hb2⟩ := hrel
    have Hb2 := Lib.hid hb2
    clear hb2
    cases gk with
    | zero =>
      obtain rfl : i = N := by omega
      have htext := HO.out.1.text
      have hfin : l = textB row := by
        have := HO.out.2
        rw [List.drop_of_length_le (by omega), packB_nil, List.append_nil] at this
        rw [this, Htxt.out]
      subst hfin
      clear hig hN
      go_wp2_with fail
      go_ret
      exact ⟨rfl, Hb1.out.trans (Hb2.out.mono Hb1.out.size)⟩
    | succ gg =>
      have hiz : (i : Int) < (N : Int) := by omega
      have hi7 : i + 8 ≤ N := by omega
      have Hcell : Hid (∀ k b, A[i + k]? = some b → wr.cell? ⟨g', i + k, none⟩ = some (.int .i64 ((b : Nat) : Int))) := Lib.hid fun k b h => by
        obtain ⟨h1, h2⟩ := List.getElem?_eq_some_iff.1 h
        rw [← h2]
        exact (Hb2.out.cell (p := ⟨g', i + k, none⟩) Hbits.out.1).trans (Hbits.out.2 (i + k) h1)
      have HN := Lib.hid hN
      clear hN
      go_wp2_with fail
      go_loopg [5, 6] 8 (fun g5 s5 s6 wx => ∃ z : Nat, g5 ≤ 8 ∧ s6 = .int .i64 ((g5 : Int) - 1) ∧ s5 = .int .i64 z ∧ z < 65536 ∧ Aside (z = numB (((A.drop i).take 8).drop g5)) ∧ wr = wx)
      case atStart => exact ⟨0, Nat.le_refl _, rfl, rfl, by omega, by show 0 = _; rw [List.drop_of_length_le (by rw [List.length_take]; omega)]; rfl, rfl⟩
      case round =>
        obtain ⟨z, hg8, rfl, rfl, hz, HZ, rfl⟩ := hrel
        cases gk with
        | zero =>
          have hl2 : l.length ≤ 2000000 := by omega
          have hzb : z < 256 := by
            have := numB_lt ((A.drop i).take 8) fun b hb => Hal2.out b (List.mem_of_mem_drop (List.mem_of_mem_take hb))
            rw [show ((A.drop i).take 8).length = 8 by rw [List.length_take, List.length_drop, HN.out]; omega] at this
            have h0 := HZ.out
            rw [List.drop_zero] at h0
            omega
          have hbyte := Lib.hid (show (z : Int) = ((UInt8.ofNat z).toNat : Int) by rw [UInt8.toNat_ofNat']; omega)
          have Hstep := Lib.hid (packB_take (A.drop i) (by rw [List.length_drop, HN.out]; omega))
          go_wp2_with (at_builtin; refine wpList_append8 rfl (.tmp 29) (.tmp 32) rfl w1.heap.size _ l rfl (HO.out.1.alloc _) ⟨wr.heap.size, 0, none⟩ 1 [UInt8.ofNat z] rfl (cells_new1 _ _ _ hbyte.out) (by simp) (by simp; omega) w1 (Hb2.out.alloc Hb2.out.size _) (by have := Hb2.out.size; simp; omega) ?_; intro v3 w3 Ho3 Hb3 _)
          go_roundg (gg - 7)
          case measure => omega
          case rel => exact ⟨i + 8, l ++ [UInt8.ofNat z], by omega, by go_num, by omega, by rw [List.length_append]; simp; omega, ⟨Ho3.out, by
            have h1 := HO.out.2
            have h0 := HZ.out
            rw [List.drop_zero] at h0
            rw [Hstep.out, ← h0, List.drop_drop] at h1
            rw [← h1]; simp⟩, Hb3.out⟩
        | succ g5 =>
          have hib : i + g5 < A.length := by rw [HN.out]; omega
          obtain ⟨b, hb⟩ : ∃ b, A[i + g5]? = some b := ⟨_, List.getElem?_eq_getElem hib⟩
          have hb2 : b < 2 := Hal2.out b (List.mem_of_getElem? hb)
          have hcell := Hcell.out g5 b hb
          have Hst := Lib.hid (take_at (v := 8) hb (by omega))
          have Hlt := Lib.hid (part_lt (L := A) (pos := i) (v := 8) (g := g5) Hal2.out (by omega))
          have hgz : 0 ≤ ((g5 + 1 : Nat) : Int) - 1 := by omega
          have hgi : ((i : Int) + (g5 : Int)).toNat = i + g5 := by omega
          have hgl : (i : Int) + (g5 : Int) < (N : Int) := by omega
          clear hib hb
          go_wp2_with fail
          have hnew : numB (((A.drop i).take 8).drop g5) = b + 2 * z := by rw [Hst.out, HZ.out]; rfl
          have Hnew := Lib.hid hnew
          clear hnew
          go_roundg g5
          case measure => omega
          case rel => exact ⟨b + 2 * z, by omega, by go_num, by first | go_num | (congr 1; omega), by rw [← Hnew.out]; exact Hlt.out, Hnew.out.symm, rfl⟩
end
end Go.Proofs.YtiiiokikmjgliaaGreatDoor
/-
  The contract of the document's Put of rows of bits.
-/
namespace Go.Proofs.YtiiiokikmjgliaaGreatDoor
section
open Go.RowKit
set_option maxHeartbeats 1000000 in
theorem rPutB_is (g c : Nat) (row : List Nat) (n width : Int) (w : World) (hr : BitsAt w g row) (hl : row.length ≤ 1000000) (_h0 : -9223372036854775808 ≤ n) (_h1 : n ≤ 9223372036854775807) (_h2 : -9223372036854775808 ≤ width) (_h3 : width ≤ 9223372036854775807)
    {row' : List Nat} {e : Int} (h : putB row n width = (row', e)) :
    Calls Tryz.prog 104 #[.slice (some ⟨g, 0, none⟩) row.length c, .int .i64 n, .int .i64 width] w (RowOut w g row' e) := by
  have Hin := Lib.hid hr
  clear hr
  by_cases hbad : width < 0 ∨ 16 < width
  · have Hr := Lib.hid ((putB_arg hbad).symm.trans h)
    have hcase : width < 0 ∨ (¬ width < 0 ∧ 16 < width) := by omega
    clear hbad h
    rcases hcase with h | ⟨h, h'⟩
    all_goals
      go_enter Tryz.func104, Tryz.ntmps104
      go_wp2_with fail
      go_ret2
      obtain ⟨rfl, rfl⟩ := Prod.mk.inj Hr.out
      exact ⟨g, c, rfl, Hin.out, Below.refl _ _, .inl rfl⟩
  · obtain ⟨v, rfl⟩ := Int.eq_ofNat_of_zero_le (show 0 ≤ width by omega)
    have hv : v ≤ 16 := by omega
    have hv1 : ¬ (v : Int) < 0 := by omega
    have hv2 : ¬ 16 < (v : Int) := by omega
    have Hpow := Lib.hid fun W => rPower_any v W hv
    clear hbad
    by_cases hneg : n < 0
    · have Hr := Lib.hid ((putB_range hv (.inl hneg)).symm.trans h)
      clear h
      go_enter Tryz.func104, Tryz.ntmps104
      go_wp2_with fail
      go_ret2
      obtain ⟨rfl, rfl⟩ := Prod.mk.inj Hr.out
      exact ⟨g, c, rfl, Hin.out, Below.refl _ _, .inl rfl⟩
    · obtain ⟨m, rfl⟩ := Int.eq_ofNat_of_zero_le (show 0 ≤ n by omega)
      have hp : ((2 ^ v : Nat) : Int) = (2 : Int) ^ v := by simp
      obtain ⟨z, hz⟩ : ∃ z, 2 ^ v = z := ⟨_, rfl⟩
      by_cases hbig : (2 : Int) ^ v ≤ (m : Int)
      · have Hr := Lib.hid ((putB_range hv (.inr hbig)).symm.trans h)
        have hzm : (z : Int) ≤ (m : Int) := by rw [← hz, hp]; exact hbig
        rw [hz] at Hpow
        clear h hbig hp hz
        go_enter Tryz.func104, Tryz.ntmps104
        go_wp2_with fail
        refine (Hpow.out _).mono ?_
        rintro e w1 ⟨rfl, rfl⟩
        go_wp2_with fail
        go_ret2
        obtain ⟨rfl, rfl⟩ := Prod.mk.inj Hr.out
        exact ⟨g, c, rfl, Hin.out, Below.refl _ _, .inl rfl⟩
      · have hmz : m < 2 ^ v := by rw [← hp] at hbig; omega
        have Hr := Lib.hid ((putB_ok hv hmz).symm.trans h)
        have hzm : ¬ (z : Int) ≤ (m : Int) := by rw [← hz]; omega
        rw [hz] at Hpow
        have hm16 : m ≤ 65536 := by
          have : (2 : Nat) ^ v ≤ 2 ^ 16 := Nat.pow_le_pow_right (by omega) hv
          omega
        have hal : (asZ row).length = row.length := asZ_length row
        have Hal := Lib.hid hal
        clear h hbig hp hz hmz hal
        go_enter Tryz.func104, Tryz.ntmps104
        go_wp2_with fail
        refine (Hpow.out _).mono ?_
        rintro e w1 ⟨rfl, rfl⟩
        go_wp2_with (at_builtin; refine wpList_append64_any rfl (.tmp 26) (.tmp 27) rfl w.heap.size _ [] rfl (Own64.made w 0 #[] (Nat.le_refl _) (by decide) rfl) ⟨g, 0, none⟩ c (asZ row) (by rw [Hal.out]; rfl) (Hin.out.news_alloc _) (by rw [Hal.out]; simp; omega) w ((Below.refl _ w).alloc (Nat.le_refl _) _) (by simp) ?_; intro v2 w2 Ho2 Hb2 _)
        go_loopg [1, 8, 9] v (fun gg s1 s8 s9 wx => ∃ (j x : Nat), j + gg = v ∧ s9 = .int .i64 j ∧ s1 = .int .i64 x ∧ x ≤ 65536 ∧ Aside (x = m / 2 ^ j ∧ Own64 wx w.heap.size s8 (asZ (row ++ bitsN j m))) ∧ Below w.heap.size w wx)
        case atStart => exact ⟨0, m, by omega, rfl, rfl, hm16, ⟨by simp, by rw [bitsN, List.append_nil]; exact Ho2.out⟩, Hb2.out⟩
        case round =>
          obtain ⟨j, x, hjg, rfl, rfl, hx, HX, hb⟩ := hrel
          have Hb := Lib.hid hb
          clear hb
          cases gk with
          | zero =>
            obtain rfl : j = v := by omega
            go_wp2_with fail
            go_ret2
            obtain ⟨rfl, rfl⟩ := Prod.mk.inj Hr.out
            exact HX.out.2.row_out Hb.out
          | succ gg =>
            have hjz : (j : Int) < (v : Int) := by omega
            have hlen : (asZ (row ++ bitsN j m)).length ≤ 2000000 := by rw [asZ_length, List.length_append, bitsN_length]; omega
            obtain ⟨r, hr2⟩ : ∃ r, x % 2 = r := ⟨_, rfl⟩
            obtain ⟨y, hy2⟩ : ∃ y, x / 2 = y := ⟨_, rfl⟩
            have hb2 : (x : Int) % 2 = (r : Int) := by omega
            have hx2 : (x : Int) / 2 = (y : Int) := by omega
            have hyb : y ≤ 65536 := by omega
            have Hnext : Hid (y = m / 2 ^ (j + 1) ∧ bitsN (j + 1) m = bitsN j m ++ [r]) := Lib.hid (by
              rw [← hy2, ← hr2, HX.out.1]
              exact ⟨by rw [Nat.div_div_eq_div_mul, Nat.pow_succ], bitsN_snoc j m⟩)
            clear hr2 hy2
            go_wp2_with (at_builtin; refine wpList_append64 rfl (.tmp 34) (.tmp 37) rfl w.heap.size _ (asZ (row ++ bitsN j m)) rfl (HX.out.2.alloc _) ⟨wr.heap.size, 0, none⟩ 1 [(r : Int)] rfl (cells_newZ _ _) (by simp) (by simp; omega) w (Hb.out.alloc Hb.out.size _) (by have := Hb.out.size; simp; omega) ?_; intro v3 w3 Ho3 Hb3 _)
            go_roundg gg
            case measure => omega
            case rel => exact ⟨j + 1, y, by omega, by go_num, by go_num, hyb, ⟨Hnext.out.1, by rw [Hnext.out.2, ← List.append_assoc, asZ_snoc]; exact Ho3.out⟩, Hb3.out⟩
end
end Go.Proofs.YtiiiokikmjgliaaGreatDoor
/-
  The contracts of bitrow's Reader: Bytes, Align.
-/
namespace Go.Proofs.YtiiiokikmjgliaaGreatDoor
section
open Go.RowKit
theorem extract_is (s : ByteArray) (a n : Nat) (_h : a + n ≤ s.size) : s.extract a (a + n) = bytes ((s.data.toList.drop a).take n) := by
  apply bytes_eq
  rw [ByteArray.data_extract, Array.toList_extract]
  simp
set_option maxHeartbeats 1000000 in
theorem rAlign_is (b : Nat) (s : ByteArray) (pos : Nat) (F : List Nat) (w : World) (h : ReaderAt w b s pos F) (_hp : pos ≤ 8 * s.size) (_hs : s.size ≤ 100000) :
    Calls Tryz.prog 164 #[.pointer (some ⟨b, 0, none⟩)] w fun en w' => en = .returned (.tuple #[]) ∧ ∃ F', ReaderAt w' b s (wholeN pos) F' ∧ Touches F F' w w' := by
  obtain ⟨next, L, rfl, hL, hH, hC⟩ := h
  have c1 := hC.count
  have Hl := Lib.hid (leave_is b L L.length w.drew hH.two (by omega) (by omega) (Nat.le_refl _) hC.held hC.count (hC.free 0) (hC.free 1))
  have HC : Hid (RdCell (twoSet w.drew b (numB (L.drop L.length)) ((L.drop L.length).length : Nat)) b s next (L.drop L.length)) := Lib.hid (RdCell.two (w := w.drew) hC _)
  have HH := Lib.hid (hH.less (Nat.le_refl _))
  have hw : pos + L.length = wholeN pos := by have := hH.2.1; unfold wholeN; omega
  rw [hw] at HH
  have HT := Lib.hid ((Touches.refl [b] w).drew.two (b := b) (by simp) (numB (L.drop L.length)) ((L.drop L.length).length : Nat))
  have hd : (L.drop L.length).length < 8 := by rw [List.length_drop]; omega
  obtain ⟨W2, hW2⟩ : ∃ W2, twoSet w.drew b (numB (L.drop L.length)) ((L.drop L.length).length : Nat) = W2 := ⟨_, rfl⟩
  rw [hW2] at Hl HC HT
  clear hH hC hw hW2
  go_enter Tryz.func164, Tryz.ntmps164
  go_wp2_with fail
  go_region_with (first | (go_at_call 163; refine Hl.out.mono ?_; rintro e w1 ⟨rfl, rfl⟩))
  all_goals
    go_wp2_with fail
    go_end0
    exact ⟨rfl, [b], ⟨next, _, rfl, hd, HH.out, HC.out⟩, HT.out⟩
theorem clone_is (s : ByteArray) (w : World) (hs : s.size ≤ 100000) : Calls Tryz.prog 24 #[.string s] w fun e w' => e = .returned (.string s) ∧ Below w.heap.size w w' := by
  have H := Lib.hid (fun W => Any.stringslite_Clone Tryz.laysM316 s W (by omega))
  go_enter Tryz.func24, Tryz.ntmps24
  go_wp2_with fail
  refine (H.out _).mono ?_
  rintro e w1 ⟨rfl, hb⟩
  have Hb := Lib.hid hb
  clear hb
  go_wp2_with fail
  go_ret
  exact ⟨rfl, Hb.out⟩
set_option maxHeartbeats 2000000 in
theorem rBytes_ok (b n pos : Nat) (s : ByteArray) (F : List Nat) (w : World) (h : ReaderAt w b s pos F) (hp : pos ≤ 8 * s.size) (hs : s.size ≤ 100000) (hen : wholeN pos / 8 + n ≤ s.size) :
    Calls Tryz.prog 165 #[.pointer (some ⟨b, 0, none⟩), .int .i64 (n : Int)] w fun en w' => en = .returned (.tuple #[.string (bytes ((s.data.toList.drop (wholeN pos / 8)).take n)), .int .i64 0]) ∧ ∃ F', ReaderAt w' b s (8 * (wholeN pos / 8 + n)) F' ∧ Touches F F' w w' := by
  have Ha := Lib.hid (rAlign_is b s pos F w.drew h hp hs)
  obtain ⟨next, L, rfl, hL, hH, hC⟩ := h
  have c2 := hC.text
  have c3 := hC.next
  have h8 := hH.2.1
  have hn := hH.2.2
  rw [← size_data] at hn
  have hnx : wholeN pos / 8 = next := by unfold wholeN; omega
  rw [hnx] at hen ⊢
  have hz : ¬ (s.size : Int) - (next : Int) < (n : Int) := by omega
  have Hnx := Lib.hid hnx
  clear hC hH h8 hnx
  go_enter Tryz.func165, Tryz.ntmps165
  go_wp2_with fail
  go_region
  all_goals
    go_wp2_with fail
    refine Ha.out.mono ?_
    rintro e w1 ⟨rfl, F', ⟨next', L', hF', hL', hH', hC'⟩, ht⟩
    subst hF'
    have hn8 : next' = next ∧ L' = [] := by
      have h1 := hH'.2.1
      have h2 := Hnx.out
      have h3 : L'.length = 0 := by unfold wholeN at h1 h2; omega
      refine ⟨by unfold wholeN at h1 h2; omega, List.eq_nil_of_length_eq_zero h3⟩
    obtain ⟨rfl, rfl⟩ := hn8
    have HC' := Lib.hid hC'
    have c2' := hC'.text
    have c3' := hC'.next
    have f3' := hC'.free 3
    have HT := Lib.hid ht
    have HC2 := Lib.hid (hC'.put_int (n' := next' + n) (z := (next' : Int) + (n : Int)) (by omega))
    have HT2 : Hid (Touches [b] [b] w (w1.setCell ⟨b, 3, none⟩ (.int .i64 ((next' : Int) + (n : Int)))).drew) := Lib.hid (Touches.setCell (w := w) ht (a := ⟨b, 3, none⟩) (by simp) _).drew
    have hx := extract_is s next' n hen
    obtain ⟨x, hxx⟩ : ∃ x, s.extract next' (next' + n) = x := ⟨_, rfl⟩
    have hxs : x.size ≤ 100000 := by
      rw [← hxx, hx, bytes_size, List.length_take]; omega
    have Hc := Lib.hid (fun W => clone_is x W hxs)
    rw [hxx] at hx
    have Hx := Lib.hid hx
    clear hx
    clear hC' hH' ht c2 c3
    go_wp2_with fail
    go_region_with (first | (go_at_call 24; refine (Hc.out _).mono ?_; rintro e w2 ⟨rfl, hb⟩))
    all_goals
      have Hb := Lib.hid hb
      clear hb
      go_wp2_with fail
      go_ret2
      refine ⟨by rw [← Hx.out]; rfl, [b], ?_, HT2.out.trans (.of_below Hb.out)⟩
      refine ReaderAt.later' ⟨next' + n, [], rfl, by decide, ?_, HC2.out⟩ Hb.out
      refine ⟨rfl, ?_, ?_⟩
      · simp
      · rw [← size_data]; exact hen
set_option maxHeartbeats 1000000 in
theorem rBytes_short (b n next : Nat) (L : List Nat) (s : ByteArray) (w : World) (hC : RdCell w b s next L) (hn : next ≤ s.size) (_hs : s.size ≤ 100000) (hsh : s.size - next < n) (_hn : n ≤ 9223372036854775807) :
    Calls Tryz.prog 165 #[.pointer (some ⟨b, 0, none⟩), .int .i64 (n : Int)] w fun en w' => en = .returned (.tuple #[.string ⟨#[]⟩, .int .i64 5]) ∧ w' = w.drew := by
  have c2 := hC.text
  have c3 := hC.next
  have hz : (s.size : Int) - (next : Int) < (n : Int) := by omega
  clear hC hsh
  go_enter Tryz.func165, Tryz.ntmps165
  go_wp2_with fail
  go_region
  all_goals
    go_wp2_with fail
    go_ret2
    exact ⟨rfl, rfl⟩
end
end Go.Proofs.YtiiiokikmjgliaaGreatDoor
