/-
  Bits that stand between numbers and bytes: plain facts, no program in sight.
-/
import Derived.Test.YtahanllbaclokaaBitPlain
import Derived.WalkKit
import Derived.WalkSpells
import Derived.WalkLawsBesides
import Derived.Lib.Hide
import Derived.Laws.BitsAllLaws
import Derived.Laws.BitsLemmas
namespace Go.Proofs.Ytahanllbaclokaa

theorem numB_append : ∀ (L M : List Nat), numB (L ++ M) = numB L + 2 ^ L.length * numB M
  | [], M => by simp [numB]
  | x :: r, M => by
    rw [List.cons_append, numB, numB_append r M, numB, List.length_cons, Nat.pow_succ, Nat.mul_add, ← Nat.mul_assoc, Nat.mul_comm 2 (2 ^ r.length)]; omega
theorem numB_parts (k : Nat) (L : List Nat) (h2 : ∀ b ∈ L, b < 2) (hk : k ≤ L.length) : numB (L.take k) = numB L % 2 ^ k ∧ numB (L.drop k) = numB L / 2 ^ k := by
  have hl : (L.take k).length = k := by rw [List.length_take]; omega
  have h := numB_append (L.take k) (L.drop k)
  rw [List.take_append_drop, hl] at h
  have hlt := numB_lt (L.take k) fun b hb => h2 b (List.mem_of_mem_take hb)
  rw [hl] at hlt
  have hp : 0 < 2 ^ k := Nat.pow_pos (by omega)
  constructor
  · rw [h, Nat.add_mul_mod_self_left, Nat.mod_eq_of_lt hlt]
  · rw [h, Nat.add_mul_div_left _ _ hp, Nat.div_eq_of_lt hlt, Nat.zero_add]
theorem bitsN_zero : ∀ k, bitsN k 0 = List.replicate k 0
  | 0 => rfl
  | k + 1 => by rw [bitsN, show (0 : Nat) / 2 = 0 by omega, bitsN_zero k, List.replicate_succ]

/-- Whole bytes, one more. -/
theorem packB_snoc : ∀ (n : Nat) (l m : List Nat), l.length = 8 * n → m.length = 8 → packB (l ++ m) = packB l ++ [UInt8.ofNat (numB m)]
  | 0, l, m, h, hm => by
    obtain rfl : l = [] := List.eq_nil_of_length_eq_zero (by omega)
    rw [List.nil_append, packB_take m (by omega), List.take_of_length_le (by omega), List.drop_of_length_le (by omega), packB_nil]
    rfl
  | n + 1, l, m, h, hm => by
    rw [packB_take (l ++ m) (by rw [List.length_append]; omega), packB_take l (by omega), List.take_append_of_le_length (by omega), List.drop_append_of_le_length (by omega), packB_snoc n _ m (by rw [List.length_drop]; omega) hm, List.cons_append]
/-- The bytes of a row of which some bits stand behind whole bytes. -/
theorem textB_none {D : List Nat} (h : D.length % 8 = 0) : textB D = packB D := by
  unfold textB alignB
  rw [show padN D.length = 0 by unfold padN; omega, List.replicate_zero, List.append_nil]
theorem textB_some {D L : List Nat} (h : D.length % 8 = 0) (h0 : 0 < L.length) (h8 : L.length < 8) : textB (D ++ L) = packB D ++ [UInt8.ofNat (numB L)] := by
  unfold textB alignB
  have hp : padN (D ++ L).length = 8 - L.length := by unfold padN; rw [List.length_append]; omega
  rw [hp, List.append_assoc, packB_snoc (D.length / 8) D _ (by omega) (by rw [List.length_append, List.length_replicate]; omega), numB_append, numB_zeros, Nat.mul_zero, Nat.add_zero]
theorem packB_len {D : List Nat} (h : D.length % 8 = 0) : 8 * (packB D).length = D.length := by
  rw [packB_length (D.length / 8) D (by omega)]; omega

/-- The bits of a byte, among all. -/
theorem bitsOf_byte : ∀ (l : List UInt8) (k : Nat) (c : UInt8), l[k]? = some c → ((bitsOf l).drop (8 * k)).take 8 = bitsN 8 c.toNat
  | [], k, c, h => by simp at h
  | x :: l, 0, c, h => by
    simp at h
    subst h
    rw [Nat.mul_zero, List.drop_zero, bitsOf_cons, List.take_append_of_le_length (by rw [bitsN_length]; omega), List.take_of_length_le (by rw [bitsN_length]; omega)]
  | x :: l, k + 1, c, h => by
    rw [List.getElem?_cons_succ] at h
    rw [bitsOf_cons, List.drop_append, List.drop_of_length_le (by rw [bitsN_length]; omega), bitsN_length, List.nil_append, show 8 * (k + 1) - 8 = 8 * k by omega, bitsOf_byte l k c h]
/-- One byte's bits more. -/
theorem held_more {l : List UInt8} {pos k : Nat} {L : List Nat} {c : UInt8} (hL : L = ((bitsOf l).drop pos).take L.length) (hk : 8 * k = pos + L.length) (hc : l[k]? = some c) : L ++ bitsN 8 c.toNat = ((bitsOf l).drop pos).take (L.length + 8) := by
  rw [List.take_add, List.drop_drop, ← hk, bitsOf_byte l k c hc, ← hL]
/-- Bits that went. -/
theorem held_less {l : List UInt8} {pos v : Nat} {L : List Nat} (hL : L = ((bitsOf l).drop pos).take L.length) : L.drop v = ((bitsOf l).drop (pos + v)).take (L.drop v).length := by
  have h : L.drop v = (((bitsOf l).drop pos).take L.length).drop v := by rw [← hL]
  rw [List.length_drop, ← List.drop_drop]
  rw [h, List.drop_take]

/-- Where a reader stands: its bits, what it has of them, the next byte. -/
def HeldR (l : List UInt8) (pos next : Nat) (L : List Nat) : Prop := L = ((bitsOf l).drop pos).take L.length ∧ 8 * next = pos + L.length ∧ next ≤ l.length
theorem HeldR.two {l : List UInt8} {pos next : Nat} {L : List Nat} (h : HeldR l pos next L) : ∀ b ∈ L, b < 2 := fun b hb => by
  rw [h.1] at hb
  exact bitsOf_two l b (List.mem_of_mem_drop (List.mem_of_mem_take hb))
theorem HeldR.more {l : List UInt8} {pos next : Nat} {L : List Nat} (h : HeldR l pos next L) {c : UInt8} (hc : l[next]? = some c) : HeldR l pos (next + 1) (L ++ bitsN 8 c.toNat) := by
  have hlt : next < l.length := (List.getElem?_eq_some_iff.1 hc).1
  refine ⟨?_, by rw [List.length_append, bitsN_length]; have := h.2.1; omega, hlt⟩
  rw [List.length_append, bitsN_length]
  exact held_more h.1 h.2.1 hc
theorem HeldR.less {l : List UInt8} {pos next : Nat} {L : List Nat} (h : HeldR l pos next L) {v : Nat} (hv : v ≤ L.length) : HeldR l (pos + v) next (L.drop v) :=
  ⟨held_less h.1, by rw [List.length_drop]; have := h.2.1; omega, h.2.2⟩
theorem HeldR.take {l : List UInt8} {pos next : Nat} {L : List Nat} (h : HeldR l pos next L) {v : Nat} (hv : v ≤ L.length) : L.take v = ((bitsOf l).drop pos).take v := by
  rw [h.1, List.take_take, Nat.min_eq_left hv]

end Go.Proofs.Ytahanllbaclokaa
