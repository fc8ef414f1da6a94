/-
  Rows of bits, the lowest of a byte ahead: plain facts, no program in sight.
-/
import Derived.Test.YtahanllbaclokaaPlain
import Derived.Test.YtahanllbaclokaaDPlain
namespace Go.Proofs.Ytahanllbaclokaa

/-- So many bits of a number, the lowest ahead. -/
def bitsN : Nat → Nat → List Nat
  | 0, _ => []
  | k + 1, n => n % 2 :: bitsN k (n / 2)
/-- The number of bits, the lowest ahead. -/
def numB : List Nat → Nat
  | [] => 0
  | b :: r => b + 2 * numB r
theorem bitsN_length : ∀ (k n : Nat), (bitsN k n).length = k
  | 0, _ => rfl
  | k + 1, n => by rw [bitsN, List.length_cons, bitsN_length k]
theorem bitsN_two : ∀ (k n : Nat), ∀ b ∈ bitsN k n, b < 2
  | 0, _, b, h => by cases h
  | k + 1, n, b, h => by
    rcases List.mem_cons.1 h with rfl | h
    · omega
    · exact bitsN_two k _ b h
theorem numB_bitsN : ∀ (k n : Nat), n < 2 ^ k → numB (bitsN k n) = n
  | 0, n, h => by have : n = 0 := by simpa using h
                  subst this; rfl
  | k + 1, n, h => by
    rw [bitsN, numB, numB_bitsN k (n / 2) (by rw [Nat.pow_succ] at h; omega)]; omega
theorem bitsN_numB : ∀ (l : List Nat), (∀ b ∈ l, b < 2) → bitsN l.length (numB l) = l
  | [], _ => rfl
  | b :: r, h => by
    have hb := h b (by simp)
    rw [List.length_cons, bitsN, numB, show (b + 2 * numB r) % 2 = b by omega, show (b + 2 * numB r) / 2 = numB r by omega, bitsN_numB r fun x hx => h x (by simp [hx])]
theorem numB_lt : ∀ (l : List Nat), (∀ b ∈ l, b < 2) → numB l < 2 ^ l.length
  | [], _ => by decide
  | b :: r, h => by
    have hb := h b (by simp)
    have hr := numB_lt r fun x hx => h x (by simp [hx])
    rw [numB, List.length_cons, Nat.pow_succ]; omega
theorem numB_snoc : ∀ (l : List Nat) (b : Nat), numB (l ++ [b]) = numB l + 2 ^ l.length * b
  | [], b => by simp [numB]
  | x :: r, b => by
    rw [List.cons_append, numB, numB_snoc r b, numB, List.length_cons, Nat.pow_succ, Nat.mul_add, ← Nat.mul_assoc, Nat.mul_comm 2 (2 ^ r.length)]; omega
theorem numB_zeros : ∀ k, numB (List.replicate k 0) = 0
  | 0 => rfl
  | k + 1 => by rw [List.replicate_succ, numB, numB_zeros k]

/-- Put, Align. -/
def putB (row : List Nat) (n width : Int) : List Nat × Int :=
  if width < 0 ∨ 16 < width then (row, 2) else if n < 0 ∨ (2 : Int) ^ width.toNat ≤ n then (row, 3) else (row ++ bitsN width.toNat n.toNat, 0)
def padN (k : Nat) : Nat := (8 - k % 8) % 8
def alignB (row : List Nat) : List Nat := row ++ List.replicate (padN row.length) 0
theorem putB_arg {row : List Nat} {n width : Int} (h : width < 0 ∨ 16 < width) : putB row n width = (row, 2) := by unfold putB; rw [if_pos h]
theorem putB_range {row : List Nat} {n : Int} {v : Nat} (hv : v ≤ 16) (h : n < 0 ∨ (2 : Int) ^ v ≤ n) : putB row n (v : Int) = (row, 3) := by
  unfold putB; rw [if_neg (by omega), Int.toNat_natCast, if_pos h]
theorem putB_ok {row : List Nat} {n v : Nat} (hv : v ≤ 16) (h : n < 2 ^ v) : putB row (n : Int) (v : Int) = (row ++ bitsN v n, 0) := by
  unfold putB
  have : ((2 ^ v : Nat) : Int) = (2 : Int) ^ v := by simp
  rw [if_neg (by omega), Int.toNat_natCast, if_neg (by rw [← this]; omega), Int.toNat_natCast]
theorem padN_lt (k : Nat) : padN k < 8 := by unfold padN; omega
theorem padN_whole (k : Nat) : (k + padN k) % 8 = 0 := by unfold padN; omega
theorem alignB_length (row : List Nat) : (alignB row).length = row.length + padN row.length := by unfold alignB; rw [List.length_append, List.length_replicate]
theorem alignB_two {row : List Nat} (h : ∀ b ∈ row, b < 2) : ∀ b ∈ alignB row, b < 2 := by
  intro b hb
  rcases List.mem_append.1 hb with hb | hb
  · exact h b hb
  · rw [List.eq_of_mem_replicate hb]; omega
/-- A step of the loop that aligns. -/
theorem align_step {row : List Nat} {k : Nat} (h : ¬ (row.length + k) % 8 = 0) (hk : k ≤ padN row.length) : k + 1 ≤ padN row.length := by
  unfold padN at *; omega
theorem align_stop {row : List Nat} {k : Nat} (h : (row.length + k) % 8 = 0) (hk : k ≤ padN row.length) : k = padN row.length := by
  unfold padN at *; omega

/-- Eight bits are a byte. -/
def packB : List Nat → List UInt8
  | a :: b :: c :: d :: e :: f :: g :: h :: r => UInt8.ofNat (numB [a, b, c, d, e, f, g, h]) :: packB r
  | _ => []
def textB (row : List Nat) : List UInt8 := packB (alignB row)
theorem packB_take : ∀ (l : List Nat), 8 ≤ l.length → packB l = UInt8.ofNat (numB (l.take 8)) :: packB (l.drop 8)
  | a :: b :: c :: d :: e :: f :: g :: h :: r, _ => rfl
  | [], h => by simp at h
  | [_], h => by simp at h
  | [_, _], h => by simp at h
  | [_, _, _], h => by simp at h
  | [_, _, _, _], h => by simp at h
  | [_, _, _, _, _], h => by simp at h
  | [_, _, _, _, _, _], h => by simp at h
  | [_, _, _, _, _, _, _], h => by simp at h
theorem packB_nil : packB [] = [] := rfl
theorem packB_length : ∀ (n : Nat) (l : List Nat), l.length = 8 * n → (packB l).length = n
  | 0, l, h => by obtain rfl : l = [] := List.eq_nil_of_length_eq_zero (by omega)
                  rfl
  | n + 1, l, h => by rw [packB_take l (by omega), List.length_cons, packB_length n _ (by rw [List.length_drop]; omega)]
theorem textB_length (row : List Nat) : 8 * (textB row).length = row.length + padN row.length := by
  have h := padN_whole row.length
  obtain ⟨n, hn⟩ : ∃ n, row.length + padN row.length = 8 * n := ⟨(row.length + padN row.length) / 8, by omega⟩
  unfold textB
  rw [packB_length n _ (by rw [alignB_length]; exact hn), hn]

/-- All bits of bytes. -/
def bitsOf (l : List UInt8) : List Nat := l.flatMap fun c => bitsN 8 c.toNat
theorem bitsOf_cons (c : UInt8) (l : List UInt8) : bitsOf (c :: l) = bitsN 8 c.toNat ++ bitsOf l := rfl
theorem bitsOf_append (a b : List UInt8) : bitsOf (a ++ b) = bitsOf a ++ bitsOf b := by simp [bitsOf]
theorem bitsOf_length : ∀ (l : List UInt8), (bitsOf l).length = 8 * l.length
  | [] => rfl
  | c :: l => by rw [bitsOf_cons, List.length_append, bitsN_length, bitsOf_length l, List.length_cons]; omega
theorem bitsOf_two (l : List UInt8) : ∀ b ∈ bitsOf l, b < 2 := by
  intro b hb
  obtain ⟨c, _, hc⟩ := List.mem_flatMap.1 hb
  exact bitsN_two 8 _ b hc
theorem bitsOf_packB : ∀ (n : Nat) (l : List Nat), l.length = 8 * n → (∀ b ∈ l, b < 2) → bitsOf (packB l) = l
  | 0, l, h, _ => by obtain rfl : l = [] := List.eq_nil_of_length_eq_zero (by omega)
                     rfl
  | n + 1, l, h, h2 => by
    have ht : (l.take 8).length = 8 := by rw [List.length_take]; omega
    have h8 : ∀ b ∈ l.take 8, b < 2 := fun b hb => h2 b (List.mem_of_mem_take hb)
    have hlt := numB_lt _ h8
    rw [ht] at hlt
    have hb := bitsN_numB _ h8
    rw [ht] at hb
    rw [packB_take l (by omega), bitsOf_cons, bitsOf_packB n _ (by rw [List.length_drop]; omega) fun b hb => h2 b (List.mem_of_mem_drop hb), UInt8.toNat_ofNat', Nat.mod_eq_of_lt hlt, hb, List.take_append_drop]
/-- What is put is got. -/
theorem bitsOf_textB {row : List Nat} (h : ∀ b ∈ row, b < 2) : bitsOf (textB row) = alignB row := by
  have hw := padN_whole row.length
  unfold textB
  exact bitsOf_packB ((row.length + padN row.length) / 8) _ (by rw [alignB_length]; omega) (alignB_two h)

/-- Get, Bytes, Align of a reader: the number or the bytes, the place, the error. -/
def getB (l : List UInt8) (pos : Nat) (width : Int) : Int × Nat × Int :=
  if width < 0 ∨ 16 < width then (0, pos, 2)
  else if 8 * (l.length : Int) - (pos : Int) < width then (0, pos, 5)
  else ((numB (((bitsOf l).drop pos).take width.toNat) : Int), pos + width.toNat, 0)
def wholeN (pos : Nat) : Nat := (pos + 7) / 8 * 8
def bytesB (l : List UInt8) (pos : Nat) (n : Int) : List UInt8 × Nat × Int :=
  if n < 0 then ([], pos, 2)
  else if (l.length : Int) - ((wholeN pos / 8 : Nat) : Int) < n then ([], pos, 5)
  else ((l.drop (wholeN pos / 8)).take n.toNat, 8 * (wholeN pos / 8 + n.toNat), 0)
theorem getB_arg {l : List UInt8} {pos : Nat} {width : Int} (h : width < 0 ∨ 16 < width) : getB l pos width = (0, pos, 2) := by unfold getB; rw [if_pos h]
theorem getB_short {l : List UInt8} {pos v : Nat} (hv : v ≤ 16) (h : 8 * (l.length : Int) - (pos : Int) < (v : Int)) : getB l pos (v : Int) = (0, pos, 5) := by
  unfold getB; rw [if_neg (by omega), if_pos h]
theorem getB_ok {l : List UInt8} {pos v : Nat} (hv : v ≤ 16) (h : pos + v ≤ 8 * l.length) : getB l pos (v : Int) = ((numB (((bitsOf l).drop pos).take v) : Int), pos + v, 0) := by
  unfold getB; rw [if_neg (by omega), if_neg (by omega), Int.toNat_natCast]
/-- A bit, from the byte in which it stands. -/
theorem bitsN_get : ∀ (k n i : Nat), i < k → (bitsN k n)[i]? = some (n / 2 ^ i % 2)
  | 0, _, i, h => by omega
  | k + 1, n, 0, _ => by simp [bitsN]
  | k + 1, n, i + 1, h => by
    rw [bitsN, List.getElem?_cons_succ, bitsN_get k (n / 2) i (by omega), Nat.div_div_eq_div_mul, Nat.pow_succ, Nat.mul_comm 2]
theorem bitsOf_get : ∀ (l : List UInt8) (pos : Nat) (c : UInt8), l[pos / 8]? = some c → (bitsOf l)[pos]? = some (c.toNat / 2 ^ (pos % 8) % 2)
  | [], _, _, h => by simp at h
  | x :: l, pos, c, h => by
    rw [bitsOf_cons]
    by_cases h8 : pos < 8
    · rw [show pos / 8 = 0 by omega] at h
      simp at h
      subst h
      rw [List.getElem?_append_left (by rw [bitsN_length]; exact h8), bitsN_get _ _ _ h8, Nat.mod_eq_of_lt h8]
    · rw [show pos / 8 = (pos - 8) / 8 + 1 by omega, List.getElem?_cons_succ] at h
      rw [List.getElem?_append_right (by rw [bitsN_length]; omega), bitsN_length, bitsOf_get l (pos - 8) c h, show (pos - 8) % 8 = pos % 8 by omega]

theorem take_at {L : List Nat} {pos v g b : Nat} (hb : L[pos + g]? = some b) (hg : g < v) : ((L.drop pos).take v).drop g = b :: ((L.drop pos).take v).drop (g + 1) := by
  have h1 : ((L.drop pos).take v)[g]? = some b := by rw [List.getElem?_take, if_pos hg, List.getElem?_drop, hb]
  obtain ⟨h2, h3⟩ := List.getElem?_eq_some_iff.1 h1
  rw [List.drop_eq_getElem_cons h2, h3]
theorem part_lt {L : List Nat} {pos v g : Nat} (h : ∀ b ∈ L, b < 2) (hv : v ≤ 16) : numB (((L.drop pos).take v).drop g) < 65536 := by
  have h1 := numB_lt (((L.drop pos).take v).drop g) fun b hb => h b (List.mem_of_mem_drop (List.mem_of_mem_take (List.mem_of_mem_drop hb)))
  have h2 : (((L.drop pos).take v).drop g).length ≤ 16 := by rw [List.length_drop, List.length_take]; omega
  have h3 : 2 ^ (((L.drop pos).take v).drop g).length ≤ 2 ^ 16 := Nat.pow_le_pow_right (by omega) h2
  omega

end Go.Proofs.Ytahanllbaclokaa
