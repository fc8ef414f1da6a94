/-
  Rows told by what is above them, row by row: plain facts, no program in sight.
-/
import Derived.Test.YtjkppdgakokelaaPrPlain2
namespace Go.Proofs.Ytjkppdgakokelaa
/-- What stands above a row. -/
def aboveRow (l : List UInt8) (n r : Nat) : List UInt8 := (List.range n).map fun k => aboveP l n (r * n + k)
theorem aboveRow_length (l : List UInt8) (n r : Nat) : (aboveRow l n r).length = n := by simp [aboveRow]
theorem aboveRow_at {l : List UInt8} {n r k : Nat} (h : k < n) : (aboveRow l n r)[k]? = some (aboveP l n (r * n + k)) := by simp [aboveRow, h]
theorem aboveRow_zero (l : List UInt8) (n : Nat) : aboveRow l n 0 = List.replicate n 0 := by
  apply List.ext_getElem?
  intro k
  rcases Nat.lt_or_ge k n with h | h
  · rw [aboveRow_at h, List.getElem?_replicate, if_pos h]
    unfold aboveP
    rw [if_neg (by omega)]
  · rw [List.getElem?_eq_none (by rw [aboveRow_length]; exact h), List.getElem?_eq_none (by simpa using h)]
theorem aboveRow_succ {l : List UInt8} {n r : Nat} (h : (r + 1) * n ≤ l.length) : aboveRow l n (r + 1) = (l.drop (r * n)).take n := by
  rw [Nat.add_mul, Nat.one_mul] at h
  apply List.ext_getElem?
  intro k
  rcases Nat.lt_or_ge k n with hk | hk
  · rw [aboveRow_at hk, List.getElem?_take_of_lt hk, List.getElem?_drop]
    unfold aboveP
    rw [Nat.add_mul, Nat.one_mul, if_pos (by omega), show r * n + n + k - n = r * n + k by omega, List.getElem?_eq_getElem (by omega)]
    rfl
  · rw [List.getElem?_eq_none (by rw [aboveRow_length]; exact hk), List.getElem?_eq_none (by rw [List.length_take, List.length_drop]; omega)]
/-- A row's text, as far as it is written. -/
def encPart (l : List UInt8) (n r k : Nat) : List UInt8 := encUpto l n (r * n) ++ 2 :: (List.range k).map fun k => l[r * n + k]?.getD 0 - aboveP l n (r * n + k)
theorem encPart_zero (l : List UInt8) (n r : Nat) : encPart l n r 0 = encUpto l n (r * n) ++ [2] := rfl
theorem encPart_succ (l : List UInt8) (n r k : Nat) : encPart l n r (k + 1) = encPart l n r k ++ [l[r * n + k]?.getD 0 - aboveP l n (r * n + k)] := by
  unfold encPart
  rw [List.range_succ, List.map_append, List.append_assoc]
  rfl
theorem encPart_all {l : List UInt8} {n : Nat} (hn : 1 ≤ n) (r : Nat) : encPart l n r n = encUpto l n ((r + 1) * n) := (encUpto_row l hn r).symm
theorem encUpto_length (l : List UInt8) (n : Nat) : ∀ i, (encUpto l n i).length ≤ 2 * i
  | 0 => Nat.le_refl _
  | i + 1 => by
    have := encUpto_length l n i
    rw [encUpto, List.length_append]
    unfold encOne
    split <;> simp <;> omega
theorem encPart_length (l : List UInt8) (n r k : Nat) : (encPart l n r k).length ≤ 2 * (r * n) + 1 + k := by
  have := encUpto_length l n (r * n)
  unfold encPart
  rw [List.length_append, List.length_cons, List.length_map, List.length_range]
  omega
theorem encP_end {l : List UInt8} {n : Nat} (h1 : 1 ≤ n) (h2 : n ≤ 256) (hl : l.length % n = 0) : encP l (n : Int) = (encUpto l n l.length, 0) := by
  unfold encP
  rw [if_neg (by omega), Int.toNat_natCast, if_neg (by omega)]
end Go.Proofs.Ytjkppdgakokelaa
