/-
  Rows told by what they differ from the row ahead: plain facts, no program in sight.
-/
import Derived.Test.YtjkppdgakokelaaDPlain
namespace Go.Proofs.Ytjkppdgakokelaa
set_option maxRecDepth 100000
/-- The byte above a place (0 above the first row). -/
def aboveP (l : List UInt8) (n i : Nat) : UInt8 := if n ≤ i then l[i - n]?.getD 0 else 0
/-- The byte on the left (0 beyond). -/
def leftP (l : List UInt8) (n i : Nat) : UInt8 := if i % n = 0 then 0 else l[i - 1]?.getD 0
/-- The byte above the left one. -/
def cornerP (l : List UInt8) (n i : Nat) : UInt8 := if i % n = 0 ∨ i < n then 0 else l[i - n - 1]?.getD 0
/-- What a place adds to the text that tells the rows. -/
def encOne (l : List UInt8) (n i : Nat) : List UInt8 := (if i % n = 0 then [2] else []) ++ [l[i]?.getD 0 - aboveP l n i]
def encUpto (l : List UInt8) (n : Nat) : Nat → List UInt8
  | 0 => []
  | i + 1 => encUpto l n i ++ encOne l n i
/-- Encode. -/
def encP (l : List UInt8) (columns : Int) : List UInt8 × Int :=
  if columns < 1 ∨ 256 < columns then ([], 2) else if l.length % columns.toNat ≠ 0 then ([], 4) else (encUpto l columns.toNat l.length, 0)
/-- How far two numbers are from one another. -/
def awayP (a b : Int) : Int := if a < b then b - a else a - b
def guessP (kind a b c : Nat) : Nat :=
  if kind = 1 then a else if kind = 2 then b else if kind = 3 then (a + b) / 2 else if kind = 4 then
    if awayP ((a : Int) + b - c) a ≤ awayP ((a : Int) + b - c) b ∧ awayP ((a : Int) + b - c) a ≤ awayP ((a : Int) + b - c) c then a
    else if awayP ((a : Int) + b - c) b ≤ awayP ((a : Int) + b - c) c then b else c
  else 0
/-- A byte told: it goes behind what came out. -/
def decOne (n kind : Nat) (out : List UInt8) (c : UInt8) : List UInt8 :=
  out ++ [UInt8.ofNat (c.toNat + guessP kind (leftP out n out.length).toNat (aboveP out n out.length).toNat (cornerP out n out.length).toNat)]
def decRow (n kind : Nat) (out row : List UInt8) : List UInt8 := row.foldl (decOne n kind) out
/-- So many rows told. -/
def decRows (n : Nat) : Nat → List UInt8 → List UInt8 → Option (List UInt8)
  | 0, out, _ => some out
  | m + 1, out, l => if 4 < (l[0]?.getD 0).toNat then none else decRows n m (decRow n (l[0]?.getD 0).toNat out ((l.drop 1).take n)) (l.drop (n + 1))
/-- Decode. -/
def decP (l : List UInt8) (columns : Int) : List UInt8 × Int :=
  if columns < 1 ∨ 256 < columns then ([], 2) else if l.length % (columns.toNat + 1) ≠ 0 then ([], 4) else
    match decRows columns.toNat (l.length / (columns.toNat + 1)) [] l with
    | none => ([], 4)
    | some o => (o, 0)
theorem guessP_bound (kind a b c : Nat) (ha : a < 256) (hb : b < 256) (hc : c < 256) : guessP kind a b c < 256 := by
  unfold guessP
  repeat' split
  all_goals omega
theorem decRow_length (n kind : Nat) : ∀ (row out : List UInt8), (decRow n kind out row).length = out.length + row.length
  | [], out => rfl
  | c :: row, out => by
    show (decRow n kind (decOne n kind out c) row).length = _
    rw [decRow_length n kind row]
    unfold decOne
    simp only [List.length_append, List.length_cons, List.length_nil]
    omega
theorem decRow_snoc (n kind : Nat) (out row : List UInt8) (c : UInt8) : decRow n kind out (row ++ [c]) = decOne n kind (decRow n kind out row) c := by
  unfold decRow
  rw [List.foldl_append]; rfl
/-- The text of a row of the kind 0. -/
theorem decRow_plain (n : Nat) : ∀ (row out : List UInt8), decRow n 0 out row = out ++ row
  | [], out => by simp [decRow]
  | c :: row, out => by
    show decRow n 0 (decOne n 0 out c) row = _
    rw [decRow_plain n row]
    unfold decOne guessP
    simp
theorem aboveP_eq {l out : List UInt8} {n i : Nat} (hn : 1 ≤ n) (h : l.take out.length = out) (hi : i ≤ out.length) : aboveP out n i = aboveP l n i := by
  unfold aboveP
  split
  · have e : out[i - n]? = l[i - n]? := by
      rcases Nat.lt_or_ge (i - n) out.length with h1 | h1
      · conv => lhs; rw [← h]
        rw [List.getElem?_take_of_lt h1]
      · have h0 : i - n = out.length := by omega
        omega
    rw [e]
  · rfl
/-- A row's text. -/
def encRow (l : List UInt8) (n r : Nat) : List UInt8 := 2 :: (List.range n).map fun k => l[r * n + k]?.getD 0 - aboveP l n (r * n + k)
/-- So many rows' texts, from a row on. -/
def encFrom (l : List UInt8) (n r : Nat) : Nat → List UInt8
  | 0 => []
  | m + 1 => encRow l n r ++ encFrom l n (r + 1) m
theorem encRow_length (l : List UInt8) (n r : Nat) : (encRow l n r).length = n + 1 := by simp [encRow]
theorem encFrom_length (l : List UInt8) (n : Nat) : ∀ m r, (encFrom l n r m).length = m * (n + 1)
  | 0, r => by simp [encFrom]
  | m + 1, r => by rw [encFrom, List.length_append, encRow_length, encFrom_length l n m, Nat.add_mul]; omega
/-- Within a row: the kind, and so many bytes. -/
theorem encUpto_in (l : List UInt8) {n : Nat} (r : Nat) : ∀ k, 1 ≤ k → k ≤ n → encUpto l n (r * n + k) = encUpto l n (r * n) ++ 2 :: (List.range k).map fun k => l[r * n + k]?.getD 0 - aboveP l n (r * n + k)
  | 0, h, _ => by omega
  | 1, _, h => by
    show encUpto l n (r * n) ++ encOne l n (r * n) = _
    unfold encOne
    rw [if_pos (by exact Nat.mul_mod_left r n)]
    rfl
  | k + 2, _, h => by
    show encUpto l n (r * n + (k + 1)) ++ encOne l n (r * n + (k + 1)) = _
    rw [encUpto_in l r (k + 1) (by omega) (by omega), List.append_assoc]
    unfold encOne
    rw [if_neg (by rw [Nat.mul_comm, Nat.mul_add_mod, Nat.mod_eq_of_lt (by omega)]; omega), List.range_succ (n := k + 1), List.map_append]
    simp
theorem encUpto_row (l : List UInt8) {n : Nat} (hn : 1 ≤ n) (r : Nat) : encUpto l n ((r + 1) * n) = encUpto l n (r * n) ++ encRow l n r := by
  rw [Nat.add_mul, Nat.one_mul, encUpto_in l r n hn (Nat.le_refl _)]
  rfl
theorem encUpto_from (l : List UInt8) {n : Nat} (hn : 1 ≤ n) : ∀ m r, encUpto l n ((r + m) * n) = encUpto l n (r * n) ++ encFrom l n r m
  | 0, r => by simp [encFrom]
  | m + 1, r => by
    rw [show r + (m + 1) = (r + 1) + m by omega, encUpto_from l hn m (r + 1), encUpto_row l hn, List.append_assoc]
    rfl
theorem dec_in (l : List UInt8) {n : Nat} (r : Nat) : ∀ k, k ≤ n → r * n + k ≤ l.length → decRow n 2 (l.take (r * n)) ((List.range k).map fun k => l[r * n + k]?.getD 0 - aboveP l n (r * n + k)) = l.take (r * n + k)
  | 0, _, _ => by simp [decRow]
  | k + 1, h, hl => by
    rw [List.range_succ, List.map_append, List.map_cons, List.map_nil, decRow_snoc, dec_in l r k (by omega) (by omega)]
    unfold decOne
    have hlen : (l.take (r * n + k)).length = r * n + k := by rw [List.length_take]; omega
    rw [hlen]
    have hab : aboveP (l.take (r * n + k)) n (r * n + k) = aboveP l n (r * n + k) := by
      unfold aboveP
      split
      · rcases Nat.eq_zero_or_pos n with h0 | h0
        · omega
        · rw [List.getElem?_take_of_lt (by omega)]
      · rfl
    rw [hab]
    have hg : guessP 2 (leftP (l.take (r * n + k)) n (r * n + k)).toNat (aboveP l n (r * n + k)).toNat (cornerP (l.take (r * n + k)) n (r * n + k)).toNat = (aboveP l n (r * n + k)).toNat := by unfold guessP; simp
    rw [hg]
    have hget : l[r * n + k]? = some (l[r * n + k]'(by omega)) := List.getElem?_eq_getElem (by omega)
    rw [hget, Option.getD_some, ← Nat.add_assoc, List.take_add_one, hget]
    congr 2
    apply UInt8.toNat_inj.1
    have h1 := (l[r * n + k]'(by omega)).toNat_lt
    have h2 := (aboveP l n (r * n + k)).toNat_lt
    rw [UInt8.toNat_ofNat', UInt8.toNat_sub]
    omega
theorem dec_from (l : List UInt8) {n : Nat} : ∀ m r, (r + m) * n ≤ l.length → decRows n m (l.take (r * n)) (encFrom l n r m) = some (l.take ((r + m) * n))
  | 0, r, _ => rfl
  | m + 1, r, h => by
    have e : (r + (m + 1)) * n = (r + 1 + m) * n := by rw [show r + (m + 1) = r + 1 + m by omega]
    have h2 : (r + 1) * n ≤ l.length := Nat.le_trans (Nat.mul_le_mul_right n (by omega)) h
    rw [Nat.add_mul, Nat.one_mul] at h2
    unfold decRows
    have h0 : (encFrom l n r (m + 1))[0]?.getD 0 = 2 := rfl
    rw [h0, if_neg (by decide)]
    have hd : (encFrom l n r (m + 1)).drop (n + 1) = encFrom l n (r + 1) m := by
      show (encRow l n r ++ encFrom l n (r + 1) m).drop (n + 1) = _
      rw [List.drop_append_of_le_length (by rw [encRow_length]; exact Nat.le_refl _), List.drop_of_length_le (by rw [encRow_length]; exact Nat.le_refl _), List.nil_append]
    have ht : ((encFrom l n r (m + 1)).drop 1).take n = (List.range n).map fun k => l[r * n + k]?.getD 0 - aboveP l n (r * n + k) := by
      show (((List.range n).map fun k => l[r * n + k]?.getD 0 - aboveP l n (r * n + k)) ++ encFrom l n (r + 1) m).take n = _
      rw [List.take_append_of_le_length (by simp), List.take_of_length_le (by simp)]
    rw [hd, ht, show (2 : UInt8).toNat = 2 from rfl, dec_in l r n (Nat.le_refl _) h2, e, ← dec_from l m (r + 1) (by rw [← e]; exact h), Nat.add_mul, Nat.one_mul]
/-- What is encoded is decoded. -/
theorem enc_back {l : List UInt8} {n : Nat} (h1 : 1 ≤ n) (h2 : n ≤ 256) (hl : l.length % n = 0) : decP (encP l (n : Int)).1 (n : Int) = (l, 0) ∧ (encP l (n : Int)).2 = 0 := by
  obtain ⟨m, hm⟩ : ∃ m, l.length = m * n := ⟨l.length / n, by have := Nat.div_add_mod l.length n; rw [hl, Nat.mul_comm] at this; omega⟩
  have he : encP l (n : Int) = (encFrom l n 0 m, 0) := by
    unfold encP
    rw [if_neg (by omega), Int.toNat_natCast, if_neg (by omega), hm]
    have := encUpto_from l h1 m 0
    rw [Nat.zero_add, Nat.zero_mul] at this
    rw [this]; rfl
  rw [he]
  refine ⟨?_, rfl⟩
  unfold decP
  rw [if_neg (by omega), Int.toNat_natCast]
  show (if (encFrom l n 0 m).length % (n + 1) ≠ 0 then _ else _) = _
  rw [encFrom_length, if_neg (by simp), Nat.mul_div_cancel _ (by omega)]
  have hd := dec_from l (n := n) m 0 (by rw [Nat.zero_add, hm]; exact Nat.le_refl _)
  rw [Nat.zero_mul, List.take_zero, Nat.zero_add, ← hm, List.take_length] at hd
  rw [hd]
/-- Rows of the kind 0. -/
def plainFrom (n : Nat) : Nat → List UInt8 → List UInt8
  | 0, _ => []
  | m + 1, l => 0 :: (l.take n ++ plainFrom n m (l.drop n))
theorem plainFrom_length (n : Nat) : ∀ m l, m * n ≤ l.length → (plainFrom n m l).length = m * (n + 1)
  | 0, l, _ => by simp [plainFrom]
  | m + 1, l, h => by
    rw [Nat.add_mul, Nat.one_mul] at h
    rw [plainFrom, List.length_cons, List.length_append, List.length_take, plainFrom_length n m _ (by rw [List.length_drop]; omega), Nat.add_mul]
    omega
theorem dec_plain {n : Nat} : ∀ m out l, m * n ≤ l.length → decRows n m out (plainFrom n m l) = some (out ++ l.take (m * n))
  | 0, out, l, _ => by simp [decRows]
  | m + 1, out, l, h => by
    rw [Nat.add_mul, Nat.one_mul] at h
    unfold decRows
    have h0 : (plainFrom n (m + 1) l)[0]?.getD 0 = 0 := rfl
    rw [h0, if_neg (by decide)]
    have hn : (l.take n).length = n := by rw [List.length_take]; omega
    have hd : (plainFrom n (m + 1) l).drop (n + 1) = plainFrom n m (l.drop n) := by
      show (l.take n ++ plainFrom n m (l.drop n)).drop n = _
      rw [List.drop_append_of_le_length (by omega), List.drop_of_length_le (by omega), List.nil_append]
    have ht : ((plainFrom n (m + 1) l).drop 1).take n = l.take n := by
      show (l.take n ++ plainFrom n m (l.drop n)).take n = _
      rw [List.take_append_of_le_length (by omega), List.take_of_length_le (by omega)]
    rw [hd, ht, show (0 : UInt8).toNat = 0 from rfl, decRow_plain, dec_plain m _ _ (by rw [List.length_drop]; omega), List.append_assoc]
    congr 2
    rw [show (m + 1) * n = n + m * n by rw [Nat.add_mul, Nat.one_mul, Nat.add_comm], List.take_add]
theorem plain_back {l : List UInt8} {n m : Nat} (h1 : 1 ≤ n) (h2 : n ≤ 256) (hl : l.length = m * n) : decP (plainFrom n m l) (n : Int) = (l, 0) := by
  unfold decP
  rw [if_neg (by omega), Int.toNat_natCast, plainFrom_length n m l (by omega), if_neg (by simp), Nat.mul_div_cancel _ (by omega), dec_plain m [] l (by omega), List.nil_append, ← hl, List.take_length]
end Go.Proofs.Ytjkppdgakokelaa
