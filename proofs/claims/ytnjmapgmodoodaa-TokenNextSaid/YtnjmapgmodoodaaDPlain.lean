/-
  Numbers as texts: plain facts.
-/
import Derived.Test.YtnjmapgmodoodaaPlain
namespace Go.Proofs.Ytnjmapgmodoodaa

/-- A text out of its bytes. -/
def bytes (l : List UInt8) : ByteArray := ⟨l.toArray⟩
theorem bytes_data (l : List UInt8) : (bytes l).data.toList = l := by simp [bytes]
theorem bytes_size (l : List UInt8) : (bytes l).size = l.length := by simp [bytes, ByteArray.size]
theorem bytes_eq {u : ByteArray} {l : List UInt8} (h : u.data.toList = l) : u = bytes l := by subst h; simp [bytes]
theorem ret_str {u : ByteArray} {l : List UInt8} (h : u.data.toList = l) : Ending.returned (.string u) = .returned (.string (bytes l)) := by rw [bytes_eq h]
theorem bytes_of (u : ByteArray) : bytes u.data.toList = u := by simp [bytes]
theorem app_data (a b : ByteArray) : (a ++ b).data.toList = a.data.toList ++ b.data.toList := by simp

/-- A digit's byte. -/
def dig (n : Nat) : UInt8 := UInt8.ofNat (48 + n)
/-- A number in decimal. -/
def decN (n : Nat) : List UInt8 := if n < 10 then [dig n] else decN (n / 10) ++ [dig (n % 10)]
theorem decN_low {n : Nat} (h : n < 10) : decN n = [dig n] := by rw [decN, if_pos h]
theorem decN_high {n : Nat} (h : ¬ n < 10) : decN n = decN (n / 10) ++ [dig (n % 10)] := by rw [decN, if_neg h]
theorem decN_ne (n : Nat) : decN n ≠ [] := by
  rw [decN]; split <;> simp
def putL (n : Int) : List UInt8 := if n < 0 then 45 :: decN n.natAbs else decN n.natAbs

/-- What is written, where some digits of it stand already. -/
def restN (n : Nat) (l : List UInt8) : List UInt8 := if n = 0 ∧ l ≠ [] then l else decN n ++ l
theorem restN_done (l : List UInt8) (h : l ≠ []) : restN 0 l = l := by simp [restN, h]
theorem restN_step (n : Nat) (l : List UInt8) (h : 0 < n ∨ l = []) : restN (n / 10) (dig (n % 10) :: l) = restN n l := by
  have h1 : ¬ (n = 0 ∧ l ≠ []) := by rintro ⟨a, b⟩; rcases h with h | h; omega; exact b h
  unfold restN
  rw [if_neg h1]
  by_cases hn : n < 10
  · rw [if_pos ⟨by omega, by simp⟩, decN_low hn]
    have : n % 10 = n := by omega
    rw [this]; rfl
  · rw [if_neg (by rintro ⟨a, _⟩; omega), decN_high hn]
    simp

theorem decN_len : ∀ (k n : Nat), n < 10 ^ (k + 1) → (decN n).length ≤ k + 1
  | 0, n, h => by rw [decN_low (by simpa using h)]; simp
  | k + 1, n, h => by
    by_cases hn : n < 10
    · rw [decN_low hn]; simp
    · rw [decN_high hn, List.length_append]
      have := decN_len k (n / 10) (by rw [Nat.pow_succ] at h; omega)
      simp; omega
theorem decN_19 (n : Nat) (h : n ≤ 9223372036854775808) : (decN n).length ≤ 19 := decN_len 18 n (by omega)
theorem restN_len (n : Nat) (l : List UInt8) : l.length ≤ (restN n l).length := by
  unfold restN; split
  · exact Nat.le_refl _
  · simp
theorem size_data (t : ByteArray) : t.size = t.data.toList.length := by simp
theorem isEmpty_of {t : ByteArray} (h : t.data.toList = []) : t.toList.isEmpty = true := by rw [Lib.toList_data, h]; rfl
theorem isEmpty_not {t : ByteArray} (h : ¬ t.data.toList = []) : t.toList.isEmpty = false := by
  rw [Lib.toList_data]; cases hd : t.data.toList with
  | nil => exact absurd hd h
  | cons _ _ => rfl

theorem ten_digit (n : Nat) (h : n < 10) : (ByteArray.extract ⟨#[48, 49, 50, 51, 52, 53, 54, 55, 56, 57]⟩ n (n + 1)).data.toList = [dig n] := by
  have : ∀ k : Fin 10, (ByteArray.extract ⟨#[48, 49, 50, 51, 52, 53, 54, 55, 56, 57]⟩ k.1 (k.1 + 1)).data.toList = [dig k.1] := by decide
  exact this ⟨n, h⟩

/-- A number padded with noughts: the text, and the error. -/
def padL (n width : Int) : List UInt8 × Int :=
  if width < 1 ∨ 20 < width then ([], 2)
  else if n < 0 ∨ width < ((putL n).length : Int) then ([], 3)
  else (List.replicate (width.toNat - (putL n).length) 48 ++ putL n, 0)

/-- Is it a digit? -/
def isDig (c : UInt8) : Bool := decide (48 ≤ (c.toNat : Int) ∧ (c.toNat : Int) ≤ 57)
/-- How many digits a text begins with. -/
def countN (l : List UInt8) : Nat := (l.takeWhile isDig).length
def digAt (l : List UInt8) (j : Nat) : Bool :=
  match l[j]? with
  | some c => isDig c
  | none => false
theorem count_unique : ∀ (l : List UInt8) (n : Nat), (∀ m, m < n → digAt l m = true) → digAt l n = false → countN l = n
  | [], 0, _, _ => rfl
  | [], n + 1, h, _ => by have := h 0 (by omega); simp [digAt] at this
  | c :: l, 0, _, h => by
    simp [digAt] at h
    unfold countN; rw [List.takeWhile_cons_of_neg (by rw [h]; decide)]; rfl
  | c :: l, n + 1, h, h' => by
    have h0 := h 0 (by omega)
    simp [digAt] at h0
    have := count_unique l n (fun m hm => by have := h (m + 1) (by omega); simpa [digAt] using this) (by simpa [digAt] using h')
    unfold countN at this ⊢
    rw [List.takeWhile_cons_of_pos h0, List.length_cons, this]
theorem digAt_far (l : List UInt8) (j : Nat) (h : l.length ≤ j) : digAt l j = false := by unfold digAt; rw [List.getElem?_eq_none h]
theorem digAt_at (s : ByteArray) (j : Nat) (h : j < s.size) : digAt s.data.toList j = isDig s[j] := by unfold digAt; rw [byte_at s j h]
theorem isDig_yes {c : UInt8} (h : 48 ≤ (c.toNat : Int)) (h' : (c.toNat : Int) ≤ 57) : isDig c = true := decide_eq_true ⟨h, h'⟩
theorem isDig_no {c : UInt8} (h : (c.toNat : Int) < 48 ∨ 57 < (c.toNat : Int)) : isDig c = false := decide_eq_false (by omega)
theorem isDig_of {c : UInt8} (h : isDig c = true) : 48 ≤ (c.toNat : Int) ∧ (c.toNat : Int) ≤ 57 := of_decide_eq_true h
theorem countN_le (l : List UInt8) : countN l ≤ l.length := (List.takeWhile_prefix isDig (l := l)).length_le
theorem count_full : ∀ {l : List UInt8}, countN l = l.length → ∀ c ∈ l, isDig c = true
  | [], _, c, hc => by cases hc
  | x :: l, h, c, hc => by
    have hx : isDig x = true := by
      cases hd : isDig x
      · unfold countN at h
        rw [List.takeWhile_cons_of_neg (by rw [hd]; decide)] at h
        simp at h
      · rfl
    rcases List.mem_cons.1 hc with rfl | hc
    · exact hx
    · refine count_full (l := l) ?_ c hc
      unfold countN at h ⊢
      rw [List.takeWhile_cons_of_pos hx] at h
      simpa using h

/-- The number that digits are. -/
def valN (l : List UInt8) : Nat := l.foldl (fun a c => 10 * a + (c.toNat - 48)) 0
theorem valN_snoc (l : List UInt8) (c : UInt8) : valN (l ++ [c]) = 10 * valN l + (c.toNat - 48) := by simp [valN]
theorem valN_mono (a : List UInt8) : ∀ b : List UInt8, valN a ≤ valN (a ++ b) := by
  have h : ∀ (b : List UInt8) (x : Nat), x ≤ b.foldl (fun a c => 10 * a + (c.toNat - 48)) x := by
    intro b
    induction b with
    | nil => intro x; exact Nat.le_refl _
    | cons c b ih => intro x; exact Nat.le_trans (show x ≤ 10 * x + (c.toNat - 48) by omega) (ih _)
  intro b
  unfold valN
  rw [List.foldl_append]
  exact h b _
theorem valN_take (l : List UInt8) (k : Nat) : valN (l.take k) ≤ valN l := by
  have := valN_mono (l.take k) (l.drop k)
  rwa [List.take_append_drop] at this

/-- Digits alone: the number, and the error. -/
def fixL (l : List UInt8) : Int × Int :=
  if l = [] ∨ countN l ≠ l.length then (0, 4) else if 2147483647 < valN l then (0, 3) else ((valN l : Int), 0)
theorem fixL_empty : fixL [] = (0, 4) := by simp [fixL]
theorem fixL_form {l : List UInt8} (h : countN l ≠ l.length) : fixL l = (0, 4) := by unfold fixL; rw [if_pos (.inr h)]
theorem fixL_big {l : List UInt8} (h0 : l ≠ []) (h : countN l = l.length) (hb : 2147483647 < valN l) : fixL l = (0, 3) := by
  unfold fixL; rw [if_neg (by rintro (a | a); exact h0 a; exact a h), if_pos hb]
theorem fixL_ok {l : List UInt8} (h0 : l ≠ []) (h : countN l = l.length) (hb : valN l ≤ 2147483647) : fixL l = ((valN l : Int), 0) := by
  unfold fixL; rw [if_neg (by rintro (a | a); exact h0 a; exact a h), if_neg (by omega)]
theorem fixL_bound (l : List UInt8) : 0 ≤ (fixL l).1 ∧ (fixL l).1 ≤ 2147483647 := by
  unfold fixL; split
  · simp
  · split <;> simp; omega

/-- With a sign ahead, or none. -/
def looseL (l : List UInt8) : Int × Int :=
  match l with
  | c :: t => if (c.toNat : Int) = 45 then (-(fixL t).1, (fixL t).2) else if (c.toNat : Int) = 43 then fixL t else fixL l
  | [] => fixL []

/-- What stands behind a sign below 0. -/
def dropMinus (l : List UInt8) : List UInt8 :=
  match l with
  | c :: t => if (c.toNat : Int) = 45 then t else l
  | [] => []
def isMinus (l : List UInt8) : Bool :=
  match l with
  | c :: _ => decide ((c.toNat : Int) = 45)
  | [] => false
/-- Greater, as texts. -/
def gtB (a b : List UInt8) : Bool := !Op.bytesLess a b && !(a == b)
def topL (minus : Bool) : List UInt8 := [57, 50, 50, 51, 51, 55, 50, 48, 51, 54, 56, 53, 52, 55, 55, 53, 56, 48, if minus then 56 else 55]
def wholeL (l : List UInt8) : Int × Int :=
  if (dropMinus l).length = 19 ∧ gtB (dropMinus l) (topL (isMinus l)) = true then (0, 4) else looseL l
def readL (l : List UInt8) : Int × Int :=
  if dropMinus l = [] ∨ 19 < (dropMinus l).length ∨ countN (dropMinus l) ≠ (dropMinus l).length ∨ ((dropMinus l)[0]? = some 48 ∧ l ≠ [48]) then (0, 4) else wholeL l

end Go.Proofs.Ytnjmapgmodoodaa
