/-
  Which texts are what is written of a number of 64 bits: plain facts, no program in sight.
-/
import Derived.Test.YtejgcnmbngdkiaaGreatDoorNWr
import Derived.Lib.AtoiAll
import Derived.Lib.ItoaNum
namespace Go.Proofs.YtejgcnmbngdkiaaGreatDoor

/-! ### One digit more -/
theorem val_dig {c : UInt8} (h : isDig c = true) : c = dig (c.toNat - 48) ∧ c.toNat - 48 < 10 := by
  have h1 := isDig_of h
  refine ⟨?_, by omega⟩
  apply UInt8.toNat_inj.1
  rw [dig_toNat _ (by omega)]; omega

/-- Digits without a nought ahead are what is written of their number. -/
theorem decN_val : ∀ (n : Nat) (l : List UInt8), l.length = n → (∀ c ∈ l, isDig c = true) → l ≠ [] → (l.length = 1 ∨ ¬ l[0]? = some 48) → decN (valN l) = l := by
  intro n
  induction n with
  | zero => intro l hl _ hne; exact absurd (List.eq_nil_of_length_eq_zero hl) hne
  | succ n ih =>
    intro l hl hall hne h0
    obtain ⟨a, c, rfl⟩ : ∃ a c, l = a ++ [c] := ⟨l.dropLast, l.getLast hne, (List.dropLast_concat_getLast hne).symm⟩
    have hc := val_dig (hall c (by simp))
    rw [valN_snoc]
    cases a with
    | nil =>
      have : valN [] = 0 := rfl
      rw [this, Nat.mul_zero, Nat.zero_add, decN_low hc.2, ← hc.1]; rfl
    | cons b t =>
      have hlen : (b :: t).length = n := by simp at hl ⊢; omega
      have hb : ¬ b = 48 := by
        rcases h0 with h | h
        · simp at h
        · intro e; apply h; simp [e]
      have hi := ih (b :: t) hlen (fun x hx => hall x (by simp at hx ⊢; rcases hx with h | h <;> simp [h])) (by simp) (.inr (by simp [hb]))
      have hpos : ¬ valN (b :: t) = 0 := by
        intro e
        rw [e, decN_low (by omega)] at hi
        have : dig 0 = b := by have := congrArg (fun x => x[0]?) hi; simpa using this
        exact hb (by rw [← this]; rfl)
      rw [decN_high (by omega)]
      have e1 : (10 * valN (b :: t) + (c.toNat - 48)) / 10 = valN (b :: t) := by omega
      have e2 : (10 * valN (b :: t) + (c.toNat - 48)) % 10 = c.toNat - 48 := by omega
      rw [e1, e2, hi, ← hc.1]

/-! ### Texts of one width -/
theorem bytesLess_irrefl : ∀ l : List UInt8, Op.bytesLess l l = false
  | [] => rfl
  | c :: l => by simp [Op.bytesLess, bytesLess_irrefl l]

theorem foldl_from (l : List UInt8) (x : Nat) : l.foldl (fun a c => 10 * a + (c.toNat - 48)) x = x * 10 ^ l.length + valN l := by
  unfold valN
  induction l generalizing x with
  | nil => simp
  | cons c l ih =>
    rw [List.foldl_cons, ih, List.foldl_cons, ih (10 * 0 + (c.toNat - 48)), List.length_cons, Nat.pow_succ]
    rw [Nat.add_mul, Nat.add_mul]
    simp only [Nat.mul_zero, Nat.zero_mul, Nat.zero_add]
    have : 10 * x * 10 ^ l.length = x * (10 ^ l.length * 10) := by rw [Nat.mul_comm 10 x, Nat.mul_assoc, Nat.mul_comm 10]
    omega
theorem valN_cons (c : UInt8) (l : List UInt8) : valN (c :: l) = (c.toNat - 48) * 10 ^ l.length + valN l := by
  have := foldl_from l (10 * 0 + (c.toNat - 48))
  unfold valN at this ⊢
  rw [List.foldl_cons, this]; simp
theorem valN_lt : ∀ l : List UInt8, (∀ c ∈ l, isDig c = true) → valN l < 10 ^ l.length
  | [], _ => by simp [valN]
  | c :: l, h => by
    have h1 := valN_lt l (fun x hx => h x (by simp [hx]))
    have h2 := (val_dig (h c (by simp))).2
    rw [valN_cons, List.length_cons, Nat.pow_succ]
    have h3 : (c.toNat - 48 + 1) * 10 ^ l.length ≤ 10 * 10 ^ l.length := Nat.mul_le_mul_right _ (by omega)
    rw [Nat.add_mul, Nat.one_mul] at h3
    omega
/-- Of digits of one width the lesser text is the lesser number. -/
theorem less_val : ∀ (a b : List UInt8), a.length = b.length → (∀ c ∈ a, isDig c = true) → (∀ c ∈ b, isDig c = true) → Op.bytesLess a b = true → valN a < valN b
  | [], [], _, _, _, h => by simp [Op.bytesLess] at h
  | [], b :: bs, hl, _, _, _ => by simp at hl
  | a :: as, [], hl, _, _, _ => by simp at hl
  | a :: as, b :: bs, hl, ha, hb, h => by
    have hl' : as.length = bs.length := by simpa using hl
    have ha1 := isDig_of (ha a (by simp))
    have hb1 := isDig_of (hb b (by simp))
    have hat := valN_lt as (fun x hx => ha x (by simp [hx]))
    have hbt := valN_lt bs (fun x hx => hb x (by simp [hx]))
    rw [valN_cons, valN_cons]
    simp only [Op.bytesLess, Bool.or_eq_true, Bool.and_eq_true, decide_eq_true_eq, beq_iff_eq] at h
    rcases h with h | ⟨rfl, h⟩
    · have h' : a.toNat < b.toNat := UInt8.lt_iff_toNat_lt.1 h
      have h3 : (a.toNat - 48 + 1) * 10 ^ as.length ≤ (b.toNat - 48) * 10 ^ as.length := Nat.mul_le_mul_right _ (by omega)
      rw [Nat.add_mul, Nat.one_mul] at h3
      rw [← hl'] at hbt ⊢
      omega
    · have := less_val as bs hl' (fun x hx => ha x (by simp [hx])) (fun x hx => hb x (by simp [hx])) h
      rw [hl']; omega
theorem less_total : ∀ (a b : List UInt8), Op.bytesLess a b = false → a = b ∨ Op.bytesLess b a = true
  | [], [], _ => .inl rfl
  | [], b :: bs, h => by simp [Op.bytesLess] at h
  | a :: as, [], _ => .inr (by simp [Op.bytesLess])
  | a :: as, b :: bs, h => by
    simp only [Op.bytesLess, Bool.or_eq_false_iff, Bool.and_eq_false_iff, decide_eq_false_iff_not] at h
    by_cases hab : a = b
    · subst hab
      rcases h.2 with h2 | h2
      · simp at h2
      · rcases less_total as bs h2 with rfl | h3
        · exact .inl rfl
        · exact .inr (by simp [Op.bytesLess, h3])
    · right
      have : b < a := by
        rcases UInt8.lt_or_eq_of_le (UInt8.not_lt.1 h.1) with h4 | h4
        · exact h4
        · exact absurd h4.symm hab
      simp [Op.bytesLess, this]
/-- Greater as texts is greater as numbers, at one width. -/
theorem gt_val {a b : List UInt8} (hl : a.length = b.length) (ha : ∀ c ∈ a, isDig c = true) (hb : ∀ c ∈ b, isDig c = true) : gtB a b = true ↔ valN b < valN a := by
  unfold gtB
  constructor
  · intro h
    simp only [Bool.and_eq_true, Bool.not_eq_true', beq_eq_false_iff_ne] at h
    rcases less_total a b h.1 with h1 | h1
    · exact absurd h1 h.2
    · exact less_val b a hl.symm hb ha h1
  · intro h
    simp only [Bool.and_eq_true, Bool.not_eq_true', beq_eq_false_iff_ne]
    constructor
    · cases hc : Op.bytesLess a b
      · rfl
      · have := less_val a b hl ha hb hc; omega
    · intro e; subst e; omega

theorem top_digits (m : Bool) : ∀ c ∈ topL m, isDig c = true := by cases m <;> decide
theorem top_length (m : Bool) : (topL m).length = 19 := by cases m <;> rfl
theorem top_val (m : Bool) : valN (topL m) = if m then 9223372036854775808 else 9223372036854775807 := by cases m <;> decide

/-! ### What is read is what is written of an int -/
theorem first_digit {l : List UInt8} (hall : ∀ c ∈ dropMinus l, isDig c = true) (hne : dropMinus l ≠ []) : (isMinus l = true ∧ l = 45 :: dropMinus l) ∨ (isMinus l = false ∧ dropMinus l = l) := by
  cases l with
  | nil => exact absurd rfl hne
  | cons c t =>
    by_cases h : (c.toNat : Int) = 45
    · left
      unfold isMinus dropMinus
      simp [h]
      exact (byte_eq (n := 45) (by omega)).1 h
    · right
      unfold isMinus dropMinus
      simp [h]

/-- A text that is Put of no int of 64 bits is of no form. -/
theorem readL_none {l : List UInt8} (h : ∀ v : Int, -9223372036854775808 ≤ v → v ≤ 9223372036854775807 → putL v ≠ l) : readL l = (0, 4) := by
  unfold readL
  split
  · rfl
  · rename_i hn
    have hne : dropMinus l ≠ [] := fun e => hn (.inl e)
    have hlen : ¬ 19 < (dropMinus l).length := fun e => hn (.inr (.inl e))
    have hcnt : countN (dropMinus l) = (dropMinus l).length := Classical.byContradiction fun e => hn (.inr (.inr (.inl e)))
    have hzero : ¬ ((dropMinus l)[0]? = some 48 ∧ l ≠ [48]) := fun e => hn (.inr (.inr (.inr e)))
    have hall := count_full hcnt
    unfold wholeL
    split
    · rfl
    · rename_i ht
      exfalso
      -- the digits' number is no greater than may be
      have hle : valN (dropMinus l) ≤ if isMinus l then 9223372036854775808 else 9223372036854775807 := by
        by_cases h19 : (dropMinus l).length = 19
        · have h1 := gt_val (a := dropMinus l) (b := topL (isMinus l)) (by rw [top_length]; exact h19) hall (top_digits _)
          rw [top_val] at h1
          have h2 : ¬ gtB (dropMinus l) (topL (isMinus l)) = true := fun e => ht ⟨h19, e⟩
          rw [h1] at h2; omega
        · have h1 := valN_lt _ hall
          have h2 : (10 : Nat) ^ (dropMinus l).length ≤ 10 ^ 18 := Nat.pow_le_pow_right (by omega) (by omega)
          have h3 : (10 : Nat) ^ 18 = 1000000000000000000 := by decide
          split <;> omega
      by_cases h48 : (dropMinus l)[0]? = some 48
      · have hl : l = [48] := Classical.byContradiction fun e => hzero ⟨h48, e⟩
        exact h 0 (by omega) (by omega) (by rw [hl]; unfold putL; rw [if_neg (by omega)]; exact decN_low (by decide))
      · have hd := decN_val _ _ rfl hall hne (.inr h48)
        rcases first_digit hall hne with ⟨hm, hl⟩ | ⟨hm, hl⟩
        · rw [hm] at hle
          simp only [if_true] at hle
          have hpos : 0 < valN (dropMinus l) := by
            apply Nat.pos_of_ne_zero
            intro e
            rw [e, decN_low (by omega)] at hd
            apply h48; rw [← hd]; rfl
          exact h (-(valN (dropMinus l) : Int)) (by omega) (by omega) (by
            unfold putL; rw [if_pos (by omega)]
            have e1 : (-(valN (dropMinus l) : Int)).natAbs = valN (dropMinus l) := by omega
            rw [e1, hd]; exact hl.symm)
        · rw [hm] at hle
          simp only [Bool.false_eq_true, if_false] at hle
          exact h (valN (dropMinus l) : Int) (by omega) (by omega) (by
            unfold putL; rw [if_neg (by omega)]
            have e1 : ((valN (dropMinus l) : Int)).natAbs = valN (dropMinus l) := by omega
            rw [e1, hd]; exact hl)

/-- What is Put of an int of 64 bits, but out of range. -/
theorem fixL_over (n : Nat) (h : 2147483647 < n) : fixL (decN n) = (0, 3) :=
  fixL_big (decN_ne n) (count_all (decN_digits n)) (by rw [valN_dec]; exact h)
theorem looseL_over_pos (n : Nat) (h : 2147483647 < n) : looseL (decN n) = (0, 3) := by
  obtain ⟨c, t, e, h1, _⟩ := decN_first n
  have hf := fixL_over n h
  rw [e] at hf ⊢
  obtain ⟨h2, h3⟩ := digit_not_sign h1
  show (if (c.toNat : Int) = 45 then _ else _) = _
  rw [if_neg h2, if_neg h3]; exact hf
theorem looseL_over_neg (n : Nat) (h : 2147483647 < n) : looseL (45 :: decN n) = (0, 3) := by
  have e : looseL (45 :: decN n) = (-(fixL (decN n)).1, (fixL (decN n)).2) := rfl
  rw [e, fixL_over n h]; rfl
theorem read_big {l : List UInt8} {n : Nat} (hd : dropMinus l = decN n) (h : n ≤ if isMinus l then 9223372036854775808 else 9223372036854775807) (h0 : n = 0 → l = [48]) : readL l = looseL l := by
  have hlen := decN_19 n (by split at h <;> omega)
  unfold readL
  rw [if_neg]
  · unfold wholeL
    rw [if_neg]
    rw [hd]; rintro ⟨a, b⟩
    have h1 := (gt_val (a := decN n) (b := topL (isMinus l)) (by rw [top_length]; exact a) (decN_digits n) (top_digits _)).1 b
    rw [top_val, valN_dec] at h1
    omega
  · rw [hd]
    rintro (a | a | a | ⟨a, b⟩)
    · exact decN_ne n a
    · omega
    · exact a (count_all (decN_digits n))
    · obtain ⟨c, t, e, h1, h2⟩ := decN_first n
      rw [e] at a
      simp at a
      by_cases hn : 0 < n
      · exact h2 hn a
      · exact b (h0 (by omega))
theorem isMinus_neg (l : List UInt8) : isMinus (45 :: l) = true := rfl
theorem isMinus_dec (n : Nat) : isMinus (decN n) = false := by
  obtain ⟨c, t, e, h1, _⟩ := decN_first n
  rw [e]
  unfold isMinus
  exact decide_eq_false (digit_not_sign h1).1
theorem read_over (x : Int) (h0 : -9223372036854775808 ≤ x) (h1 : x ≤ 9223372036854775807) (hx : x < -2147483647 ∨ 2147483647 < x) : readL (putL x) = (0, 3) := by
  unfold putL
  split
  · rw [read_big (dropMinus_neg _) (by rw [isMinus_neg]; simp; omega) (fun e => by omega), looseL_over_neg _ (by omega)]
  · rw [read_big (dropMinus_dec _) (by rw [isMinus_dec]; simp; omega) (fun e => by omega), looseL_over_pos _ (by omega)]

/-! ### The library's numerals -/
theorem decDigits_is (u : Nat) : Lib.decDigits u = decN u := by
  induction u using Nat.strongRecOn with
  | _ u ih =>
    rw [Lib.decDigits]
    by_cases h : u < 10
    · rw [dif_pos h, decN_low h]; rfl
    · rw [dif_neg h, decN_high h, ih (u / 10) (by omega)]; rfl
theorem itoa_is (n : Int) : Lib.itoa n = putL n := by
  unfold Lib.itoa putL
  rw [decDigits_is, decDigits_is]
  split
  · rfl
  · congr 1; omega

theorem parse_digits : ∀ (l : List UInt8) (acc : Nat), (∀ c ∈ l, isDig c = true) → l.foldl (fun a c => 10 * a + (c.toNat - 48)) acc < 18446744073709551616 →
    Lib.parseUint10 acc l = .ok (l.foldl (fun a c => 10 * a + (c.toNat - 48)) acc)
  | [], acc, _, _ => rfl
  | c :: l, acc, hall, h => by
    have h1 := isDig_of (hall c (by simp))
    rw [List.foldl_cons] at h ⊢
    have h2 : 10 * acc + (c.toNat - 48) < 18446744073709551616 := by
      rw [foldl_from] at h
      have h4 : 1 ≤ 10 ^ l.length := Nat.one_le_pow _ _ (by omega)
      have h5 : (10 * acc + (c.toNat - 48)) * 1 ≤ (10 * acc + (c.toNat - 48)) * 10 ^ l.length := Nat.mul_le_mul_left _ h4
      omega
    have e : acc * 10 = 10 * acc := Nat.mul_comm _ _
    unfold Lib.parseUint10
    rw [if_pos ⟨by omega, by omega⟩, if_neg (by omega), if_neg (by omega), e]
    exact parse_digits l _ (fun x hx => hall x (by simp [hx])) h
theorem mag_dec (n : Nat) (h : n < 18446744073709551616) : Lib.parseMag (decN n) = .ok n := by
  unfold Lib.parseMag
  rw [if_neg (decN_ne n)]
  have h1 := valN_dec n
  unfold valN at h1
  rw [parse_digits _ _ (decN_digits n) (by rw [h1]; exact h), h1]
/-- Atoi of what is written is the number. -/
theorem atoi_put (v : Int) (h0 : -9223372036854775808 ≤ v) (h1 : v ≤ 9223372036854775807) : Lib.atoiAll (putL v) = .ok v := by
  unfold putL
  split
  · unfold Lib.atoiAll
    have e : (45 : UInt8).toNat = 45 := rfl
    simp only [e, or_true, if_true, mag_dec _ (show v.natAbs < 18446744073709551616 by omega)]
    rw [if_neg (by simp), if_neg (by simp; omega)]
    simp; omega
  · obtain ⟨c, t, e, hc, _⟩ := decN_first v.natAbs
    have hm := mag_dec v.natAbs (by omega)
    rw [e] at hm ⊢
    have h2 := isDig_of hc
    unfold Lib.atoiAll
    have n1 : ¬ c.toNat = 43 := by omega
    have n2 : ¬ c.toNat = 45 := by omega
    simp only [n1, n2, or_self, if_false, hm]
    rw [if_neg (by simp; omega), if_neg (by simp)]
    simp; omega

/-- How Read goes by way of Atoi. -/
theorem read_ok {l : List UInt8} {v : Int} (h0 : -2147483647 ≤ v) (h1 : v ≤ 2147483647) (hp : putL v = l) : readL l = (v, 0) := by rw [← hp]; exact read_put v h0 h1
theorem read_far {l : List UInt8} {v : Int} (h0 : -9223372036854775808 ≤ v) (h1 : v ≤ 9223372036854775807) (hx : v < -2147483647 ∨ 2147483647 < v) (hp : putL v = l) : readL l = (0, 3) := by rw [← hp]; exact read_over v h0 h1 hx
theorem read_other {l : List UInt8} {v : Int} (ha : Lib.atoiAll l = .ok v) (hp : ¬ putL v = l) : readL l = (0, 4) := by
  refine readL_none fun u hu0 hu1 e => ?_
  have := atoi_put u hu0 hu1
  rw [e, ha] at this
  have : v = u := by injection this
  subst this; exact hp e
theorem read_syntax {l : List UInt8} (ha : ∀ v, Lib.atoiAll l ≠ .ok v) : readL l = (0, 4) := by
  refine readL_none fun u hu0 hu1 e => ?_
  have := atoi_put u hu0 hu1
  rw [e] at this
  exact ha u this

end Go.Proofs.YtejgcnmbngdkiaaGreatDoor
