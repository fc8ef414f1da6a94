/-
  What is written is read again: plain facts.
-/
import Derived.Test.YtccjpiomfngalaaDoorDPlain
namespace Go.Proofs.YtccjpiomfngalaaDoor

theorem dig_toNat (n : Nat) (h : n < 10) : (dig n).toNat = 48 + n := by
  have : ∀ k : Fin 10, (dig k.1).toNat = 48 + k.1 := by decide
  exact this ⟨n, h⟩
theorem dig_isDig (n : Nat) (h : n < 10) : isDig (dig n) = true := by
  apply isDig_yes <;> rw [dig_toNat n h] <;> omega
theorem decN_digits : ∀ (n : Nat), ∀ c ∈ decN n, isDig c = true := by
  intro n
  induction n using Nat.strongRecOn with
  | _ n ih =>
    intro c hc
    by_cases h : n < 10
    · rw [decN_low h] at hc; simp at hc; subst hc; exact dig_isDig n h
    · rw [decN_high h, List.mem_append] at hc
      rcases hc with hc | hc
      · exact ih (n / 10) (by omega) c hc
      · simp at hc; subst hc; exact dig_isDig _ (by omega)
theorem valN_dec (n : Nat) : valN (decN n) = n := by
  induction n using Nat.strongRecOn with
  | _ n ih =>
    by_cases h : n < 10
    · rw [decN_low h]
      have := valN_snoc [] (dig n)
      simp [valN] at this ⊢
      rw [dig_toNat n h]; omega
    · rw [decN_high h, valN_snoc, ih (n / 10) (by omega), dig_toNat _ (by omega)]; omega
theorem count_all {l : List UInt8} (h : ∀ c ∈ l, isDig c = true) : countN l = l.length := by
  induction l with
  | nil => rfl
  | cons x l ih =>
    unfold countN
    rw [List.takeWhile_cons_of_pos (h x (by simp))]
    have := ih (fun c hc => h c (by simp [hc]))
    unfold countN at this
    simp [this]
theorem decN_first (n : Nat) : ∃ c t, decN n = c :: t ∧ isDig c = true ∧ (0 < n → ¬ c = 48) := by
  induction n using Nat.strongRecOn with
  | _ n ih =>
    by_cases h : n < 10
    · refine ⟨dig n, [], decN_low h, dig_isDig n h, fun h0 e => ?_⟩
      have := congrArg UInt8.toNat e
      rw [dig_toNat n h] at this
      simp at this; omega
    · obtain ⟨c, t, e, h1, h2⟩ := ih (n / 10) (by omega)
      exact ⟨c, t ++ [dig (n % 10)], by rw [decN_high h, e]; rfl, h1, fun _ => h2 (by omega)⟩
theorem decN_10 (n : Nat) (h : n ≤ 2147483647) : (decN n).length ≤ 10 := decN_len 9 n (by omega)

theorem fixL_dec (n : Nat) (h : n ≤ 2147483647) : fixL (decN n) = ((n : Int), 0) := by
  have := fixL_ok (decN_ne n) (count_all (decN_digits n)) (by rw [valN_dec]; exact h)
  rw [valN_dec] at this; exact this
theorem digit_not_sign {c : UInt8} (h : isDig c = true) : ¬ (c.toNat : Int) = 45 ∧ ¬ (c.toNat : Int) = 43 := by
  have := isDig_of h; omega
theorem looseL_dec (n : Nat) (h : n ≤ 2147483647) : looseL (decN n) = ((n : Int), 0) := by
  obtain ⟨c, t, e, h1, _⟩ := decN_first n
  have hf := fixL_dec n h
  rw [e] at hf ⊢
  obtain ⟨h2, h3⟩ := digit_not_sign h1
  show (if (c.toNat : Int) = 45 then _ else _) = _
  rw [if_neg h2, if_neg h3]; exact hf
theorem looseL_neg (n : Nat) (h : n ≤ 2147483647) : looseL (45 :: decN n) = (-(n : Int), 0) := by
  have e : looseL (45 :: decN n) = (-(fixL (decN n)).1, (fixL (decN n)).2) := rfl
  rw [e, fixL_dec n h]
theorem dropMinus_dec (n : Nat) : dropMinus (decN n) = decN n := by
  obtain ⟨c, t, e, h1, _⟩ := decN_first n
  rw [e]
  show (if (c.toNat : Int) = 45 then _ else _) = _
  rw [if_neg (digit_not_sign h1).1]
theorem dropMinus_neg (n : Nat) : dropMinus (45 :: decN n) = decN n := rfl
theorem read_shape {l : List UInt8} {n : Nat} (hd : dropMinus l = decN n) (h : n ≤ 2147483647) (h0 : n = 0 → l = [48]) : readL l = looseL l := by
  have hlen := decN_10 n h
  unfold readL
  rw [if_neg]
  · unfold wholeL
    rw [if_neg]
    rw [hd]; rintro ⟨a, _⟩; omega
  · rw [hd]
    rintro (a | a | a | ⟨a, b⟩)
    · exact decN_ne n a
    · omega
    · exact a (count_all (decN_digits n))
    · obtain ⟨c, t, e, h1, h2⟩ := decN_first n
      rw [e] at a
      simp at a
      by_cases hn : 0 < n
      · exact h2 hn a
      · exact b (h0 (by omega))

/-- What is written is read as the same number, strictly and loosely. -/
theorem loose_put (x : Int) (h0 : -2147483647 ≤ x) (h1 : x ≤ 2147483647) : looseL (putL x) = (x, 0) := by
  unfold putL
  split
  · rw [looseL_neg _ (by omega)]; congr 1; omega
  · rw [looseL_dec _ (by omega)]; congr 1; omega
theorem read_put (x : Int) (h0 : -2147483647 ≤ x) (h1 : x ≤ 2147483647) : readL (putL x) = (x, 0) := by
  rw [← loose_put x h0 h1]
  unfold putL
  split
  · exact read_shape (dropMinus_neg _) (by omega) (fun e => by omega)
  · exact read_shape (dropMinus_dec _) (by omega) (fun e => by rw [e, decN_low (by omega)]; rfl)

theorem valN_noughts (j : Nat) (l : List UInt8) : valN (List.replicate j 48 ++ l) = valN l := by
  have h : valN (List.replicate j 48) = 0 := by
    induction j with
    | zero => rfl
    | succ j ih => rw [List.replicate_succ', valN_snoc, ih]; rfl
  unfold valN at h ⊢
  rw [List.foldl_append, h]
/-- What is padded has its width, is digits alone, and is read as the number. -/
theorem pad_back {x w : Int} (hx : x ≤ 2147483647) {s : List UInt8} (h : padL x w = (s, 0)) :
    (s.length : Int) = w ∧ countN s = s.length ∧ fixL s = (x, 0) := by
  unfold padL at h
  split at h
  · simp at h
  · rename_i hw
    split at h
    · simp at h
    · rename_i hr
      simp only [Prod.mk.injEq, and_true] at h
      have hx0 : ¬ x < 0 := by omega
      have hp : putL x = decN x.natAbs := by unfold putL; rw [if_neg hx0]
      rw [hp] at h hr
      have hall : ∀ c ∈ s, isDig c = true := by
        intro c hc
        rw [← h, List.mem_append] at hc
        rcases hc with hc | hc
        · rw [List.eq_of_mem_replicate hc]; rfl
        · exact decN_digits _ c hc
      have hlen : s.length = (w.toNat - (decN x.natAbs).length) + (decN x.natAbs).length := by rw [← h]; simp
      refine ⟨by omega, count_all hall, ?_⟩
      have hv : valN s = x.natAbs := by rw [← h, valN_noughts, valN_dec]
      have hne : s ≠ [] := by
        intro e; rw [e] at hlen; simp at hlen
        have := decN_ne x.natAbs
        exact this (List.eq_nil_of_length_eq_zero (by omega))
      rw [fixL_ok hne (count_all hall) (by rw [hv]; omega), hv]
      congr 1; omega
/-- Where it is not padded: no text, and why. -/
theorem pad_not {x w : Int} {s : List UInt8} {e : Int} (h : padL x w = (s, e)) (he : ¬ e = 0) : s = [] ∧ (w < 1 ∨ 20 < w ∨ x < 0 ∨ w < ((putL x).length : Int)) := by
  unfold padL at h
  split at h
  · rename_i hw; simp only [Prod.mk.injEq] at h
    exact ⟨h.1.symm, by omega⟩
  · split at h
    · rename_i hr; simp only [Prod.mk.injEq] at h
      exact ⟨h.1.symm, by omega⟩
    · simp only [Prod.mk.injEq] at h; exact absurd h.2.symm he

end Go.Proofs.YtccjpiomfngalaaDoor
