/-
  Codes by their lengths alone: plain facts, no program in sight.
-/
import Derived.Test.YtahanllbaclokaaBitPlain
namespace Go.Proofs.Ytahanllbaclokaa

/-- What a code of so many bits takes, in parts of 2 to 15. -/
def partK (l : Int) : Nat := if l ≤ 0 then 0 else 2 ^ (15 - l.toNat)
def kraft (ls : List Int) : Nat := (ls.map partK).sum
theorem kraft_nil : kraft [] = 0 := rfl
theorem kraft_snoc (ls : List Int) (l : Int) : kraft (ls ++ [l]) = kraft ls + partK l := by simp [kraft]
theorem kraft_cons (ls : List Int) (l : Int) : kraft (l :: ls) = partK l + kraft ls := by simp [kraft]
theorem partK_le (l : Int) : partK l ≤ 32768 := by
  unfold partK
  split
  · omega
  · have : (2 : Nat) ^ (15 - l.toNat) ≤ 2 ^ 15 := Nat.pow_le_pow_right (by omega) (by omega)
    omega
theorem kraft_le : ∀ ls : List Int, kraft ls ≤ 32768 * ls.length
  | [] => by simp [kraft]
  | l :: ls => by
    have h1 := partK_le l
    have h2 := kraft_le ls
    rw [kraft_cons, List.length_cons]; omega
/-- May there be such a length? -/
def okL (l : Int) : Bool := decide (0 ≤ l ∧ l ≤ 15)
def checkZ (ls : List Int) : Int :=
  if 320 < ls.length then 2 else if ls.all okL then (if kraft ls = 0 then 12 else if 32768 < kraft ls then 7 else if kraft ls < 32768 then 5 else 0) else 3
def refusedZ (ls : List Int) : Int := if checkZ ls = 12 ∨ checkZ ls = 5 then 0 else checkZ ls
theorem refusedZ_zero {ls : List Int} (h : refusedZ ls = 0) : ls.length ≤ 320 ∧ (∀ l ∈ ls, 0 ≤ l ∧ l ≤ 15) ∧ kraft ls ≤ 32768 := by
  unfold refusedZ checkZ at h
  by_cases h1 : 320 < ls.length
  · simp [h1] at h
  · by_cases h2 : ls.all okL = true
    · refine ⟨by omega, fun l hl => by have := List.all_eq_true.1 h2 l hl; unfold okL at this; simpa using this, ?_⟩
      rw [if_neg h1, if_pos h2] at h
      by_cases h3 : kraft ls = 0
      · omega
      · by_cases h4 : 32768 < kraft ls
        · simp [h3, h4] at h
        · omega
    · simp [h1, h2] at h

/-- How many codes are told when a length is done: the number behind its last one. -/
def endC (ns : List Nat) : Nat → Nat
  | 0 => 0
  | n + 1 => 2 * endC ns n + ns.count (n + 1)
/-- The code of a symbol. -/
def codeAt (ns : List Nat) (i : Nat) : Nat :=
  match ns[i]? with
  | some (n + 1) => 2 * endC ns n + (ns.take i).count (n + 1)
  | _ => 0
def codesN (ns : List Nat) : List Nat := (List.range ns.length).map (codeAt ns)
theorem codesN_length (ns : List Nat) : (codesN ns).length = ns.length := by simp [codesN]
theorem codesN_at {ns : List Nat} {i : Nat} (h : i < ns.length) : (codesN ns)[i]? = some (codeAt ns i) := by simp [codesN, h]
theorem codeAt_some {ns : List Nat} {i n : Nat} (h : ns[i]? = some (n + 1)) : codeAt ns i = 2 * endC ns n + (ns.take i).count (n + 1) := by unfold codeAt; rw [h]
/-- So much is taken by the lengths up to one. -/
def upTo (ns : List Nat) (n : Nat) : Nat := (ns.map fun l => if 1 ≤ l ∧ l ≤ n then 2 ^ (15 - l) else 0).sum
theorem upTo_zero (ns : List Nat) : upTo ns 0 = 0 := by
  unfold upTo
  induction ns with
  | nil => rfl
  | cons l ls ih => simp at ih ⊢; omega
theorem upTo_succ (ns : List Nat) (n : Nat) : upTo ns (n + 1) = upTo ns n + ns.count (n + 1) * 2 ^ (15 - (n + 1)) := by
  induction ns with
  | nil => simp [upTo]
  | cons l ls ih =>
    unfold upTo at ih ⊢
    rw [List.map_cons, List.sum_cons, List.map_cons, List.sum_cons, ih, List.count_cons]
    by_cases h : l = n + 1
    · subst h
      rw [if_pos (by omega), if_neg (by omega)]
      simp only [beq_self_eq_true, if_true, Nat.add_mul, Nat.one_mul]
      omega
    · have e : (l == n + 1) = false := by simpa using h
      rw [e]
      by_cases h1 : 1 ≤ l ∧ l ≤ n
      · rw [if_pos (by omega), if_pos h1]; simp only [Bool.false_eq_true, if_false, Nat.add_zero]; omega
      · rw [if_neg (by omega), if_neg h1]; simp only [Bool.false_eq_true, if_false, Nat.add_zero]; omega
theorem endC_upTo (ns : List Nat) : ∀ n, n ≤ 15 → endC ns n * 2 ^ (15 - n) = upTo ns n
  | 0, _ => by rw [upTo_zero]; simp [endC]
  | n + 1, h => by
    rw [upTo_succ, ← endC_upTo ns n (by omega), endC, Nat.add_mul]
    congr 1
    rw [show 15 - n = (15 - (n + 1)) + 1 by omega, Nat.pow_succ, Nat.mul_comm 2 (endC ns n), Nat.mul_assoc, Nat.mul_comm 2]
theorem upTo_kraft : ∀ (ls : List Int) (n : Nat), (∀ l ∈ ls, 0 ≤ l ∧ l ≤ 15) → upTo (ls.map Int.toNat) n ≤ kraft ls
  | [], n, _ => by simp [upTo, kraft]
  | l :: ls, n, h => by
    have ih := upTo_kraft ls n fun x hx => h x (by simp [hx])
    have hl := h l (by simp)
    unfold upTo at ih ⊢
    rw [List.map_cons, List.map_cons, List.sum_cons, kraft_cons]
    have h1 : (if 1 ≤ l.toNat ∧ l.toNat ≤ n then 2 ^ (15 - l.toNat) else 0) ≤ partK l := by
      unfold partK
      by_cases h0 : l ≤ 0
      · rw [if_neg (by omega)]; exact Nat.zero_le _
      · rw [if_neg h0]
        split
        · exact Nat.le_refl _
        · exact Nat.zero_le _
    omega
/-- All codes of a length fit into it. -/
theorem endC_le {ls : List Int} (h : ∀ l ∈ ls, 0 ≤ l ∧ l ≤ 15) (hk : kraft ls ≤ 32768) {n : Nat} (hn : n ≤ 15) : endC (ls.map Int.toNat) n ≤ 2 ^ n := by
  have h1 := endC_upTo (ls.map Int.toNat) n hn
  have h2 := upTo_kraft ls n h
  have h3 : (2 : Nat) ^ n * 2 ^ (15 - n) = 32768 := by rw [← Nat.pow_add, show n + (15 - n) = 15 by omega]
  have h4 : 0 < 2 ^ (15 - n) := Nat.pow_pos (by omega)
  refine Nat.le_of_mul_le_mul_right (c := 2 ^ (15 - n)) ?_ h4
  rw [h1, h3]; omega
theorem count_take_lt {ns : List Nat} {i n : Nat} (h : ns[i]? = some n) : (ns.take i).count n + 1 ≤ ns.count n := by
  obtain ⟨h1, h2⟩ := List.getElem?_eq_some_iff.1 h
  have e : ns = ns.take i ++ ns[i] :: ns.drop (i + 1) := by
    conv => lhs; rw [← List.take_append_drop i ns]
    rw [List.drop_eq_getElem_cons h1]
  conv => rhs; rw [e]
  rw [List.count_append, h2, List.count_cons_self]; omega
theorem count_take_less {ns : List Nat} {i k n : Nat} (hik : i < k) (h : ns[i]? = some n) : (ns.take i).count n + 1 ≤ (ns.take k).count n := by
  have h2 : (ns.take k)[i]? = some n := by rw [List.getElem?_take, if_pos hik]; exact h
  have h3 := count_take_lt h2
  rwa [List.take_take, Nat.min_eq_left (by omega)] at h3
/-- A code's number: behind the first one of its length, ahead of the end. -/
theorem codeAt_range {ns : List Nat} {i n : Nat} (h : ns[i]? = some (n + 1)) : 2 * endC ns n ≤ codeAt ns i ∧ codeAt ns i < endC ns (n + 1) := by
  have := count_take_lt h
  rw [codeAt_some h, endC]; omega
theorem codeAt_lt {ls : List Int} (h : ∀ l ∈ ls, 0 ≤ l ∧ l ≤ 15) (hk : kraft ls ≤ 32768) {i n : Nat} (hi : (ls.map Int.toNat)[i]? = some (n + 1)) : n + 1 ≤ 15 ∧ codeAt (ls.map Int.toNat) i < 2 ^ (n + 1) := by
  have hn : n + 1 ≤ 15 := by
    rw [List.getElem?_map] at hi
    obtain ⟨l, hl, he⟩ := Option.map_eq_some_iff.1 hi
    have := h l (List.mem_of_getElem? hl)
    omega
  have h1 := (codeAt_range hi).2
  have h2 := endC_le h hk hn
  exact ⟨hn, by omega⟩
/-- The end of a length, so many lengths on: at most what comes first there. -/
theorem endC_shift (ns : List Nat) (n : Nat) : ∀ d, endC ns n * 2 ^ d ≤ endC ns (n + d)
  | 0 => by simp
  | d + 1 => by
    have := endC_shift ns n d
    rw [show n + (d + 1) = (n + d) + 1 by omega, endC, Nat.pow_succ, ← Nat.mul_assoc]; omega
/-- No code begins with another one. -/
theorem no_prefix {ns : List Nat} {i k n m : Nat} (hi : ns[i]? = some (n + 1)) (hk : ns[k]? = some (m + 1)) (hne : i ≠ k) (hnm : n ≤ m) : codeAt ns k / 2 ^ (m - n) ≠ codeAt ns i := by
  obtain ⟨d, rfl⟩ : ∃ d, m = n + d := ⟨m - n, by omega⟩
  rw [show n + d - n = d by omega]
  cases d with
  | zero =>
    rw [Nat.pow_zero, Nat.div_one]
    rw [Nat.add_zero] at hk
    rw [codeAt_some hi, codeAt_some hk]
    rcases Nat.lt_or_gt_of_ne hne with h | h
    · have := count_take_less h hi; omega
    · have := count_take_less h hk; omega
  | succ d =>
    have h1 := (codeAt_range hi).2
    have h2 := (codeAt_range hk).1
    have h3 := endC_shift ns (n + 1) d
    rw [show n + 1 + d = n + (d + 1) by omega] at h3
    have h4 : endC ns (n + 1) * 2 ^ (d + 1) ≤ codeAt ns k := by rw [Nat.pow_succ, ← Nat.mul_assoc]; omega
    have h5 : endC ns (n + 1) ≤ codeAt ns k / 2 ^ (d + 1) := (Nat.le_div_iff_mul_le (Nat.pow_pos (by omega))).2 h4
    omega

end Go.Proofs.Ytahanllbaclokaa
