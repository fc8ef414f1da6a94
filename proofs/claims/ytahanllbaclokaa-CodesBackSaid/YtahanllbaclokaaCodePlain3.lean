/-
  Codes told length by length, symbol by symbol: plain facts, no program in sight.
-/
import Derived.Test.YtahanllbaclokaaCodePlain2
namespace Go.Proofs.Ytahanllbaclokaa

/-- The number that is told next, when the first so many symbols of a length were looked at. -/
def nextC (ns : List Nat) (n j : Nat) : Nat := 2 * endC ns n + (ns.take j).count (n + 1)
/-- Was its code told? So many lengths are done, and of the next one so many symbols. -/
def toldC (n j l i : Nat) : Bool := decide (1 ≤ l ∧ (l ≤ n ∨ (l = n + 1 ∧ i < j)))
def partAt (ns : List Nat) (n j i : Nat) : Nat := if toldC n j (ns[i]?.getD 0) i then codeAt ns i else 0
def partC (ns : List Nat) (n j : Nat) : List Nat := (List.range ns.length).map (partAt ns n j)
theorem partC_length (ns : List Nat) (n j : Nat) : (partC ns n j).length = ns.length := by simp [partC]
theorem partC_get {ns : List Nat} {n j i : Nat} (h : i < ns.length) : (partC ns n j)[i]? = some (partAt ns n j i) := by simp [partC, h]
theorem partC_ext {ns : List Nat} {l : List Nat} {n j : Nat} (hl : l.length = ns.length) (h : ∀ i, i < ns.length → l[i]? = some (partAt ns n j i)) : l = partC ns n j := by
  refine List.ext_getElem? fun i => ?_
  rcases Nat.lt_or_ge i ns.length with hi | hi
  · rw [h i hi, partC_get hi]
  · rw [List.getElem?_eq_none (by omega), List.getElem?_eq_none (by rw [partC_length]; omega)]
theorem partC_none (ns : List Nat) : List.replicate ns.length 0 = partC ns 0 0 := by
  refine partC_ext (by simp) fun i hi => ?_
  rw [List.getElem?_replicate, if_pos hi]
  congr 1
  unfold partAt toldC
  rw [if_neg (by simp; omega)]
theorem partC_next (ns : List Nat) (n : Nat) : partC ns n ns.length = partC ns (n + 1) 0 := by
  refine partC_ext (partC_length _ _ _) fun i hi => ?_
  rw [partC_get hi]
  congr 1
  unfold partAt
  congr 1
  unfold toldC
  simp only [decide_eq_true_eq]
  apply propext
  omega
theorem partC_all {ns : List Nat} {n : Nat} (h : ∀ l ∈ ns, l ≤ n) : partC ns n 0 = codesN ns := by
  refine (partC_ext (codesN_length ns) fun i hi => ?_).symm
  rw [codesN_at hi]
  congr 1
  unfold partAt toldC codeAt
  have hm := h _ (List.getElem_mem hi)
  rw [List.getElem?_eq_getElem hi]
  cases hns : ns[i] with
  | zero => simp
  | succ m =>
    rw [hns] at hm
    simp only [Option.getD_some]
    rw [if_pos (by simp; omega)]
theorem partC_miss {ns : List Nat} {n j : Nat} (h : ns[j]?.getD 0 ≠ n + 1) : partC ns n j = partC ns n (j + 1) := by
  refine partC_ext (partC_length _ _ _) fun i hi => ?_
  rw [partC_get hi]
  congr 1
  unfold partAt
  congr 1
  unfold toldC
  simp only [decide_eq_true_eq]
  apply propext
  by_cases hij : i = j
  · subst hij; omega
  · omega
theorem partC_hit {ns : List Nat} {n j : Nat} (hj : j < ns.length) (h : ns[j]?.getD 0 = n + 1) : (partC ns n j).set j (nextC ns n j) = partC ns n (j + 1) := by
  refine partC_ext (by rw [List.length_set, partC_length]) fun i hi => ?_
  rw [List.getElem?_set]
  by_cases hij : j = i
  · subst hij
    rw [if_pos rfl, if_pos (by rw [partC_length]; exact hj)]
    congr 1
    have hs : ns[j]? = some (n + 1) := by rw [List.getElem?_eq_getElem hj] at h ⊢; simpa using h
    unfold partAt toldC
    rw [h, if_pos (by simp), codeAt_some hs]; rfl
  · rw [if_neg hij, partC_get hi]
    congr 1
    unfold partAt
    congr 1
    unfold toldC
    simp only [decide_eq_true_eq]
    apply propext
    omega
theorem nextC_zero (ns : List Nat) (n : Nat) : nextC ns n 0 = 2 * endC ns n := by simp [nextC]
theorem nextC_end (ns : List Nat) (n : Nat) : nextC ns n ns.length = endC ns (n + 1) := by unfold nextC; rw [List.take_length]; rfl
theorem nextC_miss {ns : List Nat} {n j : Nat} (h : ns[j]?.getD 0 ≠ n + 1) (hj : j < ns.length) : nextC ns n (j + 1) = nextC ns n j := by
  unfold nextC
  rw [List.getElem?_eq_getElem hj] at h
  have e : [ns[j]].count (n + 1) = 0 := List.count_eq_zero.2 (by simpa using Ne.symm h)
  rw [List.take_succ_eq_append_getElem hj, List.count_append, e]; rfl
theorem nextC_hit {ns : List Nat} {n j : Nat} (h : ns[j]?.getD 0 = n + 1) (hj : j < ns.length) : nextC ns n (j + 1) = nextC ns n j + 1 := by
  unfold nextC
  rw [List.getElem?_eq_getElem hj] at h
  simp only [Option.getD_some] at h
  rw [List.take_succ_eq_append_getElem hj, List.count_append, h, List.count_singleton_self]; rfl
theorem nextC_le (ns : List Nat) (n j : Nat) : nextC ns n j ≤ endC ns (n + 1) := by
  have h : (ns.take j).count (n + 1) ≤ ns.count (n + 1) := (List.take_sublist j ns).count_le (n + 1)
  unfold nextC
  rw [endC]; omega
/-- The lengths, as naturals. -/
def natsOf (ls : List Int) : List Nat := ls.map Int.toNat
theorem natsOf_length (ls : List Int) : (natsOf ls).length = ls.length := by simp [natsOf]
theorem natsOf_at {ls : List Int} {j : Nat} (h : j < ls.length) : (natsOf ls)[j]?.getD 0 = (ls[j]?.getD 0).toNat := by
  unfold natsOf
  rw [List.getElem?_map, List.getElem?_eq_getElem h]; rfl
theorem natsOf_le {ls : List Int} (h : ∀ l ∈ ls, 0 ≤ l ∧ l ≤ 15) : ∀ l ∈ natsOf ls, l ≤ 15 := by
  intro l hl
  unfold natsOf at hl
  obtain ⟨x, hx, rfl⟩ := List.mem_map.1 hl
  have := h x hx
  omega
theorem endC_small {ls : List Int} (h : ∀ l ∈ ls, 0 ≤ l ∧ l ≤ 15) (hk : kraft ls ≤ 32768) {n : Nat} (hn : n ≤ 15) : endC (natsOf ls) n ≤ 32768 := by
  have h1 := endC_le h hk hn
  have h2 : (2 : Nat) ^ n ≤ 2 ^ 15 := Nat.pow_le_pow_right (by omega) hn
  unfold natsOf
  omega
end Go.Proofs.Ytahanllbaclokaa
