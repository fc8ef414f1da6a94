/-
  Where lines begin, and the first one that has a word: plain facts about lists of bytes.
-/
import Derived.Test.YtnjmapgmodoodaaPlain
namespace Go.Proofs.Ytnjmapgmodoodaa

/-- Where the line behind a place begins, or the text's end: the first end of a line from there on, and what stands behind it. -/
def IsBehind (l : List UInt8) (k b : Nat) : Prop :=
  (b = l.length ∧ ∀ j, k ≤ j → j < l.length → endsN l j = 0) ∨
  (∃ m, k ≤ m ∧ m < l.length ∧ (∀ j, k ≤ j → j < m → endsN l j = 0) ∧ 0 < endsN l m ∧ b = m + endsN l m)

theorem endsN_le (l : List UInt8) (k : Nat) (h : k < l.length) : k + endsN l k ≤ l.length := by
  unfold endsN
  split
  · rename_i hp; have := hp.length_le; simp at this; omega
  · split <;> omega

/-- The lines that begin ahead of a place. -/
def upto (l : List UInt8) (m : Nat) : List Nat := (List.range m).filter (beginsN l)
/-- Where the lines of a text begin. -/
def linesN (l : List UInt8) : List Nat := upto l l.length

theorem upto_zero (l : List UInt8) : upto l 0 = [] := rfl
theorem upto_succ (l : List UInt8) (m : Nat) : upto l (m + 1) = upto l m ++ if beginsN l m then [m] else [] := by
  unfold upto
  rw [List.range_succ, List.filter_append]
  congr 1
  cases h : beginsN l m <;> simp [h]
theorem upto_le (l : List UInt8) (m : Nat) : (upto l m).length ≤ m := by
  unfold upto
  have := List.length_filter_le (beginsN l) (List.range m)
  simpa using this

theorem upto_prefix (l : List UInt8) {a : Nat} : ∀ {b : Nat}, a ≤ b → upto l a <+: upto l b
  | 0, h => by obtain rfl : a = 0 := by omega
               exact List.prefix_refl _
  | b + 1, h => by
    by_cases e : a = b + 1
    · subst e; exact List.prefix_refl _
    · rw [upto_succ]; exact (upto_prefix l (show a ≤ b by omega)).trans (List.prefix_append _ _)
theorem upto_snoc {l : List UInt8} {k : Nat} (hb : beginsN l k = true) (hk : k < l.length) : upto l k ++ [k] <+: linesN l := by
  have : upto l k ++ [k] = upto l (k + 1) := by rw [upto_succ, hb]; rfl
  rw [this]; exact upto_prefix l hk

theorem ends_no (l : List UInt8) (j : Nat) (h : endsN l j = 0) : ¬ l[j]? = some 13 ∧ ¬ l[j]? = some 10 := by
  unfold endsN at h
  split at h
  · cases h
  · split at h
    · cases h
    · rename_i h2; exact ⟨fun e => h2 (.inl e), fun e => h2 (.inr e)⟩
theorem crlf_at (l : List UInt8) (m : Nat) : [13, 10] <+: l.drop m ↔ l[m]? = some 13 ∧ l[m + 1]? = some 10 := by
  constructor
  · intro h
    obtain ⟨t, ht⟩ := h
    have h0 : (l.drop m)[0]? = some 13 := by rw [← ht]; rfl
    have h1 : (l.drop m)[1]? = some 10 := by rw [← ht]; rfl
    rw [List.getElem?_drop] at h0 h1
    exact ⟨h0, h1⟩
  · rintro ⟨h0, h1⟩
    have e0 : l.drop m = 13 :: l.drop (m + 1) := by
      obtain ⟨hm, e⟩ := List.getElem?_eq_some_iff.1 h0
      rw [List.drop_eq_getElem_cons hm, e]
    have e1 : l.drop (m + 1) = 10 :: l.drop (m + 1 + 1) := by
      obtain ⟨hm, e⟩ := List.getElem?_eq_some_iff.1 h1
      rw [List.drop_eq_getElem_cons hm, e]
    rw [e0, e1]
    exact ⟨_, rfl⟩
theorem begins_of_succ (l : List UInt8) (j : Nat) : beginsN l (j + 1) = true ↔ j + 1 < l.length ∧ (l[j]? = some 10 ∨ (l[j]? = some 13 ∧ ¬ l[j + 1]? = some 10)) := by
  unfold beginsN
  simp only [decide_eq_true_eq, Nat.add_sub_cancel]
  constructor
  · rintro ⟨a, b | c⟩
    · omega
    · exact ⟨a, c⟩
  · rintro ⟨a, c⟩; exact ⟨a, .inr c⟩

theorem upto_gap (l : List UInt8) (k : Nat) (hb : beginsN l k = true) : ∀ d, (∀ j, k < j → j < k + 1 + d → beginsN l j = false) → upto l (k + 1 + d) = upto l k ++ [k]
  | 0, _ => by rw [Nat.add_zero, upto_succ, hb]; rfl
  | d + 1, h => by
    rw [show k + 1 + (d + 1) = (k + 1 + d) + 1 from rfl, upto_succ, h (k + 1 + d) (by omega) (by omega), upto_gap l k hb d (fun j h1 h2 => h j h1 (by omega))]
    simp

theorem behind_step {l : List UInt8} {k b : Nat} (hk : k < l.length) (hb : beginsN l k = true) (h : IsBehind l k b) :
    upto l b = upto l k ++ [k] ∧ k < b ∧ b ≤ l.length ∧ (b < l.length → beginsN l b = true) := by
  have main : k < b ∧ b ≤ l.length ∧ (b < l.length → beginsN l b = true) ∧ ∀ j, k < j → j < b → beginsN l j = false := by
    have no : ∀ j, endsN l j = 0 → beginsN l (j + 1) = false := by
      intro j h0
      obtain ⟨h13, h10⟩ := ends_no l j h0
      cases hc : beginsN l (j + 1)
      · rfl
      · exfalso
        rcases ((begins_of_succ l j).1 hc).2 with e | ⟨e, _⟩
        · exact h10 e
        · exact h13 e
    rcases h with ⟨rfl, h0⟩ | ⟨m, hkm, hml, h0, hpos, rfl⟩
    · refine ⟨hk, Nat.le_refl _, fun h => absurd h (by omega), fun j h1 h2 => ?_⟩
      obtain ⟨i, rfl⟩ : ∃ i, j = i + 1 := ⟨j - 1, by omega⟩
      exact no i (h0 i (by omega) (by omega))
    · have hle := endsN_le l m hml
      have hcase : (endsN l m = 2 ∧ l[m]? = some 13 ∧ l[m + 1]? = some 10) ∨ (endsN l m = 1 ∧ (l[m]? = some 10 ∨ (l[m]? = some 13 ∧ ¬ l[m + 1]? = some 10))) := by
        unfold endsN at hpos ⊢
        by_cases hp : [13, 10] <+: l.drop m
        · rw [if_pos hp]; exact .inl ⟨rfl, (crlf_at l m).1 hp⟩
        · rw [if_neg hp] at hpos ⊢
          by_cases h2 : l[m]? = some 13 ∨ l[m]? = some 10
          · rw [if_pos h2]
            refine .inr ⟨rfl, ?_⟩
            rcases h2 with e | e
            · exact .inr ⟨e, fun e' => hp ((crlf_at l m).2 ⟨e, e'⟩)⟩
            · exact .inl e
          · rw [if_neg h2] at hpos; omega
      refine ⟨by omega, hle, ?_, ?_⟩
      · intro hlt
        rcases hcase with ⟨e, h1, h2⟩ | ⟨e, h1⟩
        · rw [e] at hlt ⊢
          exact (begins_of_succ l (m + 1)).2 ⟨hlt, .inl h2⟩
        · rw [e] at hlt ⊢
          exact (begins_of_succ l m).2 ⟨hlt, h1⟩
      · intro j h1 h2
        obtain ⟨i, rfl⟩ : ∃ i, j = i + 1 := ⟨j - 1, by omega⟩
        by_cases hi : i < m
        · exact no i (h0 i (by omega) hi)
        · rcases hcase with ⟨e, e13, e10⟩ | ⟨e, _⟩
          · obtain rfl : i = m := by omega
            cases hc : beginsN l (i + 1)
            · rfl
            · exfalso
              rcases ((begins_of_succ l i).1 hc).2 with e' | ⟨_, e'⟩
              · rw [e13] at e'; cases e'
              · exact e' e10
          · omega
  obtain ⟨h1, h2, h3, h4⟩ := main
  refine ⟨?_, h1, h2, h3⟩
  obtain ⟨d, rfl⟩ : ∃ d, b = k + 1 + d := ⟨b - (k + 1), by omega⟩
  exact upto_gap l k hb d h4

theorem begins_first (l : List UInt8) (h : 0 < l.length) : beginsN l 0 = true := by simp [beginsN]; omega

/-- Is that the line that is looked for? -/
def hitB (l : List UInt8) (from' : Int) (p : List UInt8) (k : Nat) : Bool := decide (from' ≤ (k : Int)) && (beginsN l k && preB (l.drop k) p)
/-- The first line, from a place on, that has a word. -/
def lineI (l : List UInt8) (from' : Int) (p : List UInt8) : Int :=
  match (List.range l.length).find? (hitB l from' p) with
  | some k => k
  | none => -1

theorem lineI_hit {l : List UInt8} {from' : Int} {p : List UInt8} {k : Nat} (hk : k < l.length) (h : hitB l from' p k = true) (hno : ∀ i, i < k → hitB l from' p i = false) : lineI l from' p = k := by
  unfold lineI
  rw [List.find?_range_eq_some.2 ⟨h, by simpa using hk, fun j hj => by rw [hno j hj]; rfl⟩]
theorem lineI_none {l : List UInt8} {from' : Int} {p : List UInt8} (hno : ∀ i, i < l.length → hitB l from' p i = false) : lineI l from' p = -1 := by
  unfold lineI
  rw [List.find?_eq_none.2 (fun x hx => by rw [hno x (by simpa using hx)]; decide)]

/-- The same over what stands from the byte ahead of the place on. -/
def hitA (l : List UInt8) (from' : Int) (p : List UInt8) (a k : Nat) : Bool := decide (from' ≤ (a : Int) + (k : Int)) && preB (l.drop (a + k)) p

theorem begins_drop (l : List UInt8) (a j : Nat) : beginsN (l.drop a) (j + 1) = beginsN l (a + (j + 1)) := by
  rw [Bool.eq_iff_iff, begins_of_succ, show a + (j + 1) = (a + j) + 1 from rfl, begins_of_succ]
  simp only [List.getElem?_drop, List.length_drop]
  rw [show a + (j + 1) = a + j + 1 from rfl]
  constructor
  · rintro ⟨h, h'⟩; exact ⟨by omega, h'⟩
  · rintro ⟨h, h'⟩; exact ⟨by omega, h'⟩

theorem hit_drop (l : List UInt8) (from' : Int) (p : List UInt8) (a : Nat) (ha : a = 0 ∨ (a : Int) < from') (k : Nat) :
    (beginsN (l.drop a) k && hitA l from' p a k) = hitB l from' p (a + k) ∨ (a ≠ 0 ∧ k = 0) := by
  rcases ha with rfl | ha
  · left
    simp only [hitA, hitB, List.drop_zero, Nat.zero_add, Int.natCast_zero, Int.zero_add]
    cases beginsN l k <;> cases decide (from' ≤ (k : Int)) <;> simp
  · by_cases ha0 : a = 0
    · subst ha0; left
      simp only [hitA, hitB, List.drop_zero, Nat.zero_add, Int.natCast_zero, Int.zero_add]
      cases beginsN l k <;> cases decide (from' ≤ (k : Int)) <;> simp
    · cases k with
      | zero => right; exact ⟨ha0, rfl⟩
      | succ j =>
        left
        rw [begins_drop]
        simp only [hitA, hitB, Int.natCast_add]
        cases beginsN l (a + (j + 1)) <;> cases decide (from' ≤ (a : Int) + ((j + 1 : Nat) : Int)) <;> simp_all
theorem hitA_zero (l : List UInt8) (from' : Int) (p : List UInt8) (a : Nat) (ha : (a : Int) < from') : hitA l from' p a 0 = false := by
  simp [hitA]; omega
theorem hitB_low (l : List UInt8) (from' : Int) (p : List UInt8) (k : Nat) (hk : (k : Int) < from') : hitB l from' p k = false := by
  simp [hitB]; omega

/-- A line of the rest is one of the whole, where it counts. -/
theorem hit_of_rest {l : List UInt8} {from' : Int} {p : List UInt8} {a : Nat} (ha : a = 0 ∨ (a : Int) < from') {k : Nat} (hb : beginsN (l.drop a) k = true) (h : hitA l from' p a k = true) : hitB l from' p (a + k) = true := by
  rcases hit_drop l from' p a ha k with e | ⟨h0, rfl⟩
  · rw [← e, hb, h]; rfl
  · rcases ha with rfl | ha
    · exact absurd rfl h0
    · rw [hitA_zero l from' p a ha] at h; cases h
theorem miss_of_rest {l : List UInt8} {from' : Int} {p : List UInt8} {a : Nat} (ha : a = 0 ∨ (a : Int) < from') {k : Nat} (h : beginsN (l.drop a) k = true → hitA l from' p a k = false) : hitB l from' p (a + k) = false := by
  rcases hit_drop l from' p a ha k with e | ⟨h0, rfl⟩
  · rw [← e]
    cases hb : beginsN (l.drop a) k
    · rfl
    · rw [h hb]; rfl
  · rcases ha with rfl | ha
    · exact absurd rfl h0
    · exact hitB_low _ _ _ _ (by simpa using ha)
theorem mem_upto {l : List UInt8} {m k : Nat} : k ∈ upto l m ↔ k < m ∧ beginsN l k = true := by
  unfold upto; rw [List.mem_filter, List.mem_range]

theorem line_rest_none {l : List UInt8} {from' : Int} {p : List UInt8} {a : Nat} (ha : a = 0 ∨ (a : Int) < from') (hle : a ≤ l.length) (h : ∀ k, k ∈ linesN (l.drop a) → hitA l from' p a k = false) : lineI l from' p = -1 := by
  refine lineI_none fun i hi => ?_
  by_cases hia : i < a
  · rcases ha with rfl | ha
    · omega
    · exact hitB_low _ _ _ _ (by omega)
  · obtain ⟨k, rfl⟩ : ∃ k, i = a + k := ⟨i - a, by omega⟩
    exact miss_of_rest ha fun hb => h k (mem_upto.2 ⟨by rw [List.length_drop]; omega, hb⟩)

/-- The lines that came rise: those ahead of one are all that begin ahead of it. -/
theorem prefix_upto (l : List UInt8) : ∀ (m : Nat) (q : List Nat) (k : Nat), q ++ [k] <+: upto l m → k < m ∧ beginsN l k = true ∧ ∀ i, i < k → beginsN l i = true → i ∈ q
  | 0, q, k, h => by
    have := h.length_le
    simp [upto_zero] at this
  | m + 1, q, k, h => by
    rw [upto_succ] at h
    cases hb : beginsN l m
    · rw [hb] at h
      simp only [Bool.false_eq_true, if_false, List.append_nil] at h
      obtain ⟨h1, h2, h3⟩ := prefix_upto l m q k h
      exact ⟨by omega, h2, h3⟩
    · rw [hb] at h
      simp only [if_true] at h
      by_cases hl : (q ++ [k]).length ≤ (upto l m).length
      · have hp : q ++ [k] <+: upto l m := List.prefix_of_prefix_length_le h (List.prefix_append _ _) hl
        obtain ⟨h1, h2, h3⟩ := prefix_upto l m q k hp
        exact ⟨by omega, h2, h3⟩
      · have he : q ++ [k] = upto l m ++ [m] := h.eq_of_length (by have := h.length_le; simp at *; omega)
        have h1 : q = upto l m ∧ [k] = [m] := List.append_inj' he rfl
        obtain ⟨rfl, h2⟩ := h1
        obtain rfl : k = m := by simpa using h2
        exact ⟨by omega, hb, fun i hi hbi => mem_upto.2 ⟨hi, hbi⟩⟩

theorem line_rest_hit {l : List UInt8} {from' : Int} {p : List UInt8} {a : Nat} (ha : a = 0 ∨ (a : Int) < from') {q : List Nat} {k : Nat} (hp : q ++ [k] <+: linesN (l.drop a)) (hq : ∀ i, i ∈ q → hitA l from' p a i = false) (hk : hitA l from' p a k = true) : lineI l from' p = ((a + k : Nat) : Int) := by
  obtain ⟨h1, h2, h3⟩ := prefix_upto _ _ _ _ hp
  rw [List.length_drop] at h1
  refine lineI_hit (by omega) (hit_of_rest ha h2 hk) fun i hi => ?_
  by_cases hia : i < a
  · rcases ha with rfl | ha
    · omega
    · exact hitB_low _ _ _ _ (by omega)
  · obtain ⟨j, rfl⟩ : ∃ j, i = a + j := ⟨i - a, by omega⟩
    exact miss_of_rest ha fun hb => hq j (h3 j (by omega) hb)

end Go.Proofs.Ytnjmapgmodoodaa
