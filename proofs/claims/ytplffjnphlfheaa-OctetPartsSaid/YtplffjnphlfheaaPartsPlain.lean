/-
  Pieces of a text, and what stands between two lines: plain facts.
-/
import Derived.Test.YtplffjnphlfheaaLinesPlain
namespace Go.Proofs.Ytplffjnphlfheaa

theorem exists_behind (l : List UInt8) : ∀ (d k : Nat), k + d = l.length → ∃ b, IsBehind l k b
  | 0, k, h => ⟨l.length, .inl ⟨rfl, fun j h1 h2 => by omega⟩⟩
  | d + 1, k, h => by
    by_cases h0 : 0 < endsN l k
    · exact ⟨k + endsN l k, .inr ⟨k, Nat.le_refl _, by omega, fun j h1 h2 => by omega, h0, rfl⟩⟩
    · obtain ⟨b, hb⟩ := exists_behind l d (k + 1) (by omega)
      refine ⟨b, ?_⟩
      have hk : endsN l k = 0 := by omega
      rcases hb with ⟨rfl, h1⟩ | ⟨m, h1, h2, h3, h4, rfl⟩
      · refine .inl ⟨rfl, fun j hj hl => ?_⟩
        by_cases e : j = k
        · rw [e]; exact hk
        · exact h1 j (by omega) hl
      · refine .inr ⟨m, by omega, h2, fun j hj hl => ?_, h4, rfl⟩
        by_cases e : j = k
        · rw [e]; exact hk
        · exact h3 j (by omega) hl

/-- The beginnings of lines, and the text's end. -/
def cutsN (l : List UInt8) : List Nat := linesN l ++ [l.length]

/-- The places of the lines are those that begin ahead of each. -/
theorem upto_at (l : List UInt8) : ∀ (m i : Nat), i < (upto l m).length → ∃ k, k < m ∧ beginsN l k = true ∧ (upto l m)[i]? = some k ∧ (upto l k).length = i
  | 0, i, h => by simp [upto_zero] at h
  | m + 1, i, h => by
    rw [upto_succ] at h ⊢
    by_cases hi : i < (upto l m).length
    · obtain ⟨k, h1, h2, h3, h4⟩ := upto_at l m i hi
      refine ⟨k, by omega, h2, ?_, h4⟩
      rw [List.getElem?_append_left hi]; exact h3
    · cases hb : beginsN l m
      · rw [hb] at h; simp at h; exact absurd h hi
      · rw [hb] at h
        simp at h
        obtain rfl : i = (upto l m).length := by omega
        refine ⟨m, by omega, hb, ?_, rfl⟩
        rw [List.getElem?_append_right (Nat.le_refl _)]
        simp

theorem cuts_next (l : List UInt8) (i : Nat) (h : i < (linesN l).length) :
    ∃ k b, (cutsN l)[i]? = some k ∧ (cutsN l)[i + 1]? = some b ∧ IsBehind l k b ∧ k < l.length ∧ b ≤ l.length ∧ k < b := by
  obtain ⟨k, h1, h2, h3, h4⟩ := upto_at l l.length i h
  obtain ⟨b, hb⟩ := exists_behind l (l.length - k) k (by omega)
  obtain ⟨s1, s2, s3, s4⟩ := behind_step h1 h2 hb
  refine ⟨k, b, ?_, ?_, hb, h1, s3, s2⟩
  · unfold cutsN
    rw [List.getElem?_append_left h]; exact h3
  · by_cases hlt : b < l.length
    · have hp := upto_snoc (s4 hlt) hlt
      rw [s1] at hp
      obtain ⟨t, ht⟩ := hp
      unfold cutsN
      rw [← ht, List.append_assoc, List.append_assoc, List.append_assoc, List.getElem?_append_right (by omega), h4]
      simp
    · obtain rfl : b = l.length := by omega
      have hl : linesN l = upto l k ++ [k] := s1
      unfold cutsN
      rw [hl, List.append_assoc, List.getElem?_append_right (by omega), h4]
      simp

theorem kindI_range (c : Int) : 0 ≤ kindI c ∧ kindI c ≤ 2 := by unfold kindI; split <;> (try split) <;> omega
theorem kind_any_of (c : Int) : ([0, 1, 2] : List Int).contains (kindI c) = true := by
  have h := kindI_range c
  have : kindI c = 0 ∨ kindI c = 1 ∨ kindI c = 2 := by omega
  rcases this with e | e | e <;> rw [e] <;> rfl

theorem spanN_le (l : List UInt8) (zs : List Int) (k : Nat) : spanN l zs k ≤ l.length - k := by
  unfold spanN
  have h := (List.takeWhile_prefix (fun c : UInt8 => zs.contains (kindI (c.toNat : Int))) (l := l.drop k)).length_le
  rw [List.length_drop] at h
  exact h
theorem spanN_all (l : List UInt8) (k : Nat) (hk : k ≤ l.length) : spanN l [0, 1, 2] k = l.length - k := by
  refine span_unique l [0, 1, 2] (l.length - k) k (fun m hm => ?_) (good_far _ _ _ (by omega))
  unfold goodN
  have hlt : k + m < l.length := by omega
  rw [List.getElem?_eq_getElem hlt]
  exact kind_any_of _
theorem spanN_pos (s : ByteArray) (k : Nat) (hk : k < s.size) : 1 ≤ spanN s.data.toList [kindI (s[k].toNat : Int)] k := by
  unfold spanN
  have h := byte_at s k hk
  obtain ⟨hl, e⟩ := List.getElem?_eq_some_iff.1 h
  rw [List.drop_eq_getElem_cons hl, e, List.takeWhile_cons_of_pos (p := fun c : UInt8 => [kindI (s[k].toNat : Int)].contains (kindI (c.toNat : Int))) (by simp)]
  simp

end Go.Proofs.Ytplffjnphlfheaa
