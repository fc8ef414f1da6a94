/-
  All signs of a text, plainly; and that what stands ahead turns nothing but places.
-/
import Derived.Test.YtnjmapgmodoodaaTkPlain
namespace Go.Proofs.Ytnjmapgmodoodaa

/-- The signs, one behind the other, from a place on; and the error that ends them. -/
def allGo (l : List UInt8) : Nat → Nat → List Sg × Int
  | 0, _ => ([], 0)
  | f + 1, k =>
    if ¬ (nextN l k).code = 0 then ([], (nextN l k).code)
    else if (nextN l k).kind = 0 then ([nextN l k], 0)
    else (nextN l k :: (allGo l f (nextN l k).fin).1, (allGo l f (nextN l k).fin).2)
def allL (l : List UInt8) : List Sg × Int := allGo l (l.length + 1) 0
theorem all_err {l : List UInt8} {f k : Nat} (h : ¬ (nextN l k).code = 0) : allGo l (f + 1) k = ([], (nextN l k).code) := by rw [allGo, if_pos h]
theorem all_end {l : List UInt8} {f k : Nat} (h : (nextN l k).code = 0) (h2 : (nextN l k).kind = 0) : allGo l (f + 1) k = ([nextN l k], 0) := by rw [allGo, if_neg (by simpa using h), if_pos h2]
theorem all_step {l : List UInt8} {f k : Nat} (h : (nextN l k).code = 0) (h2 : ¬ (nextN l k).kind = 0) : allGo l (f + 1) k = (nextN l k :: (allGo l f (nextN l k).fin).1, (allGo l f (nextN l k).fin).2) := by
  rw [allGo, if_neg (by simpa using h), if_neg h2]
/-- A sign that is none of the end is longer than nothing. -/
theorem next_step {l : List UInt8} {k : Nat} (hk : k ≤ l.length) (h : (nextN l k).code = 0) (h2 : ¬ (nextN l k).kind = 0) : k < (nextN l k).fin ∧ (nextN l k).fin ≤ l.length := by
  have g := next_good l k hk
  have g2 := g.2 h
  have g3 := g.1.2.1
  have : ¬ (nextN l k).fin = (nextN l k).beg := fun e => h2 (g2.2.2.2 e)
  omega
theorem all_good (l : List UInt8) : ∀ (f k : Nat), l.length < f + k → k ≤ l.length → (allGo l f k).1.length ≤ f ∧ (∀ x ∈ (allGo l f k).1, x.code = 0 ∧ x.str.length ≤ l.length ∧ x.fin ≤ l.length) ∧
    ((allGo l f k).2 = 0 → ∃ q x, (allGo l f k).1 = q ++ [x] ∧ x.kind = 0 ∧ ∀ y ∈ q, ¬ y.kind = 0) ∧ (¬ (allGo l f k).2 = 0 → ∀ y ∈ (allGo l f k).1, ¬ y.kind = 0)
  | 0, k, h, hk => by omega
  | f + 1, k, h, hk => by
    have g := (next_good l k hk).1
    by_cases h1 : (nextN l k).code = 0
    · by_cases h2 : (nextN l k).kind = 0
      · rw [all_end h1 h2]
        refine ⟨by simp, fun x hx => ?_, fun _ => ⟨[], _, rfl, h2, fun y hy => by cases hy⟩, fun h => absurd rfl h⟩
        obtain rfl := List.mem_singleton.1 hx
        exact ⟨h1, g.2.2.1, g.2.1⟩
      · rw [all_step h1 h2]
        have hs := next_step hk h1 h2
        obtain ⟨i1, i2, i3, i4⟩ := all_good l f (nextN l k).fin (by omega) hs.2
        refine ⟨by simp only [List.length_cons]; omega, fun x hx => ?_, fun e => ?_, fun e y hy => ?_⟩
        · rcases List.mem_cons.1 hx with rfl | hx
          · exact ⟨h1, g.2.2.1, g.2.1⟩
          · exact i2 x hx
        · obtain ⟨q, x, e1, e2, e3⟩ := i3 e
          refine ⟨nextN l k :: q, x, by simp only [e1]; rfl, e2, fun y hy => ?_⟩
          rcases List.mem_cons.1 hy with rfl | hy
          · exact h2
          · exact e3 y hy
        · rcases List.mem_cons.1 hy with rfl | hy
          · exact h2
          · exact i4 e y hy
    · rw [all_err h1]
      exact ⟨Nat.zero_le _, fun x hx => (by cases hx), fun e => absurd e h1, fun _ y hy => by cases hy⟩
/-- What is told: the signs, and the error, if there is one. -/
def yields (l : List UInt8) : List Sg := (allL l).1 ++ (if (allL l).2 = 0 then [] else [Sg.err (allL l).2])
/-- How many there are ahead of the end, or of the error. -/
def countS (xs : List Sg) : Nat := (xs.filter fun x => !decide (x.kind = 0)).length
theorem countS_snoc (xs : List Sg) (x : Sg) : countS (xs ++ [x]) = if x.kind = 0 then countS xs else countS xs + 1 := by
  unfold countS
  rw [List.filter_append, List.length_append]
  by_cases h : x.kind = 0
  · rw [if_pos h]; simp [h]
  · rw [if_neg h]; simp [h]
theorem countS_none {xs : List Sg} (h : ∀ y ∈ xs, ¬ y.kind = 0) : countS xs = xs.length := by
  unfold countS
  rw [List.filter_eq_self.2 (fun y hy => by simp [h y hy])]
theorem countS_le (xs : List Sg) : countS xs ≤ xs.length := List.length_filter_le _ _
theorem count_all (l : List UInt8) : ((allL l).2 = 0 → countS (allL l).1 + 1 = (allL l).1.length) ∧ (¬ (allL l).2 = 0 → countS (allL l).1 = (allL l).1.length) := by
  obtain ⟨_, _, h3, h4⟩ := all_good l (l.length + 1) 0 (by omega) (Nat.zero_le _)
  constructor
  · intro h
    obtain ⟨q, x, e1, e2, e3⟩ := h3 h
    show countS (allGo l (l.length + 1) 0).1 + 1 = (allGo l (l.length + 1) 0).1.length
    rw [e1, countS_snoc, if_pos e2, countS_none e3, List.length_append]; rfl
  · intro h
    exact countS_none (h4 h)

/-- Behind other bytes a sign is the same, so much farther on. -/
theorem skipN_behind (a s : List UInt8) (k : Nat) : skipN (a ++ s) (a.length + k) = skipN s k + a.length := by
  unfold skipN
  rw [← List.drop_drop, List.drop_left]; omega
theorem next_behind (a s : List UInt8) (k : Nat) : nextN (a ++ s) (a.length + k) = (nextN s k).off a.length := by
  unfold nextN
  rw [skipN_behind]
  have e : (a ++ s).drop (skipN s k + a.length) = s.drop (skipN s k) := by rw [Nat.add_comm, ← List.drop_drop, List.drop_left]
  rw [e]
  generalize firstL (s.drop (skipN s k)) = r
  by_cases h : r.code = 0
  · rw [Sg.put_ok h, Sg.put_ok h]
    unfold Sg.off
    rw [if_pos rfl]
    simp only [Nat.add_assoc]
  · rw [Sg.put_err h, Sg.put_err h]
    unfold Sg.off
    rw [if_neg (show ¬ (Sg.err r.code).code = 0 from h)]
    rfl
/-- A note is passed to its end. -/
theorem skip_noted : ∀ (q t : List UInt8), (∀ c ∈ q, ¬ (c.toNat = 10 ∨ c.toNat = 13)) → skipGo true (q ++ t) = q.length + skipGo true t
  | [], t, _ => by simp
  | c :: q, t, h => by
    rw [List.cons_append, skip_in (h c (List.mem_cons_self ..)), skip_noted q t (fun d hd => h d (List.mem_cons_of_mem _ hd)), List.length_cons]; omega
theorem skip_over (w : UInt8) (q s : List UInt8) (hw : kindI (w.toNat : Int) = 0) (hq : ∀ c ∈ q, ¬ (c.toNat = 10 ∨ c.toNat = 13)) :
    skipGo false ([w, 37] ++ q ++ [10, w] ++ s) = ([w, 37] ++ q ++ [10, w]).length + skipGo false s := by
  have e : [w, 37] ++ q ++ [10, w] ++ s = w :: 37 :: (q ++ 10 :: w :: s) := by simp
  rw [e, skip_white hw, skip_note rfl, skip_noted q _ hq, skip_eol (.inl rfl), skip_white hw]
  simp only [List.length_append, List.length_cons, List.length_nil]; omega
theorem next_over (w : UInt8) (q s : List UInt8) (hw : kindI (w.toNat : Int) = 0) (hq : ∀ c ∈ q, ¬ (c.toNat = 10 ∨ c.toNat = 13)) :
    nextN ([w, 37] ++ q ++ [10, w] ++ s) 0 = (nextN s 0).off ([w, 37] ++ q ++ [10, w]).length := by
  have e : skipN ([w, 37] ++ q ++ [10, w] ++ s) 0 = skipN ([w, 37] ++ q ++ [10, w] ++ s) (([w, 37] ++ q ++ [10, w]).length + 0) := by
    rw [skipN_behind]
    unfold skipN
    rw [List.drop_zero, List.drop_zero, skip_over w q s hw hq]; omega
  rw [← next_behind]
  unfold nextN
  rw [e]
end Go.Proofs.Ytnjmapgmodoodaa
