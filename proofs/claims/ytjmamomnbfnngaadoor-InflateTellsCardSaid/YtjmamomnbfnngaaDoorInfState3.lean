/-
  The document's way of reading deflated bytes, to the end: own, a block, Inflate as states: plain facts, no program in sight.
-/
import Derived.Test.YtjmamomnbfnngaaDoorGPlain
import Derived.Test.YtjmamomnbfnngaaDoorGRef
namespace Go.Proofs.YtjmamomnbfnngaaDoor

/-- A block of its own codes, as a state. -/
def ownS (l : List UInt8) (M : Nat) (x : St) : St :=
  let a := bitsS l x 5
  let b := bitsS l a.1 5
  let c := bitsS l b.1 4
  let d := failS c.1 (decide (29 < a.2) || decide (29 < b.2)) 4
  if d.code ≠ 0 then d else
  let h := headsS l (c.2 + 4) 0 (List.replicate 19 0) d
  let e := failS h.1 (checkZ (intsOf h.2) != 0) 4
  if e.code ≠ 0 then e else
  let r := rowS l h.2 (a.2 + b.2 + 258) FUEL [] e
  if r.1.code ≠ 0 then r.1 else
  let g := failS r.1 (checkZ (intsOf (r.2.take (a.2 + 257))) != 0 || (r.2.take (a.2 + 257))[256]?.getD 0 == 0 || !farB (r.2.drop (a.2 + 257))) 4
  if g.code ≠ 0 then g else
  codedS l (r.2.take (a.2 + 257)) (r.2.drop (a.2 + 257)) M FUEL g
theorem ownS_tells {l : List UInt8} {M : Nat} {x : St} (hx : x.code = 0) : Tells (ownS l M x) (ownP M x.out l x.at') := by
  unfold ownS ownP
  simp only
  rcases bitsS_ok (l := l) (w := 5) hx (by omega) with ⟨a, h1, h2⟩ | ⟨h1, h2, _, _⟩
  · rw [pbind_of h1, h2]
    simp only
    rcases bitsS_ok (l := l) (x := ⟨x.at' + 5, x.out, 0⟩) (w := 5) rfl (by omega) with ⟨b, i1, i2⟩ | ⟨i1, i2, _, _⟩
    · rw [pbind_of i1, i2]
      simp only
      rcases bitsS_ok (l := l) (x := ⟨x.at' + 5 + 5, x.out, 0⟩) (w := 4) rfl (by omega) with ⟨c, j1, j2⟩ | ⟨j1, j2, _, _⟩
      · rw [pbind_of j1, j2]
        simp only
        cases hf : (decide (29 < a) || decide (29 < b)) with
        | true =>
          rw [pbind_err pfail_true, failS_yes rfl, if_pos (show (4 : Int) ≠ 0 by decide)]
          exact ⟨rfl, by decide⟩
        | false =>
          rw [pbind_of pfail_false, failS_no]
          simp only [ne_eq, not_true, if_false]
          have T := headsS_tells (l := l) (c + 4) 0 (List.replicate 19 0) (x := ⟨x.at' + 5 + 5 + 4, x.out, 0⟩) rfl
          obtain ⟨hx1, hl, hh⟩ : ∃ hx1 hl, headsS l (c + 4) 0 (List.replicate 19 0) ⟨x.at' + 5 + 5 + 4, x.out, 0⟩ = (hx1, hl) := ⟨_, _, rfl⟩
          rw [hh] at T ⊢
          simp only at T ⊢
          cases hr : headsP (c + 4) 0 (List.replicate 19 0) l (x.at' + 5 + 5 + 4) with
          | error e =>
            rw [hr] at T
            obtain ⟨t1, t2⟩ := T
            have hne : hx1.code ≠ 0 := by rw [t1]; exact t2
            rw [pbind_err hr, failS_bad hne, if_pos hne]
            exact ⟨t1, t2⟩
          | ok r =>
            obtain ⟨hl', t3⟩ := r
            rw [hr] at T
            obtain ⟨rfl, rfl⟩ := T
            rw [pbind_of hr]
            cases hk : (checkZ (intsOf hl) != 0) with
            | true =>
              rw [pbind_err pfail_true, failS_yes rfl, if_pos (show (4 : Int) ≠ 0 by decide)]
              exact ⟨rfl, by decide⟩
            | false =>
              rw [pbind_of pfail_false, failS_no]
              simp only [not_true, if_false]
              have T := rowS_tells (l := l) (ls := hl) (many := a + b + 258) FUEL [] (x := ⟨t3, x.out, 0⟩) rfl
              obtain ⟨rx, rl, hh2⟩ : ∃ rx rl, rowS l hl (a + b + 258) FUEL [] ⟨t3, x.out, 0⟩ = (rx, rl) := ⟨_, _, rfl⟩
              rw [hh2] at T ⊢
              simp only at T ⊢
              cases hr2 : rowP hl (a + b + 258) FUEL [] l t3 with
              | error e =>
                rw [hr2] at T
                obtain ⟨t1, t2⟩ := T
                have hne : rx.code ≠ 0 := by rw [t1]; exact t2
                rw [pbind_err hr2, if_pos hne]
                exact ⟨t1, t2⟩
              | ok r =>
                obtain ⟨rl', t4⟩ := r
                rw [hr2] at T
                obtain ⟨rfl, rfl⟩ := T
                rw [pbind_of hr2]
                simp only [not_true, if_false]
                cases hg : (checkZ (intsOf (rl.take (a + 257))) != 0 || (rl.take (a + 257))[256]?.getD 0 == 0 || !farB (rl.drop (a + 257))) with
                | true =>
                  rw [pbind_err pfail_true, failS_yes rfl, if_pos (show (4 : Int) ≠ 0 by decide)]
                  exact ⟨rfl, by decide⟩
                | false =>
                  rw [pbind_of pfail_false, failS_no]
                  simp only [not_true, if_false]
                  generalize FUEL = f
                  exact codedS_tells f (x := ⟨t4, x.out, 0⟩) rfl
      · rw [pbind_err j1]
        have hne : (bitsS l ⟨x.at' + 5 + 5, x.out, 0⟩ 4).1.code ≠ 0 := by rw [j2]; decide
        rw [failS_bad hne, if_pos hne]
        exact ⟨j2, by decide⟩
    · rw [pbind_err i1]
      have hne : (bitsS l ⟨x.at' + 5, x.out, 0⟩ 5).1.code ≠ 0 := by rw [i2]; decide
      rw [bitsS_bad hne]
      simp only
      rw [failS_bad hne, if_pos hne]
      exact ⟨i2, by decide⟩
  · rw [pbind_err h1]
    have hne : (bitsS l x 5).1.code ≠ 0 := by rw [h2]; decide
    rw [bitsS_bad hne]
    simp only
    rw [bitsS_bad hne]
    simp only
    rw [failS_bad hne, if_pos hne]
    exact ⟨h2, by decide⟩

/-- A block, as a state. -/
def blockS (l : List UInt8) (M kind : Nat) (x : St) : St :=
  if kind = 0 then storedS l M x else if kind = 1 then codedS l fixedLit fixedDist M FUEL x else ownS l M x
theorem blockS_tells {l : List UInt8} {M kind : Nat} {x : St} (hx : x.code = 0) : Tells (blockS l M kind x) (blockP M kind x.out l x.at') := by
  unfold blockS blockP
  by_cases h0 : kind = 0
  · rw [if_pos h0, if_pos h0]; exact storedS_tells hx
  · rw [if_neg h0, if_neg h0]
    by_cases h1 : kind = 1
    · rw [if_pos h1, if_pos h1]
      generalize FUEL = f
      exact codedS_tells f hx
    · rw [if_neg h1, if_neg h1]; exact ownS_tells hx
/-- Block by block, as a state. -/
def inflS (l : List UInt8) (M : Nat) : Nat → St → St
  | 0, x => if x.code ≠ 0 then x else ⟨x.at', x.out, -1⟩
  | f + 1, x => if x.code ≠ 0 then x else
    let a := bitsS l x 1
    let b := bitsS l a.1 2
    let c := failS b.1 (decide (b.2 = 3)) 4
    if c.code ≠ 0 then c else
    if a.2 = 0 then inflS l M f (blockS l M b.2 c) else blockS l M b.2 c
theorem inflS_bad {l : List UInt8} {M f : Nat} {x : St} (h : x.code ≠ 0) : inflS l M f x = x := by
  cases f <;> (unfold inflS; rw [if_pos h])
theorem inflS_tells {l : List UInt8} {M : Nat} : ∀ (f : Nat) {x : St}, x.code = 0 → Tells (inflS l M f x) (inflP M f x.out l x.at')
  | 0, x, hx => by
    unfold inflS inflP
    rw [if_neg (by simp [hx])]
    exact ⟨rfl, by decide⟩
  | f + 1, x, hx => by
    unfold inflS inflP
    rw [if_neg (by simp [hx])]
    simp only
    rcases bitsS_ok (l := l) (w := 1) hx (by omega) with ⟨a, h1, h2⟩ | ⟨h1, h2, _, _⟩
    · rw [pbind_of h1, h2]
      simp only
      rcases bitsS_ok (l := l) (x := ⟨x.at' + 1, x.out, 0⟩) (w := 2) rfl (by omega) with ⟨b, i1, i2⟩ | ⟨i1, i2, _, _⟩
      · rw [pbind_of i1, i2]
        simp only
        by_cases h3 : b = 3
        · rw [decide_eq_true h3, pbind_err pfail_true, failS_yes rfl, if_pos (show (4 : Int) ≠ 0 by decide)]
          exact ⟨rfl, by decide⟩
        · rw [decide_eq_false h3, pbind_of pfail_false, failS_no]
          simp only [ne_eq, not_true, if_false]
          have T := blockS_tells (l := l) (M := M) (kind := b) (x := ⟨x.at' + 1 + 2, x.out, 0⟩) rfl
          obtain ⟨y, hy⟩ : ∃ y, blockS l M b ⟨x.at' + 1 + 2, x.out, 0⟩ = y := ⟨_, rfl⟩
          rw [hy] at T ⊢
          simp only at T
          cases hr : blockP M b x.out l (x.at' + 1 + 2) with
          | error e =>
            rw [hr] at T
            obtain ⟨t1, t2⟩ := T
            rw [pbind_err hr, inflS_bad (by rw [t1]; exact t2)]
            split <;> exact ⟨t1, t2⟩
          | ok r =>
            obtain ⟨o', t3⟩ := r
            rw [hr] at T
            obtain ⟨t1, t2, t4⟩ := T
            rw [pbind_of hr]
            split
            · rw [← t2, ← t4]; exact inflS_tells f t1
            · exact ⟨t1, t2, t4⟩
      · rw [pbind_err i1]
        have hne : (bitsS l ⟨x.at' + 1, x.out, 0⟩ 2).1.code ≠ 0 := by rw [i2]; decide
        rw [failS_bad hne, if_pos hne]
        exact ⟨i2, by decide⟩
    · rw [pbind_err h1]
      have hne : (bitsS l x 1).1.code ≠ 0 := by rw [h2]; decide
      rw [bitsS_bad hne]
      simp only
      rw [failS_bad hne, if_pos hne]
      exact ⟨h2, by decide⟩
/-- Inflate, by the state. -/
theorem inflZ_state (l : List UInt8) (M : Nat) : inflZ l (M : Int) = if (inflS l M FUEL ⟨0, [], 0⟩).code ≠ 0 then ([], 0, (inflS l M FUEL ⟨0, [], 0⟩).code) else ((inflS l M FUEL ⟨0, [], 0⟩).out, wholeN (inflS l M FUEL ⟨0, [], 0⟩).at' / 8, 0) := by
  have T := inflS_tells (l := l) (M := M) FUEL (x := ⟨0, [], 0⟩) rfl
  obtain ⟨y, hy⟩ : ∃ y, inflS l M FUEL ⟨0, [], 0⟩ = y := ⟨_, rfl⟩
  rw [hy] at T ⊢
  simp only at T
  unfold inflZ
  rw [if_neg (by omega), Int.toNat_natCast]
  cases hr : inflP M FUEL [] l 0 with
  | error e =>
    rw [hr] at T
    obtain ⟨t1, t2⟩ := T
    rw [if_pos (by rw [t1]; exact t2), t1]
  | ok r =>
    obtain ⟨o', t3⟩ := r
    rw [hr] at T
    obtain ⟨t1, t2, t4⟩ := T
    rw [if_neg (by simp [t1]), t2, t4]

end Go.Proofs.YtjmamomnbfnngaaDoor
