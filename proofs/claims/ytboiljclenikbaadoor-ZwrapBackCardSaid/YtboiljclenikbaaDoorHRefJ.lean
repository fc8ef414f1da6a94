/-
  InfState3, InfRef7, InfRef8, InfRef9, InfRef10: texts merged.
-/
import Derived.Test.YtboiljclenikbaaDoorHPlain
import Derived.Test.YtboiljclenikbaaDoorHRefI
import Derived.Test.YtboiljclenikbaaDoorHCodeR
import Derived.Deep.CutBlock
/-
  The document's way of reading deflated bytes, to the end: own, a block, Inflate as states: plain facts, no program in sight.
-/
namespace Go.Proofs.YtboiljclenikbaaDoor
section

/-- A block of its own codes, as a state. -/
def ownS (l : List UInt8) (M : Nat) (x : St) : St :=
  let a := bitsS l x 5
  let b := bitsS l a.1 5
  let c := bitsS l b.1 4
  let d := failS c.1 (decide (29 < a.2) || decide (29 < b.2)) 4
  if d.code ≠ 0 then d else
  let h := headsS l (c.2 + 4) 0 (List.replicate 19 0) d
  let e := failS h.1 (checkZ (intsOf h.2) != 0) 4
  if e.code ≠ 0 then e else
  let r := rowS l h.2 (a.2 + b.2 + 258) FUEL [] e
  if r.1.code ≠ 0 then r.1 else
  let g := failS r.1 (checkZ (intsOf (r.2.take (a.2 + 257))) != 0 || (r.2.take (a.2 + 257))[256]?.getD 0 == 0 || !farB (r.2.drop (a.2 + 257))) 4
  if g.code ≠ 0 then g else
  codedS l (r.2.take (a.2 + 257)) (r.2.drop (a.2 + 257)) M FUEL g
theorem ownS_tells {l : List UInt8} {M : Nat} {x : St} (hx : x.code = 0) : Tells (ownS l M x) (ownP M x.out l x.at') := by
  unfold ownS ownP
  simp only
  rcases bitsS_ok (l := l) (w := 5) hx (by omega) with ⟨a, h1, h2⟩ | ⟨h1, h2, _, _⟩
  · rw [pbind_of h1, h2]
    simp only
    rcases bitsS_ok (l := l) (x := ⟨x.at' + 5, x.out, 0⟩) (w := 5) rfl (by omega) with ⟨b, i1, i2⟩ | ⟨i1, i2, _, _⟩
    · rw [pbind_of i1, i2]
      simp only
      rcases bitsS_ok (l := l) (x := ⟨x.at' + 5 + 5, x.out, 0⟩) (w := 4) rfl (by omega) with ⟨c, j1, j2⟩ | ⟨j1, j2, _, _⟩
      · rw [pbind_of j1, j2]
        simp only
        cases hf : (decide (29 < a) || decide (29 < b)) with
        | true =>
          rw [pbind_err pfail_true, failS_yes rfl, if_pos (show (4 : Int) ≠ 0 by decide)]
          exact ⟨rfl, by decide⟩
        | false =>
          rw [pbind_of pfail_false, failS_no]
          simp only [ne_eq, not_true, if_false]
          have T := headsS_tells (l := l) (c + 4) 0 (List.replicate 19 0) (x := ⟨x.at' + 5 + 5 + 4, x.out, 0⟩) rfl
          obtain ⟨hx1, hl, hh⟩ : ∃ hx1 hl, headsS l (c + 4) 0 (List.replicate 19 0) ⟨x.at' + 5 + 5 + 4, x.out, 0⟩ = (hx1, hl) := ⟨_, _, rfl⟩
          rw [hh] at T ⊢
          simp only at T ⊢
          cases hr : headsP (c + 4) 0 (List.replicate 19 0) l (x.at' + 5 + 5 + 4) with
          | error e =>
            rw [hr] at T
            obtain ⟨t1, t2⟩ := T
            have hne : hx1.code ≠ 0 := by rw [t1]; exact t2
            rw [pbind_err hr, failS_bad hne, if_pos hne]
            exact ⟨t1, t2⟩
          | ok r =>
            obtain ⟨hl', t3⟩ := r
            rw [hr] at T
            obtain ⟨rfl, rfl⟩ := T
            rw [pbind_of hr]
            cases hk : (checkZ (intsOf hl) != 0) with
            | true =>
              rw [pbind_err pfail_true, failS_yes rfl, if_pos (show (4 : Int) ≠ 0 by decide)]
              exact ⟨rfl, by decide⟩
            | false =>
              rw [pbind_of pfail_false, failS_no]
              simp only [not_true, if_false]
              have T := rowS_tells (l := l) (ls := hl) (many := a + b + 258) FUEL [] (x := ⟨t3, x.out, 0⟩) rfl
              obtain ⟨rx, rl, hh2⟩ : ∃ rx rl, rowS l hl (a + b + 258) FUEL [] ⟨t3, x.out, 0⟩ = (rx, rl) := ⟨_, _, rfl⟩
              rw [hh2] at T ⊢
              simp only at T ⊢
              cases hr2 : rowP hl (a + b + 258) FUEL [] l t3 with
              | error e =>
                rw [hr2] at T
                obtain ⟨t1, t2⟩ := T
                have hne : rx.code ≠ 0 := by rw [t1]; exact t2
                rw [pbind_err hr2, if_pos hne]
                exact ⟨t1, t2⟩
              | ok r =>
                obtain ⟨rl', t4⟩ := r
                rw [hr2] at T
                obtain ⟨rfl, rfl⟩ := T
                rw [pbind_of hr2]
                simp only [not_true, if_false]
                cases hg : (checkZ (intsOf (rl.take (a + 257))) != 0 || (rl.take (a + 257))[256]?.getD 0 == 0 || !farB (rl.drop (a + 257))) with
                | true =>
                  rw [pbind_err pfail_true, failS_yes rfl, if_pos (show (4 : Int) ≠ 0 by decide)]
                  exact ⟨rfl, by decide⟩
                | false =>
                  rw [pbind_of pfail_false, failS_no]
                  simp only [not_true, if_false]
                  generalize FUEL = f
                  exact codedS_tells f (x := ⟨t4, x.out, 0⟩) rfl
      · rw [pbind_err j1]
        have hne : (bitsS l ⟨x.at' + 5 + 5, x.out, 0⟩ 4).1.code ≠ 0 := by rw [j2]; decide
        rw [failS_bad hne, if_pos hne]
        exact ⟨j2, by decide⟩
    · rw [pbind_err i1]
      have hne : (bitsS l ⟨x.at' + 5, x.out, 0⟩ 5).1.code ≠ 0 := by rw [i2]; decide
      rw [bitsS_bad hne]
      simp only
      rw [failS_bad hne, if_pos hne]
      exact ⟨i2, by decide⟩
  · rw [pbind_err h1]
    have hne : (bitsS l x 5).1.code ≠ 0 := by rw [h2]; decide
    rw [bitsS_bad hne]
    simp only
    rw [bitsS_bad hne]
    simp only
    rw [failS_bad hne, if_pos hne]
    exact ⟨h2, by decide⟩

/-- A block, as a state. -/
def blockS (l : List UInt8) (M kind : Nat) (x : St) : St :=
  if kind = 0 then storedS l M x else if kind = 1 then codedS l fixedLit fixedDist M FUEL x else ownS l M x
theorem blockS_tells {l : List UInt8} {M kind : Nat} {x : St} (hx : x.code = 0) : Tells (blockS l M kind x) (blockP M kind x.out l x.at') := by
  unfold blockS blockP
  by_cases h0 : kind = 0
  · rw [if_pos h0, if_pos h0]; exact storedS_tells hx
  · rw [if_neg h0, if_neg h0]
    by_cases h1 : kind = 1
    · rw [if_pos h1, if_pos h1]
      generalize FUEL = f
      exact codedS_tells f hx
    · rw [if_neg h1, if_neg h1]; exact ownS_tells hx
/-- Block by block, as a state. -/
def inflS (l : List UInt8) (M : Nat) : Nat → St → St
  | 0, x => if x.code ≠ 0 then x else ⟨x.at', x.out, -1⟩
  | f + 1, x => if x.code ≠ 0 then x else
    let a := bitsS l x 1
    let b := bitsS l a.1 2
    let c := failS b.1 (decide (b.2 = 3)) 4
    if c.code ≠ 0 then c else
    if a.2 = 0 then inflS l M f (blockS l M b.2 c) else blockS l M b.2 c
theorem inflS_bad {l : List UInt8} {M f : Nat} {x : St} (h : x.code ≠ 0) : inflS l M f x = x := by
  cases f <;> (unfold inflS; rw [if_pos h])
theorem inflS_tells {l : List UInt8} {M : Nat} : ∀ (f : Nat) {x : St}, x.code = 0 → Tells (inflS l M f x) (inflP M f x.out l x.at')
  | 0, x, hx => by
    unfold inflS inflP
    rw [if_neg (by simp [hx])]
    exact ⟨rfl, by decide⟩
  | f + 1, x, hx => by
    unfold inflS inflP
    rw [if_neg (by simp [hx])]
    simp only
    rcases bitsS_ok (l := l) (w := 1) hx (by omega) with ⟨a, h1, h2⟩ | ⟨h1, h2, _, _⟩
    · rw [pbind_of h1, h2]
      simp only
      rcases bitsS_ok (l := l) (x := ⟨x.at' + 1, x.out, 0⟩) (w := 2) rfl (by omega) with ⟨b, i1, i2⟩ | ⟨i1, i2, _, _⟩
      · rw [pbind_of i1, i2]
        simp only
        by_cases h3 : b = 3
        · rw [decide_eq_true h3, pbind_err pfail_true, failS_yes rfl, if_pos (show (4 : Int) ≠ 0 by decide)]
          exact ⟨rfl, by decide⟩
        · rw [decide_eq_false h3, pbind_of pfail_false, failS_no]
          simp only [ne_eq, not_true, if_false]
          have T := blockS_tells (l := l) (M := M) (kind := b) (x := ⟨x.at' + 1 + 2, x.out, 0⟩) rfl
          obtain ⟨y, hy⟩ : ∃ y, blockS l M b ⟨x.at' + 1 + 2, x.out, 0⟩ = y := ⟨_, rfl⟩
          rw [hy] at T ⊢
          simp only at T
          cases hr : blockP M b x.out l (x.at' + 1 + 2) with
          | error e =>
            rw [hr] at T
            obtain ⟨t1, t2⟩ := T
            rw [pbind_err hr, inflS_bad (by rw [t1]; exact t2)]
            split <;> exact ⟨t1, t2⟩
          | ok r =>
            obtain ⟨o', t3⟩ := r
            rw [hr] at T
            obtain ⟨t1, t2, t4⟩ := T
            rw [pbind_of hr]
            split
            · rw [← t2, ← t4]; exact inflS_tells f t1
            · exact ⟨t1, t2, t4⟩
      · rw [pbind_err i1]
        have hne : (bitsS l ⟨x.at' + 1, x.out, 0⟩ 2).1.code ≠ 0 := by rw [i2]; decide
        rw [failS_bad hne, if_pos hne]
        exact ⟨i2, by decide⟩
    · rw [pbind_err h1]
      have hne : (bitsS l x 1).1.code ≠ 0 := by rw [h2]; decide
      rw [bitsS_bad hne]
      simp only
      rw [failS_bad hne, if_pos hne]
      exact ⟨h2, by decide⟩
/-- Inflate, by the state. -/
theorem inflZ_state (l : List UInt8) (M : Nat) : inflZ l (M : Int) = if (inflS l M FUEL ⟨0, [], 0⟩).code ≠ 0 then ([], 0, (inflS l M FUEL ⟨0, [], 0⟩).code) else ((inflS l M FUEL ⟨0, [], 0⟩).out, wholeN (inflS l M FUEL ⟨0, [], 0⟩).at' / 8, 0) := by
  have T := inflS_tells (l := l) (M := M) FUEL (x := ⟨0, [], 0⟩) rfl
  obtain ⟨y, hy⟩ : ∃ y, inflS l M FUEL ⟨0, [], 0⟩ = y := ⟨_, rfl⟩
  rw [hy] at T ⊢
  simp only at T
  unfold inflZ
  rw [if_neg (by omega), Int.toNat_natCast]
  cases hr : inflP M FUEL [] l 0 with
  | error e =>
    rw [hr] at T
    obtain ⟨t1, t2⟩ := T
    rw [if_pos (by rw [t1]; exact t2), t1]
  | ok r =>
    obtain ⟨o', t3⟩ := r
    rw [hr] at T
    obtain ⟨t1, t2, t4⟩ := T
    rw [if_neg (by simp [t1]), t2, t4]

end
end Go.Proofs.YtboiljclenikbaaDoor
/-
  The contract of the document's heads.
-/
namespace Go.Proofs.YtboiljclenikbaaDoor
section
open Go.RowKit

theorem order_at : ∀ i : Fin 19, orderL[i.val]?.getD 0 < 19 ∧ orderL[i.val]? = some (orderL[i.val]?.getD 0) := by decide +kernel
theorem headsS_length (l : List UInt8) : ∀ (c i : Nat) (ls : List Nat) (x : St), (headsS l c i ls x).2.length = ls.length
  | 0, _, _, _ => rfl
  | c + 1, i, ls, x => by rw [headsS, headsS_length l c]; simp
theorem headsS_at {l : List UInt8} : ∀ (c i : Nat) (ls : List Nat) (x : St), x.at' ≤ 8 * l.length → (headsS l c i ls x).1.at' ≤ 8 * l.length ∧ (headsS l c i ls x).1.out = x.out
  | 0, _, _, _, h => ⟨h, rfl⟩
  | c + 1, i, ls, x, h => by
    rw [headsS]
    obtain ⟨h1, h2, _⟩ := bitsS_facts (l := l) (x := x) (k := 3) (by omega) h
    obtain ⟨h3, h4⟩ := headsS_at c (i + 1) (ls.set (orderL[i]?.getD 0) (bitsS l x 3).2) _ h1
    exact ⟨h3, by rw [h4, h2]⟩
theorem BitsAt.move {w w' : World} {g : Nat} {row : List Nat} (h : BitsAt w g row) (hk : w'.heap[g]? = w.heap[g]?) : BitsAt w' g row := by
  refine ⟨?_, fun j hj => ?_⟩
  · have h1 : w.heap[g]? ≠ none := by rw [Array.getElem?_eq_getElem h.1]; simp
    rw [← hk] at h1
    rcases Nat.lt_or_ge g w'.heap.size with h2 | h2
    · exact h2
    · exact absurd (Array.getElem?_eq_none h2) h1
  · rw [← h.2 j hj]
    unfold World.cell?
    simp only [hk]
end
end Go.Proofs.YtboiljclenikbaaDoor
/-
  The contract of the document's row.
-/
namespace Go.Proofs.YtboiljclenikbaaDoor
section
open Go.RowKit

theorem bitsS_more {l : List UInt8} {x : St} {k : Nat} (hk : k ≤ 16) : x.at' ≤ (bitsS l x k).1.at' := by
  by_cases h0 : x.code = 0
  · rcases bitsS_ok (l := l) h0 hk with ⟨n, _, h2⟩ | ⟨_, _, h3, _⟩
    · rw [h2]; exact Nat.le_add_right _ _
    · rw [h3]; exact Nat.le_refl _
  · rw [bitsS_bad h0]; exact Nat.le_refl _
theorem bitsS_still {l : List UInt8} {x : St} {k : Nat} (h : (bitsS l x k).1.code = 0) : x.code = 0 := by
  by_cases h0 : x.code = 0
  · exact h0
  · rw [bitsS_bad h0] at h; exact h
theorem failS_still {x : St} {c : Bool} {e : Int} (he : e ≠ 0) (h : (failS x c e).code = 0) : x.code = 0 := (failS_zero he h).2.1
theorem symS_more {l : List UInt8} {x : St} {ns : List Nat} (hx : x.code = 0) (h : (symS l x ns).1.code = 0) : x.at' < (symS l x ns).1.at' := by
  rcases symS_ok (l := l) (ns := ns) hx with ⟨n, tt, h1, h2⟩ | ⟨e, he, _, h2, _⟩
  · rw [h2]
    unfold symP at h1
    obtain ⟨sy, m, e, hr⟩ : ∃ sy m e, readC (intsOf ns) (codesN ns) (longN ns) 0 0 ((bitsOf l).drop x.at') = (sy, m, e) := ⟨_, _, _, rfl⟩
    rw [hr] at h1
    simp only at h1
    split at h1
    · rename_i he
      have := readC_pos _ _ _ _ _ _ _ _ (he ▸ hr)
      have h3 := (Prod.mk.inj (Except.ok.inj h1)).2
      show x.at' < tt
      omega
    · cases h1
  · rw [h2] at h; exact absurd h he
theorem timesS_facts {l : List UInt8} {out : List Nat} {y : St} {n : Nat} (hy : y.at' ≤ 8 * l.length) : y.at' ≤ (timesS l out y n).1.at' ∧ (timesS l out y n).1.at' ≤ 8 * l.length ∧ (timesS l out y n).2.1 ≤ 65600 ∧ ((timesS l out y n).1.code = 0 → y.code = 0) := by
  unfold timesS
  split
  · have f := failS_facts y (decide (out.length = 0)) 4
    have b := bitsS_facts (l := l) (x := failS y (decide (out.length = 0)) 4) (k := 2) (by omega) (by rw [f.1]; exact hy)
    have m := bitsS_more (l := l) (x := failS y (decide (out.length = 0)) 4) (k := 2) (by omega)
    rw [f.1] at m
    exact ⟨m, b.1, by show _ + 3 ≤ _; omega, fun h => failS_still (by decide) (bitsS_still h)⟩
  · split
    · have b := bitsS_facts (l := l) (x := y) (k := 3) (by omega) hy
      exact ⟨bitsS_more (by omega), b.1, by show _ + 3 ≤ _; omega, bitsS_still⟩
    · split
      · have b := bitsS_facts (l := l) (x := y) (k := 7) (by omega) hy
        exact ⟨bitsS_more (by omega), b.1, by show _ + 11 ≤ _; omega, bitsS_still⟩
      · exact ⟨Nat.le_refl _, hy, by show 1 ≤ _; omega, id⟩
theorem rowS_stop {l : List UInt8} {ls : List Nat} {many f : Nat} {out : List Nat} {x : St} (h : x.code ≠ 0) : rowS l ls many f out x = (x, out) := by
  cases f
  · unfold rowS; rw [if_pos h]
  · unfold rowS; rw [if_pos (.inl h)]
theorem rowS_full {l : List UInt8} {ls : List Nat} {many f : Nat} {out : List Nat} {x : St} (h : many ≤ out.length) : rowS l ls many (f + 1) out x = (x, out) := by
  unfold rowS; rw [if_pos (.inr h)]
theorem rowS_next {l : List UInt8} {ls : List Nat} {many f : Nat} {out : List Nat} {x ya z c : St} {n t v : Nat} (h0 : x.code = 0) (hm : out.length < many) (h1 : symS l x ls = (ya, n)) (h2 : timesS l out ya n = (z, t, v)) (h3 : failS z (decide (many < out.length + t)) 4 = c) :
    rowS l ls many (f + 1) out x = if c.code ≠ 0 then (c, out) else rowS l ls many f (out ++ List.replicate t v) c := by
  conv => lhs; unfold rowS
  rw [if_neg (by rintro (h | h) <;> omega)]
  simp only
  rw [h1]
  simp only
  rw [h2]
  simp only
  rw [h3]
theorem Own64.low {w : World} {B B' : Nat} {v : Value} {l : List Int} (h : Own64 w B v l) (hB : B' ≤ B) : Own64 w B' v l := by
  refine ⟨⟨h.1.1, ?_⟩, h.2⟩
  rcases h.1.2 with h2 | ⟨g, c, cur, hv, h3, hg, hr⟩
  · exact .inl h2
  · exact .inr ⟨g, c, cur, hv, Nat.le_trans hB h3, hg, hr⟩
theorem Own64.move {w w' : World} {B : Nat} {v : Value} {l : List Int} (h : Own64 w B v l) (hk : ∀ k, v.ownBlock = some k → w'.heap[k]? = w.heap[k]?) : Own64 w' B v l := ⟨owns_move h.1 hk, h.2⟩
theorem nats_ints (ns : List Nat) : natsOf (intsOf ns) = ns := by
  unfold natsOf intsOf
  rw [List.map_map]
  exact (List.map_congr_left fun n _ => Int.toNat_natCast n).trans (List.map_id ns)
theorem refused_facts {ns : List Nat} (he : refusedZ (intsOf ns) = 0) : ns.length ≤ 320 ∧ ∀ n ∈ ns, n ≤ 15 := by
  obtain ⟨h1, h2, _⟩ := refusedZ_zero he
  rw [intsOf_length] at h1
  refine ⟨h1, fun n hn => ?_⟩
  have := h2 (n : Int) (by unfold intsOf; exact List.mem_map.2 ⟨n, hn, rfl⟩)
  omega

end
end Go.Proofs.YtboiljclenikbaaDoor
/-
  What coded reads beside the row that grows.
-/
namespace Go.Proofs.YtboiljclenikbaaDoor
section
open Go.RowKit

/-- Numbers that lie apart from an object's own block and from B0. -/
def Reads (w : World) (v : Value) (B0 : Nat) (a : Option Addr) (l : List Int) : Prop :=
  l = [] ∨ ∃ b off, a = some ⟨b, off, none⟩ ∧ b < w.heap.size ∧ v.ownBlock ≠ some b ∧ b ≠ B0 ∧ ∀ i, i < l.length → w.cell? ⟨b, off + i, none⟩ = some (.int .i64 (l[i]?.getD 0))
theorem Reads.nums {w : World} {v : Value} {B0 : Nat} {a : Option Addr} {l : List Int} (h : Reads w v B0 a l) : Nums w a l := by
  rcases h with h | ⟨b, off, h1, _, _, _, h5⟩
  · exact .inl h
  · exact .inr ⟨b, off, h1, h5⟩
theorem Reads.next {w w' : World} {v v' : Value} {B0 : Nat} {a : Option Addr} {l : List Int} (h : Reads w v B0 a l) (hs : w.heap.size ≤ w'.heap.size) (hk : ∀ b, b < w.heap.size → v.ownBlock ≠ some b → b ≠ B0 → w'.heap[b]? = w.heap[b]?) (hv : ∀ k, v'.ownBlock = some k → v.ownBlock = some k ∨ w.heap.size ≤ k) : Reads w' v' B0 a l := by
  rcases h with h | ⟨b, off, h1, h2, h3, h4, h5⟩
  · exact .inl h
  · refine .inr ⟨b, off, h1, by omega, ?_, h4, fun i hi => (World.cell?_of_block (w := w) (hk b h2 h3 h4)).trans (h5 i hi)⟩
    intro e
    rcases hv b e with h6 | h6
    · exact h3 h6
    · omega
theorem Reads.bits {w : World} {v : Value} {B0 g : Nat} {row : List Nat} (h : BitsAt w g row) (hv : v.ownBlock ≠ some g) (hB : g ≠ B0) : Reads w v B0 (some ⟨g, 0, none⟩) (asZ row) := by
  rcases h.nums with h1 | ⟨b, off, h1, h2⟩
  · exact .inl h1
  · injection h1 with h1
    injection h1 with e1 e2
    subst e1 e2
    exact .inr ⟨g, 0, rfl, h.1, hv, hB, h2⟩
/-- Five rows that are read while one grows. -/
def Keep5 (w : World) (v : Value) (B0 : Nat) (p1 p2 p3 p4 pb : Option Addr) (l1 l2 l3 l4 lb : List Int) : Prop :=
  Reads w v B0 p1 l1 ∧ Reads w v B0 p2 l2 ∧ Reads w v B0 p3 l3 ∧ Reads w v B0 p4 l4 ∧ Reads w v B0 pb lb
theorem Keep5.next {w w' : World} {v v' : Value} {B0 : Nat} {p1 p2 p3 p4 pb : Option Addr} {l1 l2 l3 l4 lb : List Int} (h : Keep5 w v B0 p1 p2 p3 p4 pb l1 l2 l3 l4 lb) (hs : w.heap.size ≤ w'.heap.size) (hk : ∀ b, b < w.heap.size → v.ownBlock ≠ some b → b ≠ B0 → w'.heap[b]? = w.heap[b]?) (hv : ∀ k, v'.ownBlock = some k → v.ownBlock = some k ∨ w.heap.size ≤ k) : Keep5 w' v' B0 p1 p2 p3 p4 pb l1 l2 l3 l4 lb :=
  ⟨h.1.next hs hk hv, h.2.1.next hs hk hv, h.2.2.1.next hs hk hv, h.2.2.2.1.next hs hk hv, h.2.2.2.2.next hs hk hv⟩
theorem Keep5.later {w w' : World} {v : Value} {B0 : Nat} {p1 p2 p3 p4 pb : Option Addr} {l1 l2 l3 l4 lb : List Int} (h : Keep5 w v B0 p1 p2 p3 p4 pb l1 l2 l3 l4 lb) (hb : Below w.heap.size w w') : Keep5 w' v B0 p1 p2 p3 p4 pb l1 l2 l3 l4 lb :=
  h.next hb.size (fun b h1 _ _ => hb.block b h1) fun _ hk => .inl hk
theorem Keep5.store {w w' : World} {v : Value} {B0 : Nat} {p1 p2 p3 p4 pb : Option Addr} {l1 l2 l3 l4 lb : List Int} (h : Keep5 w v B0 p1 p2 p3 p4 pb l1 l2 l3 l4 lb) (hs : w.heap.size ≤ w'.heap.size) (ho : ∀ k, k ≠ B0 → w'.heap[k]? = w.heap[k]?) : Keep5 w' v B0 p1 p2 p3 p4 pb l1 l2 l3 l4 lb :=
  h.next hs (fun b _ _ h1 => ho b h1) fun _ hk => .inl hk
theorem Keep5.touch {w w' : World} {v v' : Value} {B0 : Nat} {p1 p2 p3 p4 pb : Option Addr} {l1 l2 l3 l4 lb : List Int} (h : Keep5 w v B0 p1 p2 p3 p4 pb l1 l2 l3 l4 lb) (ht : Touches v.ownBlock.toList v'.ownBlock.toList w w') : Keep5 w' v' B0 p1 p2 p3 p4 pb l1 l2 l3 l4 lb :=
  h.next ht.size (fun b h1 h2 _ => ht.2.2.2.2.1 b h1 fun hm => h2 (by simpa using hm)) fun k hk => by
    rcases ht.2.2.2.2.2 k (by simp [hk]) with h1 | h1
    · exact .inl (by simpa using h1)
    · exact .inr h1

theorem codedS_stop {l : List UInt8} {lit dist : List Nat} {M f : Nat} {y b c : St} {n : Nat} (h0 : y.code = 0) (h1 : symS l y lit = (b, n)) (h2 : failS b (decide (285 < n)) 4 = c) (h3 : c.code ≠ 0 ∨ n = 256) : codedS l lit dist M (f + 1) y = c := by
  conv => lhs; unfold codedS
  rw [if_neg (by simp [h0])]
  simp only
  rw [h1]
  simp only
  rw [h2, if_pos h3]
theorem codedS_byte {l : List UInt8} {lit dist : List Nat} {M f : Nat} {y b c d : St} {n : Nat} (h0 : y.code = 0) (h1 : symS l y lit = (b, n)) (h2 : failS b (decide (285 < n)) 4 = c) (h3 : c.code = 0) (h4 : n < 256) (h5 : failS ⟨c.at', c.out ++ [UInt8.ofNat n], c.code⟩ (decide (M < c.out.length + 1)) 7 = d) : codedS l lit dist M (f + 1) y = codedS l lit dist M f d := by
  conv => lhs; unfold codedS
  rw [if_neg (by simp [h0])]
  simp only
  rw [h1]
  simp only
  rw [h2, if_neg (by simp [h3]; omega), if_pos h4, h5]
theorem codedS_copy {l : List UInt8} {lit dist : List Nat} {M f : Nat} {y b c d : St} {n k : Nat} (h0 : y.code = 0) (h1 : symS l y lit = (b, n)) (h2 : failS b (decide (285 < n)) 4 = c) (h3 : c.code = 0) (h4 : n = k + 257) (h5 : copiedS l dist M k c = d) : codedS l lit dist M (f + 1) y = codedS l lit dist M f d := by
  subst h4
  conv => lhs; unfold codedS
  rw [if_neg (by simp [h0])]
  simp only
  rw [h1]
  simp only
  rw [h2, if_neg (by rintro (h | h) <;> omega), if_neg (by omega), Nat.add_sub_cancel, h5]
/-- What copied does to a state that is good. -/
theorem copyS_code {f : St} {d n : Nat} (h : (copyS f d n).code = 0) : f.code = 0 ∧ (copyS f d n).out = copyB d n f.out := by
  unfold copyS at h ⊢
  by_cases h0 : f.code = 0
  · rw [if_pos h0]; exact ⟨h0, rfl⟩
  · rw [if_neg h0] at h; exact absurd h h0
theorem copiedS_room {l : List UInt8} {dist : List Nat} {M k : Nat} {x : St} (h : (copiedS l dist M k x).code = 0) : (copiedS l dist M k x).out.length ≤ M := by
  unfold copiedS at h ⊢
  simp only at h ⊢
  generalize (if k = 28 then 0 else extraN k 8 4) = wd at h ⊢
  split at h
  · rename_i h1; exact absurd h h1
  · rename_i h1
    rw [if_neg h1]
    obtain ⟨h2, h3⟩ := copyS_code h
    have h4 := failS_zero (e := 7) (by decide) h2
    rw [h3, copyB_length, h4.2.2]
    have := of_decide_eq_false h4.1
    omega
theorem copiedS_good {l : List UInt8} {dist : List Nat} {M k : Nat} {x : St} (hk : k ≤ 28) (h0 : x.code = 0) (hp : x.at' ≤ 8 * l.length) (h : (copiedS l dist M k x).code = 0) : x.at' ≤ (copiedS l dist M k x).at' ∧ (copiedS l dist M k x).at' ≤ 8 * l.length := by
  have T := copiedS_tells (l := l) (dist := dist) (M := M) hk h0
  cases hr : copiedP dist M k x.out l x.at' with
  | error e => rw [hr] at T; exact absurd (T.1.symm.trans h) T.2
  | ok r =>
    obtain ⟨o, tt⟩ := r
    rw [hr] at T
    have := (Lefty.copied dist M k x.out).le hr hp
    rw [T.2.2]
    exact this

end
end Go.Proofs.YtboiljclenikbaaDoor
/-
  The contract of the document's coded.
-/
namespace Go.Proofs.YtboiljclenikbaaDoor
section
open Go.RowKit

theorem wpList_append_row8 {ops : Array Oper} {rest : List Oper} {o : Oper} {a : Act} {w : World} {Q : Exit → Act → World → Prop} (hgd : o.guard = none) (s x : Operand)
    (ho : o.op = .call { callee := .builtin .append, args := #[s, x], argTypes := #[28, 28] })
    (v : Value) (l : List UInt8) (hs : a.eval s = v) (hown : Row8 w v l)
    (ad : Addr) (c : Nat) (x8 : UInt8) (hx : a.eval x = .slice (some ad) 1 c) (hnews : ∀ j (h : j < [x8].length), w.cell? (ad.add j) = some (.int .u8 ([x8][j].toNat : Int)))
    (hlen : l.length + 1 ≤ 140737488355328) (H : Nat) (hH : w.heap.size = H)
    (h : ∀ v' w', Hid (Row8 w' v' (l ++ [x8])) → Hid (w.grownBy w' v.ownBlock) → Hid (∀ k, v'.ownBlock = some k → v.ownBlock = some k ∨ k = H) → (∃ g cap, v' = .slice (some ⟨g, 0, none⟩) (l.length + 1) cap) → wpList Tryd.prog ops Q rest (a.put o.dst v') w') : wpList Tryd.prog ops Q (o :: rest) a w := by
  refine wpList_plain hgd fun K hK => ?_
  have hw : Region.wanted o (yielded ops a.tmps) = true := by simp [Region.wanted, hgd]
  have := step_append_row8 (ops := ops) (K := K) (Q := Q) (E := True) hgd s x ho v l hs hown ad c x8 hx hnews hlen H hH (fun v' w' h1 h2 h3 h4 => hK _ _ (h v' w' h1 h2 h3 h4))
  rwa [if_pos hw] at this

end
end Go.Proofs.YtboiljclenikbaaDoor
