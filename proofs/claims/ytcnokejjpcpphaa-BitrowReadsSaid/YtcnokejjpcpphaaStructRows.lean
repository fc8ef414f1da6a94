/-
  A slice of structs that came in: its cells, element by element, field by field.
-/
import Derived.Test.YtcnokejjpcpphaaRows
import Derived.Deep.Slices
import Derived.ChangeSame
import Derived.ChangeArms
namespace Go.Proofs.Ytcnokejjpcpphaa
open Go.ChangeShapes Go.WideShapes Go.Deep

/-- One thing for each number, all in a list. -/
theorem list_of {α : Type} {P : Nat → α → Prop} {n : Nat} (h : ∀ i, i < n → ∃ r, P i r) : ∃ zs : List α, zs.length = n ∧ ∀ i (hi : i < zs.length), P i zs[i] := by
  induction n with
  | zero => exact ⟨[], rfl, fun i hi => by cases hi⟩
  | succ n ih =>
    obtain ⟨zs, hl, hz⟩ := ih fun i hi => h i (by omega)
    obtain ⟨r, hr⟩ := h n (by omega)
    refine ⟨zs ++ [r], by simp [hl], fun i hi => ?_⟩
    by_cases e : i < zs.length
    · rw [List.getElem_append_left e]; exact hz i e
    · have hi' : i = n := by simp at hi; omega
      subst hi'
      rw [List.getElem_append_right (by omega)]
      simpa [hl] using hr
theorem slice_of_structs {H : Type} {enc : TypeId × Value → H} {P : Program} {w : World} {base : Nat} {spare : Nat → Bool} {held : Bool} {t e : TypeId} {fs : Array Field} {nf fuel : Nat} {cs : List Value} {x : DataW H × List MemPlace}
    (ht : P.underlying t = some (.slice e)) (he : P.underlying e = some (.struct fs)) (hC : P.cellsOf e = nf) (hone : ∀ j f, fs[j]? = some f → j < nf ∧ f.offset = j ∧ P.cellsOf f.type = 1)
    (h : DataW.trod enc P w base spare held fuel t cs = some x) :
    cs = [.slice none 0 0] ∨ ∃ (a : Addr) (len cap : Nat), cs = [.slice (some a) len cap] ∧ len ≤ cap ∧ cap ≤ maxLen ∧
      ∀ i, i < len → ∀ (j : Nat) (f : Field), fs[j]? = some f → ∃ (v : Value) (y : DataW H × List MemPlace) (n : Nat), w.cell? (a.add (i * nf + j)) = some v ∧ DataW.trod enc P w base spare held n f.type [v] = some y := by
  rcases open_slice ht h with h0 | ⟨a, len, cap, m, n, D, Pl, hcs, _, hl, hm, hmm, _, hi⟩
  · exact .inl h0.1
  · refine .inr ⟨a, len, cap, hcs, hl, hm, fun i hil j f hj => ?_⟩
    have him : i < m := by
      rw [hmm]
      split <;> omega
    obtain ⟨cells, hc, hel⟩ := hi i him
    rw [hC] at hc
    obtain ⟨xs, n', _, _, hlen, hxs, hat⟩ := DataW.trod_struct he hel
    obtain ⟨_, hcl, hcell⟩ := World.cells?_some hc
    obtain ⟨hjn, hoff, hsz⟩ := hone j f hj
    have hread := hat j f hj
    rw [hoff, hsz, List.drop_eq_getElem_cons (show j < cells.length by rw [hlen, hC]; exact hjn)] at hread
    have hjx : j < xs.length := by rw [hxs]; exact (Array.getElem?_eq_some_iff.1 hj).1
    rw [List.getElem?_eq_getElem hjx] at hread
    refine ⟨cells[j]'(by rw [hlen, hC]; exact hjn), xs[j], n', ?_, hread⟩
    rw [← Go.Deep.add_add, hcell j hjn]
    exact List.getElem?_eq_getElem _

end Go.Proofs.Ytcnokejjpcpphaa
