/-
  A text is put behind a row of bytes of a call's own.
-/
import Derived.Test.YtaoeaadgcdoldaaOwn8
import Derived.Lib.AppendStr
namespace Go.Proofs.Ytaoeaadgcdoldaa
open Go.RowKit

theorem strCells_is (s : ByteArray) : Lib.strCells s = cellsB s.data.toList := rfl
theorem own_ends0 {w' : World} {B n m k : Nat} {e : TypeId} {v : Value} {xs : List Value} (hk : k = n + m) (h : w'.ownsRow B e 1 v (n + m) xs) (hf : ∃ g cap, v = .slice (some ⟨g, 0, none⟩) (n + m) cap) :
    w'.ownsRow B e 1 v k xs ∧ ∃ g cap, v = .slice (some ⟨g, 0, none⟩) k cap := by subst hk; exact ⟨h, hf⟩
theorem wpList_append8s {ops : Array Oper} {rest : List Oper} {o : Oper} {a : Act} {w : World} {Q : Exit → Act → World → Prop} (hgd : o.guard = none) (sl x : Operand)
    (ho : o.op = .call { callee := .builtin .append, args := #[sl, x], argTypes := #[31, 9] })
    (B : Nat) (v : Value) (l : List UInt8) (hs : a.eval sl = v) (hown : Own8 w B v l) (s : ByteArray) (hx : a.eval x = .string s)
    (hlen : l.length + s.size ≤ 140737488355328) (W0 : World) (hb : Below B W0 w) (hB : B ≤ w.heap.size)
    (h : ∀ v' w', Hid (Own8 w' B v' (l ++ s.data.toList)) → Hid (Below B W0 w') → (∃ g cap, v' = .slice (some ⟨g, 0, none⟩) (l.length + s.size) cap) → wpList Try.prog ops Q rest (a.put o.dst v') w') : wpList Try.prog ops Q (o :: rest) a w := by
  obtain ⟨i0, hi, hz0, hz1, hz2⟩ := info_parts info8
  obtain ⟨h1, g, cap, rfl⟩ := hown
  refine Lib.wpList_append_own_string w hgd sl x 31 9 ho B 5 i0 Try.underlying31 Try.underlying9 hi hz0 hz1 hz2 _ _ _ hs h1 s hx (by unfold maxLen; omega) hlen hB ?_
  intro v' w' hown' hgrow hnil
  have hform : ∃ g cap, v' = .slice (some ⟨g, 0, none⟩) (l.length + s.size) cap := by
    rcases hown'.2 with ⟨e1, _⟩ | ⟨g', cap', _, e1, _⟩
    · have := (hnil.1 e1).1; cases this
    · exact ⟨g', cap', e1⟩
  refine h v' w' (Lib.hid ?_) (Lib.hid (hb.grown hgrow hB (fun k ek => (h1.lt k ek).1))) hform
  have := own_ends0 (k := (l ++ s.data.toList).length) (by rw [List.length_append, ← size_data]) hown' hform
  unfold Own8
  rw [cellsB_append]
  rw [strCells_is] at this
  exact this

end Go.Proofs.Ytaoeaadgcdoldaa
