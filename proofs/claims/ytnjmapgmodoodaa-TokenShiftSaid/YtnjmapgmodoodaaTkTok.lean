/-
  api.Token in memory: a struct of five cells.
-/
import Derived.Test.YtnjmapgmodoodaaTkPlain
import Derived.Test.YtnjmapgmodoodaaRows
import Derived.Test.YtnjmapgmodoodaaBase
import Derived.Laws.Tables
namespace Go.Proofs.Ytnjmapgmodoodaa
open Go.RowKit
set_option maxRecDepth 100000

def tokC (k n : Int) (s : ByteArray) (a e : Int) : Array Value := #[.int .i64 k, .int .i64 n, .string s, .int .i64 a, .int .i64 e]
/-- A sign as the program holds it; and beside it the error. -/
def Sg.tok (x : Sg) : Array Value := tokC x.kind x.num (bytes x.str) (x.beg : Int) (x.fin : Int)
def Sg.told (x : Sg) : Value := .tuple #[.agg x.tok, .int .i64 x.code]
theorem info_tok : (Try.prog.info? 24).map (·.size) = some 5 := by kernel_rfl
/-- A block that holds one. -/
def TokCell (w : World) (b : Nat) (cs : Array Value) : Prop := w.heap[b]? = some (.cells cs 24 (0, 0))
theorem TokCell.cell {w : World} {b : Nat} {cs : Array Value} (h : TokCell w b cs) (j : Nat) : w.cell? ⟨b, j, none⟩ = cs[j]? := cell_of_row _ _ _ _ _ _ h
theorem TokCell.free {w : World} {b : Nat} {cs : Array Value} (h : TokCell w b cs) (j : Nat) : w.frozen? ⟨b, j, none⟩ = false := frozen_of_row _ _ _ _ _ h
theorem TokCell.lt {w : World} {b : Nat} {cs : Array Value} (h : TokCell w b cs) : b < w.heap.size := by
  rcases Nat.lt_or_ge b w.heap.size with h' | h'
  · exact h'
  · unfold TokCell at h; rw [Array.getElem?_eq_none h'] at h; cases h
theorem TokCell.later {w w' : World} {b : Nat} {cs : Array Value} (h : TokCell w b cs) {B : Nat} (hb : Below B w w') (hB : b < B) : TokCell w' b cs := (hb.block b hB).trans h
theorem TokCell.new (w : World) (cs : Array Value) : TokCell (w.alloc (.cells cs 24)) w.heap.size cs := heap_alloc_new w _
theorem TokCell.set {w : World} {b : Nat} {cs : Array Value} (h : TokCell w b cs) (j : Nat) (v : Value) : TokCell (w.setCell ⟨b, j, none⟩ v) b (cs.setIfInBounds j v) := heap_setCell_same _ _ j _ _ _ h
theorem tokC_one (k n : Int) (s : ByteArray) (a e : Int) : (tokC k n s a e).all (·.oneCell') = true := by
  have h : (tokC k n s a e).toList.all (·.oneCell') = true := rfl
  simpa using h
/-- It is stored whole. -/
theorem TokCell.store {ops : Array Oper} {rest : List Oper} {o : Oper} {act : Act} {w : World} {Q : Exit → Act → World → Prop} (hgd : o.guard = none) (hdst : o.dst = none) (x y : Operand) (ho : o.op = .store 24 x y)
    (b : Nat) (cs : Array Value) (k n : Int) (s : ByteArray) (a e : Int) (hx : act.eval x = .pointer (some ⟨b, 0, none⟩)) (hy : act.eval y = .agg (tokC k n s a e)) (hg : TokCell w b cs) (hcs : cs.size = 5) (B : Nat) (w0 : World) (hb : Below B w0 w) (hB : B ≤ b)
    (h : ∀ w', Hid (TokCell w' b (tokC k n s a e)) → Hid (Below B w0 w') → Hid (∀ k, k ≠ b → w'.heap[k]? = w.heap[k]?) → wpList Try.prog ops Q rest act w') : wpList Try.prog ops Q (o :: rest) act w := by
  refine wpList_plain hgd fun K hK => ?_
  refine wp_store_row _ x y ho b (tokC k n s a e) hx hy _ cs hg info_tok (by rw [hcs]; rfl) (tokC_one _ _ _ _ _) (hK _ _ ?_)
  have hr := h _ (Lib.hid (setRow_heap _ _ _ _ _ _ hg)) (Lib.hid (hb.trans ⟨rfl, rfl, rfl, by simp, fun k hk => setRow_other _ _ _ _ (by omega)⟩)) (Lib.hid fun k hk => setRow_other _ _ _ _ hk)
  rw [hdst]
  exact hr
/-- It is loaded whole. -/
theorem TokCell.load {ops : Array Oper} {rest : List Oper} {o : Oper} {act : Act} {w : World} {Q : Exit → Act → World → Prop} (hgd : o.guard = none) (x : Operand) (ho : o.op = .load 24 x)
    (b : Nat) (cs : Array Value) (hx : act.eval x = .pointer (some ⟨b, 0, none⟩)) (hg : TokCell w b cs) (hcs : cs.size = 5) (h : wpList Try.prog ops Q rest (act.put o.dst (.agg cs)) w) : wpList Try.prog ops Q (o :: rest) act w :=
  wpList_load_row hgd _ x ho b hx _ _ _ _ hg Try.underlying24 rfl (by rw [hcs]; exact info_tok) h
/-- What the parts of it are. -/
theorem TokCell.parts {w : World} {b : Nat} {k n : Int} {s : ByteArray} {a e : Int} (h : TokCell w b (tokC k n s a e)) :
    w.cell? ⟨b, 0, none⟩ = some (.int .i64 k) ∧ w.cell? ⟨b, 1, none⟩ = some (.int .i64 n) ∧ w.cell? ⟨b, 2, none⟩ = some (.string s) ∧ w.cell? ⟨b, 3, none⟩ = some (.int .i64 a) ∧ w.cell? ⟨b, 4, none⟩ = some (.int .i64 e) :=
  ⟨h.cell 0, h.cell 1, h.cell 2, h.cell 3, h.cell 4⟩
theorem told_err {c : Int} : (Sg.err c).told = .tuple #[.agg (tokC 0 0 ⟨#[]⟩ 0 0), .int .i64 c] := rfl

end Go.Proofs.Ytnjmapgmodoodaa
