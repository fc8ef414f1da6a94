/-
  api.Token in memory, inside a fence: stored and loaded whole; what a round of the tokens' iterator keeps.
-/
import Derived.RangeFuncNested
import Derived.RangeFuncBound
import Derived.RangeFuncBox
import Derived.RangeFuncCalls
import Derived.RangeFuncLeaves
import Derived.Shelf.Abstract
import Derived.Shelf.RegionOpen
import Derived.WalkKit
import Derived.OwnWalkIn
import Derived.TacticsInMore
import Derived.LoopNIn
import Derived.LoopIn
import Derived.Test.YtnjmapgmodoodaaTkTok
namespace Go.Proofs.Ytnjmapgmodoodaa
open Go.RowKit Go.Shelf
set_option maxRecDepth 100000
attribute [local go_sem] Oper.semAt_some

theorem TokCell.storeIn {F : Fence} {n : Nat} {ops : Array Oper} {rest : List Oper} {o : Oper} {act : Act} {w : World} {Q : Exit → Act → World → Prop} (hgd : o.guard = none) (hdst : o.dst = none) (x y : Operand) (ho : o.op = .store 24 x y)
    (b : Nat) (cs ns : Array Value) (hx : act.eval x = .pointer (some ⟨b, 0, none⟩)) (hy : act.eval y = .agg ns) (hn : ns.size = 5) (h1 : ns.all (·.oneCell') = true) (hg : TokCell w b cs) (hcs : cs.size = 5)
    (h : wpListIn F n Try.prog ops Q rest act (w.setRow b ns)) : wpListIn F n Try.prog ops Q (o :: rest) act w := by
  refine wpListIn_plain hgd fun K hK => ?_
  unfold Oper.wpIn
  refine ⟨by simp [Oper.about, ho], ?_⟩
  rw [Oper.semAt_plain F _ _ (by rw [ho]; intro c hc; cases hc)]
  unfold execOp
  simp only [ho, hx, hy, Instr.storeAt, Instr.sureAddr, Sem.run_bind, Sem.run_pure, Result.andThen_ok, run_storeVar_row w b 24 24 cs ns hg (by rw [hn]; exact info_tok) (by rw [hcs, hn]) h1]
  show K (act.put o.dst undef) _
  rw [hdst]
  exact hK _ _ h
theorem TokCell.loadIn {F : Fence} {n : Nat} {ops : Array Oper} {rest : List Oper} {o : Oper} {act : Act} {w : World} {Q : Exit → Act → World → Prop} (hgd : o.guard = none) (x : Operand) (ho : o.op = .load 24 x)
    (b : Nat) (cs : Array Value) (hx : act.eval x = .pointer (some ⟨b, 0, none⟩)) (hg : TokCell w b cs) (hcs : cs.size = 5) (h : wpListIn F n Try.prog ops Q rest (act.put o.dst (.agg cs)) w) : wpListIn F n Try.prog ops Q (o :: rest) act w := by
  refine wpListIn_plain hgd fun K hK => ?_
  unfold Oper.wpIn
  refine ⟨by simp [Oper.about, ho], ?_⟩
  rw [Oper.semAt_plain F _ _ (by rw [ho]; intro c hc; cases hc)]
  unfold execOp
  simp only [ho, hx, Instr.loadAt, Instr.sureAddr, Sem.run_bind, Sem.run_pure, Result.andThen_ok, run_loadVar_row w b 24 24 cs (0, 0) _ hg Try.underlying24 rfl (by rw [hcs]; exact info_tok)]
  exact hK _ _ h

/-- The block to which a slice in a box points. -/
def rowOf (bo : Nat) (W : World) : Nat := match W.cell? ⟨bo, 0, none⟩ with
  | some (.slice (some a) _ _) => a.block
  | _ => 0
theorem rowOf_same {bo : Nat} {W W' : World} (h : W'.cell? ⟨bo, 0, none⟩ = W.cell? ⟨bo, 0, none⟩) : rowOf bo W' = rowOf bo W := by unfold rowOf; rw [h]
theorem rowOf_at {bo : Nat} {W : World} {a : Addr} {n c : Nat} (h : W.cell? ⟨bo, 0, none⟩ = some (.slice (some a) n c)) : rowOf bo W = a.block := by unfold rowOf; rw [h]
/-- What a round leaves: a box, and all cells that the caller did not make ahead, but for its row's. -/
structure RoundKeeps (N bo bn : Nat) (W W' : World) : Prop where
  size : W.heap.size ≤ W'.heap.size
  box : W'.cell? ⟨bn, 0, none⟩ = W.cell? ⟨bn, 0, none⟩
  sure : rowOf bo W < W.heap.size → rowOf bo W' < W'.heap.size
  row : rowOf bo W' = rowOf bo W ∨ W.heap.size ≤ rowOf bo W'
  cells : ∀ k cs ty fz, N ≤ k → W.heap[k]? = some (.cells cs ty fz) → k ≠ rowOf bo W → W'.heap[k]? = some (.cells cs ty fz)
theorem roundKeeps_t {N bo bn : Nat} {A B C : World} (h : RoundKeeps N bo bn A B) (k : RoundKeeps N bo bn B C) : RoundKeeps N bo bn A C := by
  refine ⟨Nat.le_trans h.size k.size, k.box.trans h.box, fun s => k.sure (h.sure s), ?_, ?_⟩
  · rcases k.row with e | e
    · rcases h.row with f | f
      · exact .inl (e.trans f)
      · exact .inr (by rw [e]; exact f)
    · exact .inr (Nat.le_trans h.size e)
  · intro j cs ty fz hN hj hr
    have h1 := h.cells j cs ty fz hN hj hr
    refine k.cells j cs ty fz hN h1 ?_
    have hlt := (Array.getElem?_eq_some_iff.1 hj).1
    rcases h.row with f | f
    · rw [f]; exact hr
    · omega
theorem roundKeeps_b {N bo bn : Nat} {w : World} (hbo : bo < w.heap.size) (hbn : bn < w.heap.size) (W : World) (l : Nat) (o o' : Obj) (hl : w.heap.size ≤ l) (ho : W.heap[l]? = some o) (hc : o.isCells = false) (_ : o.isWalk = false) : RoundKeeps N bo bn W (W.putObj l o') := by
  have hcell : ∀ b, b < w.heap.size → (W.putObj l o').cell? ⟨b, 0, none⟩ = W.cell? ⟨b, 0, none⟩ := fun b hb => by
    have h2 : (W.putObj l o').heap[b]? = W.heap[b]? := World.putObj_heap_other (by omega)
    unfold World.cell?
    simp only [h2]
  have hrow := rowOf_same (hcell bo hbo)
  have hsz : (W.putObj l o').heap.size = W.heap.size := by simp [World.putObj]
  refine ⟨by rw [hsz]; exact Nat.le_refl _, hcell bn hbn, fun s => by rw [hrow, hsz]; exact s, .inl hrow, ?_⟩
  intro j cs ty fz _ hj _
  have hne : j ≠ l := fun e => by
    subst e
    rw [hj] at ho
    cases ho
    cases hc
  exact (World.putObj_heap_other hne).trans hj
end Go.Proofs.Ytnjmapgmodoodaa
