/-
  The object that tells deflated bytes: bytes are put behind; the tables stay.
-/
import Derived.Test.YtiiiokikmjgliaaGreatDoorKTell
import Derived.Test.YtiiiokikmjgliaaGreatDoorKRefI
namespace Go.Proofs.YtiiiokikmjgliaaGreatDoor
open Go.RowKit
def LaidBy (w : World) (F : List Nat) : Prop := Laid w ∧ 4 ∉ F ∧ 5 ∉ F ∧ 7 ∉ F ∧ 6 ∉ F
theorem LaidBy.touch {w w' : World} {F F' : List Nat} (h : LaidBy w F) (ht : Touches F F' w w') : LaidBy w' F' := by
  obtain ⟨hl, h1, h2, h3, h4⟩ := h
  have b1 : 4 < w.heap.size := cell_block (hl.lens 0 _ rfl).1
  have b2 : 5 < w.heap.size := cell_block (hl.dist 0 _ rfl).1
  have b3 : 7 < w.heap.size := cell_block (hl.times 0 _ rfl).1
  have b4 : 6 < w.heap.size := cell_block (hl.order 0 (by decide))
  refine ⟨⟨fun i x hx => ?_, fun i x hx => ?_, fun i x hx => ?_, fun i hi => ?_⟩, (ht.out b1 h1).2, (ht.out b2 h2).2, (ht.out b3 h3).2, (ht.out b4 h4).2⟩
  · exact ⟨(ht.cell (a := ⟨4, _, none⟩) b1 h1).trans (hl.lens i x hx).1, (ht.cell (a := ⟨4, _, none⟩) b1 h1).trans (hl.lens i x hx).2⟩
  · exact ⟨(ht.cell (a := ⟨5, _, none⟩) b2 h2).trans (hl.dist i x hx).1, (ht.cell (a := ⟨5, _, none⟩) b2 h2).trans (hl.dist i x hx).2⟩
  · exact ⟨(ht.cell (a := ⟨7, _, none⟩) b3 h3).trans (hl.times i x hx).1, (ht.cell (a := ⟨7, _, none⟩) b3 h3).trans (hl.times i x hx).2⟩
  · exact (ht.cell (a := ⟨6, _, none⟩) b4 h4).trans (hl.order i hi)
section
variable {w w9 : World} {T rb : Nat} {s : ByteArray} {pos : Nat} {o o2 : List UInt8} {M : Nat} {v v9 : Value} {p q : Option Addr} {X : List Nat}
theorem TlIs.grown (h : TlIs w T rb s pos o M v p q X) (hg : w.grownBy w9 v.ownBlock) : TlCell w9 T rb v M p q :=
  (hg.block T h.cell.lt (fun e => (h.d2 T e.symm).1 rfl)).trans h.cell
theorem TlIs.grow (h : TlIs w T rb s pos o M v p q X) (hr : Row8 w9 v9 o2) (hg : w.grownBy w9 v.ownBlock) (hv : ∀ k, v9.ownBlock = some k → v.ownBlock = some k ∨ w.heap.size ≤ k) (hM : o2.length ≤ M) :
    TlIs (w9.setCell ⟨T, 1, none⟩ v9) T rb s pos o2 M v9 p q X ∧ Touches (tlF T rb v) (tlF T rb v9) w (w9.setCell ⟨T, 1, none⟩ v9) := by
  have l1 := h.cell.lt
  have l2 := h.rd.lt rb (by simp)
  have hne : ∀ k, v9.ownBlock = some k → k ≠ T ∧ k ≠ rb := fun k hk => by
    rcases hv k hk with h1 | h1
    · exact h.d2 k h1
    · omega
  have hk : ∀ k, k < w.heap.size → k ≠ T → v.ownBlock ≠ some k → (w9.setCell ⟨T, 1, none⟩ v9).heap[k]? = w.heap[k]? := fun k hk hT ho =>
    (heap_setCell_other _ ⟨T, 1, none⟩ k _ hT).trans (hg.block k hk (fun e => ho e.symm))
  have hsz : w.heap.size ≤ (w9.setCell ⟨T, 1, none⟩ v9).heap.size := by have := hg.size; simp [World.setCell]; exact this
  refine ⟨⟨(h.grown hg).put v9, h.rd.move hsz fun k e => ?_, hr.move fun k e => heap_setCell_other _ ⟨T, 1, none⟩ k _ (hne k e).1, h.fix.move hsz fun k e => hk k (h.fix.lt k e) (h.dX k e).1 (h.dX k e).2.2, h.d1, hne, fun k e => ⟨(h.dX k e).1, (h.dX k e).2.1, fun e9 => ?_⟩, h.hpos, hM⟩, ?_⟩
  · obtain rfl : k = rb := by simpa using e
    exact hk k l2 h.d1.symm fun e => (h.d2 k e).2 rfl
  · rcases hv k e9 with h1 | h1
    · exact (h.dX k e).2.2 h1
    · have := h.fix.lt k e; omega
  · refine ⟨hg.os, hg.tape, hg.output, hsz, fun k hlt hF => hk k hlt (fun e => hF (e ▸ tlF_self _ _ _)) fun e => hF (tlF_own e), fun k hm => ?_⟩
    rcases tlF_mem hm with rfl | rfl | e
    · exact .inl (tlF_self _ _ _)
    · exact .inl (tlF_rd _ _ _)
    · rcases hv k e with h1 | h1
      · exact .inl (tlF_own h1)
      · exact .inr h1
end
end Go.Proofs.YtiiiokikmjgliaaGreatDoor
