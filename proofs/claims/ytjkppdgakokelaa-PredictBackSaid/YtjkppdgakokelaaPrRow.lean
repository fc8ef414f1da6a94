/-
  Rows of bytes that fill a block of the call's own.
-/
import Derived.Test.YtjkppdgakokelaaOwn8
import Derived.Test.YtjkppdgakokelaaTouch
import Derived.Test.YtjkppdgakokelaaNums
import Derived.WalkSpells
import Derived.WalkLawsBesides
import Derived.Deep.OwnRows
import Derived.Lib.BufferWrite
import Derived.Laws.CopyOwn
import Derived.Laws.MakeOwn
namespace Go.Proofs.Ytjkppdgakokelaa
open Go.RowKit

/-- A row of bytes that fills a block of its own. -/
def ByteAt (w : World) (g : Nat) (l : List UInt8) : Prop := w.heap[g]? = some (.cells (cellsB l).toArray 5 (0, 0))
theorem ByteAt.cell {w : World} {g : Nat} {l : List UInt8} (h : ByteAt w g l) {j : Nat} (hj : j < l.length) : w.cell? ⟨g, j, none⟩ = some (.int .u8 (l[j].toNat : Int)) := by
  rw [cell_of_row _ _ _ _ _ _ h, List.getElem?_toArray, cellsB_at hj]
theorem ByteAt.cell' {w : World} {g : Nat} {l : List UInt8} (h : ByteAt w g l) {j : Nat} {x : UInt8} (hj : l[j]? = some x) : w.cell? ⟨g, j, none⟩ = some (.int .u8 (x.toNat : Int)) := by
  obtain ⟨h1, rfl⟩ := List.getElem?_eq_some_iff.1 hj
  exact h.cell h1
theorem ByteAt.free {w : World} {g : Nat} {l : List UInt8} (h : ByteAt w g l) (j : Nat) : w.frozen? ⟨g, j, none⟩ = false := frozen_of_row _ _ _ _ _ h
theorem ByteAt.put {w : World} {g : Nat} {l : List UInt8} (h : ByteAt w g l) (j : Nat) (x : UInt8) : ByteAt (w.setCell ⟨g, j, none⟩ (.int .u8 (x.toNat : Int))) g (l.set j x) := by
  unfold ByteAt
  rw [heap_setCell_same _ _ _ _ _ _ h, List.setIfInBounds_toArray]
  unfold cellsB
  rw [List.map_set]
theorem ByteAt.lt {w : World} {g : Nat} {l : List UInt8} (h : ByteAt w g l) : g < w.heap.size := (Array.getElem?_eq_some_iff.1 h).1
theorem ByteAt.later {w w' : World} {g : Nat} {l : List UInt8} (h : ByteAt w g l) (hb : Below w.heap.size w w') : ByteAt w' g l := (hb.block g h.lt).trans h
theorem ByteAt.other {w : World} {g : Nat} {l : List UInt8} (h : ByteAt w g l) {a : Addr} (v : Value) (hne : g ≠ a.block) : ByteAt (w.setCell a v) g l := (heap_setCell_other _ _ _ _ hne).trans h
theorem ByteAt.touch {w w' : World} {F F' : List Nat} {g : Nat} {l : List UInt8} (h : ByteAt w g l) (ht : Touches F F' w w') (hF : g ∉ F) : ByteAt w' g l := (ht.out h.lt hF).1.trans h
theorem Touches.new {F F' F'' : List Nat} {w w' : World} (h : Touches F F' w w') (hF : ∀ k ∈ F'', k ∈ F ∨ w.heap.size ≤ k) : Touches F F'' w w' := ⟨h.1, h.2.1, h.2.2.1, h.2.2.2.1, h.2.2.2.2.1, hF⟩
theorem Touches.wide {F F' G : List Nat} {w w' : World} (h : Touches F F' w w') (hF : ∀ k ∈ F, k ∈ G) : Touches G G w w' :=
  ⟨h.1, h.2.1, h.2.2.1, h.2.2.2.1, fun k hk hn => h.2.2.2.2.1 k hk fun m => hn (hF k m), fun _ hk => .inl hk⟩
theorem made_bytes (n : Nat) : madeCells (Value.int .u8 0).cells n = (cellsB (List.replicate n 0)).toArray := by
  unfold madeCells cellsB
  apply Array.ext
  · simp
  · intro i h1 h2
    simp [Value.cells, Nat.mod_one]
theorem make_bytes (n : Nat) (W : World) (h : n ≤ 100000) :
    (Instr.makeSlice 32 (.int .i64 (n : Int)) (.int .i64 (n : Int))).run Try.prog W = .ok (.slice (some ⟨W.heap.size, 0, none⟩) n n) (W.alloc (.cells (cellsB (List.replicate n 0)).toArray 5)) := by
  obtain ⟨i0, hi, hz0, hz1, hz2⟩ := info_parts info8
  have hr := run_make (P := Try.prog) W 32 5 i0 (.int .u8 0) Try.underlying32 hi hz0 .i64 .i64 (n : Int) (n : Int) (by omega) (by omega) (by rw [hz2]; omega) (by omega)
  rw [hz1, Int.toNat_natCast, Nat.mul_one, made_bytes] at hr
  exact hr

end Go.Proofs.Ytjkppdgakokelaa
