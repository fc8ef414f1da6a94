/-
  CodeRef, CodeRef2, CodeRef3, CodeRef4, RowAt: texts merged.
-/
import Derived.Test.YtboiljclenikbaaDoorRows
import Derived.Test.YtboiljclenikbaaDoorHPlain
import Derived.Test.YtboiljclenikbaaDoorHRows
import Derived.WalkKit
import Derived.WalkSpells
import Derived.WalkLawsBesides
import Derived.WalkSmall
import Derived.Lib.Hide
import Derived.Deep.LoopGhost
import Derived.Laws.OwnMore
import Derived.Deep.OwnRows
/-
  The contracts of the document's Check, Refused, Longest, Find of codes.
-/
namespace Go.Proofs.YtboiljclenikbaaDoor
section
open Go.RowKit

def longZ (ls : List Int) : Int := ls.foldl max 0
theorem longZ_snoc (ls : List Int) (l : Int) : longZ (ls ++ [l]) = max (longZ ls) l := by simp [longZ]
theorem take_more {ls : List Int} {j : Nat} {v : Int} (hj : j < ls.length) (h : ls[j]?.getD 0 = v) : ls.take (j + 1) = ls.take j ++ [v] := by
  rw [List.getElem?_eq_getElem hj] at h
  simp only [Option.getD_some] at h
  rw [List.take_succ_eq_append_getElem hj, h]

/-- The first lengths are good, and take so much. -/
theorem check_bad {ls : List Int} {j : Nat} {v : Int} (h : ls.length ≤ 320) (hj : j < ls.length) (hv : ls[j]?.getD 0 = v) (hb : v < 0 ∨ 15 < v) : checkZ ls = 3 := by
  unfold checkZ
  rw [if_neg (by omega), if_neg]
  intro hall
  rw [List.getElem?_eq_getElem hj] at hv
  simp only [Option.getD_some] at hv
  have := List.all_eq_true.1 hall _ (List.getElem_mem hj)
  unfold okL at this
  rw [hv] at this
  simp only [decide_eq_true_eq] at this
  omega
theorem check_good {ls : List Int} (h : ls.length ≤ 320) (hall : ∀ l ∈ ls, 0 ≤ l ∧ l ≤ 15) : checkZ ls = if kraft ls = 0 then 12 else if 32768 < kraft ls then 7 else if kraft ls < 32768 then 5 else 0 := by
  unfold checkZ
  rw [if_neg (by omega), if_pos]
  rw [List.all_eq_true]
  intro l hl
  unfold okL
  simpa using hall l hl
theorem part_half {v k : Nat} (hv : v ≤ 15) (hk : k < v) : 2 ^ (15 - k) / 2 = 2 ^ (15 - (k + 1)) := by
  rw [show 15 - k = (15 - (k + 1)) + 1 by omega, Nat.pow_succ]; omega
theorem pow15 (k : Nat) : 2 ^ (15 - k) ≤ 32768 := by
  have : (2 : Nat) ^ (15 - k) ≤ 2 ^ 15 := Nat.pow_le_pow_right (by omega) (by omega)
  omega
end
end Go.Proofs.YtboiljclenikbaaDoor
/-
  The contracts of the document's Find, Bits, Put of codes.
-/
namespace Go.Proofs.YtboiljclenikbaaDoor
section
open Go.RowKit

theorem asZ_getD (cs : List Nat) {j : Nat} (h : j < cs.length) : (asZ cs)[j]?.getD 0 = ((cs[j] : Nat) : Int) := by
  rw [List.getElem?_eq_getElem (by rw [asZ_length]; exact h)]
  simp [asZ]
theorem findC_step {ls : List Int} {cs : List Nat} {w x j : Nat} (hl : j < ls.length) (hc : j < cs.length) :
    findC (ls.drop j) (cs.drop j) w x j = if ls[j] = (w : Int) ∧ cs[j] = x ∧ 0 < w then (j : Int) else findC (ls.drop (j + 1)) (cs.drop (j + 1)) w x (j + 1) := by
  rw [List.drop_eq_getElem_cons hl, List.drop_eq_getElem_cons hc, findC]
theorem findC_over {ls : List Int} {cs : List Nat} {w x j : Nat} (h : ¬ (j < cs.length ∧ j < ls.length)) : findC (ls.drop j) (cs.drop j) w x j = -1 := by
  by_cases hc : j < cs.length
  · rw [List.drop_of_length_le (show ls.length ≤ j by omega)]; rfl
  · rw [List.drop_of_length_le (show cs.length ≤ j by omega)]
    cases ls.drop j <;> rfl

theorem bitsOf_take {s : ByteArray} {k : Nat} (h : k < s.size) : bitsOf (s.data.toList.take (k + 1)) = bitsOf (s.data.toList.take k) ++ bitsN 8 s[k].toNat := by
  rw [take_snoc s k h, bitsOf_append]
  simp [bitsOf]
end
end Go.Proofs.YtboiljclenikbaaDoor
/-
  The contracts of the document's Read of codes.
-/
namespace Go.Proofs.YtboiljclenikbaaDoor
section
open Go.RowKit
theorem cellsZ_set (l : List Int) (j : Nat) (v : Int) : (cellsZ l).set j (.int .i64 v) = cellsZ (l.set j v) := by unfold cellsZ; rw [List.map_set]
theorem Own64.set {w : World} {B g n cap : Nat} {l : List Int} (h : Own64 w B (.slice (some ⟨g, 0, none⟩) n cap) l) (j : Nat) (v : Int) : Own64 (w.setCell ⟨g, j, none⟩ (.int .i64 v)) B (.slice (some ⟨g, 0, none⟩) n cap) (l.set j v) := by
  obtain ⟨h1, g', cap', hv⟩ := h
  have hn : n = l.length := by injection hv
  subst hn
  have h2 := (World.ownsRow.stored h1 j (.int .i64 v)).1
  rw [cellsZ_set] at h2
  unfold Own64
  rw [List.length_set]
  exact ⟨h2, _, _, rfl⟩
theorem Own64.there {w : World} {B g n cap : Nat} {l : List Int} (h : Own64 w B (.slice (some ⟨g, 0, none⟩) n cap) l) {j : Nat} (hj : j < l.length) : ∃ v, w.cell? ⟨g, j, none⟩ = some (.int .i64 v) ∧ w.frozen? ⟨g, j, none⟩ = false ∧ B ≤ g := by
  obtain ⟨g', cap', hv, _, hc⟩ := h.at
  obtain ⟨h1, _⟩ := h
  have hg : g = g' := by injection hv with e1 _ _; injection e1 with e1; injection e1
  have hn : n = l.length := by injection hv
  subst hg hn
  exact ⟨_, hc j hj, World.ownsRow.frozenAt h1 j, (h1.lt g rfl).1⟩
theorem asZ_set (l : List Nat) (j v : Nat) : (asZ l).set j (v : Int) = asZ (l.set j v) := by unfold asZ; rw [List.map_set]
theorem asZ_append (a b : List Nat) : asZ (a ++ b) = asZ a ++ asZ b := by simp [asZ]

/-- The same, so many bits on. -/
def onC (n : Nat) (r : Int × Nat × Int) : Int × Nat × Int := (r.1, r.2.1 + n, r.2.2)
theorem readC_end {ls : List Int} {cs : List Nat} {n code : Nat} {r : List Nat} : readC ls cs 0 n code r = (0, 0, 4) := rfl
theorem readC_short {ls : List Int} {cs : List Nat} {k n code : Nat} : readC ls cs (k + 1) n code [] = (0, 0, 5) := rfl
theorem readC_hit {ls : List Int} {cs : List Nat} {k n code b : Nat} {r : List Nat} (h : 0 ≤ findC ls cs (n + 1) (2 * code + b) 0) : readC ls cs (k + 1) n code (b :: r) = (findC ls cs (n + 1) (2 * code + b) 0, 1, 0) := by rw [readC, if_pos h]
theorem readC_miss {ls : List Int} {cs : List Nat} {k n code b : Nat} {r : List Nat} (h : ¬ 0 ≤ findC ls cs (n + 1) (2 * code + b) 0) : readC ls cs (k + 1) n code (b :: r) = onC 1 (readC ls cs k (n + 1) (2 * code + b) r) := by rw [readC, if_neg h]; rfl
theorem onC_onC (a b : Nat) (r : Int × Nat × Int) : onC a (onC b r) = onC (a + b) r := by unfold onC; simp; omega
theorem onC_zero (r : Int × Nat × Int) : onC 0 r = r := rfl

theorem readC_le (ls : List Int) (cs : List Nat) : ∀ (k n code : Nat) (l : List Nat), (readC ls cs k n code l).2.1 ≤ l.length
  | 0, _, _, _ => by rw [readC_end]; exact Nat.zero_le _
  | _ + 1, _, _, [] => by rw [readC_short]; exact Nat.zero_le _
  | k + 1, n, code, b :: r => by
    by_cases h : 0 ≤ findC ls cs (n + 1) (2 * code + b) 0
    · rw [readC_hit h]; simp
    · rw [readC_miss h]
      have := readC_le ls cs k (n + 1) (2 * code + b) r
      unfold onC
      simp only [List.length_cons]; omega

end
end Go.Proofs.YtboiljclenikbaaDoor
/-
  The contract of the document's Codes.
-/
namespace Go.Proofs.YtboiljclenikbaaDoor
section
open Go.RowKit

end
end Go.Proofs.YtboiljclenikbaaDoor
/-
  Rows of numbers that were made at their whole length.
-/
namespace Go.Proofs.YtboiljclenikbaaDoor
section
open Go.RowKit

/-- A row of numbers that fills a block of its own. -/
def RowAt (w : World) (g : Nat) (l : List Nat) : Prop := w.heap[g]? = some (.cells (cellsZ (asZ l)).toArray 3 (0, 0))
theorem RowAt.cell {w : World} {g : Nat} {l : List Nat} (h : RowAt w g l) {j x : Nat} (hj : l[j]? = some x) : w.cell? ⟨g, j, none⟩ = some (.int .i64 (x : Int)) := by
  obtain ⟨h1, h2⟩ := List.getElem?_eq_some_iff.1 hj
  rw [cell_of_row _ _ _ _ _ _ h, List.getElem?_toArray, cellsZ_at (by rw [asZ_length]; exact h1), asZ_get, h2]
theorem RowAt.free {w : World} {g : Nat} {l : List Nat} (h : RowAt w g l) (j : Nat) : w.frozen? ⟨g, j, none⟩ = false := frozen_of_row _ _ _ _ _ h
theorem RowAt.put {w : World} {g : Nat} {l : List Nat} (h : RowAt w g l) (j x : Nat) : RowAt (w.setCell ⟨g, j, none⟩ (.int .i64 (x : Int))) g (l.set j x) := by
  unfold RowAt
  rw [heap_setCell_same _ _ _ _ _ _ h, List.setIfInBounds_toArray]
  unfold cellsZ asZ
  rw [List.map_set, List.map_set]
theorem RowAt.lt {w : World} {g : Nat} {l : List Nat} (h : RowAt w g l) : g < w.heap.size := by
  rcases Nat.lt_or_ge g w.heap.size with h' | h'
  · exact h'
  · unfold RowAt at h; rw [Array.getElem?_eq_none h'] at h; simp at h
theorem RowAt.later {w w' : World} {g : Nat} {l : List Nat} (h : RowAt w g l) (hb : Below w.heap.size w w') : RowAt w' g l := (hb.block g h.lt).trans h
theorem RowAt.other {w : World} {g : Nat} {l : List Nat} (h : RowAt w g l) {a : Addr} (v : Value) (hne : g ≠ a.block) : RowAt (w.setCell a v) g l := (heap_setCell_other _ _ _ _ hne).trans h
theorem RowAt.nums {w : World} {g : Nat} {l : List Nat} (h : RowAt w g l) : Nums w (some ⟨g, 0, none⟩) (asZ l) :=
  .inr ⟨g, 0, rfl, fun i hi => by
    rw [asZ_length] at hi
    rw [Nat.zero_add, h.cell (List.getElem?_eq_getElem hi), asZ_getD l hi]⟩
theorem made_zeros (n : Nat) : madeCells (Value.int .i64 0).cells n = (cellsZ (asZ (List.replicate n 0))).toArray := by
  unfold madeCells cellsZ asZ
  apply Array.ext
  · simp
  · intro i h1 h2
    simp [Value.cells, Nat.mod_one]
theorem make_row (n : Nat) (W : World) (h : n ≤ 100000) :
    (Instr.makeSlice 58 (.int .i64 (n : Int)) (.int .i64 (n : Int))).run Tryd.prog W = .ok (.slice (some ⟨W.heap.size, 0, none⟩) n n) (W.alloc (.cells (cellsZ (asZ (List.replicate n 0))).toArray 3)) := by
  obtain ⟨i0, hi, hz0, hz1, hz2⟩ := info_parts info64
  have hr := run_make (P := Tryd.prog) W 58 3 i0 (.int .i64 0) Tryd.underlying58 hi hz0 .i64 .i64 (n : Int) (n : Int) (by omega) (by omega) (by rw [hz2]; omega) (by omega)
  rw [hz1, Int.toNat_natCast, Nat.mul_one, made_zeros] at hr
  exact hr

end
end Go.Proofs.YtboiljclenikbaaDoor
