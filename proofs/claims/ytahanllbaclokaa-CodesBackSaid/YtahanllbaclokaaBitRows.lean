/-
  Rows of bits in memory.
-/
import Derived.Test.YtahanllbaclokaaBitPlain
import Derived.Test.YtahanllbaclokaaOwn64
import Derived.WalkKit
import Derived.WalkSpells
import Derived.WalkLawsBesides
import Derived.Deep.LoopGhost
namespace Go.Proofs.Ytahanllbaclokaa
open Go.RowKit

def asZ (ds : List Nat) : List Int := ds.map fun n : Nat => (n : Int)
theorem asZ_length (ds : List Nat) : (asZ ds).length = ds.length := by simp [asZ]
theorem asZ_snoc (ds : List Nat) (a : Nat) : asZ (ds ++ [a]) = asZ ds ++ [(a : Int)] := by simp [asZ]
theorem asZ_get (ds : List Nat) (j : Nat) (h : j < (asZ ds).length) : (asZ ds)[j] = ((ds[j]'(by rwa [asZ_length] at h) : Nat) : Int) := by simp [asZ]

/-- A row of bits lies in a block. -/
def BitsAt (w : World) (g : Nat) (row : List Nat) : Prop := g < w.heap.size ∧ ∀ j (h : j < row.length), w.cell? ⟨g, j, none⟩ = some (.int .i64 ((row[j] : Nat) : Int))
theorem BitsAt.later {w w' : World} {g : Nat} {row : List Nat} (h : BitsAt w g row) (hb : Below w.heap.size w w') : BitsAt w' g row :=
  ⟨Nat.lt_of_lt_of_le h.1 hb.size, fun j hj => (hb.cell (p := ⟨g, j, none⟩) h.1).trans (h.2 j hj)⟩
theorem BitsAt.block {w w' : World} {g : Nat} {row : List Nat} (h : BitsAt w g row) (hs : w.heap.size ≤ w'.heap.size) (hg : w'.heap[g]? = w.heap[g]?) : BitsAt w' g row :=
  ⟨Nat.lt_of_lt_of_le h.1 hs, fun j hj => (World.cell?_of_block (w := w) hg).trans (h.2 j hj)⟩
theorem Own64.bits {w : World} {B : Nat} {v : Value} {row : List Nat} (h : Own64 w B v (asZ row)) : ∃ g cap, v = .slice (some ⟨g, 0, none⟩) row.length cap ∧ B ≤ g ∧ BitsAt w g row := by
  obtain ⟨g, cap, hv, hlt, hc⟩ := h.at
  rw [asZ_length] at hv
  subst hv
  exact ⟨g, cap, rfl, (h.1.lt g rfl).1, hlt, fun j hj => by rw [hc j (by rw [asZ_length]; exact hj), asZ_get]⟩
theorem BitsAt.news {w : World} {g : Nat} {row : List Nat} (h : BitsAt w g row) : ∀ j (hj : j < (asZ row).length), w.cell? ((⟨g, 0, none⟩ : Addr).add j) = some (.int .i64 ((asZ row)[j] : Int)) := by
  intro j hj
  have e : (⟨g, 0, none⟩ : Addr).add j = ⟨g, j, none⟩ := by unfold Addr.add; split <;> simp_all
  rw [e, asZ_get]
  exact h.2 j (by rwa [asZ_length] at hj)

theorem BitsAt.news_alloc {w : World} {g : Nat} {row : List Nat} (h : BitsAt w g row) (o : Obj) : ∀ j (hj : j < (asZ row).length), (w.alloc o).cell? ((⟨g, 0, none⟩ : Addr).add j) = some (.int .i64 ((asZ row)[j] : Int)) :=
  BitsAt.news (h.later ((Below.refl _ w).alloc (Nat.le_refl _) o))
theorem bitsN_snoc : ∀ (j m : Nat), bitsN (j + 1) m = bitsN j m ++ [m / 2 ^ j % 2]
  | 0, m => by simp [bitsN]
  | j + 1, m => by
    rw [bitsN, bitsN_snoc j (m / 2), bitsN, Nat.div_div_eq_div_mul, ← Nat.pow_succ', List.cons_append]
/-- A row, and a number, come out. -/
def RowOut (w : World) (g : Nat) (row : List Nat) (e : Int) (en : Ending) (w' : World) : Prop :=
  ∃ g' cap', en = .returned (.tuple #[.slice (some ⟨g', 0, none⟩) row.length cap', .int .i64 e]) ∧ BitsAt w' g' row ∧ Below w.heap.size w w' ∧ (g' = g ∨ w.heap.size ≤ g')

theorem Own64.row_out {w w' : World} {v : Value} {g : Nat} {row : List Nat} {e : Int} (h : Own64 w' w.heap.size v (asZ row)) (hb : Below w.heap.size w w') : RowOut w g row e (.returned (.tuple #[v, .int .i64 e])) w' := by
  obtain ⟨g', cap', rfl, hB, hr⟩ := h.bits
  exact ⟨g', cap', rfl, hr, hb, .inr hB⟩
/-- A row comes out, in a block that is new. -/
def RowNew (w : World) (row : List Nat) (en : Ending) (w' : World) : Prop :=
  ∃ g' cap', en = .returned (.slice (some ⟨g', 0, none⟩) row.length cap') ∧ BitsAt w' g' row ∧ Below w.heap.size w w' ∧ w.heap.size ≤ g'
theorem Own64.row_new {w w' : World} {v : Value} {row : List Nat} (h : Own64 w' w.heap.size v (asZ row)) (hb : Below w.heap.size w w') : RowNew w row (.returned v) w' := by
  obtain ⟨g', cap', rfl, hB, hr⟩ := h.bits
  exact ⟨g', cap', rfl, hr, hb, hB⟩

end Go.Proofs.Ytahanllbaclokaa
