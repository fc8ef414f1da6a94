/-
  InfState3, InfRef7, InfRef8, InfRef9, InfRef10: texts merged.
-/
import Derived.Test.YtiiiokikmjgliaaGreatDoorKPlain
import Derived.Test.YtiiiokikmjgliaaGreatDoorKRefI
import Derived.Test.YtiiiokikmjgliaaGreatDoorKCodeR
import Derived.Deep.CutBlock
/-
  The document's way of reading deflated bytes, to the end: own, a block, Inflate as states: plain facts, no program in sight.
-/
namespace Go.Proofs.YtiiiokikmjgliaaGreatDoor
section
end
end Go.Proofs.YtiiiokikmjgliaaGreatDoor
/-
  The contract of the document's heads.
-/
namespace Go.Proofs.YtiiiokikmjgliaaGreatDoor
section
open Go.RowKit
theorem BitsAt.move {w w' : World} {g : Nat} {row : List Nat} (h : BitsAt w g row) (hk : w'.heap[g]? = w.heap[g]?) : BitsAt w' g row := by
  refine ⟨?_, fun j hj => ?_⟩
  · have h1 : w.heap[g]? ≠ none := by rw [Array.getElem?_eq_getElem h.1]; simp
    rw [← hk] at h1
    rcases Nat.lt_or_ge g w'.heap.size with h2 | h2
    · exact h2
    · exact absurd (Array.getElem?_eq_none h2) h1
  · rw [← h.2 j hj]
    unfold World.cell?
    simp only [hk]
end
end Go.Proofs.YtiiiokikmjgliaaGreatDoor
/-
  The contract of the document's row.
-/
namespace Go.Proofs.YtiiiokikmjgliaaGreatDoor
section
open Go.RowKit
theorem Own64.low {w : World} {B B' : Nat} {v : Value} {l : List Int} (h : Own64 w B v l) (hB : B' ≤ B) : Own64 w B' v l := by
  refine ⟨⟨h.1.1, ?_⟩, h.2⟩
  rcases h.1.2 with h2 | ⟨g, c, cur, hv, h3, hg, hr⟩
  · exact .inl h2
  · exact .inr ⟨g, c, cur, hv, Nat.le_trans hB h3, hg, hr⟩
theorem Own64.move {w w' : World} {B : Nat} {v : Value} {l : List Int} (h : Own64 w B v l) (hk : ∀ k, v.ownBlock = some k → w'.heap[k]? = w.heap[k]?) : Own64 w' B v l := ⟨owns_move h.1 hk, h.2⟩
end
end Go.Proofs.YtiiiokikmjgliaaGreatDoor
/-
  What coded reads beside the row that grows.
-/
namespace Go.Proofs.YtiiiokikmjgliaaGreatDoor
section
open Go.RowKit
def Reads (w : World) (v : Value) (B0 : Nat) (a : Option Addr) (l : List Int) : Prop :=
  l = [] ∨ ∃ b off, a = some ⟨b, off, none⟩ ∧ b < w.heap.size ∧ v.ownBlock ≠ some b ∧ b ≠ B0 ∧ ∀ i, i < l.length → w.cell? ⟨b, off + i, none⟩ = some (.int .i64 (l[i]?.getD 0))
theorem Reads.nums {w : World} {v : Value} {B0 : Nat} {a : Option Addr} {l : List Int} (h : Reads w v B0 a l) : Nums w a l := by
  rcases h with h | ⟨b, off, h1, _, _, _, h5⟩
  · exact .inl h
  · exact .inr ⟨b, off, h1, h5⟩
theorem Reads.next {w w' : World} {v v' : Value} {B0 : Nat} {a : Option Addr} {l : List Int} (h : Reads w v B0 a l) (hs : w.heap.size ≤ w'.heap.size) (hk : ∀ b, b < w.heap.size → v.ownBlock ≠ some b → b ≠ B0 → w'.heap[b]? = w.heap[b]?) (hv : ∀ k, v'.ownBlock = some k → v.ownBlock = some k ∨ w.heap.size ≤ k) : Reads w' v' B0 a l := by
  rcases h with h | ⟨b, off, h1, h2, h3, h4, h5⟩
  · exact .inl h
  · refine .inr ⟨b, off, h1, by omega, ?_, h4, fun i hi => (World.cell?_of_block (w := w) (hk b h2 h3 h4)).trans (h5 i hi)⟩
    intro e
    rcases hv b e with h6 | h6
    · exact h3 h6
    · omega
theorem Reads.bits {w : World} {v : Value} {B0 g : Nat} {row : List Nat} (h : BitsAt w g row) (hv : v.ownBlock ≠ some g) (hB : g ≠ B0) : Reads w v B0 (some ⟨g, 0, none⟩) (asZ row) := by
  rcases h.nums with h1 | ⟨b, off, h1, h2⟩
  · exact .inl h1
  · injection h1 with h1
    injection h1 with e1 e2
    subst e1 e2
    exact .inr ⟨g, 0, rfl, h.1, hv, hB, h2⟩
def Keep5 (w : World) (v : Value) (B0 : Nat) (p1 p2 p3 p4 pb : Option Addr) (l1 l2 l3 l4 lb : List Int) : Prop :=
  Reads w v B0 p1 l1 ∧ Reads w v B0 p2 l2 ∧ Reads w v B0 p3 l3 ∧ Reads w v B0 p4 l4 ∧ Reads w v B0 pb lb
theorem Keep5.next {w w' : World} {v v' : Value} {B0 : Nat} {p1 p2 p3 p4 pb : Option Addr} {l1 l2 l3 l4 lb : List Int} (h : Keep5 w v B0 p1 p2 p3 p4 pb l1 l2 l3 l4 lb) (hs : w.heap.size ≤ w'.heap.size) (hk : ∀ b, b < w.heap.size → v.ownBlock ≠ some b → b ≠ B0 → w'.heap[b]? = w.heap[b]?) (hv : ∀ k, v'.ownBlock = some k → v.ownBlock = some k ∨ w.heap.size ≤ k) : Keep5 w' v' B0 p1 p2 p3 p4 pb l1 l2 l3 l4 lb :=
  ⟨h.1.next hs hk hv, h.2.1.next hs hk hv, h.2.2.1.next hs hk hv, h.2.2.2.1.next hs hk hv, h.2.2.2.2.next hs hk hv⟩
theorem Keep5.later {w w' : World} {v : Value} {B0 : Nat} {p1 p2 p3 p4 pb : Option Addr} {l1 l2 l3 l4 lb : List Int} (h : Keep5 w v B0 p1 p2 p3 p4 pb l1 l2 l3 l4 lb) (hb : Below w.heap.size w w') : Keep5 w' v B0 p1 p2 p3 p4 pb l1 l2 l3 l4 lb :=
  h.next hb.size (fun b h1 _ _ => hb.block b h1) fun _ hk => .inl hk
theorem Keep5.store {w w' : World} {v : Value} {B0 : Nat} {p1 p2 p3 p4 pb : Option Addr} {l1 l2 l3 l4 lb : List Int} (h : Keep5 w v B0 p1 p2 p3 p4 pb l1 l2 l3 l4 lb) (hs : w.heap.size ≤ w'.heap.size) (ho : ∀ k, k ≠ B0 → w'.heap[k]? = w.heap[k]?) : Keep5 w' v B0 p1 p2 p3 p4 pb l1 l2 l3 l4 lb :=
  h.next hs (fun b _ _ h1 => ho b h1) fun _ hk => .inl hk
theorem Keep5.touch {w w' : World} {v v' : Value} {B0 : Nat} {p1 p2 p3 p4 pb : Option Addr} {l1 l2 l3 l4 lb : List Int} (h : Keep5 w v B0 p1 p2 p3 p4 pb l1 l2 l3 l4 lb) (ht : Touches v.ownBlock.toList v'.ownBlock.toList w w') : Keep5 w' v' B0 p1 p2 p3 p4 pb l1 l2 l3 l4 lb :=
  h.next ht.size (fun b h1 h2 _ => ht.2.2.2.2.1 b h1 fun hm => h2 (by simpa using hm)) fun k hk => by
    rcases ht.2.2.2.2.2 k (by simp [hk]) with h1 | h1
    · exact .inl (by simpa using h1)
    · exact .inr h1
end
end Go.Proofs.YtiiiokikmjgliaaGreatDoor
/-
  The contract of the document's coded.
-/
namespace Go.Proofs.YtiiiokikmjgliaaGreatDoor
section
open Go.RowKit
theorem wpList_append_row8 {ops : Array Oper} {rest : List Oper} {o : Oper} {a : Act} {w : World} {Q : Exit → Act → World → Prop} (hgd : o.guard = none) (s x : Operand)
    (ho : o.op = .call { callee := .builtin .append, args := #[s, x], argTypes := #[64, 64] })
    (v : Value) (l : List UInt8) (hs : a.eval s = v) (hown : Row8 w v l)
    (ad : Addr) (c : Nat) (x8 : UInt8) (hx : a.eval x = .slice (some ad) 1 c) (hnews : ∀ j (h : j < [x8].length), w.cell? (ad.add j) = some (.int .u8 ([x8][j].toNat : Int)))
    (hlen : l.length + 1 ≤ 140737488355328) (H : Nat) (hH : w.heap.size = H)
    (h : ∀ v' w', Hid (Row8 w' v' (l ++ [x8])) → Hid (w.grownBy w' v.ownBlock) → Hid (∀ k, v'.ownBlock = some k → v.ownBlock = some k ∨ k = H) → (∃ g cap, v' = .slice (some ⟨g, 0, none⟩) (l.length + 1) cap) → wpList Tryz.prog ops Q rest (a.put o.dst v') w') : wpList Tryz.prog ops Q (o :: rest) a w := by
  refine wpList_plain hgd fun K hK => ?_
  have hw : Region.wanted o (yielded ops a.tmps) = true := by simp [Region.wanted, hgd]
  have := step_append_row8 (ops := ops) (K := K) (Q := Q) (E := True) hgd s x ho v l hs hown ad c x8 hx hnews hlen H hH (fun v' w' h1 h2 h3 h4 => hK _ _ (h v' w' h1 h2 h3 h4))
  rwa [if_pos hw] at this
end
end Go.Proofs.YtiiiokikmjgliaaGreatDoor
