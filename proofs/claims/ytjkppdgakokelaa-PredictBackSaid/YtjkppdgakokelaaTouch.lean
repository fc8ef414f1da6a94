/-
  What a call may turn of memory, chained; rows of bytes that an object owns.
-/
import Derived.Test.YtjkppdgakokelaaBitFoot
import Derived.Test.YtjkppdgakokelaaOwn8
import Derived.Maps.AppendAt
namespace Go.Proofs.Ytjkppdgakokelaa
open Go.RowKit
theorem below_same (w : World) : Below w.heap.size w w := Below.refl _ _
theorem Touches.refl (F : List Nat) (w : World) : Touches F F w w := ⟨rfl, rfl, rfl, Nat.le_refl _, fun _ _ _ => rfl, fun _ hk => .inl hk⟩
theorem Touches.trans {F F1 F2 : List Nat} {w w1 w2 : World} (h : Touches F F1 w w1) (h' : Touches F1 F2 w1 w2) : Touches F F2 w w2 :=
  ⟨h'.1.trans h.1, h'.2.1.trans h.2.1, h'.2.2.1.trans h.2.2.1, Nat.le_trans h.size h'.size, fun k hk hF => by
    have h1 := h.out hk hF
    exact (h'.2.2.2.2.1 k (Nat.lt_of_lt_of_le hk h.size) h1.2).trans h1.1, fun k hk => by
    rcases h'.2.2.2.2.2 k hk with h1 | h1
    · exact h.2.2.2.2.2 k h1
    · have := h.size; exact .inr (by omega)⟩
theorem Touches.of_below {F : List Nat} {w w' : World} (h : Below w.heap.size w w') : Touches F F w w' := ⟨h.os, h.tape, h.output, h.size, fun k hk _ => h.block k hk, fun _ hk => .inl hk⟩
theorem Touches.setCell {F F' : List Nat} {w w' : World} (h : Touches F F' w w') {a : Addr} (ha : a.block ∈ F') (u : Value) : Touches F F' w (w'.setCell a u) :=
  h.trans ⟨rfl, rfl, rfl, by simp [World.setCell], fun k _ hF => Below.heap_setCell _ _ _ _ fun e => hF (e ▸ ha), fun _ hk => .inl hk⟩
theorem Touches.drew {F F' : List Nat} {w w' : World} (h : Touches F F' w w') : Touches F F' w w'.drew := h
theorem Touches.alloc {F F' : List Nat} {w w' : World} (h : Touches F F' w w') (o : Obj) : Touches F F' w (w'.alloc o) := h.trans (.of_below ((Below.refl _ _).alloc (Nat.le_refl _) o))
theorem Touches.grown {F F' F'' : List Nat} {w w' w'' : World} {row : Option Nat} (h : Touches F F' w w') (hg : w'.grownBy w'' row) (hr : ∀ k, row = some k → k ∈ F') (hF : ∀ k ∈ F'', k ∈ F' ∨ w'.heap.size ≤ k) : Touches F F'' w w'' :=
  h.trans ⟨hg.os, hg.tape, hg.output, hg.size, fun k hk hn => hg.block k hk fun e => hn (hr k e.symm), hF⟩
theorem Touches.fewer {F F' F'' : List Nat} {w w' : World} (h : Touches F F' w w') (hF : ∀ k ∈ F'', k ∈ F') : Touches F F'' w w' :=
  ⟨h.1, h.2.1, h.2.2.1, h.2.2.2.1, h.2.2.2.2.1, fun k hk => h.2.2.2.2.2 k (hF k hk)⟩
/-- What an object owns stays where its block does. -/
theorem owns_move {w w' : World} {B : Nat} {e : TypeId} {size : Nat} {v : Value} {n : Nat} {xs : List Value} (h : w.ownsRow B e size v n xs) (hk : ∀ k, v.ownBlock = some k → w'.heap[k]? = w.heap[k]?) : w'.ownsRow B e size v n xs := by
  refine ⟨h.1, ?_⟩
  rcases h.2 with h2 | ⟨g, cap, cur, hv, hB, hg, hr⟩
  · exact .inl h2
  · exact .inr ⟨g, cap, cur, hv, hB, (hk g (by rw [hv]; rfl)).trans hg, hr⟩
/-- A row of bytes that an object owns, or none yet. -/
def Row8 (w : World) (v : Value) (l : List UInt8) : Prop := w.ownsRow 0 5 1 v l.length (cellsB l)
theorem Row8.nil (w : World) : Row8 w (.slice none 0 0) [] := World.ownsRow_nil _ _ _ _
theorem Row8.move {w w' : World} {v : Value} {l : List UInt8} (h : Row8 w v l) (hk : ∀ k, v.ownBlock = some k → w'.heap[k]? = w.heap[k]?) : Row8 w' v l := owns_move h hk
theorem Row8.lt {w : World} {v : Value} {l : List UInt8} (h : Row8 w v l) : ∀ k, v.ownBlock = some k → k < w.heap.size := fun k e => (World.ownsRow.lt h k e).2
theorem Row8.form {w : World} {v : Value} {l : List UInt8} (h : Row8 w v l) : ∃ ad cap, v = .slice ad l.length cap := by
  rcases h.2 with ⟨h1, h2⟩ | ⟨g, cap, cur, hv, _⟩
  · exact ⟨none, 0, by rw [h1, h2]⟩
  · exact ⟨_, cap, hv⟩
theorem Row8.text {w : World} {v : Value} {l : List UInt8} (h : Row8 w v l) : (convert 32 9 v).run Try.prog w = .ok (.string (bytes l)) w := by
  rcases h.2 with ⟨h1, h2⟩ | ⟨g, cap, cur, hv, _⟩
  · subst h1
    obtain rfl : l = [] := List.eq_nil_of_length_eq_zero h2
    kernel_rfl
  · subst hv
    exact run_convert_bytes_back (P := Try.prog) w 32 9 5 ⟨g, 0, none⟩ cap l Try.underlying32 Try.underlying5 Try.underlying9 (fun j hj => World.ownsRow.cells h (g := g) rfl j _ (cellsB_at hj))

/-- One byte is put behind it, as a step of a region that draws its order. -/
theorem step_append_row8 {ops : Array Oper} {o : Oper} {a : Act} {w : World} {K : Act → World → Prop} {Q : Exit → Act → World → Prop} {E : Prop} (hgd : o.guard = none) (s x : Operand)
    (ho : o.op = .call { callee := .builtin .append, args := #[s, x], argTypes := #[32, 32] })
    (v : Value) (l : List UInt8) (hs : a.eval s = v) (hown : Row8 w v l)
    (ad : Addr) (c : Nat) (x8 : UInt8) (hx : a.eval x = .slice (some ad) 1 c) (hnews : ∀ j (h : j < [x8].length), w.cell? (ad.add j) = some (.int .u8 ([x8][j].toNat : Int)))
    (hlen : l.length + 1 ≤ 140737488355328) (H : Nat) (hH : w.heap.size = H)
    (h : ∀ v' w', Hid (Row8 w' v' (l ++ [x8])) → Hid (w.grownBy w' v.ownBlock) → Hid (∀ k, v'.ownBlock = some k → v.ownBlock = some k ∨ k = H) → (∃ g cap, v' = .slice (some ⟨g, 0, none⟩) (l.length + 1) cap) → K (a.put o.dst v') w') :
    if Region.wanted o (yielded ops a.tmps) = true then Oper.wp Try.prog o a w K Q else E := by
  obtain ⟨i0, hi, hz0, hz1, hz2⟩ := info_parts info8
  have hw : Region.wanted o (yielded ops a.tmps) = true := by simp [Region.wanted, hgd]
  rw [if_pos hw]
  refine wp_append_lies w s x 32 ho 0 5 i0 (.int .u8 0) 1 1 Try.underlying32 hi hz0 hz1 hz2 rfl (by decide) _ _ _ hs hown ad 1 c (cellsB [x8]) hx rfl ?_ (cellsB_one _) (by omega) (by unfold maxLen; omega) (by omega) (Nat.zero_le _) H hH ?_
  · intro j u hj
    have hl : j < [x8].length := by
      have := (List.getElem?_eq_some_iff.1 hj).1
      rwa [cellsB_length] at this
    rw [cellsB_at hl] at hj
    rw [← hj]; exact hnews j hl
  · intro g' cap' w' hown' hgrow hblk _
    refine h _ w' (Lib.hid ?_) (Lib.hid hgrow) (Lib.hid fun k hk => ?_) ⟨g', cap', rfl⟩
    · unfold Row8
      rw [cellsB_append, List.length_append]
      exact hown'
    · obtain rfl : g' = k := by simpa [Value.ownBlock] using hk
      exact hblk

end Go.Proofs.Ytjkppdgakokelaa
