/-
  PaCtx, PaNext: texts merged.
-/
import Derived.Test.YtejgcnmbngdkiaaGreatDoorNPa
import Derived.Test.YtejgcnmbngdkiaaGreatDoorNNext
import Derived.Test.YtejgcnmbngdkiaaGreatDoorNMem
/-
  A reader's block beside what is read: what a call turns, what stays.
-/
namespace Go.Proofs.YtejgcnmbngdkiaaGreatDoor
section
open Go.RowKit
set_option maxRecDepth 100000

/-- Of what lay, only one block may have turned. -/
def Beside (b : Nat) (w w' : World) : Prop :=
  w'.os = w.os ∧ w'.tape = w.tape ∧ w'.output = w.output ∧ w.heap.size ≤ w'.heap.size ∧ ∀ k, k < w.heap.size → k ≠ b → w'.heap[k]? = w.heap[k]?
section
variable {b : Nat} {w w' w'' : World}
theorem Beside.refl (b : Nat) (w : World) : Beside b w w := ⟨rfl, rfl, rfl, Nat.le_refl _, fun _ _ _ => rfl⟩
theorem Beside.size (h : Beside b w w') : w.heap.size ≤ w'.heap.size := h.2.2.2.1
theorem Beside.trans (h : Beside b w w') (h' : Beside b w' w'') : Beside b w w'' :=
  ⟨h'.1.trans h.1, h'.2.1.trans h.2.1, h'.2.2.1.trans h.2.2.1, Nat.le_trans h.size h'.size, fun k hk hn => (h'.2.2.2.2 k (Nat.lt_of_lt_of_le hk h.size) hn).trans (h.2.2.2.2 k hk hn)⟩
theorem Beside.of_below (h : Below w.heap.size w w') : Beside b w w' := ⟨h.os, h.tape, h.output, h.size, fun k hk _ => h.block k hk⟩
theorem Beside.then (h : Beside b w w') (h' : Below w'.heap.size w' w'') : Beside b w w'' := h.trans (.of_below h')
theorem Beside.alloc (h : Beside b w w') (o : Obj) : Beside b w (w'.alloc o) := h.then ((Below.refl _ _).alloc (Nat.le_refl _) o)
theorem Beside.drew (h : Beside b w w') : Beside b w w'.drew := h
theorem Beside.setAt (h : Beside b w w') (j : Nat) (v : Value) : Beside b w (w'.setCell ⟨b, j, none⟩ v) :=
  h.trans ⟨rfl, rfl, rfl, by simp [World.setCell], fun _ _ hn => Below.heap_setCell _ _ _ _ hn⟩
theorem Beside.setNew (h : Beside b w w') {q : Nat} (hq : w.heap.size ≤ q) (j : Nat) (v : Value) : Beside b w (w'.setCell ⟨q, j, none⟩ v) :=
  ⟨h.1, h.2.1, h.2.2.1, by have := h.size; simp [World.setCell]; omega, fun k hk hn => (Below.heap_setCell _ _ _ _ (show k ≠ q by omega)).trans (h.2.2.2.2 k hk hn)⟩
/-- A store in a block that was made. -/
theorem Beside.store (h : Beside b w w') {q : Nat} (hq : w.heap.size ≤ q) (hb : Below q w' w'') : Beside b w w'' :=
  ⟨hb.os.trans h.1, hb.tape.trans h.2.1, hb.output.trans h.2.2.1, Nat.le_trans h.size hb.size, fun k hk hn => (hb.block k (by omega)).trans (h.2.2.2.2 k hk hn)⟩
theorem Beside.below (h : Beside b w w') {B : Nat} (hB : B ≤ b) (hs : B ≤ w.heap.size) : Below B w w' := ⟨h.1, h.2.1, h.2.2.1, h.size, fun k hk => h.2.2.2.2 k (by omega) (by omega)⟩
theorem Beside.out (h : Beside b w w') {k : Nat} (hk : k < w.heap.size) (hn : k ≠ b) : w'.heap[k]? = w.heap[k]? := h.2.2.2.2 k hk hn

theorem TokCell.same {w w' : World} {b : Nat} {cs : Array Value} (h : TokCell w b cs) (e : w'.heap[b]? = w.heap[b]?) : TokCell w' b cs := e.trans h
/-- A text and a place in it, as the first cells of a block. -/
def PlAt (w : World) (b : Nat) (ty : TypeId) (s : ByteArray) (a : Int) (xs : List Value) : Prop := w.heap[b]? = some (.cells (Value.string s :: .int .i64 a :: xs).toArray ty (0, 0))
theorem PlAt.lt {ty : TypeId} {s : ByteArray} {a : Int} {xs : List Value} (h : PlAt w b ty s a xs) : b < w.heap.size := by
  rcases Nat.lt_or_ge b w.heap.size with h' | h'
  · exact h'
  · unfold PlAt at h; rw [Array.getElem?_eq_none h'] at h; cases h
theorem PlAt.same {ty : TypeId} {s : ByteArray} {a : Int} {xs : List Value} (h : PlAt w b ty s a xs) (e : w'.heap[b]? = w.heap[b]?) : PlAt w' b ty s a xs := e.trans h
theorem PlAt.later {ty : TypeId} {s : ByteArray} {a : Int} {xs : List Value} (h : PlAt w b ty s a xs) {B : Nat} (hb : Below B w w') (hB : b < B) : PlAt w' b ty s a xs := (hb.block b hB).trans h
theorem PlAt.cell {ty : TypeId} {s : ByteArray} {a : Int} {xs : List Value} (h : PlAt w b ty s a xs) (j : Nat) : w.cell? ⟨b, j, none⟩ = (Value.string s :: .int .i64 a :: xs)[j]? := by
  have := cell_of_row _ _ j _ _ _ h
  simpa using this
theorem PlAt.free {ty : TypeId} {s : ByteArray} {a : Int} {xs : List Value} (h : PlAt w b ty s a xs) (j : Nat) : w.frozen? ⟨b, j, none⟩ = false := frozen_of_row _ _ _ _ _ h
theorem PlAt.move {ty : TypeId} {s : ByteArray} {a : Int} {xs : List Value} (h : PlAt w b ty s a xs) (a' : Int) : PlAt (w.setCell ⟨b, 1, none⟩ (.int .i64 a')) b ty s a' xs := by
  have := heap_setCell_same _ _ 1 _ _ (.int .i64 a') h
  simpa [PlAt] using this
theorem PlAt.turn {ty : TypeId} {s : ByteArray} {a : Int} {d : Value} (h : PlAt w b ty s a [d]) (d' : Value) : PlAt (w.setCell ⟨b, 2, none⟩ d') b ty s a [d'] := by
  have := heap_setCell_same _ _ 2 _ _ d' h
  simpa [PlAt] using this
theorem PlAt.again {ty : TypeId} {s : ByteArray} {a : Int} {xs : List Value} (h : PlAt w b ty s a xs) : PlAt (w.setCell ⟨b, 0, none⟩ (.string s)) b ty s a xs := by
  have := heap_setCell_same _ _ 0 _ _ (Value.string s) h
  simpa [PlAt] using this
end
/-- A reader's block: its text, where it stands, within how many others. -/
def RdrAt (w : World) (b : Nat) (s : ByteArray) (a : Int) (d : Nat) : Prop := PlAt w b 58 s a [.int .i64 (d : Int)]

/-- What a reading call tells. -/
def Tells (b : Nat) (s : ByteArray) (d : Nat) (R : Ps) (w : World) (e : Ending) (w' : World) : Prop :=
  ∃ (y : Hv) (a : Int), e = .returned (.tuple #[.agg y.arr, .int .i64 R.code]) ∧ RdrAt w' b s a d ∧ Beside b w w' ∧ (R.code = 0 → a = (R.fin : Int) ∧ Rd w' (fun k => w.heap.size ≤ k) y R.v)
theorem tells_ok {b : Nat} {s : ByteArray} {d : Nat} {R : Ps} {w w' : World} {y : Hv} (h1 : RdrAt w' b s (R.fin : Int) d) (h2 : Beside b w w') (h3 : R.code = 0) (h4 : Rd w' (fun k => w.heap.size ≤ k) y R.v) {e : Ending} (he : e = .returned (.tuple #[.agg y.arr, .int .i64 0])) :
    Tells b s d R w e w' := ⟨y, _, by rw [he, h3], h1, h2, fun _ => ⟨rfl, h4⟩⟩
theorem tells_err {b : Nat} {s : ByteArray} {d : Nat} {c : Int} {w w' : World} {y : Hv} {a : Int} (h1 : RdrAt w' b s a d) (h2 : Beside b w w') (h3 : ¬ c = 0) {e : Ending} (he : e = .returned (.tuple #[.agg y.arr, .int .i64 c])) :
    Tells b s d (.err c) w e w' := ⟨y, a, he, h1, h2, fun h => absurd h h3⟩
/-- A value without elements, in no memory of its own. -/
theorem rd_bit {w : World} {S : Nat → Prop} (k n g : Int) (s : List UInt8) : Rd w S ⟨k, n, g, bytes s, ⟨none, 0, 0⟩, ⟨none, 0, 0⟩⟩ (bitV k n g s) :=
  rd_iff.2 ⟨⟨rfl, rfl, rfl, rfl⟩, RdL.nil w S none 0 (Nat.zero_le _), RdD.nil w S none 0 (Nat.zero_le _)⟩
end
end Go.Proofs.YtejgcnmbngdkiaaGreatDoor
/-
  (*place).next; (*place).passes.
-/
namespace Go.Proofs.YtejgcnmbngdkiaaGreatDoor
section
open Go.RowKit
set_option maxRecDepth 100000

/-- A token is stored whole in a block that was just made. -/
theorem store_fresh_tok (w : World) (k n : Int) (s : ByteArray) (a e : Int) :
    Sem.run Tryz.prog (storeCells ⟨w.heap.size, 0, none⟩ (tokC k n s a e).toList) (w.alloc (.cells #[.int .i64 0, .int .i64 0, .string ⟨#[]⟩, .int .i64 0, .int .i64 0] 52)) =
      .ok () ((w.alloc (.cells #[.int .i64 0, .int .i64 0, .string ⟨#[]⟩, .int .i64 0, .int .i64 0] 52)).setRow w.heap.size (tokC k n s a e)) := by
  have h := run_storeCells_from (P := Tryz.prog) w.heap.size 52 (tokC k n s a e).toList 0 _ _ (heap_alloc_new w (.cells #[.int .i64 0, .int .i64 0, .string ⟨#[]⟩, .int .i64 0, .int .i64 0] 52)) rfl (fun v hv => (Array.all_eq_true_iff_forall_mem.1 (tokC_one k n s a e)) v (by simpa using hv))
  simpa using h
attribute [local go_sem] store_fresh_tok
theorem run_store_tok {w : World} {q : Nat} {cs : Array Value} (h : TokCell w q cs) (hcs : cs.size = 5) (k n : Int) (s : ByteArray) (a e : Int) :
    Sem.run Tryz.prog (storeCells ⟨q, 0, none⟩ (tokC k n s a e).toList) w = .ok () (w.setRow q (tokC k n s a e)) := by
  have h := run_storeCells_from (P := Tryz.prog) q 52 (tokC k n s a e).toList 0 _ _ h (by rw [hcs]; rfl) (fun v hv => (Array.all_eq_true_iff_forall_mem.1 (tokC_one k n s a e)) v (by simpa using hv))
  simpa using h
theorem two_tok {w w1 W : World} {o : Obj} {cs : Array Value} (hb : Below W.heap.size W w1) (hW : W.heap = ((w.alloc o).alloc (.cells cs 52)).heap) : TokCell w1 (w.heap.size + 1) cs := by
  refine (hb.block _ (by rw [hW]; simp)).trans ?_
  rw [hW]
  have := heap_alloc_new (w.alloc o) (.cells cs 52)
  simpa using this
theorem fresh_below (w : World) (o : Obj) (cs : Array Value) : Below w.heap.size w ((w.alloc o).setRow w.heap.size cs) :=
  ((Below.refl _ w).alloc (Nat.le_refl _) o).trans ⟨rfl, rfl, rfl, by simp, fun k hk => setRow_other _ _ _ _ (by omega)⟩
theorem fresh_tok (w : World) (cs cs' : Array Value) : TokCell ((w.alloc (.cells cs 52)).setRow w.heap.size cs') w.heap.size cs' := setRow_heap _ _ _ _ _ _ (heap_alloc_new w _)
theorem fresh_keep {w : World} {b o : Nat} {v : Value} (h : w.cell? ⟨b, o, none⟩ = some v) (hb : b < w.heap.size) (ob : Obj) (cs : Array Value) : ((w.alloc ob).setRow w.heap.size cs).cell? ⟨b, o, none⟩ = some v :=
  (cell_of_block ((fresh_below w ob cs).block b hb) o).trans h

set_option maxHeartbeats 4000000 in
theorem pnext_any (s : ByteArray) (a : Int) (ty : TypeId) (xs : List Value) (b : Nat) (w : World) (t : Sg) (hs : s.size ≤ 100000000) (h : PlAt w b ty s a xs) (ht : nextI s.data.toList a = t) (hc : t.code = 0) :
    Calls Tryz.prog 33 #[.pointer (some ⟨b, 0, none⟩)] w fun e w' => e = .returned (.tuple #[.agg (tokC t.kind t.num (bytes t.str) (t.beg : Int) (t.fin : Int)), .int .i64 0]) ∧ PlAt w' b ty s (t.fin : Int) xs ∧ Beside b w w' := by
  have k0 := h.cell 0
  have k1 := h.cell 1
  simp only [List.getElem?_cons_zero, List.getElem?_cons_succ] at k0 k1
  have hlt := h.lt
  have hn := fun W => next_any s a W hs
  rw [ht] at hn
  unfold Sg.told Sg.tok at hn
  rw [hc] at hn
  have HN := Lib.hid hn
  have HP := Lib.hid h
  have HZ := Lib.hid (TokCell.new w #[.int .i64 0, .int .i64 0, .string ⟨#[]⟩, .int .i64 0, .int .i64 0])
  clear hn h ht hc
  go_enter Tryz.func33, Tryz.ntmps33
  go_wp2_with fail
  go_region_held3 (fun w' => w'.cell? ⟨b, 0, none⟩ = some (.string s) ∧ w'.cell? ⟨b, 1, none⟩ = some (.int .i64 a))
    (first | exact ⟨j0, j1⟩ | exact ⟨fresh_keep j0 hw1 _ _, fresh_keep j1 hw1 _ _⟩ | exact ⟨(cell_of_block (setRow_other _ _ _ _ (by omega)) 0).trans j0, (cell_of_block (setRow_other _ _ _ _ (by omega)) 1).trans j1⟩ | go_keep)
    (first | (go_simp; go_at_call 18; (with_reducible refine (HN.out _).mono ?_); rintro e w1 ⟨rfl, hb⟩; have hb1 : Below (w.alloc (.cells #[.int .i64 0, .int .i64 0, .string ⟨#[]⟩, .int .i64 0, .int .i64 0] 52)).heap.size (w.alloc (.cells #[.int .i64 0, .int .i64 0, .string ⟨#[]⟩, .int .i64 0, .int .i64 0] 52)) w1 := (by first | exact ((Below.refl _ (w.alloc (.cells #[.int .i64 0, .int .i64 0, .string ⟨#[]⟩, .int .i64 0, .int .i64 0] 52))).drew).trans (hb.mono (Nat.le_refl _)) | exact (((Below.refl _ (w.alloc (.cells #[.int .i64 0, .int .i64 0, .string ⟨#[]⟩, .int .i64 0, .int .i64 0] 52))).alloc (Nat.le_refl _) _).drew).trans (hb.mono (by simp)) | exact (((Below.refl _ (w.alloc (.cells #[.int .i64 0, .int .i64 0, .string ⟨#[]⟩, .int .i64 0, .int .i64 0] 52))).drew).alloc (Nat.le_refl _) _).trans (hb.mono (by simp))); have HZ1 := Lib.hid (HZ.out.later hb1 (by simp)); have hb2 : Below w.heap.size w w1 := ((Below.refl _ w).alloc (Nat.le_refl _) _).trans (hb1.mono (by simp)); have Hb2 := Lib.hid hb2; have j0 := (cell_of_block (hb2.block b hlt) 0).trans k0; have j1 := (cell_of_block (hb2.block b hlt) 1).trans k1; have hw1 : b < w1.heap.size := Nat.lt_of_lt_of_le hlt hb2.size; have n0 := World.new_ne w1 _ j0; try (have ht2 := two_tok hb rfl; have HT2 := Lib.hid ht2; have hst := run_store_tok ht2 rfl t.kind t.num (bytes t.str) t.beg t.fin); clear hb hb1 hb2))
  · have HT := Lib.hid (show TokCell ((w1.alloc (.cells #[.int .i64 0, .int .i64 0, .string ⟨#[]⟩, .int .i64 0, .int .i64 0] 52)).setRow w1.heap.size (tokC t.kind t.num (bytes t.str) t.beg t.fin)) w1.heap.size (tokC t.kind t.num (bytes t.str) t.beg t.fin) from fresh_tok _ _ _)
    have HB := Lib.hid (show Below w.heap.size w ((w1.alloc (.cells #[.int .i64 0, .int .i64 0, .string ⟨#[]⟩, .int .i64 0, .int .i64 0] 52)).setRow w1.heap.size (tokC t.kind t.num (bytes t.str) t.beg t.fin)) from Hb2.out.trans ((fresh_below w1 _ _).mono Hb2.out.size))
    have HZ2 := Lib.hid (show TokCell ((w1.alloc (.cells #[.int .i64 0, .int .i64 0, .string ⟨#[]⟩, .int .i64 0, .int .i64 0] 52)).setRow w1.heap.size (tokC t.kind t.num (bytes t.str) t.beg t.fin)) w.heap.size #[.int .i64 0, .int .i64 0, .string ⟨#[]⟩, .int .i64 0, .int .i64 0] from HZ1.out.later (fresh_below w1 _ _) HZ1.out.lt)
    generalize ((w1.alloc (.cells #[.int .i64 0, .int .i64 0, .string ⟨#[]⟩, .int .i64 0, .int .i64 0] 52)).setRow w1.heap.size (tokC t.kind t.num (bytes t.str) t.beg t.fin)) = W at HT HB HZ2 ⊢
    have hq : w.heap.size < w1.heap.size := by have := Hb2.out.size; have := HZ1.out.lt; omega
    have hq2 : w1.heap.size < W.heap.size := HT.out.lt
    have hp1 : PlAt W b ty s a xs := HP.out.later HB.out hlt
    have c1 := hp1.cell 1
    have f1 := hp1.free 1
    simp only [List.getElem?_cons_zero, List.getElem?_cons_succ] at c1
    obtain ⟨_, _, _, _, e4⟩ := HT.out.parts
    have hm := hp1.move (t.fin : Int)
    have HT3 := Lib.hid (TokCell.same HT.out (w' := W.setCell ⟨b, 1, none⟩ (.int .i64 (t.fin : Int))) (Below.heap_setCell _ _ _ _ (show w1.heap.size ≠ b by omega)))
    have HZ3 := Lib.hid (TokCell.same HZ2.out (w' := W.setCell ⟨b, 1, none⟩ (.int .i64 (t.fin : Int))) (Below.heap_setCell _ _ _ _ (show w.heap.size ≠ b by omega)))
    have HM := Lib.hid hm
    have HS := Lib.hid ((Beside.of_below (b := b) HB.out).setAt 1 (.int .i64 (t.fin : Int)))
    clear hp1 hm
    go_wp2_with (first
      | (refine TokCell.load rfl _ rfl w1.heap.size _ rfl HT3.out rfl ?_)
      | (refine TokCell.store rfl rfl _ _ rfl w.heap.size #[.int .i64 0, .int .i64 0, .string ⟨#[]⟩, .int .i64 0, .int .i64 0] t.kind t.num (bytes t.str) t.beg t.fin rfl rfl HZ3.out rfl w.heap.size _ (Below.refl _ _) (Nat.le_refl _) ?_; intro w7 HT7 HB7 HO7))
    obtain ⟨r0, r1, r2, r3, r4⟩ := HT7.out.parts
    exact bodyPost_ret (v := .tuple #[.agg #[.int .i64 t.kind, .int .i64 t.num, .string (bytes t.str), .int .i64 t.beg, .int .i64 t.fin], .int .i64 0]) (by simp [results, Tryz.results33, go_sem, r0, r1, r2, r3, r4]) rfl
      ⟨rfl, HM.out.same (HO7.out b (by omega)), HS.out.store (Nat.le_refl _) HB7.out⟩
  · have HT := Lib.hid (show TokCell (w1.setRow (w.heap.size + 1) (tokC t.kind t.num (bytes t.str) t.beg t.fin)) (w.heap.size + 1) (tokC t.kind t.num (bytes t.str) t.beg t.fin) from setRow_heap _ _ _ _ _ _ HT2.out)
    have HB := Lib.hid (show Below w.heap.size w (w1.setRow (w.heap.size + 1) (tokC t.kind t.num (bytes t.str) t.beg t.fin)) from Hb2.out.trans ⟨rfl, rfl, rfl, by simp, fun k hk => setRow_other _ _ _ _ (by omega)⟩)
    have HZ2 := Lib.hid (show TokCell (w1.setRow (w.heap.size + 1) (tokC t.kind t.num (bytes t.str) t.beg t.fin)) w.heap.size #[.int .i64 0, .int .i64 0, .string ⟨#[]⟩, .int .i64 0, .int .i64 0] from TokCell.same HZ1.out (setRow_other _ _ _ _ (by omega)))
    generalize (w1.setRow (w.heap.size + 1) (tokC t.kind t.num (bytes t.str) t.beg t.fin)) = W at HT HB HZ2 ⊢
    have hq : w.heap.size < (w.heap.size + 1) := by have := Hb2.out.size; have := HZ1.out.lt; omega
    have hq2 : (w.heap.size + 1) < W.heap.size := HT.out.lt
    have hp1 : PlAt W b ty s a xs := HP.out.later HB.out hlt
    have c1 := hp1.cell 1
    have f1 := hp1.free 1
    simp only [List.getElem?_cons_zero, List.getElem?_cons_succ] at c1
    obtain ⟨_, _, _, _, e4⟩ := HT.out.parts
    have hm := hp1.move (t.fin : Int)
    have HT3 := Lib.hid (TokCell.same HT.out (w' := W.setCell ⟨b, 1, none⟩ (.int .i64 (t.fin : Int))) (Below.heap_setCell _ _ _ _ (show (w.heap.size + 1) ≠ b by omega)))
    have HZ3 := Lib.hid (TokCell.same HZ2.out (w' := W.setCell ⟨b, 1, none⟩ (.int .i64 (t.fin : Int))) (Below.heap_setCell _ _ _ _ (show w.heap.size ≠ b by omega)))
    have HM := Lib.hid hm
    have HS := Lib.hid ((Beside.of_below (b := b) HB.out).setAt 1 (.int .i64 (t.fin : Int)))
    clear hp1 hm
    go_wp2_with (first
      | (refine TokCell.load rfl _ rfl (w.heap.size + 1) _ rfl HT3.out rfl ?_)
      | (refine TokCell.store rfl rfl _ _ rfl w.heap.size #[.int .i64 0, .int .i64 0, .string ⟨#[]⟩, .int .i64 0, .int .i64 0] t.kind t.num (bytes t.str) t.beg t.fin rfl rfl HZ3.out rfl w.heap.size _ (Below.refl _ _) (Nat.le_refl _) ?_; intro w7 HT7 HB7 HO7))
    obtain ⟨r0, r1, r2, r3, r4⟩ := HT7.out.parts
    exact bodyPost_ret (v := .tuple #[.agg #[.int .i64 t.kind, .int .i64 t.num, .string (bytes t.str), .int .i64 t.beg, .int .i64 t.fin], .int .i64 0]) (by simp [results, Tryz.results33, go_sem, r0, r1, r2, r3, r4]) rfl
      ⟨rfl, HM.out.same (HO7.out b (by omega)), HS.out.store (Nat.le_refl _) HB7.out⟩
set_option maxHeartbeats 4000000 in
theorem pnext_err (s : ByteArray) (a : Int) (ty : TypeId) (xs : List Value) (b : Nat) (w : World) (c : Int) (hs : s.size ≤ 100000000) (h : PlAt w b ty s a xs) (ht : nextI s.data.toList a = Sg.err c) (hc : ¬ c = 0) :
    Calls Tryz.prog 33 #[.pointer (some ⟨b, 0, none⟩)] w fun e w' => e = .returned (.tuple #[.agg (tokC 0 0 ⟨#[]⟩ 0 0), .int .i64 c]) ∧ PlAt w' b ty s a xs ∧ Beside b w w' := by
  have k0 := h.cell 0
  have k1 := h.cell 1
  simp only [List.getElem?_cons_zero, List.getElem?_cons_succ] at k0 k1
  have hlt := h.lt
  have hn := fun W => next_any s a W hs
  rw [ht] at hn
  simp only [told_err] at hn
  have hcd : (c != 0) = true := by simpa using hc
  have HN := Lib.hid hn
  have HP := Lib.hid h
  have HZ := Lib.hid (TokCell.new w #[.int .i64 0, .int .i64 0, .string ⟨#[]⟩, .int .i64 0, .int .i64 0])
  clear hn h ht hc
  go_enter Tryz.func33, Tryz.ntmps33
  go_wp2_with fail
  go_region_held3 (fun w' => w'.cell? ⟨b, 0, none⟩ = some (.string s) ∧ w'.cell? ⟨b, 1, none⟩ = some (.int .i64 a))
    (first | exact ⟨j0, j1⟩ | exact ⟨fresh_keep j0 hw1 _ _, fresh_keep j1 hw1 _ _⟩ | exact ⟨(cell_of_block (setRow_other _ _ _ _ (by omega)) 0).trans j0, (cell_of_block (setRow_other _ _ _ _ (by omega)) 1).trans j1⟩ | go_keep)
    (first | (go_simp; go_at_call 18; (with_reducible refine (HN.out _).mono ?_); rintro e w1 ⟨rfl, hb⟩; have hb1 : Below (w.alloc (.cells #[.int .i64 0, .int .i64 0, .string ⟨#[]⟩, .int .i64 0, .int .i64 0] 52)).heap.size (w.alloc (.cells #[.int .i64 0, .int .i64 0, .string ⟨#[]⟩, .int .i64 0, .int .i64 0] 52)) w1 := (by first | exact ((Below.refl _ (w.alloc (.cells #[.int .i64 0, .int .i64 0, .string ⟨#[]⟩, .int .i64 0, .int .i64 0] 52))).drew).trans (hb.mono (Nat.le_refl _)) | exact (((Below.refl _ (w.alloc (.cells #[.int .i64 0, .int .i64 0, .string ⟨#[]⟩, .int .i64 0, .int .i64 0] 52))).alloc (Nat.le_refl _) _).drew).trans (hb.mono (by simp)) | exact (((Below.refl _ (w.alloc (.cells #[.int .i64 0, .int .i64 0, .string ⟨#[]⟩, .int .i64 0, .int .i64 0] 52))).drew).alloc (Nat.le_refl _) _).trans (hb.mono (by simp))); have HZ1 := Lib.hid (HZ.out.later hb1 (by simp)); have hb2 : Below w.heap.size w w1 := ((Below.refl _ w).alloc (Nat.le_refl _) _).trans (hb1.mono (by simp)); have Hb2 := Lib.hid hb2; have j0 := (cell_of_block (hb2.block b hlt) 0).trans k0; have j1 := (cell_of_block (hb2.block b hlt) 1).trans k1; have hw1 : b < w1.heap.size := Nat.lt_of_lt_of_le hlt hb2.size; have n0 := World.new_ne w1 _ j0; try (have ht2 := two_tok hb rfl; have HT2 := Lib.hid ht2; have hst := run_store_tok ht2 rfl 0 0 ⟨#[]⟩ 0 0); clear hb hb1 hb2))
  · have HT := Lib.hid (show TokCell ((w1.alloc (.cells #[.int .i64 0, .int .i64 0, .string ⟨#[]⟩, .int .i64 0, .int .i64 0] 52)).setRow w1.heap.size (tokC 0 0 ⟨#[]⟩ 0 0)) w1.heap.size (tokC 0 0 ⟨#[]⟩ 0 0) from fresh_tok _ _ _)
    have HB := Lib.hid (show Below w.heap.size w ((w1.alloc (.cells #[.int .i64 0, .int .i64 0, .string ⟨#[]⟩, .int .i64 0, .int .i64 0] 52)).setRow w1.heap.size (tokC 0 0 ⟨#[]⟩ 0 0)) from Hb2.out.trans ((fresh_below w1 _ _).mono Hb2.out.size))
    have HZ2 := Lib.hid (show TokCell ((w1.alloc (.cells #[.int .i64 0, .int .i64 0, .string ⟨#[]⟩, .int .i64 0, .int .i64 0] 52)).setRow w1.heap.size (tokC 0 0 ⟨#[]⟩ 0 0)) w.heap.size #[.int .i64 0, .int .i64 0, .string ⟨#[]⟩, .int .i64 0, .int .i64 0] from HZ1.out.later (fresh_below w1 _ _) HZ1.out.lt)
    generalize ((w1.alloc (.cells #[.int .i64 0, .int .i64 0, .string ⟨#[]⟩, .int .i64 0, .int .i64 0] 52)).setRow w1.heap.size (tokC 0 0 ⟨#[]⟩ 0 0)) = W at HT HB HZ2 ⊢
    have hp1 : PlAt W b ty s a xs := HP.out.later HB.out hlt
    have HM := Lib.hid hp1
    have HS := Lib.hid (Beside.of_below (b := b) HB.out)
    clear hp1
    go_wp2_with (refine TokCell.store rfl rfl _ _ rfl w.heap.size #[.int .i64 0, .int .i64 0, .string ⟨#[]⟩, .int .i64 0, .int .i64 0] 0 0 ⟨#[]⟩ 0 0 rfl rfl HZ2.out rfl w.heap.size _ (Below.refl _ _) (Nat.le_refl _) ?_; intro w7 HT7 HB7 HO7)
    obtain ⟨r0, r1, r2, r3, r4⟩ := HT7.out.parts
    exact bodyPost_ret (v := .tuple #[.agg #[.int .i64 0, .int .i64 0, .string ⟨#[]⟩, .int .i64 0, .int .i64 0], .int .i64 c]) (by simp [results, Tryz.results33, go_sem, r0, r1, r2, r3, r4]) rfl
      ⟨rfl, HM.out.same (HO7.out b (by omega)), HS.out.store (Nat.le_refl _) HB7.out⟩
  · have HT := Lib.hid (show TokCell (w1.setRow (w.heap.size + 1) (tokC 0 0 ⟨#[]⟩ 0 0)) (w.heap.size + 1) (tokC 0 0 ⟨#[]⟩ 0 0) from setRow_heap _ _ _ _ _ _ HT2.out)
    have HB := Lib.hid (show Below w.heap.size w (w1.setRow (w.heap.size + 1) (tokC 0 0 ⟨#[]⟩ 0 0)) from Hb2.out.trans ⟨rfl, rfl, rfl, by simp, fun k hk => setRow_other _ _ _ _ (by omega)⟩)
    have HZ2 := Lib.hid (show TokCell (w1.setRow (w.heap.size + 1) (tokC 0 0 ⟨#[]⟩ 0 0)) w.heap.size #[.int .i64 0, .int .i64 0, .string ⟨#[]⟩, .int .i64 0, .int .i64 0] from TokCell.same HZ1.out (setRow_other _ _ _ _ (by omega)))
    generalize (w1.setRow (w.heap.size + 1) (tokC 0 0 ⟨#[]⟩ 0 0)) = W at HT HB HZ2 ⊢
    have hp1 : PlAt W b ty s a xs := HP.out.later HB.out hlt
    have HM := Lib.hid hp1
    have HS := Lib.hid (Beside.of_below (b := b) HB.out)
    clear hp1
    go_wp2_with (refine TokCell.store rfl rfl _ _ rfl w.heap.size #[.int .i64 0, .int .i64 0, .string ⟨#[]⟩, .int .i64 0, .int .i64 0] 0 0 ⟨#[]⟩ 0 0 rfl rfl HZ2.out rfl w.heap.size _ (Below.refl _ _) (Nat.le_refl _) ?_; intro w7 HT7 HB7 HO7)
    obtain ⟨r0, r1, r2, r3, r4⟩ := HT7.out.parts
    exact bodyPost_ret (v := .tuple #[.agg #[.int .i64 0, .int .i64 0, .string ⟨#[]⟩, .int .i64 0, .int .i64 0], .int .i64 c]) (by simp [results, Tryz.results33, go_sem, r0, r1, r2, r3, r4]) rfl
      ⟨rfl, HM.out.same (HO7.out b (by omega)), HS.out.store (Nat.le_refl _) HB7.out⟩
end
end Go.Proofs.YtejgcnmbngdkiaaGreatDoor
