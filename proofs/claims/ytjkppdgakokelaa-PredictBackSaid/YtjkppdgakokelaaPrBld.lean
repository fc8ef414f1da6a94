/-
  A strings.Builder beside rows of bytes of the call's own, and what its Write turns.
-/
import Derived.Test.YtjkppdgakokelaaBuilder
import Derived.Test.YtjkppdgakokelaaPrRow
import Derived.Lib.Hide
namespace Go.Proofs.Ytjkppdgakokelaa
open Go.RowKit

/-- Bytes are put behind a row that an object owns. -/
theorem wpList_append_row8 {ops : Array Oper} {rest : List Oper} {o : Oper} {a : Act} {w : World} {Q : Exit → Act → World → Prop} (hgd : o.guard = none) (s x : Operand)
    (ho : o.op = .call { callee := .builtin .append, args := #[s, x], argTypes := #[32, 32] })
    (v : Value) (l : List UInt8) (hs : a.eval s = v) (hown : Row8 w v l)
    (ad : Addr) (n c : Nat) (news : List UInt8) (hn : news.length = n) (hx : a.eval x = .slice (some ad) n c) (hnews : ∀ j (h : j < news.length), w.cell? (ad.add j) = some (.int .u8 (news[j].toNat : Int)))
    (hm : 0 < n) (hlen : l.length + n ≤ 140737488355328)
    (h : ∀ v' w', Hid (Row8 w' v' (l ++ news)) → Hid (w.grownBy w' v.ownBlock) → Hid (∀ k, v'.ownBlock = some k → v.ownBlock = some k ∨ k = w.heap.size) → (∃ g cap, v' = .slice (some ⟨g, 0, none⟩) (l.length + n) cap) → wpList Try.prog ops Q rest (a.put o.dst v') w') : wpList Try.prog ops Q (o :: rest) a w := by
  subst hn
  obtain ⟨i0, hi, hz0, hz1, hz2⟩ := info_parts info8
  refine wpList_plain hgd fun _ hK => ?_
  refine wp_append_lies w s x 32 ho 0 5 i0 (.int .u8 0) 1 1 Try.underlying32 hi hz0 hz1 hz2 rfl (by decide) _ _ _ hs hown ad news.length c (cellsB news) hx (by rw [cellsB_length, Nat.mul_one]) ?_ (cellsB_one _) hm (by unfold maxLen; omega) (by omega) (Nat.zero_le _) _ rfl ?_
  · intro j u hj
    have hl : j < news.length := by
      have := (List.getElem?_eq_some_iff.1 hj).1
      rwa [cellsB_length] at this
    rw [cellsB_at hl] at hj
    rw [← hj]; exact hnews j hl
  · intro g' cap' w' hown' hgrow hblk _
    refine hK _ _ (h _ w' (Lib.hid ?_) (Lib.hid hgrow) (Lib.hid fun k hk => ?_) ⟨g', cap', rfl⟩)
    · unfold Row8
      rw [cellsB_append, List.length_append]
      exact hown'
    · obtain rfl : g' = k := by simpa [Value.ownBlock] using hk
      exact hblk

/-- A strings.Builder in block b that holds these bytes in a row that v names. -/
def BldT (b : Nat) (v : Value) (l : List UInt8) (w : World) : Prop :=
  (∃ p, (p = .pointer none ∨ p = .pointer (some ⟨b, 0, none⟩)) ∧ w.heap[b]? = some (.cells #[p, v] 34 (0, 0))) ∧ Row8 w v l ∧ v.ownBlock ≠ some b
theorem BldT.lt {b : Nat} {v : Value} {l : List UInt8} {w : World} (h : BldT b v l w) : b < w.heap.size := by
  obtain ⟨⟨p, _, hb⟩, _⟩ := h
  exact (Array.getElem?_eq_some_iff.1 hb).1
theorem BldT.keep {b : Nat} {v : Value} {l : List UInt8} {w w' : World} (h : BldT b v l w) (hk : ∀ k, k = b ∨ v.ownBlock = some k → w'.heap[k]? = w.heap[k]?) : BldT b v l w' := by
  obtain ⟨⟨p, hp, hb⟩, hr, hne⟩ := h
  exact ⟨⟨p, hp, (hk b (.inl rfl)).trans hb⟩, hr.move fun k e => hk k (.inr e), hne⟩
theorem BldT.later {b : Nat} {v : Value} {l : List UInt8} {w w' : World} (h : BldT b v l w) (hb : Below w.heap.size w w') : BldT b v l w' :=
  h.keep fun k hk => hb.block k (by
    rcases hk with rfl | hk
    · exact h.lt
    · exact h.2.1.lt k hk)
/-- The builder's blocks. -/
def foot (b : Nat) (v : Value) : List Nat := b :: v.ownBlock.toList
theorem foot_mem {b k : Nat} {v : Value} : k ∈ foot b v ↔ k = b ∨ v.ownBlock = some k := by
  unfold foot
  cases h : v.ownBlock <;> simp [eq_comm]
theorem BldT.bld {b B : Nat} {v : Value} {l : List UInt8} {w : World} (h : BldT b v l w) (hB : ∀ k ∈ foot b v, B ≤ k) : Bld B b l w := by
  obtain ⟨⟨p, hp, hb⟩, hr, hne⟩ := h
  have hr2 : w.ownsRow B 5 1 v (Lib.byteCells l).length (Lib.byteCells l) := by
    rw [Lib.byteCells_length]
    refine ⟨hr.1, ?_⟩
    rcases hr.2 with h2 | ⟨g, cap, cur, hv, _, hg⟩
    · exact .inl h2
    · exact .inr ⟨g, cap, cur, hv, hB g (foot_mem.2 (.inr (by rw [hv]; rfl))), hg⟩
  have key : Lib.BuilderAt 34 5 B b p (Lib.byteCells l) w := ⟨hB b (foot_mem.2 (.inl rfl)), v, hb, hr2, hne⟩
  refine Lib.IsBuilderF.of ?_
  rcases hp with rfl | rfl
  · exact .inl key
  · exact .inr key
theorem BldT.touch {b : Nat} {v : Value} {l : List UInt8} {w w' : World} {F F' : List Nat} (h : BldT b v l w) (ht : Touches F F' w w') (hF : ∀ k ∈ foot b v, k ∉ F) : BldT b v l w' :=
  h.keep fun k hk => (ht.out (by
    rcases hk with rfl | hk
    · exact h.lt
    · exact h.2.1.lt k hk) (hF k (foot_mem.2 hk))).1
theorem BldT.fresh (w : World) : BldT w.heap.size (.slice none 0 0) [] (w.alloc (.cells #[.pointer none, .slice none 0 0] 34)) :=
  ⟨⟨_, .inl rfl, heap_alloc_new w _⟩, Row8.nil _, by simp [Value.ownBlock]⟩

set_option maxHeartbeats 1000000 in
/-- What every writing method calls first: the builder knows itself. -/
theorem check_is (b : Nat) (v : Value) (l : List UInt8) (w : World) (h : BldT b v l w) :
    Calls Try.prog 25 #[.pointer (some ⟨b, 0, none⟩)] w fun e w' => e = .returned (.tuple #[]) ∧ w'.heap[b]? = some (.cells #[.pointer (some ⟨b, 0, none⟩), v] 34 (0, 0)) ∧ Row8 w' v l ∧ Touches [b] [b] w w' := by
  obtain ⟨⟨p, hp, hb⟩, hr, hne⟩ := h
  rcases hp with rfl | rfl
  · refine (Any.Builder_copyCheck_fresh { Try.lays167 with } Try.Builder_Extra_167.toX72 b w (by rw [cell_of_row _ _ _ _ _ _ hb]; rfl) (by simp [World.shape?, hb]; rfl) (frozen_of_row _ _ _ _ _ hb)).mono ?_
    rintro e w' ⟨rfl, rfl⟩
    refine ⟨rfl, by rw [heap_setCell_same _ _ _ _ _ _ hb]; rfl, hr.move fun k e => heap_setCell_other _ _ _ _ ?_, (Touches.refl [b] w).setCell (by simp) _⟩
    intro e2
    exact hne (by rw [e, e2])
  · refine (Any.Builder_copyCheck_used { Try.lays167 with } Try.Builder_Extra_167.toX72 b w (by rw [cell_of_row _ _ _ _ _ _ hb]; rfl)).mono ?_
    rintro e w' ⟨rfl, rfl⟩
    exact ⟨rfl, hb, hr, Touches.refl [b] _⟩

set_option maxHeartbeats 1000000 in
theorem write_is (b : Nat) (v : Value) (l news : List UInt8) (g n c : Nat) (w : World) (h : BldT b v l w) (hg : ByteAt w g news) (hgb : g ≠ b) (hn : news.length = n) (hm : 0 < n) (hlen : l.length + n ≤ 1000000) :
    Calls Try.prog 16 #[.pointer (some ⟨b, 0, none⟩), .slice (some ⟨g, 0, none⟩) n c] w fun e w' => e = .returned (.tuple #[.int .i64 (n : Int), .nilIface]) ∧ ∃ v', BldT b v' (l ++ news) w' ∧ Touches (foot b v) (foot b v') w w' := by
  have Hc := Lib.hid (check_is b v l w h)
  have Hg := Lib.hid hg
  have Hgb := Lib.hid hgb
  have Hne : Hid (v.ownBlock ≠ some b) := Lib.hid h.2.2
  have Hn := Lib.hid hn
  have Hlt := Lib.hid h.lt
  clear h hg hgb hn
  go_enter Try.func16, Try.ntmps16
  go_wp2_with fail
  refine Hc.out.mono ?_
  rintro e w1 ⟨rfl, hb1, hr1, ht1⟩
  have HR1 := Lib.hid hr1
  have HT1 := Lib.hid ht1
  have HB1 := Lib.hid hb1
  have HG1 := Lib.hid (Hg.out.touch ht1 (by have := Hgb.out; simpa using this))
  have c1 : w1.cell? ⟨b, 1, none⟩ = some v := by rw [cell_of_row _ _ _ _ _ _ hb1]; rfl
  have f1 : w1.frozen? ⟨b, 1, none⟩ = false := frozen_of_row _ _ _ _ _ hb1
  have Hlt1 : Hid (b < w1.heap.size) := Lib.hid (Nat.lt_of_lt_of_le Hlt.out ht1.size)
  clear hr1 ht1 hb1
  go_wp2_with (at_builtin; refine wpList_append_row8 rfl (.tmp 12) (.tmp 13) rfl v l rfl HR1.out ⟨g, 0, none⟩ n c news Hn.out rfl (fun j hj => by
      have e : (⟨g, 0, none⟩ : Addr).add j = ⟨g, j, none⟩ := by unfold Addr.add; split <;> simp_all
      rw [e]; exact HG1.out.cell hj) hm (by omega) ?_; intro v2 w2 Hr2 Hgr2 Hk2 hf2; obtain ⟨g2, cap2, rfl⟩ := hf2; have hb2 := (Hgr2.out.block b Hlt1.out (fun e => Hne.out e.symm)).trans HB1.out; have c2 : w2.cell? ⟨b, 1, none⟩ = some v := (by rw [cell_of_row _ _ _ _ _ _ hb2]; rfl); have f2 : w2.frozen? ⟨b, 1, none⟩ = false := frozen_of_row _ _ _ _ _ hb2; have HB2 := Lib.hid hb2; clear hb2)
  have hg2 : g2 ≠ b := by
    rcases Hk2.out g2 rfl with h | h
    · intro e; exact Hne.out (by rw [h, e])
    · have := Hlt1.out; omega
  refine bodyPost_ret (v := .tuple #[.int .i64 (n : Int), .nilIface]) (by simp [results, Try.results16, go_sem]) rfl ⟨rfl, .slice (some ⟨g2, 0, none⟩) (l.length + n) cap2, ⟨⟨_, .inr rfl, by rw [heap_setCell_same _ _ _ _ _ _ HB2.out]; rfl⟩, Hr2.out.move fun k e => heap_setCell_other _ _ _ _ ?_, ?_⟩, ?_⟩
  · obtain rfl : g2 = k := by simpa [Value.ownBlock] using e
    exact hg2
  · simpa [Value.ownBlock] using hg2
  · refine ((HT1.out.wide (G := foot b v) (by simp [foot])).grown Hgr2.out (fun k e => foot_mem.2 (.inr e)) (F'' := foot b (.slice (some ⟨g2, 0, none⟩) (l.length + n) cap2)) fun k hk => ?_).setCell (by simp [foot]) _
    rcases foot_mem.1 hk with rfl | h
    · exact .inl (foot_mem.2 (.inl rfl))
    · rcases Hk2.out k h with h | h
      · exact .inl (foot_mem.2 (.inr h))
      · exact .inr (by omega)

end Go.Proofs.Ytjkppdgakokelaa
