/-
  WrLine, WrPut: texts merged.
-/
import Derived.Test.YtejgcnmbngdkiaaGreatDoorNBld
import Derived.Test.YtejgcnmbngdkiaaGreatDoorNOwn
import Derived.Lib.AppendStr
import Derived.Lib.Hide
import Derived.Deep.LoopGhost
/-
  A line: a strings.Builder as the first field of a block; what its methods turn.
-/
namespace Go.Proofs.YtejgcnmbngdkiaaGreatDoor
section
open Go.RowKit
set_option maxRecDepth 100000

/-- A text is put behind a row that an object owns: where the new row lies. -/
theorem run_append_text (w : World) (ty : TypeId) (v : Value) (l : List UInt8) (hown : Row8 w v l) (s : ByteArray) (hlen : l.length + s.size ≤ 140737488355328) :
    ∃ v' w', (Builtin.append_ #[44, 9] ty #[v, .string s]).run Tryz.prog w = .ok v' w' ∧ Row8 w' v' (l ++ s.data.toList) ∧ w.grownBy w' v.ownBlock ∧
      (∀ k, v'.ownBlock = some k → v.ownBlock = some k ∨ k = w.heap.size) ∧ ∃ ao n cap, v' = .slice ao n cap := by
  obtain ⟨i0, hi, hz0, hz1, hz2⟩ := info_parts info8
  have hsm : l.length + s.size ≤ maxLen := by unfold maxLen; omega
  obtain ⟨v', w', hr, h2, h3, -⟩ := Lib.run_append_own_string (P := Tryz.prog) w 0 44 9 ty 5 i0 Tryz.underlying44 Tryz.underlying9 hi hz0 hz1 hz2 v l.length (cellsB l) hown s hsm hlen (Nat.zero_le _)
  refine ⟨v', w', hr, ?_, h3, ?_, ?_⟩
  · have e1 : (l ++ s.data.toList).length = l.length + s.size := by simp
    unfold Row8
    rw [e1, cellsB_append]
    exact h2
  · intro k hk
    have hxl : (cellsB l).length = l.length * i0.size := by rw [cellsB_length, hz1, Nat.mul_one]
    rcases hown.2 with ⟨hv, h0⟩ | ⟨g, cap, cur, hv, _, hg, hnc, hcm, hcs, htake⟩
    · by_cases hm : s.size = 0
      · have h5 : (Builtin.append_ #[44, 9] ty #[.slice none 0 0, .string s]).run Tryz.prog w = .ok (.slice none 0 0) w := by
          have hf := Lib.run_firstCells_string (P := Tryz.prog) w 1 s
          rw [hm] at hf
          simp [Builtin.append_, run_underlying Tryz.underlying44, run_underlying Tryz.underlying9, sizeOf, typeInfo, hi, hz1, Builtin.lenOf, hm, hf]
        rw [hv, h5] at hr
        injection hr with e1 e2
        rw [← e1] at hk
        simp [Value.ownBlock] at hk
      · have h5 := run_append_nil_string (P := Tryz.prog) w 44 9 ty 5 i0 (.int .u8 0) Tryz.underlying44 Tryz.underlying9 hi hz0 s (by omega) (by omega) (by rw [hz2]; omega)
        rw [hv, h5] at hr
        injection hr with e1 e2
        rw [← e1] at hk
        right
        simpa [Value.ownBlock, eq_comm] using hk
    · have hcs' : cur.size = cap := by simpa using hcs
      by_cases hroom : l.length + s.size ≤ cap
      · have h5 := Lib.run_append_room_string (P := Tryz.prog) w 44 9 ty 5 i0 Tryz.underlying44 Tryz.underlying9 hi hz1 g l.length cap cur hg s hroom (by omega)
        rw [hv, h5] at hr
        injection hr with e1 e2
        rw [← e1] at hk
        left
        rw [hv]
        exact hk
      · have holds : ∀ j u, (cellsB l)[j]? = some u → w.cell? ((⟨g, 0, none⟩ : Addr).add j) = some u := by
          have h6 : w.ownsRow 0 5 1 (.slice (some ⟨g, 0, none⟩) l.length cap) l.length (cellsB l) := hv ▸ hown
          exact h6.cells (g := g) rfl
        have h5 := Lib.run_append_grow_string (P := Tryz.prog) w 44 9 ty 5 i0 (.int .u8 0) Tryz.underlying44 Tryz.underlying9 hi hz0 ⟨g, 0, none⟩ l.length cap (cellsB l) hxl holds s (by omega) (by omega) (by rw [hz2]; exact growslice_fits (by omega) (by omega))
        rw [hv, h5] at hr
        injection hr with e1 e2
        rw [← e1] at hk
        right
        simpa [Value.ownBlock, eq_comm] using hk
  · rcases h2.2 with ⟨hv, _⟩ | ⟨g, cap, cur, hv, _⟩
    · exact ⟨_, _, _, hv⟩
    · exact ⟨_, _, _, hv⟩
theorem wpList_append_text {ops : Array Oper} {rest : List Oper} {o : Oper} {a : Act} {w : World} {Q : Exit → Act → World → Prop} (hgd : o.guard = none) (sl x : Operand)
    (ho : o.op = .call { callee := .builtin .append, args := #[sl, x], argTypes := #[44, 9] })
    (v : Value) (l : List UInt8) (hs : a.eval sl = v) (hown : Row8 w v l) (s : ByteArray) (hx : a.eval x = .string s) (hlen : l.length + s.size ≤ 140737488355328)
    (h : ∀ ao n cap w', Hid (Row8 w' (.slice ao n cap) (l ++ s.data.toList)) → Hid (w.grownBy w' v.ownBlock) → Hid (∀ k, (Value.slice ao n cap).ownBlock = some k → v.ownBlock = some k ∨ k = w.heap.size) → wpList Tryz.prog ops Q rest (a.put o.dst (.slice ao n cap)) w') : wpList Tryz.prog ops Q (o :: rest) a w := by
  refine wpList_plain hgd fun K hK => ?_
  obtain ⟨v', w', hr, h2, h3, h4, ao, n, cap, rfl⟩ := run_append_text w o.type v l hown s hlen
  unfold Oper.wp execOp
  simp only [ho, resolve, invoke, builtin, Sem.run_bind, Sem.run_pure, Result.andThen_ok, List.map_toArray, List.map_cons, List.map_nil, hs, hx, hr]
  exact hK _ _ (h ao n cap w' (Lib.hid h2) (Lib.hid h3) (Lib.hid h4))

/-- A line in block b that holds these bytes in a row that v names. -/
def LnT (b : Nat) (v : Value) (l : List UInt8) (w : World) : Prop :=
  (∃ p, (p = .pointer none ∨ p = .pointer (some ⟨b, 0, none⟩)) ∧ w.heap[b]? = some (.cells #[p, v] 48 (0, 0))) ∧ Row8 w v l ∧ v.ownBlock ≠ some b
theorem LnT.lt {b : Nat} {v : Value} {l : List UInt8} {w : World} (h : LnT b v l w) : b < w.heap.size := by
  obtain ⟨⟨p, _, hb⟩, _⟩ := h
  exact (Array.getElem?_eq_some_iff.1 hb).1
theorem LnT.keep {b : Nat} {v : Value} {l : List UInt8} {w w' : World} (h : LnT b v l w) (hk : ∀ k, k = b ∨ v.ownBlock = some k → w'.heap[k]? = w.heap[k]?) : LnT b v l w' := by
  obtain ⟨⟨p, hp, hb⟩, hr, hne⟩ := h
  exact ⟨⟨p, hp, (hk b (.inl rfl)).trans hb⟩, hr.move fun k e => hk k (.inr e), hne⟩
theorem LnT.later {b : Nat} {v : Value} {l : List UInt8} {w w' : World} (h : LnT b v l w) (hb : Below w.heap.size w w') : LnT b v l w' :=
  h.keep fun k hk => hb.block k (by
    rcases hk with rfl | hk
    · exact h.lt
    · exact h.2.1.lt k hk)
/-- The line's blocks. -/
def foot (b : Nat) (v : Value) : List Nat := b :: v.ownBlock.toList
theorem foot_mem {b k : Nat} {v : Value} : k ∈ foot b v ↔ k = b ∨ v.ownBlock = some k := by
  unfold foot
  cases h : v.ownBlock <;> simp [eq_comm]
theorem LnT.foot_lt {b : Nat} {v : Value} {l : List UInt8} {w : World} (h : LnT b v l w) : ∀ k ∈ foot b v, k < w.heap.size := fun k hk => by
  rcases foot_mem.1 hk with rfl | hk
  · exact h.lt
  · exact h.2.1.lt k hk
theorem LnT.new (w : World) : LnT w.heap.size (.slice none 0 0) [] (w.alloc (.cells #[.pointer none, .slice none 0 0] 48)) :=
  ⟨⟨_, .inl rfl, heap_alloc_new w _⟩, Row8.nil _, by simp [Value.ownBlock]⟩

set_option maxHeartbeats 1000000 in
/-- What every writing method calls first: the builder knows itself. -/
theorem lcheck_is (b : Nat) (v : Value) (l : List UInt8) (w : World) (h : LnT b v l w) :
    Calls Tryz.prog 68 #[.pointer (some ⟨b, 0, none⟩)] w fun e w' => e = .returned (.tuple #[]) ∧ w'.heap[b]? = some (.cells #[.pointer (some ⟨b, 0, none⟩), v] 48 (0, 0)) ∧ Row8 w' v l ∧ Touches [b] [b] w w' := by
  obtain ⟨⟨p, hp, hb⟩, hr, hne⟩ := h
  rcases hp with rfl | rfl
  · obtain ⟨j, hj, hjs⟩ := Option.map_eq_some_iff.1 Tryz.Builder_Extra_167.toX72.sizeBuilder
    have hsh : w.shape? b = some (48, 2) := by simp [World.shape?, hb]
    have hlies : liesAt Tryz.prog Tryz.prog.depth 48 (2 / Tryz.prog.cellsOf 48) 0 46 1 = true := by kernel_rfl
    have h0 : w.cell? ⟨b, 0, none⟩ = some (.pointer none) := by rw [cell_of_row _ _ _ _ _ _ hb]; rfl
    have hfz : w.frozen? ⟨b, 0, none⟩ = false := frozen_of_row _ _ _ _ _ hb
    have h1 := Lib.run_to_unsafe (P := Tryz.prog) w ⟨b, 0, none⟩ Tryz.underlying43 Tryz.underlying115 hj (by rw [hjs]; decide) hsh (Nat.zero_lt_succ 1)
    have h2 := Lib.run_from_unsafe (P := Tryz.prog) w ⟨b, 0, none⟩ Tryz.underlying115 Tryz.underlying43 hj hsh hlies
    go_enter Tryz.func68, Tryz.ntmps68
    go_wp2
    rw [run_callFunc_extern Tryz.func90 (by kernel_rfl) (by kernel_rfl) (by kernel_rfl) (e := Extern.AbiNoEscape.same) (by kernel_rfl), Lib.run_noEscape]
    simp only [Result.andThen]
    rw [Oper.upon_value]
    go_wp2
    go_end0
    refine ⟨rfl, by rw [heap_setCell_same _ _ _ _ _ _ hb]; rfl, hr.move fun k e => heap_setCell_other _ _ _ _ ?_, (Touches.refl [b] w).setCell (by simp) _⟩
    intro e2
    exact hne (by rw [e, e2])
  · refine (Any.Builder_copyCheck_used { Tryz.lays167 with } Tryz.Builder_Extra_167.toX72 b w (by rw [cell_of_row _ _ _ _ _ _ hb]; rfl)).mono ?_
    rintro e w' ⟨rfl, rfl⟩
    exact ⟨rfl, hb, hr, Touches.refl [b] _⟩

set_option maxHeartbeats 1000000 in
theorem lwrite_is (b : Nat) (v : Value) (l : List UInt8) (s : ByteArray) (w : World) (h : LnT b v l w) (hlen : l.length + s.size ≤ 140737488355328) :
    Calls Tryz.prog 44 #[.pointer (some ⟨b, 0, none⟩), .string s] w fun e w' => e = .returned (.tuple #[.int .i64 (s.size : Int), .nilIface]) ∧ ∃ v', LnT b v' (l ++ s.data.toList) w' ∧ Touches (foot b v) (foot b v') w w' := by
  have Hc := Lib.hid (lcheck_is b v l w h)
  have Hne : Hid (v.ownBlock ≠ some b) := Lib.hid h.2.2
  have Hlt := Lib.hid h.lt
  clear h
  go_enter Tryz.func44, Tryz.ntmps44
  go_wp2_with fail
  refine Hc.out.mono ?_
  rintro e w1 ⟨rfl, hb1, hr1, ht1⟩
  have HR1 := Lib.hid hr1
  have HT1 := Lib.hid ht1
  have HB1 := Lib.hid hb1
  have c1 : w1.cell? ⟨b, 1, none⟩ = some v := by rw [cell_of_row _ _ _ _ _ _ hb1]; rfl
  have f1 : w1.frozen? ⟨b, 1, none⟩ = false := frozen_of_row _ _ _ _ _ hb1
  have Hlt1 : Hid (b < w1.heap.size) := Lib.hid (Nat.lt_of_lt_of_le Hlt.out ht1.size)
  clear hr1 ht1 hb1
  go_wp2_with (at_builtin; refine wpList_append_text rfl _ _ rfl v l rfl HR1.out s rfl hlen ?_; intro ao n cap w2 Hr2 Hgr2 Hk2; have hb2 := (Hgr2.out.block b Hlt1.out (fun e => Hne.out e.symm)).trans HB1.out; have c2 : w2.cell? ⟨b, 1, none⟩ = some v := (by rw [cell_of_row _ _ _ _ _ _ hb2]; rfl); have f2 : w2.frozen? ⟨b, 1, none⟩ = false := frozen_of_row _ _ _ _ _ hb2; have HB2 := Lib.hid hb2; clear hb2)
  have hg2 : (Value.slice ao n cap).ownBlock ≠ some b := by
    intro e
    rcases Hk2.out b e with h | h
    · exact Hne.out h
    · have := Hlt1.out; omega
  refine bodyPost_ret (v := .tuple #[.int .i64 (s.size : Int), .nilIface]) (by simp [results, Tryz.results44, go_sem]) rfl ⟨rfl, .slice ao n cap, ⟨⟨_, .inr rfl, by rw [heap_setCell_same _ _ _ _ _ _ HB2.out]; rfl⟩, Hr2.out.move fun k e => heap_setCell_other _ _ _ _ ?_, hg2⟩, ?_⟩
  · intro e2; exact hg2 (by rw [e, e2])
  · refine ((HT1.out.wide (G := foot b v) (by simp [foot])).grown Hgr2.out (fun k e => foot_mem.2 (.inr e)) (F'' := foot b (.slice ao n cap)) fun k hk => ?_).setCell (by simp [foot]) _
    rcases foot_mem.1 hk with rfl | h
    · exact .inl (foot_mem.2 (.inl rfl))
    · rcases Hk2.out k h with h | h
      · exact .inl (foot_mem.2 (.inr h))
      · exact .inr (by omega)

set_option maxHeartbeats 1000000 in
/-- The text of a line that holds a byte; its bytes are frozen then. -/
theorem lstring_is (b : Nat) (v : Value) (l : List UInt8) (w : World) (h : LnT b v l w) (h0 : l ≠ []) :
    Calls Tryz.prog 17 #[.pointer (some ⟨b, 0, none⟩)] w fun e w' => e = .returned (.string ⟨l.toArray⟩) ∧ Touches (foot b v) (foot b v) w w' := by
  obtain ⟨⟨p, hp, hb⟩, hr, hne⟩ := h
  have hl0 : l.length ≠ 0 := by simpa using h0
  obtain ⟨g, cap, cur, rfl, hg, hnc, hcm, hcs, htake⟩ : ∃ g cap cur, v = .slice (some ⟨g, 0, none⟩) l.length cap ∧ w.heap[g]? = some (.cells cur 5 (0, 0)) ∧ l.length ≤ cap ∧ cap ≤ maxLen ∧ cur.size = cap * 1 ∧ cur.toList.take (l.length * 1) = cellsB l := by
    rcases hr.2 with ⟨_, hz⟩ | ⟨g, cap, cur, hv, _, r⟩
    · exact absurd hz hl0
    · exact ⟨g, cap, cur, hv, r⟩
  have hcells := fun j x hx => World.ownsRow.cells hr (g := g) rfl j x hx
  have c1 : w.drew.cell? ⟨b, 1, none⟩ = some (.slice (some ⟨g, 0, none⟩) l.length cap) := by
    have : w.drew.heap[b]? = some (.cells #[p, .slice (some ⟨g, 0, none⟩) l.length cap] 48 (0, 0)) := hb
    rw [Lib.cell_of_heap this]; rfl
  have hSD : (Builtin.unsafeSliceData_ #[44] 67 #[.slice (some ⟨g, 0, none⟩) l.length cap]).run Tryz.prog w.drew = .ok (.pointer (some ⟨g, 0, none⟩)) w.drew :=
    Lib.run_unsafeSliceData_row _ _ _ _ _ _ (by omega)
  have hUS : (Builtin.unsafeString_ #[67, 3] 9 #[.pointer (some ⟨g, 0, none⟩), .int .i64 l.length]).run Tryz.prog w.drew = .ok (.string ⟨l.toArray⟩) (w.drew.freeze ⟨g, 0, none⟩ l.length) := by
    refine Lib.run_unsafeString_row w.drew 67 3 9 5 Tryz.underlying67 Tryz.Builder_Extra_167.cellsByte g cur.size (by have hg' : w.drew.heap[g]? = some (.cells cur 5 (0, 0)) := hg; simp [World.shape?, hg']) l h0 (by omega) (by unfold maxLen at hcm; omega) ?_
    intro j x hx
    exact hcells j (.int .u8 x.toNat) (by simp [cellsB, hx])
  have hend : Touches (foot b (.slice (some ⟨g, 0, none⟩) l.length cap)) (foot b (.slice (some ⟨g, 0, none⟩) l.length cap)) w (w.drew.freeze ⟨g, 0, none⟩ l.length) := by
    have hb2 : Below w.drew.heap.size w.drew w.drew := Below.refl _ _
    refine ⟨?_, ?_, ?_, ?_, ?_, fun k hk => .inl hk⟩
    · unfold World.freeze; split <;> rfl
    · unfold World.freeze; split <;> rfl
    · unfold World.freeze; split <;> rfl
    · unfold World.freeze; split <;> simp
    · intro k hk hn
      have hkg : k ≠ g := fun e => hn (foot_mem.2 (.inr (by rw [e]; rfl)))
      unfold World.freeze
      split
      · rfl
      · simp only [Array.getElem?_modify]
        rw [if_neg (fun e => hkg e.symm)]
        rfl
  have Hend := Lib.hid hend
  clear hend hcells hr hne hb hg htake hnc hcm hcs hp hl0
  go_enter Tryz.func17, Tryz.ntmps17
  go_wp2
  go_region
  all_goals (go_wp2; go_ret; exact ⟨rfl, Hend.out⟩)
end
end Go.Proofs.YtejgcnmbngdkiaaGreatDoor
/-
  Pieces are put behind a line.
-/
namespace Go.Proofs.YtejgcnmbngdkiaaGreatDoor
section
open Go.RowKit
set_option maxRecDepth 100000

def flatT (ps : List ByteArray) : List UInt8 := ps.flatMap (fun s => s.data.toList)
theorem flatT_take {ps : List ByteArray} {i : Nat} (h : i < ps.length) : flatT (ps.take (i + 1)) = flatT (ps.take i) ++ (ps[i]).data.toList := by
  unfold flatT
  rw [List.take_succ_eq_append_getElem h, List.flatMap_append]
  simp
theorem flatT_part {ps : List ByteArray} {i : Nat} (h : i < ps.length) : (flatT (ps.take i)).length + (ps[i]).size ≤ (flatT ps).length := by
  have h1 : flatT ps = flatT (ps.take (i + 1)) ++ flatT (ps.drop (i + 1)) := by
    unfold flatT
    rw [← List.flatMap_append, List.take_append_drop]
  rw [h1, flatT_take h, List.length_append, List.length_append, ← size_data]
  omega

set_option maxHeartbeats 1000000 in
theorem put_is (b : Nat) (v : Value) (l : List UInt8) (ps : List ByteArray) (q n c : Nat) (w : World) (h : LnT b v l w) (hn : ps.length = n)
    (hq : ∀ j (hj : j < ps.length), w.cell? ⟨q, j, none⟩ = some (.string ps[j])) (hqb : q ∉ foot b v) (hql : q < w.heap.size) (hlen : l.length + (flatT ps).length ≤ 140737488355328) (hn2 : n ≤ 1000) :
    Calls Tryz.prog 25 #[.pointer (some ⟨b, 0, none⟩), .slice (some ⟨q, 0, none⟩) n c] w fun e w' => e = .returned (.tuple #[]) ∧ ∃ v', LnT b v' (l ++ flatT ps) w' ∧ Touches (foot b v) (foot b v') w w' := by
  have H := Lib.hid h
  have Hq := Lib.hid hq
  have Hqb := Lib.hid hqb
  have Hql := Lib.hid hql
  have Hlen := Lib.hid hlen
  have Hn := Lib.hid hn
  clear h hq hqb hql hlen hn
  go_enter Tryz.func25, Tryz.ntmps25
  go_wp2_with fail
  go_loopg [8] n (fun g s8 wx => ∃ (i : Nat) (v' : Value), i + g = n ∧ s8 = .int .i64 i ∧ Aside (LnT b v' (l ++ flatT (ps.take i)) wx) ∧ Aside (Touches (foot b v) (foot b v') w wx))
  case atStart => exact ⟨0, v, by omega, rfl, (by show LnT _ _ _ _; simpa [flatT] using H.out), Touches.refl _ _⟩
  case round =>
    obtain ⟨i, v', hig, rfl, HL, HT⟩ := hrel
    cases gk with
    | zero =>
      obtain rfl : i = n := by omega
      have Hend : Hid (LnT b v' (l ++ flatT ps) wr) := Lib.hid (by have := HL.out; rwa [List.take_of_length_le (by rw [Hn.out]; exact Nat.le_refl _)] at this)
      go_wp2_with fail
      go_end0
      exact ⟨rfl, v', Hend.out, HT.out⟩
    | succ g =>
      have hi : i < n := by omega
      have hip : i < ps.length := by rw [Hn.out]; exact hi
      have hiz : (i : Int) < (n : Int) := by omega
      have ci : wr.cell? ⟨q, i, none⟩ = some (.string ps[i]) := (HT.out.cell (a := ⟨q, i, none⟩) Hql.out Hqb.out).trans (Hq.out i hip)
      have hp := flatT_part hip
      have Hw := Lib.hid (lwrite_is b v' _ ps[i] wr HL.out (by rw [List.length_append]; have := Hlen.out; omega))
      have Hnx := Lib.hid (flatT_take hip)
      obtain ⟨s, hs⟩ : ∃ s, ps[i] = s := ⟨_, rfl⟩
      rw [hs] at ci Hw Hnx
      clear hp hs hip
      go_wp2_with (go_at_call 44; refine Hw.out.mono ?_; rintro e w2 ⟨rfl, v2, h2, t2⟩; have HL2 := Lib.hid h2; have HT2 := Lib.hid t2; clear h2 t2)
      go_roundg g
      case measure => omega
      case rel => exact ⟨i + 1, v2, by omega, by go_num, (by show LnT _ _ _ _; rw [Hnx.out, ← List.append_assoc]; exact HL2.out), HT.out.trans HT2.out⟩

/-- What lies in a block that was made behind it is no block of the line's. -/
theorem foot_new {b : Nat} {v : Value} {l : List UInt8} {w : World} (h : LnT b v l w) {q : Nat} (hq : w.heap.size ≤ q) : q ∉ foot b v := fun hk => by have := h.foot_lt q hk; omega
/-- Pieces out of a row that was made just now. -/
theorem putN_is (b : Nat) (v : Value) (l : List UInt8) (ps : List ByteArray) (n : Nat) (w : World) (h : LnT b v l w) (hn : ps.length = n) (hlen : l.length + (flatT ps).length ≤ 140737488355328) (hn2 : n ≤ 1000) (c : Nat) :
    Calls Tryz.prog 25 #[.pointer (some ⟨b, 0, none⟩), .slice (some ⟨w.heap.size, 0, none⟩) n c] (w.alloc (.cells (ps.map Value.string).toArray 9)) fun e w' => e = .returned (.tuple #[]) ∧ ∃ v', LnT b v' (l ++ flatT ps) w' ∧ Touches (foot b v) (foot b v') w w' := by
  have hb : Below w.heap.size w (w.alloc (.cells (ps.map Value.string).toArray 9)) := (Below.refl _ w).alloc (Nat.le_refl _) _
  refine (put_is b v l ps w.heap.size n c _ (h.later hb) hn ?_ (foot_new h (Nat.le_refl _)) (by simp) hlen hn2).mono ?_
  · intro j hj
    have e : (w.alloc (.cells (ps.map Value.string).toArray 9)).heap[w.heap.size]? = some (.cells (ps.map Value.string).toArray 9 (0, 0)) := heap_alloc_new w _
    rw [cell_of_row _ _ _ _ _ _ e]
    simp [hj]
  · rintro e w' ⟨he, v', h1, h2⟩
    exact ⟨he, v', h1, (Touches.of_below hb).trans h2⟩
end
end Go.Proofs.YtejgcnmbngdkiaaGreatDoor
