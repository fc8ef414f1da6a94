/-
  VSym, VExtra, VOut, VZero, VOne: texts merged.
-/
import Derived.Test.YtejgcnmbngdkiaaGreatDoorNMem
/-
  Conditions joined by && and ||, walked without parting: an operation under a condition leaves a value that is there under it.
-/
namespace Go.Proofs.YtejgcnmbngdkiaaGreatDoor
section
open Go.RowKit
set_option maxRecDepth 100000

/-- A value that is there under a condition. -/
def symV (b : Bool) (v : Value) : Value := if b = true then v else undef
theorem symV_true (v : Value) : symV true v = v := rfl
section
variable {P : Program} {ops : Array Oper} {Q : Exit → Act → World → Prop} {a a' : Act} {w : World} {rest : List Oper} {o : Oper} {j d : Nat} {b e e' : Bool} {v : Value} {c x y : Operand} {A : Bool → Act}
theorem wpList_when {g : Bool} (hw : Region.wanted o (yielded ops a.tmps) = g) (hrun : g = true → (execOp a.eval o).run P w = .ok (.value v) w)
    (h : wpList P ops Q rest (a.put o.dst (symV g v)) w) : wpList P ops Q (o :: rest) a w := by
  unfold wpList
  cases g with
  | true =>
    rw [if_pos hw]
    refine .inl ?_
    unfold Oper.wp
    rw [hrun rfl]
    exact h
  | false =>
    rw [if_neg (by rw [hw]; simp)]
    exact h
theorem yielded_bool (hd : (ops[j]?).bind (·.dst) = some d) (hb : a.tmps[d]? = some (.bool b)) : yielded ops a.tmps j = some b := by
  unfold yielded; rw [hd]; simp only [Option.bind_some, hb]
theorem yielded_sym (hd : (ops[j]?).bind (·.dst) = some d) (hb : a.tmps[d]? = some (symV b (.bool e))) : (yielded ops a.tmps j == some true) = (b && e) := by
  unfold yielded; rw [hd]; simp only [Option.bind_some, hb]
  cases b <;> cases e <;> rfl
theorem wpList_symT (hg : o.guard = some (j, true)) (hd : (ops[j]?).bind (·.dst) = some d) (hb : a.tmps[d]? = some (.bool b)) (hrun : b = true → (execOp a.eval o).run P w = .ok (.value v) w)
    (ha : a.put o.dst (symV b v) = a') (h : wpList P ops Q rest a' w) : wpList P ops Q (o :: rest) a w := by
  subst ha
  exact wpList_when (by simp [Region.wanted, hg, yielded_bool hd hb]) hrun h
theorem wpList_symF (hg : o.guard = some (j, false)) (hd : (ops[j]?).bind (·.dst) = some d) (hb : a.tmps[d]? = some (.bool b)) (hrun : b = false → (execOp a.eval o).run P w = .ok (.value v) w)
    (ha : a.put o.dst (symV (!b) v) = a') (h : wpList P ops Q rest a' w) : wpList P ops Q (o :: rest) a w := by
  subst ha
  exact wpList_when (g := !b) (by cases b <;> simp [Region.wanted, hg, yielded_bool hd hb]) (fun e => hrun (by simpa using e)) h
theorem wpList_symS (hg : o.guard = some (j, true)) (hd : (ops[j]?).bind (·.dst) = some d) (hb : a.tmps[d]? = some (symV b (.bool e))) (hrun : b = true → e = true → (execOp a.eval o).run P w = .ok (.value v) w)
    (ha : a.put o.dst (symV (b && e) v) = a') (h : wpList P ops Q rest a' w) : wpList P ops Q (o :: rest) a w := by
  subst ha
  exact wpList_when (g := b && e) (by simpa [Region.wanted, hg] using yielded_sym hd hb) (fun e => by rw [Bool.and_eq_true] at e; exact hrun e.1 e.2) h
theorem run_pick (ho : o.op = .pick c x y) (hc : a.eval c = .bool b) : (execOp a.eval o).run P w = .ok (.value (if b = true then a.eval x else a.eval y)) w := by
  unfold execOp
  rw [ho]
  dsimp only
  rw [hc]
  rfl
theorem wpList_pickAnd (hg : o.guard = none) (ho : o.op = .pick c x y) (hc : a.eval c = .bool b) (hx : a.eval x = symV b (.bool e)) (hy : a.eval y = .bool false)
    (ha : ∀ r, a.put o.dst (.bool r) = A r) (h : ∀ r, Hid ((b && e) = r) → wpList P ops Q rest (A r) w) : wpList P ops Q (o :: rest) a w := by
  refine wpList_when (g := true) (v := .bool (b && e)) (by simp [Region.wanted, hg]) (fun _ => ?_) ?_
  · rw [run_pick ho hc, hx, hy]; cases b <;> rfl
  · rw [symV_true, ha]; exact h _ (Lib.hid rfl)
theorem wpList_pickOr (hg : o.guard = none) (ho : o.op = .pick c x y) (hc : a.eval c = .bool b) (hx : a.eval x = .bool true) (hy : a.eval y = symV (!b) (.bool e))
    (ha : ∀ r, a.put o.dst (.bool r) = A r) (h : ∀ r, Hid ((b || e) = r) → wpList P ops Q rest (A r) w) : wpList P ops Q (o :: rest) a w := by
  refine wpList_when (g := true) (v := .bool (b || e)) (by simp [Region.wanted, hg]) (fun _ => ?_) ?_
  · rw [run_pick ho hc, hx, hy]; cases b <;> rfl
  · rw [symV_true, ha]; exact h _ (Lib.hid rfl)
/-- A pick under a condition that is not. -/
theorem wpList_pickAndF (hg : o.guard = some (j, false)) (hd : (ops[j]?).bind (·.dst) = some d) (hb : a.tmps[d]? = some (.bool b)) (ho : o.op = .pick c x y) (hc : a.eval c = symV (!b) (.bool e)) (hx : a.eval x = symV (!b && e) (.bool e')) (hy : a.eval y = .bool false)
    (ha : ∀ r, a.put o.dst (symV (!b) (.bool r)) = A r) (h : ∀ r, Hid ((e && e') = r) → wpList P ops Q rest (A r) w) : wpList P ops Q (o :: rest) a w := by
  refine wpList_when (g := !b) (v := .bool (e && e')) (by cases b <;> simp [Region.wanted, hg, yielded_bool hd hb]) (fun hbt => ?_) ?_
  · obtain rfl : b = false := by simpa using hbt
    rw [run_pick (b := e) ho (by rw [hc]; rfl), hx, hy]; cases e <;> rfl
  · rw [ha]; exact h _ (Lib.hid rfl)
/-- A pick under a condition that is. -/
theorem wpList_pickAndT (hg : o.guard = some (j, true)) (hd : (ops[j]?).bind (·.dst) = some d) (hb : a.tmps[d]? = some (.bool b)) (ho : o.op = .pick c x y) (hc : a.eval c = symV b (.bool e)) (hx : a.eval x = symV (b && e) (.bool e')) (hy : a.eval y = .bool false)
    (ha : ∀ r, a.put o.dst (symV b (.bool r)) = A r) (h : ∀ r, Hid ((e && e') = r) → wpList P ops Q rest (A r) w) : wpList P ops Q (o :: rest) a w := by
  refine wpList_when (g := b) (v := .bool (e && e')) (by cases b <;> simp [Region.wanted, hg, yielded_bool hd hb]) (fun hbt => ?_) ?_
  · subst hbt
    rw [run_pick (b := e) ho (by rw [hc]; rfl), hx, hy]; cases e <;> rfl
  · rw [ha]; exact h _ (Lib.hid rfl)
theorem wpList_whenCall {g : Bool} {f : FuncId} {args : Array Value} (hw : Region.wanted o (yielded ops a.tmps) = g) (hrun : g = true → (execOp a.eval o).run P w = .ok (.enter f args) w)
    (hC : g = true → Calls P f args w fun e w' => e = .returned v ∧ w' = w) (h : wpList P ops Q rest (a.put o.dst (symV g v)) w) : wpList P ops Q (o :: rest) a w := by
  unfold wpList
  cases g with
  | true =>
    rw [if_pos hw]
    refine .inl ?_
    unfold Oper.wp
    rw [hrun rfl]
    show Calls _ _ _ _ _
    refine (hC rfl).mono ?_
    rintro e w1 ⟨rfl, rfl⟩
    exact h
  | false =>
    rw [if_neg (by rw [hw]; simp)]
    exact h
/-- A call that leaves the world as it is, under a condition. -/
theorem wpList_callT {f : FuncId} {args : Array Value} (hg : o.guard = some (j, true)) (hd : (ops[j]?).bind (·.dst) = some d) (hb : a.tmps[d]? = some (.bool b)) (hrun : b = true → (execOp a.eval o).run P w = .ok (.enter f args) w)
    (hC : b = true → Calls P f args w fun e w' => e = .returned v ∧ w' = w) (ha : a.put o.dst (symV b v) = a') (h : wpList P ops Q rest a' w) : wpList P ops Q (o :: rest) a w := by
  subst ha
  exact wpList_whenCall (by simp [Region.wanted, hg, yielded_bool hd hb]) hrun hC h
theorem wpList_callF {f : FuncId} {args : Array Value} (hg : o.guard = some (j, false)) (hd : (ops[j]?).bind (·.dst) = some d) (hb : a.tmps[d]? = some (.bool b)) (hrun : b = false → (execOp a.eval o).run P w = .ok (.enter f args) w)
    (hC : b = false → Calls P f args w fun e w' => e = .returned v ∧ w' = w) (ha : a.put o.dst (symV (!b) v) = a') (h : wpList P ops Q rest a' w) : wpList P ops Q (o :: rest) a w := by
  subst ha
  exact wpList_whenCall (g := !b) (by cases b <;> simp [Region.wanted, hg, yielded_bool hd hb]) (fun e => hrun (by simpa using e)) (fun e => hC (by simpa using e)) h
theorem wpList_callS {f : FuncId} {args : Array Value} (hg : o.guard = some (j, true)) (hd : (ops[j]?).bind (·.dst) = some d) (hb : a.tmps[d]? = some (symV b (.bool e))) (hrun : b = true → e = true → (execOp a.eval o).run P w = .ok (.enter f args) w)
    (hC : b = true → e = true → Calls P f args w fun e w' => e = .returned v ∧ w' = w) (ha : a.put o.dst (symV (b && e) v) = a') (h : wpList P ops Q rest a' w) : wpList P ops Q (o :: rest) a w := by
  subst ha
  exact wpList_whenCall (g := b && e) (by simpa [Region.wanted, hg] using yielded_sym hd hb) (fun e => by rw [Bool.and_eq_true] at e; exact hrun e.1 e.2) (fun e => by rw [Bool.and_eq_true] at e; exact hC e.1 e.2) h
theorem wpList_whenCallB {g : Bool} {f : FuncId} {args : Array Value} (hw : Region.wanted o (yielded ops a.tmps) = g) (hrun : g = true → (execOp a.eval o).run P w = .ok (.enter f args) w)
    (hC : g = true → Calls P f args w fun e w' => e = .returned v ∧ Below w.heap.size w w') (h : ∀ w', Hid (Below w.heap.size w w') → wpList P ops Q rest (a.put o.dst (symV g v)) w') : wpList P ops Q (o :: rest) a w := by
  unfold wpList
  cases g with
  | true =>
    rw [if_pos hw]
    refine .inl ?_
    unfold Oper.wp
    rw [hrun rfl]
    show Calls _ _ _ _ _
    refine (hC rfl).mono ?_
    rintro e w1 ⟨rfl, hb⟩
    exact h w1 (Lib.hid hb)
  | false =>
    rw [if_neg (by rw [hw]; simp)]
    exact h w (Lib.hid (Below.refl _ w))
/-- A call that makes memory, under a condition. -/
theorem wpList_callBT {f : FuncId} {args : Array Value} (hg : o.guard = some (j, true)) (hd : (ops[j]?).bind (·.dst) = some d) (hb : a.tmps[d]? = some (.bool b)) (hrun : b = true → (execOp a.eval o).run P w = .ok (.enter f args) w)
    (hC : b = true → Calls P f args w fun e w' => e = .returned v ∧ Below w.heap.size w w') (ha : a.put o.dst (symV b v) = a') (h : ∀ w', Hid (Below w.heap.size w w') → wpList P ops Q rest a' w') : wpList P ops Q (o :: rest) a w := by
  subst ha
  exact wpList_whenCallB (by simp [Region.wanted, hg, yielded_bool hd hb]) hrun hC h
end
end
end Go.Proofs.YtejgcnmbngdkiaaGreatDoor
/-
  The document's answer: is a field there that the kind does not have?
-/
namespace Go.Proofs.YtejgcnmbngdkiaaGreatDoor
section
open Go.RowKit
set_option maxRecDepth 100000
attribute [local go_sem] symV_true

theorem text_some (s : ByteArray) : ((!s.toList.isEmpty) = true) ↔ s.size ≠ 0 := by
  rw [ByteArray.toList_eq]
  rcases s with ⟨⟨l⟩⟩
  cases l <;> simp [ByteArray.size]

end
end Go.Proofs.YtejgcnmbngdkiaaGreatDoor
/-
  The document's answer: is a number out of what it may be?
-/
namespace Go.Proofs.YtejgcnmbngdkiaaGreatDoor
section
open Go.RowKit
set_option maxRecDepth 100000
attribute [local go_sem] undef

end
end Go.Proofs.YtejgcnmbngdkiaaGreatDoor
/-
  The document's answer: does a kind hold others; is there a byte 0?
-/
namespace Go.Proofs.YtejgcnmbngdkiaaGreatDoor
section
open Go.RowKit
set_option maxRecDepth 100000

theorem vtake_snoc (s : ByteArray) (k : Nat) (h : k < s.size) : s.data.toList.take (k + 1) = s.data.toList.take k ++ [s[k]] := by
  rw [List.take_add_one, List.getElem?_eq_getElem (by simpa using h)]; rfl
theorem vbyte_mem (s : ByteArray) (k : Nat) (h : k < s.size) : s[k] ∈ s.data.toList := by
  have : s[k] = s.data.toList[k]'(by simpa using h) := rfl
  rw [this]; exact List.getElem_mem _
theorem holder_false {k : Int} (h5 : ¬ k = 5) (h6 : ¬ k = 6) (h8 : ¬ k = 8) : holderV k = false := by unfold holderV; rw [decide_eq_false h5, decide_eq_false h6, decide_eq_false h8]; rfl

end
end Go.Proofs.YtejgcnmbngdkiaaGreatDoor
/-
  The document's answer: what is wrong with a value by itself.
-/
namespace Go.Proofs.YtejgcnmbngdkiaaGreatDoor
section
open Go.RowKit
set_option maxRecDepth 100000
attribute [local go_sem] symV_true Hv.arr

theorem cast_lt127 (s : ByteArray) : ((127 : Int) < (s.size : Int)) ↔ 127 < s.size := by omega
theorem cast_le127 (s : ByteArray) : ((s.size : Int) ≤ (127 : Int)) ↔ s.size ≤ 127 := by omega
theorem cast_lt65535 (s : ByteArray) : ((65535 : Int) < (s.size : Int)) ↔ 65535 < s.size := by omega
theorem cast_le65535 (s : ByteArray) : ((s.size : Int) ≤ (65535 : Int)) ↔ s.size ≤ 65535 := by omega
theorem cast_lt1048576 (s : ByteArray) : ((1048576 : Int) < (s.size : Int)) ↔ 1048576 < s.size := by omega
theorem cast_le1048576 (s : ByteArray) : ((s.size : Int) ≤ (1048576 : Int)) ↔ s.size ≤ 1048576 := by omega

end
end Go.Proofs.YtejgcnmbngdkiaaGreatDoor
