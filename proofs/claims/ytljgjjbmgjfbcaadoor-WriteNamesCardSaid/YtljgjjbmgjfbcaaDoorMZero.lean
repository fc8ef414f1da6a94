/-
  VSym, VExtra, VOut, VZero, VCell, VOne: texts merged.
-/
import Derived.Test.YtljgjjbmgjfbcaaDoorMMem
/-
  Conditions joined by && and ||, walked without parting: an operation under a condition leaves a value that is there under it.
-/
namespace Go.Proofs.YtljgjjbmgjfbcaaDoor
section
open Go.RowKit
set_option maxRecDepth 100000

/-- A value that is there under a condition. -/
def symV (b : Bool) (v : Value) : Value := if b = true then v else undef
theorem symV_true (v : Value) : symV true v = v := rfl
section
variable {P : Program} {ops : Array Oper} {Q : Exit → Act → World → Prop} {a a' : Act} {w : World} {rest : List Oper} {o : Oper} {j d : Nat} {b e e' : Bool} {v : Value} {c x y : Operand} {A : Bool → Act}
theorem wpList_when {g : Bool} (hw : Region.wanted o (yielded ops a.tmps) = g) (hrun : g = true → (execOp a.eval o).run P w = .ok (.value v) w)
    (h : wpList P ops Q rest (a.put o.dst (symV g v)) w) : wpList P ops Q (o :: rest) a w := by
  unfold wpList
  cases g with
  | true =>
    rw [if_pos hw]
    refine .inl ?_
    unfold Oper.wp
    rw [hrun rfl]
    exact h
  | false =>
    rw [if_neg (by rw [hw]; simp)]
    exact h
theorem yielded_bool (hd : (ops[j]?).bind (·.dst) = some d) (hb : a.tmps[d]? = some (.bool b)) : yielded ops a.tmps j = some b := by
  unfold yielded; rw [hd]; simp only [Option.bind_some, hb]
theorem yielded_sym (hd : (ops[j]?).bind (·.dst) = some d) (hb : a.tmps[d]? = some (symV b (.bool e))) : (yielded ops a.tmps j == some true) = (b && e) := by
  unfold yielded; rw [hd]; simp only [Option.bind_some, hb]
  cases b <;> cases e <;> rfl
theorem wpList_symT (hg : o.guard = some (j, true)) (hd : (ops[j]?).bind (·.dst) = some d) (hb : a.tmps[d]? = some (.bool b)) (hrun : b = true → (execOp a.eval o).run P w = .ok (.value v) w)
    (ha : a.put o.dst (symV b v) = a') (h : wpList P ops Q rest a' w) : wpList P ops Q (o :: rest) a w := by
  subst ha
  exact wpList_when (by simp [Region.wanted, hg, yielded_bool hd hb]) hrun h
theorem wpList_symF (hg : o.guard = some (j, false)) (hd : (ops[j]?).bind (·.dst) = some d) (hb : a.tmps[d]? = some (.bool b)) (hrun : b = false → (execOp a.eval o).run P w = .ok (.value v) w)
    (ha : a.put o.dst (symV (!b) v) = a') (h : wpList P ops Q rest a' w) : wpList P ops Q (o :: rest) a w := by
  subst ha
  exact wpList_when (g := !b) (by cases b <;> simp [Region.wanted, hg, yielded_bool hd hb]) (fun e => hrun (by simpa using e)) h
theorem wpList_symS (hg : o.guard = some (j, true)) (hd : (ops[j]?).bind (·.dst) = some d) (hb : a.tmps[d]? = some (symV b (.bool e))) (hrun : b = true → e = true → (execOp a.eval o).run P w = .ok (.value v) w)
    (ha : a.put o.dst (symV (b && e) v) = a') (h : wpList P ops Q rest a' w) : wpList P ops Q (o :: rest) a w := by
  subst ha
  exact wpList_when (g := b && e) (by simpa [Region.wanted, hg] using yielded_sym hd hb) (fun e => by rw [Bool.and_eq_true] at e; exact hrun e.1 e.2) h
theorem run_pick (ho : o.op = .pick c x y) (hc : a.eval c = .bool b) : (execOp a.eval o).run P w = .ok (.value (if b = true then a.eval x else a.eval y)) w := by
  unfold execOp
  rw [ho]
  dsimp only
  rw [hc]
  rfl
theorem wpList_pickAnd (hg : o.guard = none) (ho : o.op = .pick c x y) (hc : a.eval c = .bool b) (hx : a.eval x = symV b (.bool e)) (hy : a.eval y = .bool false)
    (ha : ∀ r, a.put o.dst (.bool r) = A r) (h : ∀ r, Hid ((b && e) = r) → wpList P ops Q rest (A r) w) : wpList P ops Q (o :: rest) a w := by
  refine wpList_when (g := true) (v := .bool (b && e)) (by simp [Region.wanted, hg]) (fun _ => ?_) ?_
  · rw [run_pick ho hc, hx, hy]; cases b <;> rfl
  · rw [symV_true, ha]; exact h _ (Lib.hid rfl)
theorem wpList_pickOr (hg : o.guard = none) (ho : o.op = .pick c x y) (hc : a.eval c = .bool b) (hx : a.eval x = .bool true) (hy : a.eval y = symV (!b) (.bool e))
    (ha : ∀ r, a.put o.dst (.bool r) = A r) (h : ∀ r, Hid ((b || e) = r) → wpList P ops Q rest (A r) w) : wpList P ops Q (o :: rest) a w := by
  refine wpList_when (g := true) (v := .bool (b || e)) (by simp [Region.wanted, hg]) (fun _ => ?_) ?_
  · rw [run_pick ho hc, hx, hy]; cases b <;> rfl
  · rw [symV_true, ha]; exact h _ (Lib.hid rfl)
/-- A pick under a condition that is not. -/
theorem wpList_pickAndF (hg : o.guard = some (j, false)) (hd : (ops[j]?).bind (·.dst) = some d) (hb : a.tmps[d]? = some (.bool b)) (ho : o.op = .pick c x y) (hc : a.eval c = symV (!b) (.bool e)) (hx : a.eval x = symV (!b && e) (.bool e')) (hy : a.eval y = .bool false)
    (ha : ∀ r, a.put o.dst (symV (!b) (.bool r)) = A r) (h : ∀ r, Hid ((e && e') = r) → wpList P ops Q rest (A r) w) : wpList P ops Q (o :: rest) a w := by
  refine wpList_when (g := !b) (v := .bool (e && e')) (by cases b <;> simp [Region.wanted, hg, yielded_bool hd hb]) (fun hbt => ?_) ?_
  · obtain rfl : b = false := by simpa using hbt
    rw [run_pick (b := e) ho (by rw [hc]; rfl), hx, hy]; cases e <;> rfl
  · rw [ha]; exact h _ (Lib.hid rfl)
/-- A pick under a condition that is. -/
theorem wpList_pickAndT (hg : o.guard = some (j, true)) (hd : (ops[j]?).bind (·.dst) = some d) (hb : a.tmps[d]? = some (.bool b)) (ho : o.op = .pick c x y) (hc : a.eval c = symV b (.bool e)) (hx : a.eval x = symV (b && e) (.bool e')) (hy : a.eval y = .bool false)
    (ha : ∀ r, a.put o.dst (symV b (.bool r)) = A r) (h : ∀ r, Hid ((e && e') = r) → wpList P ops Q rest (A r) w) : wpList P ops Q (o :: rest) a w := by
  refine wpList_when (g := b) (v := .bool (e && e')) (by cases b <;> simp [Region.wanted, hg, yielded_bool hd hb]) (fun hbt => ?_) ?_
  · subst hbt
    rw [run_pick (b := e) ho (by rw [hc]; rfl), hx, hy]; cases e <;> rfl
  · rw [ha]; exact h _ (Lib.hid rfl)
theorem wpList_whenCall {g : Bool} {f : FuncId} {args : Array Value} (hw : Region.wanted o (yielded ops a.tmps) = g) (hrun : g = true → (execOp a.eval o).run P w = .ok (.enter f args) w)
    (hC : g = true → Calls P f args w fun e w' => e = .returned v ∧ w' = w) (h : wpList P ops Q rest (a.put o.dst (symV g v)) w) : wpList P ops Q (o :: rest) a w := by
  unfold wpList
  cases g with
  | true =>
    rw [if_pos hw]
    refine .inl ?_
    unfold Oper.wp
    rw [hrun rfl]
    show Calls _ _ _ _ _
    refine (hC rfl).mono ?_
    rintro e w1 ⟨rfl, rfl⟩
    exact h
  | false =>
    rw [if_neg (by rw [hw]; simp)]
    exact h
/-- A call that leaves the world as it is, under a condition. -/
theorem wpList_callT {f : FuncId} {args : Array Value} (hg : o.guard = some (j, true)) (hd : (ops[j]?).bind (·.dst) = some d) (hb : a.tmps[d]? = some (.bool b)) (hrun : b = true → (execOp a.eval o).run P w = .ok (.enter f args) w)
    (hC : b = true → Calls P f args w fun e w' => e = .returned v ∧ w' = w) (ha : a.put o.dst (symV b v) = a') (h : wpList P ops Q rest a' w) : wpList P ops Q (o :: rest) a w := by
  subst ha
  exact wpList_whenCall (by simp [Region.wanted, hg, yielded_bool hd hb]) hrun hC h
theorem wpList_callF {f : FuncId} {args : Array Value} (hg : o.guard = some (j, false)) (hd : (ops[j]?).bind (·.dst) = some d) (hb : a.tmps[d]? = some (.bool b)) (hrun : b = false → (execOp a.eval o).run P w = .ok (.enter f args) w)
    (hC : b = false → Calls P f args w fun e w' => e = .returned v ∧ w' = w) (ha : a.put o.dst (symV (!b) v) = a') (h : wpList P ops Q rest a' w) : wpList P ops Q (o :: rest) a w := by
  subst ha
  exact wpList_whenCall (g := !b) (by cases b <;> simp [Region.wanted, hg, yielded_bool hd hb]) (fun e => hrun (by simpa using e)) (fun e => hC (by simpa using e)) h
theorem wpList_callS {f : FuncId} {args : Array Value} (hg : o.guard = some (j, true)) (hd : (ops[j]?).bind (·.dst) = some d) (hb : a.tmps[d]? = some (symV b (.bool e))) (hrun : b = true → e = true → (execOp a.eval o).run P w = .ok (.enter f args) w)
    (hC : b = true → e = true → Calls P f args w fun e w' => e = .returned v ∧ w' = w) (ha : a.put o.dst (symV (b && e) v) = a') (h : wpList P ops Q rest a' w) : wpList P ops Q (o :: rest) a w := by
  subst ha
  exact wpList_whenCall (g := b && e) (by simpa [Region.wanted, hg] using yielded_sym hd hb) (fun e => by rw [Bool.and_eq_true] at e; exact hrun e.1 e.2) (fun e => by rw [Bool.and_eq_true] at e; exact hC e.1 e.2) h
theorem wpList_whenCallB {g : Bool} {f : FuncId} {args : Array Value} (hw : Region.wanted o (yielded ops a.tmps) = g) (hrun : g = true → (execOp a.eval o).run P w = .ok (.enter f args) w)
    (hC : g = true → Calls P f args w fun e w' => e = .returned v ∧ Below w.heap.size w w') (h : ∀ w', Hid (Below w.heap.size w w') → wpList P ops Q rest (a.put o.dst (symV g v)) w') : wpList P ops Q (o :: rest) a w := by
  unfold wpList
  cases g with
  | true =>
    rw [if_pos hw]
    refine .inl ?_
    unfold Oper.wp
    rw [hrun rfl]
    show Calls _ _ _ _ _
    refine (hC rfl).mono ?_
    rintro e w1 ⟨rfl, hb⟩
    exact h w1 (Lib.hid hb)
  | false =>
    rw [if_neg (by rw [hw]; simp)]
    exact h w (Lib.hid (Below.refl _ w))
/-- A call that makes memory, under a condition. -/
theorem wpList_callBT {f : FuncId} {args : Array Value} (hg : o.guard = some (j, true)) (hd : (ops[j]?).bind (·.dst) = some d) (hb : a.tmps[d]? = some (.bool b)) (hrun : b = true → (execOp a.eval o).run P w = .ok (.enter f args) w)
    (hC : b = true → Calls P f args w fun e w' => e = .returned v ∧ Below w.heap.size w w') (ha : a.put o.dst (symV b v) = a') (h : ∀ w', Hid (Below w.heap.size w w') → wpList P ops Q rest a' w') : wpList P ops Q (o :: rest) a w := by
  subst ha
  exact wpList_whenCallB (by simp [Region.wanted, hg, yielded_bool hd hb]) hrun hC h
end
end
end Go.Proofs.YtljgjjbmgjfbcaaDoor
/-
  The document's answer: is a field there that the kind does not have?
-/
namespace Go.Proofs.YtljgjjbmgjfbcaaDoor
section
open Go.RowKit
set_option maxRecDepth 100000
attribute [local go_sem] symV_true

theorem text_some (s : ByteArray) : ((!s.toList.isEmpty) = true) ↔ s.size ≠ 0 := by
  rw [ByteArray.toList_eq]
  rcases s with ⟨⟨l⟩⟩
  cases l <;> simp [ByteArray.size]

set_option maxHeartbeats 8000000 in
theorem extra_any (x : Hv) (v : Val) (w : World) (hk : x.k = v.kind) (hn : x.n = v.n) (hg : x.g = v.g) (hs : x.s = v.s) (hl : x.l.len = v.l.length) (hd : x.d.len = v.d.length) :
    Calls Tryd.prog 80 #[.agg x.arr] w fun e w' => e = .returned (.bool (extraV v)) ∧ Below w.heap.size w w' := by
  obtain ⟨k, n, g, s, ⟨lp, ll, lc⟩, ⟨dp, dl, dc⟩⟩ := x
  dsimp only at hk hn hg hs hl hd
  obtain ⟨t, ht⟩ : ∃ t, extraV v = t := ⟨_, rfl⟩
  have Ht := Lib.hid ht
  rw [ht]
  unfold extraV at Ht
  rw [← hk, ← hn, ← hg, ← hs, ← hl, ← hd] at Ht
  clear ht hk hn hg hs hl hd
  obtain ⟨bn, hbn⟩ : ∃ b, (n != 0) = b := ⟨_, rfl⟩
  obtain ⟨bg, hbg⟩ : ∃ b, (g != 0) = b := ⟨_, rfl⟩
  obtain ⟨k1, hk1⟩ : ∃ b, (k != 1) = b := ⟨_, rfl⟩
  obtain ⟨k2, hk2⟩ : ∃ b, (k != 2) = b := ⟨_, rfl⟩
  obtain ⟨k3, hk3⟩ : ∃ b, (k != 3) = b := ⟨_, rfl⟩
  obtain ⟨k4, hk4⟩ : ∃ b, (k != 4) = b := ⟨_, rfl⟩
  obtain ⟨k5, hk5⟩ : ∃ b, (k != 5) = b := ⟨_, rfl⟩
  obtain ⟨k6, hk6⟩ : ∃ b, (k != 6) = b := ⟨_, rfl⟩
  obtain ⟨k7, hk7⟩ : ∃ b, (k != 7) = b := ⟨_, rfl⟩
  obtain ⟨k8, hk8⟩ : ∃ b, (k != 8) = b := ⟨_, rfl⟩
  show Calls Tryd.prog 80 #[.agg #[.int .i64 k, .int .i64 n, .int .i64 g, .string s, .slice lp ll lc, .slice dp dl dc]] w _
  go_enter Tryd.func80, Tryd.ntmps80
  repeat (first
    | (with_reducible (change wpList _ _ _ _ _ _)
       refine wpList_pickAndF (A := ?_) rfl rfl rfl rfl rfl rfl rfl (fun r => ?_) (fun r hr => ?_)
       case refine_2 => (simp only [Act.put, List.setIfInBounds_toArray, List.set_cons_succ, List.set_cons_zero]; try rfl))
    | (with_reducible (change wpList _ _ _ _ _ _)
       refine wpList_pickAnd (A := ?_) rfl rfl rfl rfl rfl (fun r => ?_) (fun r hr => ?_)
       case refine_2 => (simp only [Act.put, List.setIfInBounds_toArray, List.set_cons_succ, List.set_cons_zero]; try rfl))
    | (with_reducible (change wpList _ _ _ _ _ _)
       refine wpList_pickOr (A := ?_) rfl rfl rfl rfl rfl (fun r => ?_) (fun r hr => ?_)
       case refine_2 => (simp only [Act.put, List.setIfInBounds_toArray, List.set_cons_succ, List.set_cons_zero]; try rfl))
    | (with_reducible (change wpList _ _ _ _ _ _)
       refine wpList_symT (v := ?_) (a' := ?_) rfl rfl rfl (fun hb2 => ?_) ?_ ?_
       case refine_3 => (go_simp; try rfl)
       case refine_4 => (simp only [Act.put, List.setIfInBounds_toArray, List.set_cons_succ, List.set_cons_zero]; try rfl))
    | (with_reducible (change wpList _ _ _ _ _ _)
       refine wpList_symF (v := ?_) (a' := ?_) rfl rfl rfl (fun hb2 => ?_) ?_ ?_
       case refine_3 => (go_simp; try rfl)
       case refine_4 => (simp only [Act.put, List.setIfInBounds_toArray, List.set_cons_succ, List.set_cons_zero]; try rfl))
    | (with_reducible (change wpList _ _ _ _ _ _)
       refine wpList_symS (v := ?_) (a' := ?_) rfl rfl rfl (fun hb2 hb3 => ?_) ?_ ?_
       case refine_3 => (go_simp; try rfl)
       case refine_4 => (simp only [Act.put, List.setIfInBounds_toArray, List.set_cons_succ, List.set_cons_zero]; try rfl))
    | go_step)
  go_ret
  refine ⟨congrArg (fun b => Ending.returned (Value.bool b)) ?_, (Below.refl _ w).alloc (Nat.le_refl _) _⟩
  unfold Hid at *
  subst_vars
  rw [Bool.eq_iff_iff]
  simp only [Bool.or_eq_true, Bool.and_eq_true, bne_iff_ne, decide_eq_true_eq, text_some, and_assoc, or_assoc, Nat.pos_iff_ne_zero]
end
end Go.Proofs.YtljgjjbmgjfbcaaDoor
/-
  The document's answer: is a number out of what it may be?
-/
namespace Go.Proofs.YtljgjjbmgjfbcaaDoor
section
open Go.RowKit
set_option maxRecDepth 100000
attribute [local go_sem] undef

set_option maxHeartbeats 4000000 in
theorem out_any (x : Hv) (v : Val) (w : World) (hk : x.k = v.kind) (hn : x.n = v.n) (hg : x.g = v.g) :
    Calls Tryd.prog 82 #[.agg x.arr] w fun e w' => e = .returned (.bool (outV v)) ∧ Below w.heap.size w w' := by
  obtain ⟨k, n, g, s, ⟨lp, ll, lc⟩, ⟨dp, dl, dc⟩⟩ := x
  dsimp only at hk hn hg
  obtain ⟨r, hr⟩ : ∃ r, outV v = r := ⟨_, rfl⟩
  rw [hr]
  have hv : (if k = 1 then decide (n ≠ 0 ∧ n ≠ 1) else if k = 2 then decide (n < -2147483647 ∨ 2147483647 < n) else if k = 7 then decide (n < 1 ∨ 8388607 < n ∨ g < 0 ∨ 65535 < g) else false) = r := by
    rw [← hr]; unfold outV; rw [hk, hn, hg]
  clear hr hk hn hg
  show Calls Tryd.prog 82 #[.agg #[.int .i64 k, .int .i64 n, .int .i64 g, .string s, .slice lp ll lc, .slice dp dl dc]] w _
  by_cases hk1 : k = 1
  · subst hk1
    by_cases h0 : n = 0
    · subst h0
      obtain rfl : r = false := by rw [← hv]; simp
      clear hv
      go_enter Tryd.func82, Tryd.ntmps82
      go_wp2
      go_ret
      exact ⟨rfl, (Below.refl _ w).alloc (Nat.le_refl _) _⟩
    by_cases h1 : n = 1
    · subst h1
      obtain rfl : r = false := by rw [← hv]; simp
      clear hv
      go_enter Tryd.func82, Tryd.ntmps82
      go_wp2
      go_ret
      exact ⟨rfl, (Below.refl _ w).alloc (Nat.le_refl _) _⟩
    obtain rfl : r = true := by rw [← hv]; rw [if_pos rfl]; exact decide_eq_true ⟨h0, h1⟩
    clear hv
    have h01 : (n != 0 && n != 1) = true := by simp [h0, h1]
    go_enter Tryd.func82, Tryd.ntmps82
    go_wp2
    go_ret
    exact ⟨rfl, (Below.refl _ w).alloc (Nat.le_refl _) _⟩
  by_cases hk2 : k = 2
  · subst hk2
    by_cases h0 : n < -2147483647
    · obtain rfl : r = true := by rw [← hv]; rw [if_neg (by decide), if_pos rfl]; exact decide_eq_true (by omega)
      clear hv
      go_enter Tryd.func82, Tryd.ntmps82
      go_wp2
      go_ret
      exact ⟨rfl, (Below.refl _ w).alloc (Nat.le_refl _) _⟩
    by_cases h1 : 2147483647 < n
    · obtain rfl : r = true := by rw [← hv]; rw [if_neg (by decide), if_pos rfl]; exact decide_eq_true (by omega)
      clear hv
      go_enter Tryd.func82, Tryd.ntmps82
      go_wp2
      go_ret
      exact ⟨rfl, (Below.refl _ w).alloc (Nat.le_refl _) _⟩
    obtain rfl : r = false := by rw [← hv]; rw [if_neg (by decide), if_pos rfl]; exact decide_eq_false (by omega)
    clear hv
    go_enter Tryd.func82, Tryd.ntmps82
    go_wp2
    go_ret
    exact ⟨rfl, (Below.refl _ w).alloc (Nat.le_refl _) _⟩
  by_cases hk7 : k = 7
  · subst hk7
    by_cases h0 : n < 1
    · obtain rfl : r = true := by rw [← hv]; rw [if_neg (by decide), if_neg (by decide), if_pos rfl]; exact decide_eq_true (by omega)
      clear hv
      go_enter Tryd.func82, Tryd.ntmps82
      go_wp2
      go_ret
      exact ⟨rfl, (Below.refl _ w).alloc (Nat.le_refl _) _⟩
    by_cases h1 : 8388607 < n
    · obtain rfl : r = true := by rw [← hv]; rw [if_neg (by decide), if_neg (by decide), if_pos rfl]; exact decide_eq_true (by omega)
      clear hv
      go_enter Tryd.func82, Tryd.ntmps82
      go_wp2
      go_ret
      exact ⟨rfl, (Below.refl _ w).alloc (Nat.le_refl _) _⟩
    by_cases h2 : g < 0
    · obtain rfl : r = true := by rw [← hv]; rw [if_neg (by decide), if_neg (by decide), if_pos rfl]; exact decide_eq_true (by omega)
      clear hv
      go_enter Tryd.func82, Tryd.ntmps82
      go_wp2
      go_ret
      exact ⟨rfl, (Below.refl _ w).alloc (Nat.le_refl _) _⟩
    by_cases h3 : 65535 < g
    · obtain rfl : r = true := by rw [← hv]; rw [if_neg (by decide), if_neg (by decide), if_pos rfl]; exact decide_eq_true (by omega)
      clear hv
      go_enter Tryd.func82, Tryd.ntmps82
      go_wp2
      go_ret
      exact ⟨rfl, (Below.refl _ w).alloc (Nat.le_refl _) _⟩
    obtain rfl : r = false := by rw [← hv]; rw [if_neg (by decide), if_neg (by decide), if_pos rfl]; exact decide_eq_false (by omega)
    clear hv
    go_enter Tryd.func82, Tryd.ntmps82
    go_wp2
    go_ret
    exact ⟨rfl, (Below.refl _ w).alloc (Nat.le_refl _) _⟩
  obtain rfl : r = false := by rw [← hv]; rw [if_neg hk1, if_neg hk2, if_neg hk7]
  clear hv
  go_enter Tryd.func82, Tryd.ntmps82
  go_wp2
  go_ret
  exact ⟨rfl, (Below.refl _ w).alloc (Nat.le_refl _) _⟩
end
end Go.Proofs.YtljgjjbmgjfbcaaDoor
/-
  The document's answer: does a kind hold others; is there a byte 0?
-/
namespace Go.Proofs.YtljgjjbmgjfbcaaDoor
section
open Go.RowKit
set_option maxRecDepth 100000

theorem vtake_snoc (s : ByteArray) (k : Nat) (h : k < s.size) : s.data.toList.take (k + 1) = s.data.toList.take k ++ [s[k]] := by
  rw [List.take_add_one, List.getElem?_eq_getElem (by simpa using h)]; rfl
theorem vbyte_mem (s : ByteArray) (k : Nat) (h : k < s.size) : s[k] ∈ s.data.toList := by
  have : s[k] = s.data.toList[k]'(by simpa using h) := rfl
  rw [this]; exact List.getElem_mem _
theorem holder_false {k : Int} (h5 : ¬ k = 5) (h6 : ¬ k = 6) (h8 : ¬ k = 8) : holderV k = false := by unfold holderV; rw [decide_eq_false h5, decide_eq_false h6, decide_eq_false h8]; rfl

set_option maxHeartbeats 4000000 in
theorem holder_any (k : Int) (w : World) : Calls Tryd.prog 83 #[.int .i64 k] w fun e w' => e = .returned (.bool (holderV k)) ∧ w' = w := by
  by_cases h5 : k = 5
  · subst h5
    go_enter Tryd.func83, Tryd.ntmps83
    go_wp2
    go_ret; exact ⟨rfl, rfl⟩
  by_cases h6 : k = 6
  · subst h6
    go_enter Tryd.func83, Tryd.ntmps83
    go_wp2
    go_ret; exact ⟨rfl, rfl⟩
  by_cases h8 : k = 8
  · subst h8
    go_enter Tryd.func83, Tryd.ntmps83
    go_wp2
    go_ret; exact ⟨rfl, rfl⟩
  have hf := Lib.hid (holder_false h5 h6 h8)
  have h5' : (k == 5) = false := by simpa using h5
  have h6' : (k == 6) = false := by simpa using h6
  have h8' : (k == 8) = false := by simpa using h8
  clear h5 h6 h8
  go_enter Tryd.func83, Tryd.ntmps83
  go_wp2
  go_ret; exact ⟨by rw [hf.out]; rfl, rfl⟩

set_option maxHeartbeats 4000000 in
theorem zero_any (s : ByteArray) (w : World) (hs : s.size ≤ maxLen) : Calls Tryd.prog 81 #[.string s] w fun e w' => e = .returned (.bool (zeroS s)) ∧ w' = w := by
  unfold maxLen at hs
  go_enter Tryd.func81, Tryd.ntmps81
  go_wp2
  go_loop [3] (fun i => ∃ k : Nat, k ≤ s.size ∧ i = .int .i64 k ∧ (s.data.toList.take k).any (fun c => decide (c.toNat = 0)) = false) (fun i => s.size - (intOf i).toNat)
  case atStart => exact ⟨0, Nat.zero_le _, rfl, rfl⟩
  case round =>
    obtain ⟨k, hk, rfl, hno⟩ := hrel
    have Hno := Lib.hid hno
    clear hno
    by_cases hlt : k < s.size
    · have Hts := Lib.hid (vtake_snoc s k hlt)
      have hm := vbyte_mem s k hlt
      by_cases hc : s[k].toNat = 0
      · have Hr : Hid (zeroS s = true) := Lib.hid (List.any_eq_true.2 ⟨_, hm, by simpa using hc⟩)
        clear hm
        go_wp2
        go_ret
        exact ⟨by rw [Hr.out]; rfl, rfl⟩
      · have hc' : ((s[k].toNat : Int) == 0) = false := by simpa using hc
        have Hr : Hid ((s.data.toList.take (k + 1)).any (fun c => decide (c.toNat = 0)) = false) := Lib.hid (by rw [Hts.out, List.any_append, Hno.out]; simpa using hc)
        clear hc hm
        go_wp2
        go_round
        case rel => exact ⟨k + 1, by omega, by go_num, Hr.out⟩
        case measure => simp [intOf]; omega
    · have Hr : Hid (zeroS s = false) := Lib.hid (by have h := Hno.out; rwa [List.take_of_length_le (by simp; omega)] at h)
      go_wp2
      go_ret
      exact ⟨by rw [Hr.out]; rfl, rfl⟩

end
end Go.Proofs.YtljgjjbmgjfbcaaDoor
/-
  A value in a block of its own; and a pair.
-/
namespace Go.Proofs.YtljgjjbmgjfbcaaDoor
section
open Go.RowKit
set_option maxRecDepth 100000

theorem infoHv : (Tryd.prog.info? 25).map (·.size) = some 6 := by kernel_rfl
/-- A block that holds one. -/
def VCell (w : World) (b : Nat) (x : Hv) : Prop := w.heap[b]? = some (.cells x.arr 25 (0, 0))
theorem VCell.cell {w : World} {b : Nat} {x : Hv} (h : VCell w b x) (j : Nat) : w.cell? ⟨b, j, none⟩ = x.arr[j]? := cell_of_row _ _ _ _ _ _ h
theorem VCell.free {w : World} {b : Nat} {x : Hv} (h : VCell w b x) (j : Nat) : w.frozen? ⟨b, j, none⟩ = false := frozen_of_row _ _ _ _ _ h
theorem VCell.at {w : World} {b : Nat} {x : Hv} (h : VCell w b x) : HvAt w b 0 x := ⟨h.cell 0, h.cell 1, h.cell 2, h.cell 3, h.cell 4, h.cell 5⟩
theorem VCell.lt {w : World} {b : Nat} {x : Hv} (h : VCell w b x) : b < w.heap.size := h.at.lt
theorem VCell.same {w w' : World} {b : Nat} {x : Hv} (h : VCell w b x) (e : w'.heap[b]? = w.heap[b]?) : VCell w' b x := e.trans h
theorem VCell.later {w w' : World} {b : Nat} {x : Hv} (h : VCell w b x) {B : Nat} (hb : Below B w w') (hB : b < B) : VCell w' b x := (hb.block b hB).trans h
theorem VCell.new (w : World) (x : Hv) : VCell (w.alloc (.cells x.arr 25)) w.heap.size x := heap_alloc_new w _
theorem VCell.setS {w : World} {b : Nat} {x : Hv} (h : VCell w b x) (s : ByteArray) : VCell (w.setCell ⟨b, 3, none⟩ (.string s)) b { x with s := s } := heap_setCell_same _ _ 3 _ _ _ h
theorem VCell.setL {w : World} {b : Nat} {x : Hv} (h : VCell w b x) (p : Option Addr) (l c : Nat) : VCell (w.setCell ⟨b, 4, none⟩ (.slice p l c)) b { x with l := ⟨p, l, c⟩ } := heap_setCell_same _ _ 4 _ _ _ h
theorem VCell.setD {w : World} {b : Nat} {x : Hv} (h : VCell w b x) (p : Option Addr) (l c : Nat) : VCell (w.setCell ⟨b, 5, none⟩ (.slice p l c)) b { x with d := ⟨p, l, c⟩ } := heap_setCell_same _ _ 5 _ _ _ h
theorem Hv.arr_one (x : Hv) : x.arr.all (·.oneCell') = true := by
  have h : x.arr.toList.all (·.oneCell') = true := rfl
  simpa using h
/-- It is stored whole. -/
theorem VCell.store {ops : Array Oper} {rest : List Oper} {o : Oper} {act : Act} {w : World} {Q : Exit → Act → World → Prop} (hgd : o.guard = none) (hdst : o.dst = none) (x y : Operand) (ho : o.op = .store 25 x y)
    (b : Nat) (z u : Hv) (hx : act.eval x = .pointer (some ⟨b, 0, none⟩)) (hy : act.eval y = .agg u.arr) (hg : VCell w b z)
    (h : ∀ w', Hid (VCell w' b u) → Hid (∀ k, k ≠ b → w'.heap[k]? = w.heap[k]?) → Hid (Below b w w') → Hid (w'.heap.size = w.heap.size) → wpList Tryd.prog ops Q rest act w') : wpList Tryd.prog ops Q (o :: rest) act w := by
  refine wpList_plain hgd fun K hK => ?_
  refine wp_store_row _ x y ho b u.arr hx hy _ z.arr hg infoHv rfl u.arr_one (hK _ _ ?_)
  have hr := h _ (Lib.hid (setRow_heap _ _ _ _ _ _ hg)) (Lib.hid fun k hk => setRow_other _ _ _ _ hk) (Lib.hid ⟨rfl, rfl, rfl, by simp, fun k hk => setRow_other _ _ _ _ (by omega)⟩) (Lib.hid (by simp))
  rw [hdst]
  exact hr
/-- It is loaded whole. -/
theorem VCell.load {ops : Array Oper} {rest : List Oper} {o : Oper} {act : Act} {w : World} {Q : Exit → Act → World → Prop} (hgd : o.guard = none) (x : Operand) (ho : o.op = .load 25 x)
    (b : Nat) (u : Hv) (hx : act.eval x = .pointer (some ⟨b, 0, none⟩)) (hg : VCell w b u) (h : wpList Tryd.prog ops Q rest (act.put o.dst (.agg u.arr)) w) : wpList Tryd.prog ops Q (o :: rest) act w :=
  wpList_load_row hgd _ x ho b hx _ _ _ _ hg Tryd.underlying25 rfl infoHv h
end
end Go.Proofs.YtljgjjbmgjfbcaaDoor
/-
  The document's answer: what is wrong with a value by itself.
-/
namespace Go.Proofs.YtljgjjbmgjfbcaaDoor
section
open Go.RowKit
set_option maxRecDepth 100000
attribute [local go_sem] symV_true Hv.arr

theorem cast_lt127 (s : ByteArray) : ((127 : Int) < (s.size : Int)) ↔ 127 < s.size := by omega
theorem cast_le127 (s : ByteArray) : ((s.size : Int) ≤ (127 : Int)) ↔ s.size ≤ 127 := by omega
theorem cast_lt65535 (s : ByteArray) : ((65535 : Int) < (s.size : Int)) ↔ 65535 < s.size := by omega
theorem cast_le65535 (s : ByteArray) : ((s.size : Int) ≤ (65535 : Int)) ↔ s.size ≤ 65535 := by omega
theorem cast_lt1048576 (s : ByteArray) : ((1048576 : Int) < (s.size : Int)) ↔ 1048576 < s.size := by omega
theorem cast_le1048576 (s : ByteArray) : ((s.size : Int) ≤ (1048576 : Int)) ↔ s.size ≤ 1048576 := by omega

set_option maxHeartbeats 8000000 in
theorem one_any (x : Hv) (v : Val) (st : Bool) (m : Int) (w : World) (hk : x.k = v.kind) (hn : x.n = v.n) (hg : x.g = v.g) (hs : x.s = v.s) (hl : x.l.len = v.l.length) (hd : x.d.len = v.d.length) (hsz : v.s.size ≤ maxLen) :
    Calls Tryd.prog 68 #[.agg x.arr, .bool st, .int .i64 m] w fun e w' => e = .returned (.int .i64 (oneV v st m)) ∧ Below w.heap.size w w' := by
  have Hex := Lib.hid (fun W => extra_any x v W hk hn hg hs hl hd)
  have Hout := Lib.hid (fun W => out_any x v W hk hn hg)
  obtain ⟨t, ht⟩ : ∃ t, oneV v st m = t := ⟨_, rfl⟩
  have Ht := Lib.hid ht
  rw [ht]
  unfold oneV at Ht
  rw [← hs] at hsz
  have Hsz := Lib.hid hsz
  obtain ⟨k, n, g, s, ⟨lp, ll, lc⟩, ⟨dp, dl, dc⟩⟩ := x
  dsimp only at hk hn hg hs hl hd Hsz
  rw [← hk, ← hs] at Ht
  obtain ⟨b1, hb1⟩ : ∃ b, extraV v = b := ⟨_, rfl⟩
  obtain ⟨b2, hb2⟩ : ∃ b, outV v = b := ⟨_, rfl⟩
  rw [hb1, hb2] at Ht
  simp only [hb1] at Hex
  simp only [hb2] at Hout
  clear hk hn hg hs hl hd ht hsz hb1 hb2
  obtain ⟨w1, hw1⟩ : ∃ w1, w.alloc (.cells #[.int .i64 k, .int .i64 n, .int .i64 g, .string s, .slice lp ll lc, .slice dp dl dc] 25) = w1 := ⟨_, rfl⟩
  have HV1 : Hid (VCell w1 w.heap.size ⟨k, n, g, s, ⟨lp, ll, lc⟩, ⟨dp, dl, dc⟩⟩) := Lib.hid (by rw [← hw1]; exact heap_alloc_new w _)
  have Hb1 : Hid (Below w.heap.size w w1) := Lib.hid (by rw [← hw1]; exact (Below.refl _ w).alloc (Nat.le_refl _) _)
  have Hlt1 : Hid (w.heap.size < w1.heap.size) := Lib.hid (by rw [← hw1]; simp)
  have Hw1 := Lib.hid hw1
  clear hw1
  show Calls Tryd.prog 68 #[.agg #[.int .i64 k, .int .i64 n, .int .i64 g, .string s, .slice lp ll lc, .slice dp dl dc], .bool st, .int .i64 m] w _
  go_enter Tryd.func68, Tryd.ntmps68
  iterate 20 go_step
  rw [Hw1.out]
  have c0 : w1.cell? ⟨w.heap.size, 0, none⟩ = some (.int .i64 k) := HV1.out.at.1
  have c3 : w1.cell? ⟨w.heap.size, 3, none⟩ = some (.string s) := HV1.out.at.2.2.2.1
  repeat (first
    | (with_reducible (change wpList _ _ _ _ _ _)
       refine wpList_callS (v := .bool (zeroS s)) (a' := ?_) (f := 81) (args := #[.string s]) rfl rfl rfl (fun hb2 hb3 => ?_) (fun _ _ => zero_any s _ Hsz.out) ?_ ?_
       case refine_2 => go_simp
       case refine_3 => (simp only [Act.put, List.setIfInBounds_toArray, List.set_cons_succ, List.set_cons_zero]; try rfl))
    | (with_reducible (change wpList _ _ _ _ _ _)
       refine wpList_pickAndF (A := ?_) rfl rfl rfl rfl rfl rfl rfl (fun r => ?_) (fun r hr => ?_)
       case refine_2 => (simp only [Act.put, List.setIfInBounds_toArray, List.set_cons_succ, List.set_cons_zero]; try rfl))
    | (with_reducible (change wpList _ _ _ _ _ _)
       refine wpList_pickAnd (A := ?_) rfl rfl rfl rfl rfl (fun r => ?_) (fun r hr => ?_)
       case refine_2 => (simp only [Act.put, List.setIfInBounds_toArray, List.set_cons_succ, List.set_cons_zero]; try rfl))
    | (with_reducible (change wpList _ _ _ _ _ _)
       refine wpList_pickOr (A := ?_) rfl rfl rfl rfl rfl (fun r => ?_) (fun r hr => ?_)
       case refine_2 => (simp only [Act.put, List.setIfInBounds_toArray, List.set_cons_succ, List.set_cons_zero]; try rfl))
    | (with_reducible (change wpList _ _ _ _ _ _)
       refine wpList_symT (v := ?_) (a' := ?_) rfl rfl rfl (fun hb2 => ?_) ?_ ?_
       case refine_3 => (go_simp; try rfl)
       case refine_4 => (simp only [Act.put, List.setIfInBounds_toArray, List.set_cons_succ, List.set_cons_zero]; try rfl))
    | (with_reducible (change wpList _ _ _ _ _ _)
       refine wpList_symF (v := ?_) (a' := ?_) rfl rfl rfl (fun hb2 => ?_) ?_ ?_
       case refine_3 => (go_simp; try rfl)
       case refine_4 => (simp only [Act.put, List.setIfInBounds_toArray, List.set_cons_succ, List.set_cons_zero]; try rfl))
    | (with_reducible (change wpList _ _ _ _ _ _)
       refine wpList_symS (v := ?_) (a' := ?_) rfl rfl rfl (fun hb2 hb3 => ?_) ?_ ?_
       case refine_3 => (go_simp; try rfl)
       case refine_4 => (simp only [Act.put, List.setIfInBounds_toArray, List.set_cons_succ, List.set_cons_zero]; try rfl))
    | (with_reducible (change wpList _ _ _ _ _ _); refine VCell.load rfl (.tmp 3) rfl w.heap.size _ rfl HV1.out ?_)
    | go_step)
  · rename_i h
    have hP : k < 0 ∨ 8 < k ∨ k = 8 ∧ st = false := by (revert h; unfold Hid at *; subst_vars; intro h; simpa [or_assoc, and_assoc, cast_lt127, cast_lt65535, cast_lt1048576, cast_le127, cast_le65535, cast_le1048576] using h)
    go_ret
    exact ⟨by show Ending.returned (Value.int .i64 10) = _; rw [← Ht.out, if_pos hP], Hb1.out⟩
  rename_i h
  have N1 : Hid (¬ (k < 0 ∨ 8 < k ∨ k = 8 ∧ st = false)) := Lib.hid (by revert h; unfold Hid at *; subst_vars; intro h; simpa [or_assoc, and_assoc, cast_lt127, cast_lt65535, cast_lt1048576, cast_le127, cast_le65535, cast_le1048576] using h)
  clear h
  repeat (first
    | (with_reducible (change wpList _ _ _ _ _ _)
       refine wpList_callS (v := .bool (zeroS s)) (a' := ?_) (f := 81) (args := #[.string s]) rfl rfl rfl (fun hb2 hb3 => ?_) (fun _ _ => zero_any s _ Hsz.out) ?_ ?_
       case refine_2 => go_simp
       case refine_3 => (simp only [Act.put, List.setIfInBounds_toArray, List.set_cons_succ, List.set_cons_zero]; try rfl))
    | (with_reducible (change wpList _ _ _ _ _ _)
       refine wpList_pickAndF (A := ?_) rfl rfl rfl rfl rfl rfl rfl (fun r => ?_) (fun r hr => ?_)
       case refine_2 => (simp only [Act.put, List.setIfInBounds_toArray, List.set_cons_succ, List.set_cons_zero]; try rfl))
    | (with_reducible (change wpList _ _ _ _ _ _)
       refine wpList_pickAnd (A := ?_) rfl rfl rfl rfl rfl (fun r => ?_) (fun r hr => ?_)
       case refine_2 => (simp only [Act.put, List.setIfInBounds_toArray, List.set_cons_succ, List.set_cons_zero]; try rfl))
    | (with_reducible (change wpList _ _ _ _ _ _)
       refine wpList_pickOr (A := ?_) rfl rfl rfl rfl rfl (fun r => ?_) (fun r hr => ?_)
       case refine_2 => (simp only [Act.put, List.setIfInBounds_toArray, List.set_cons_succ, List.set_cons_zero]; try rfl))
    | (with_reducible (change wpList _ _ _ _ _ _)
       refine wpList_symT (v := ?_) (a' := ?_) rfl rfl rfl (fun hb2 => ?_) ?_ ?_
       case refine_3 => (go_simp; try rfl)
       case refine_4 => (simp only [Act.put, List.setIfInBounds_toArray, List.set_cons_succ, List.set_cons_zero]; try rfl))
    | (with_reducible (change wpList _ _ _ _ _ _)
       refine wpList_symF (v := ?_) (a' := ?_) rfl rfl rfl (fun hb2 => ?_) ?_ ?_
       case refine_3 => (go_simp; try rfl)
       case refine_4 => (simp only [Act.put, List.setIfInBounds_toArray, List.set_cons_succ, List.set_cons_zero]; try rfl))
    | (with_reducible (change wpList _ _ _ _ _ _)
       refine wpList_symS (v := ?_) (a' := ?_) rfl rfl rfl (fun hb2 hb3 => ?_) ?_ ?_
       case refine_3 => (go_simp; try rfl)
       case refine_4 => (simp only [Act.put, List.setIfInBounds_toArray, List.set_cons_succ, List.set_cons_zero]; try rfl))
    | (with_reducible (change wpList _ _ _ _ _ _); refine VCell.load rfl (.tmp 3) rfl w.heap.size _ rfl HV1.out ?_)
    | go_step)
  refine (Hex.out w1).mono ?_
  rintro e w2 ⟨rfl, hb⟩
  have HV2 := Lib.hid (HV1.out.later hb Hlt1.out)
  have Hb2 : Hid (Below w.heap.size w w2) := Lib.hid (Hb1.out.trans (hb.mono Hb1.out.size))
  have Hlt2 : Hid (w.heap.size < w2.heap.size) := Lib.hid (Nat.lt_of_lt_of_le Hlt1.out hb.size)
  clear hb c0 c3
  have c0 : w2.cell? ⟨w.heap.size, 0, none⟩ = some (.int .i64 k) := HV2.out.at.1
  have c3 : w2.cell? ⟨w.heap.size, 3, none⟩ = some (.string s) := HV2.out.at.2.2.2.1
  dsimp only
  repeat (first
    | (with_reducible (change wpList _ _ _ _ _ _)
       refine wpList_callS (v := .bool (zeroS s)) (a' := ?_) (f := 81) (args := #[.string s]) rfl rfl rfl (fun hb2 hb3 => ?_) (fun _ _ => zero_any s _ Hsz.out) ?_ ?_
       case refine_2 => go_simp
       case refine_3 => (simp only [Act.put, List.setIfInBounds_toArray, List.set_cons_succ, List.set_cons_zero]; try rfl))
    | (with_reducible (change wpList _ _ _ _ _ _)
       refine wpList_pickAndF (A := ?_) rfl rfl rfl rfl rfl rfl rfl (fun r => ?_) (fun r hr => ?_)
       case refine_2 => (simp only [Act.put, List.setIfInBounds_toArray, List.set_cons_succ, List.set_cons_zero]; try rfl))
    | (with_reducible (change wpList _ _ _ _ _ _)
       refine wpList_pickAnd (A := ?_) rfl rfl rfl rfl rfl (fun r => ?_) (fun r hr => ?_)
       case refine_2 => (simp only [Act.put, List.setIfInBounds_toArray, List.set_cons_succ, List.set_cons_zero]; try rfl))
    | (with_reducible (change wpList _ _ _ _ _ _)
       refine wpList_pickOr (A := ?_) rfl rfl rfl rfl rfl (fun r => ?_) (fun r hr => ?_)
       case refine_2 => (simp only [Act.put, List.setIfInBounds_toArray, List.set_cons_succ, List.set_cons_zero]; try rfl))
    | (with_reducible (change wpList _ _ _ _ _ _)
       refine wpList_symT (v := ?_) (a' := ?_) rfl rfl rfl (fun hb2 => ?_) ?_ ?_
       case refine_3 => (go_simp; try rfl)
       case refine_4 => (simp only [Act.put, List.setIfInBounds_toArray, List.set_cons_succ, List.set_cons_zero]; try rfl))
    | (with_reducible (change wpList _ _ _ _ _ _)
       refine wpList_symF (v := ?_) (a' := ?_) rfl rfl rfl (fun hb2 => ?_) ?_ ?_
       case refine_3 => (go_simp; try rfl)
       case refine_4 => (simp only [Act.put, List.setIfInBounds_toArray, List.set_cons_succ, List.set_cons_zero]; try rfl))
    | (with_reducible (change wpList _ _ _ _ _ _)
       refine wpList_symS (v := ?_) (a' := ?_) rfl rfl rfl (fun hb2 hb3 => ?_) ?_ ?_
       case refine_3 => (go_simp; try rfl)
       case refine_4 => (simp only [Act.put, List.setIfInBounds_toArray, List.set_cons_succ, List.set_cons_zero]; try rfl))
    | (with_reducible (change wpList _ _ _ _ _ _); refine VCell.load rfl (.tmp 3) rfl w.heap.size _ rfl HV2.out ?_)
    | go_step)
  · rename_i h
    have hP : b1 = true ∨ k = 3 ∧ zeroS s = true := by (revert h; unfold Hid at *; subst_vars; intro h; simpa [or_assoc, and_assoc, cast_lt127, cast_lt65535, cast_lt1048576, cast_le127, cast_le65535, cast_le1048576] using h)
    go_ret
    exact ⟨by show Ending.returned (Value.int .i64 4) = _; rw [← Ht.out, if_neg N1.out, if_pos hP], Hb2.out⟩
  rename_i h
  have N2 : Hid (¬ (b1 = true ∨ k = 3 ∧ zeroS s = true)) := Lib.hid (by revert h; unfold Hid at *; subst_vars; intro h; simpa [or_assoc, and_assoc, cast_lt127, cast_lt65535, cast_lt1048576, cast_le127, cast_le65535, cast_le1048576] using h)
  clear h
  repeat (first
    | (with_reducible (change wpList _ _ _ _ _ _)
       refine wpList_callS (v := .bool (zeroS s)) (a' := ?_) (f := 81) (args := #[.string s]) rfl rfl rfl (fun hb2 hb3 => ?_) (fun _ _ => zero_any s _ Hsz.out) ?_ ?_
       case refine_2 => go_simp
       case refine_3 => (simp only [Act.put, List.setIfInBounds_toArray, List.set_cons_succ, List.set_cons_zero]; try rfl))
    | (with_reducible (change wpList _ _ _ _ _ _)
       refine wpList_pickAndF (A := ?_) rfl rfl rfl rfl rfl rfl rfl (fun r => ?_) (fun r hr => ?_)
       case refine_2 => (simp only [Act.put, List.setIfInBounds_toArray, List.set_cons_succ, List.set_cons_zero]; try rfl))
    | (with_reducible (change wpList _ _ _ _ _ _)
       refine wpList_pickAnd (A := ?_) rfl rfl rfl rfl rfl (fun r => ?_) (fun r hr => ?_)
       case refine_2 => (simp only [Act.put, List.setIfInBounds_toArray, List.set_cons_succ, List.set_cons_zero]; try rfl))
    | (with_reducible (change wpList _ _ _ _ _ _)
       refine wpList_pickOr (A := ?_) rfl rfl rfl rfl rfl (fun r => ?_) (fun r hr => ?_)
       case refine_2 => (simp only [Act.put, List.setIfInBounds_toArray, List.set_cons_succ, List.set_cons_zero]; try rfl))
    | (with_reducible (change wpList _ _ _ _ _ _)
       refine wpList_symT (v := ?_) (a' := ?_) rfl rfl rfl (fun hb2 => ?_) ?_ ?_
       case refine_3 => (go_simp; try rfl)
       case refine_4 => (simp only [Act.put, List.setIfInBounds_toArray, List.set_cons_succ, List.set_cons_zero]; try rfl))
    | (with_reducible (change wpList _ _ _ _ _ _)
       refine wpList_symF (v := ?_) (a' := ?_) rfl rfl rfl (fun hb2 => ?_) ?_ ?_
       case refine_3 => (go_simp; try rfl)
       case refine_4 => (simp only [Act.put, List.setIfInBounds_toArray, List.set_cons_succ, List.set_cons_zero]; try rfl))
    | (with_reducible (change wpList _ _ _ _ _ _)
       refine wpList_symS (v := ?_) (a' := ?_) rfl rfl rfl (fun hb2 hb3 => ?_) ?_ ?_
       case refine_3 => (go_simp; try rfl)
       case refine_4 => (simp only [Act.put, List.setIfInBounds_toArray, List.set_cons_succ, List.set_cons_zero]; try rfl))
    | (with_reducible (change wpList _ _ _ _ _ _); refine VCell.load rfl (.tmp 3) rfl w.heap.size _ rfl HV2.out ?_)
    | go_step)
  refine (Hout.out w2).mono ?_
  rintro e w3 ⟨rfl, hb⟩
  have HV3 := Lib.hid (HV2.out.later hb Hlt2.out)
  have Hb3 : Hid (Below w.heap.size w w3) := Lib.hid (Hb2.out.trans (hb.mono Hb2.out.size))
  have Hlt3 : Hid (w.heap.size < w3.heap.size) := Lib.hid (Nat.lt_of_lt_of_le Hlt2.out hb.size)
  clear hb c0 c3
  have c0 : w3.cell? ⟨w.heap.size, 0, none⟩ = some (.int .i64 k) := HV3.out.at.1
  have c3 : w3.cell? ⟨w.heap.size, 3, none⟩ = some (.string s) := HV3.out.at.2.2.2.1
  dsimp only
  repeat (first
    | (with_reducible (change wpList _ _ _ _ _ _)
       refine wpList_callS (v := .bool (zeroS s)) (a' := ?_) (f := 81) (args := #[.string s]) rfl rfl rfl (fun hb2 hb3 => ?_) (fun _ _ => zero_any s _ Hsz.out) ?_ ?_
       case refine_2 => go_simp
       case refine_3 => (simp only [Act.put, List.setIfInBounds_toArray, List.set_cons_succ, List.set_cons_zero]; try rfl))
    | (with_reducible (change wpList _ _ _ _ _ _)
       refine wpList_pickAndF (A := ?_) rfl rfl rfl rfl rfl rfl rfl (fun r => ?_) (fun r hr => ?_)
       case refine_2 => (simp only [Act.put, List.setIfInBounds_toArray, List.set_cons_succ, List.set_cons_zero]; try rfl))
    | (with_reducible (change wpList _ _ _ _ _ _)
       refine wpList_pickAnd (A := ?_) rfl rfl rfl rfl rfl (fun r => ?_) (fun r hr => ?_)
       case refine_2 => (simp only [Act.put, List.setIfInBounds_toArray, List.set_cons_succ, List.set_cons_zero]; try rfl))
    | (with_reducible (change wpList _ _ _ _ _ _)
       refine wpList_pickOr (A := ?_) rfl rfl rfl rfl rfl (fun r => ?_) (fun r hr => ?_)
       case refine_2 => (simp only [Act.put, List.setIfInBounds_toArray, List.set_cons_succ, List.set_cons_zero]; try rfl))
    | (with_reducible (change wpList _ _ _ _ _ _)
       refine wpList_symT (v := ?_) (a' := ?_) rfl rfl rfl (fun hb2 => ?_) ?_ ?_
       case refine_3 => (go_simp; try rfl)
       case refine_4 => (simp only [Act.put, List.setIfInBounds_toArray, List.set_cons_succ, List.set_cons_zero]; try rfl))
    | (with_reducible (change wpList _ _ _ _ _ _)
       refine wpList_symF (v := ?_) (a' := ?_) rfl rfl rfl (fun hb2 => ?_) ?_ ?_
       case refine_3 => (go_simp; try rfl)
       case refine_4 => (simp only [Act.put, List.setIfInBounds_toArray, List.set_cons_succ, List.set_cons_zero]; try rfl))
    | (with_reducible (change wpList _ _ _ _ _ _)
       refine wpList_symS (v := ?_) (a' := ?_) rfl rfl rfl (fun hb2 hb3 => ?_) ?_ ?_
       case refine_3 => (go_simp; try rfl)
       case refine_4 => (simp only [Act.put, List.setIfInBounds_toArray, List.set_cons_succ, List.set_cons_zero]; try rfl))
    | (with_reducible (change wpList _ _ _ _ _ _); refine VCell.load rfl (.tmp 3) rfl w.heap.size _ rfl HV3.out ?_)
    | go_step)
  · rename_i h
    have hP : b2 = true := by (revert h; unfold Hid at *; subst_vars; intro h; simpa [or_assoc, and_assoc, cast_lt127, cast_lt65535, cast_lt1048576, cast_le127, cast_le65535, cast_le1048576] using h)
    go_ret
    exact ⟨by show Ending.returned (Value.int .i64 3) = _; rw [← Ht.out, if_neg N1.out, if_neg N2.out, if_pos hP], Hb3.out⟩
  rename_i h
  have N3 : Hid (¬ (b2 = true)) := Lib.hid (by revert h; unfold Hid at *; subst_vars; intro h; simpa [or_assoc, and_assoc, cast_lt127, cast_lt65535, cast_lt1048576, cast_le127, cast_le65535, cast_le1048576] using h)
  clear h
  repeat (first
    | (with_reducible (change wpList _ _ _ _ _ _)
       refine wpList_callS (v := .bool (zeroS s)) (a' := ?_) (f := 81) (args := #[.string s]) rfl rfl rfl (fun hb2 hb3 => ?_) (fun _ _ => zero_any s _ Hsz.out) ?_ ?_
       case refine_2 => go_simp
       case refine_3 => (simp only [Act.put, List.setIfInBounds_toArray, List.set_cons_succ, List.set_cons_zero]; try rfl))
    | (with_reducible (change wpList _ _ _ _ _ _)
       refine wpList_pickAndF (A := ?_) rfl rfl rfl rfl rfl rfl rfl (fun r => ?_) (fun r hr => ?_)
       case refine_2 => (simp only [Act.put, List.setIfInBounds_toArray, List.set_cons_succ, List.set_cons_zero]; try rfl))
    | (with_reducible (change wpList _ _ _ _ _ _)
       refine wpList_pickAnd (A := ?_) rfl rfl rfl rfl rfl (fun r => ?_) (fun r hr => ?_)
       case refine_2 => (simp only [Act.put, List.setIfInBounds_toArray, List.set_cons_succ, List.set_cons_zero]; try rfl))
    | (with_reducible (change wpList _ _ _ _ _ _)
       refine wpList_pickOr (A := ?_) rfl rfl rfl rfl rfl (fun r => ?_) (fun r hr => ?_)
       case refine_2 => (simp only [Act.put, List.setIfInBounds_toArray, List.set_cons_succ, List.set_cons_zero]; try rfl))
    | (with_reducible (change wpList _ _ _ _ _ _)
       refine wpList_symT (v := ?_) (a' := ?_) rfl rfl rfl (fun hb2 => ?_) ?_ ?_
       case refine_3 => (go_simp; try rfl)
       case refine_4 => (simp only [Act.put, List.setIfInBounds_toArray, List.set_cons_succ, List.set_cons_zero]; try rfl))
    | (with_reducible (change wpList _ _ _ _ _ _)
       refine wpList_symF (v := ?_) (a' := ?_) rfl rfl rfl (fun hb2 => ?_) ?_ ?_
       case refine_3 => (go_simp; try rfl)
       case refine_4 => (simp only [Act.put, List.setIfInBounds_toArray, List.set_cons_succ, List.set_cons_zero]; try rfl))
    | (with_reducible (change wpList _ _ _ _ _ _)
       refine wpList_symS (v := ?_) (a' := ?_) rfl rfl rfl (fun hb2 hb3 => ?_) ?_ ?_
       case refine_3 => (go_simp; try rfl)
       case refine_4 => (simp only [Act.put, List.setIfInBounds_toArray, List.set_cons_succ, List.set_cons_zero]; try rfl))
    | (with_reducible (change wpList _ _ _ _ _ _); refine VCell.load rfl (.tmp 3) rfl w.heap.size _ rfl HV3.out ?_)
    | go_step)
  · rename_i h
    have hP : k = 3 ∧ 127 < s.size ∨ k = 4 ∧ 65535 < s.size := by (revert h; unfold Hid at *; subst_vars; intro h; simpa [or_assoc, and_assoc, cast_lt127, cast_lt65535, cast_lt1048576, cast_le127, cast_le65535, cast_le1048576] using h)
    go_ret
    exact ⟨by show Ending.returned (Value.int .i64 8) = _; rw [← Ht.out, if_neg N1.out, if_neg N2.out, if_neg N3.out, if_pos hP], Hb3.out⟩
  rename_i h
  have N4 : Hid (¬ (k = 3 ∧ 127 < s.size ∨ k = 4 ∧ 65535 < s.size)) := Lib.hid (by revert h; unfold Hid at *; subst_vars; intro h; simpa [or_assoc, and_assoc, cast_lt127, cast_lt65535, cast_lt1048576, cast_le127, cast_le65535, cast_le1048576] using h)
  clear h
  repeat (first
    | (with_reducible (change wpList _ _ _ _ _ _)
       refine wpList_callS (v := .bool (zeroS s)) (a' := ?_) (f := 81) (args := #[.string s]) rfl rfl rfl (fun hb2 hb3 => ?_) (fun _ _ => zero_any s _ Hsz.out) ?_ ?_
       case refine_2 => go_simp
       case refine_3 => (simp only [Act.put, List.setIfInBounds_toArray, List.set_cons_succ, List.set_cons_zero]; try rfl))
    | (with_reducible (change wpList _ _ _ _ _ _)
       refine wpList_pickAndF (A := ?_) rfl rfl rfl rfl rfl rfl rfl (fun r => ?_) (fun r hr => ?_)
       case refine_2 => (simp only [Act.put, List.setIfInBounds_toArray, List.set_cons_succ, List.set_cons_zero]; try rfl))
    | (with_reducible (change wpList _ _ _ _ _ _)
       refine wpList_pickAnd (A := ?_) rfl rfl rfl rfl rfl (fun r => ?_) (fun r hr => ?_)
       case refine_2 => (simp only [Act.put, List.setIfInBounds_toArray, List.set_cons_succ, List.set_cons_zero]; try rfl))
    | (with_reducible (change wpList _ _ _ _ _ _)
       refine wpList_pickOr (A := ?_) rfl rfl rfl rfl rfl (fun r => ?_) (fun r hr => ?_)
       case refine_2 => (simp only [Act.put, List.setIfInBounds_toArray, List.set_cons_succ, List.set_cons_zero]; try rfl))
    | (with_reducible (change wpList _ _ _ _ _ _)
       refine wpList_symT (v := ?_) (a' := ?_) rfl rfl rfl (fun hb2 => ?_) ?_ ?_
       case refine_3 => (go_simp; try rfl)
       case refine_4 => (simp only [Act.put, List.setIfInBounds_toArray, List.set_cons_succ, List.set_cons_zero]; try rfl))
    | (with_reducible (change wpList _ _ _ _ _ _)
       refine wpList_symF (v := ?_) (a' := ?_) rfl rfl rfl (fun hb2 => ?_) ?_ ?_
       case refine_3 => (go_simp; try rfl)
       case refine_4 => (simp only [Act.put, List.setIfInBounds_toArray, List.set_cons_succ, List.set_cons_zero]; try rfl))
    | (with_reducible (change wpList _ _ _ _ _ _)
       refine wpList_symS (v := ?_) (a' := ?_) rfl rfl rfl (fun hb2 hb3 => ?_) ?_ ?_
       case refine_3 => (go_simp; try rfl)
       case refine_4 => (simp only [Act.put, List.setIfInBounds_toArray, List.set_cons_succ, List.set_cons_zero]; try rfl))
    | (with_reducible (change wpList _ _ _ _ _ _); refine VCell.load rfl (.tmp 3) rfl w.heap.size _ rfl HV3.out ?_)
    | go_step)
  · rename_i h
    have hP : k = 8 ∧ 1048576 < s.size := by (revert h; unfold Hid at *; subst_vars; intro h; simpa [or_assoc, and_assoc, cast_lt127, cast_lt65535, cast_lt1048576, cast_le127, cast_le65535, cast_le1048576] using h)
    go_ret
    exact ⟨by show Ending.returned (Value.int .i64 7) = _; rw [← Ht.out, if_neg N1.out, if_neg N2.out, if_neg N3.out, if_neg N4.out, if_pos hP], Hb3.out⟩
  rename_i h
  have N5 : Hid (¬ (k = 8 ∧ 1048576 < s.size)) := Lib.hid (by revert h; unfold Hid at *; subst_vars; intro h; simpa [or_assoc, and_assoc, cast_lt127, cast_lt65535, cast_lt1048576, cast_le127, cast_le65535, cast_le1048576] using h)
  clear h
  repeat (first
    | (with_reducible (change wpList _ _ _ _ _ _)
       refine wpList_callS (v := .bool (zeroS s)) (a' := ?_) (f := 81) (args := #[.string s]) rfl rfl rfl (fun hb2 hb3 => ?_) (fun _ _ => zero_any s _ Hsz.out) ?_ ?_
       case refine_2 => go_simp
       case refine_3 => (simp only [Act.put, List.setIfInBounds_toArray, List.set_cons_succ, List.set_cons_zero]; try rfl))
    | (with_reducible (change wpList _ _ _ _ _ _)
       refine wpList_pickAndF (A := ?_) rfl rfl rfl rfl rfl rfl rfl (fun r => ?_) (fun r hr => ?_)
       case refine_2 => (simp only [Act.put, List.setIfInBounds_toArray, List.set_cons_succ, List.set_cons_zero]; try rfl))
    | (with_reducible (change wpList _ _ _ _ _ _)
       refine wpList_pickAnd (A := ?_) rfl rfl rfl rfl rfl (fun r => ?_) (fun r hr => ?_)
       case refine_2 => (simp only [Act.put, List.setIfInBounds_toArray, List.set_cons_succ, List.set_cons_zero]; try rfl))
    | (with_reducible (change wpList _ _ _ _ _ _)
       refine wpList_pickOr (A := ?_) rfl rfl rfl rfl rfl (fun r => ?_) (fun r hr => ?_)
       case refine_2 => (simp only [Act.put, List.setIfInBounds_toArray, List.set_cons_succ, List.set_cons_zero]; try rfl))
    | (with_reducible (change wpList _ _ _ _ _ _)
       refine wpList_symT (v := ?_) (a' := ?_) rfl rfl rfl (fun hb2 => ?_) ?_ ?_
       case refine_3 => (go_simp; try rfl)
       case refine_4 => (simp only [Act.put, List.setIfInBounds_toArray, List.set_cons_succ, List.set_cons_zero]; try rfl))
    | (with_reducible (change wpList _ _ _ _ _ _)
       refine wpList_symF (v := ?_) (a' := ?_) rfl rfl rfl (fun hb2 => ?_) ?_ ?_
       case refine_3 => (go_simp; try rfl)
       case refine_4 => (simp only [Act.put, List.setIfInBounds_toArray, List.set_cons_succ, List.set_cons_zero]; try rfl))
    | (with_reducible (change wpList _ _ _ _ _ _)
       refine wpList_symS (v := ?_) (a' := ?_) rfl rfl rfl (fun hb2 hb3 => ?_) ?_ ?_
       case refine_3 => (go_simp; try rfl)
       case refine_4 => (simp only [Act.put, List.setIfInBounds_toArray, List.set_cons_succ, List.set_cons_zero]; try rfl))
    | (with_reducible (change wpList _ _ _ _ _ _); refine VCell.load rfl (.tmp 3) rfl w.heap.size _ rfl HV3.out ?_)
    | go_step)
  refine (holder_any k w3).mono ?_
  rintro e w4 ⟨rfl, rfl⟩
  dsimp only
  repeat (first
    | (with_reducible (change wpList _ _ _ _ _ _)
       refine wpList_callS (v := .bool (zeroS s)) (a' := ?_) (f := 81) (args := #[.string s]) rfl rfl rfl (fun hb2 hb3 => ?_) (fun _ _ => zero_any s _ Hsz.out) ?_ ?_
       case refine_2 => go_simp
       case refine_3 => (simp only [Act.put, List.setIfInBounds_toArray, List.set_cons_succ, List.set_cons_zero]; try rfl))
    | (with_reducible (change wpList _ _ _ _ _ _)
       refine wpList_pickAndF (A := ?_) rfl rfl rfl rfl rfl rfl rfl (fun r => ?_) (fun r hr => ?_)
       case refine_2 => (simp only [Act.put, List.setIfInBounds_toArray, List.set_cons_succ, List.set_cons_zero]; try rfl))
    | (with_reducible (change wpList _ _ _ _ _ _)
       refine wpList_pickAnd (A := ?_) rfl rfl rfl rfl rfl (fun r => ?_) (fun r hr => ?_)
       case refine_2 => (simp only [Act.put, List.setIfInBounds_toArray, List.set_cons_succ, List.set_cons_zero]; try rfl))
    | (with_reducible (change wpList _ _ _ _ _ _)
       refine wpList_pickOr (A := ?_) rfl rfl rfl rfl rfl (fun r => ?_) (fun r hr => ?_)
       case refine_2 => (simp only [Act.put, List.setIfInBounds_toArray, List.set_cons_succ, List.set_cons_zero]; try rfl))
    | (with_reducible (change wpList _ _ _ _ _ _)
       refine wpList_symT (v := ?_) (a' := ?_) rfl rfl rfl (fun hb2 => ?_) ?_ ?_
       case refine_3 => (go_simp; try rfl)
       case refine_4 => (simp only [Act.put, List.setIfInBounds_toArray, List.set_cons_succ, List.set_cons_zero]; try rfl))
    | (with_reducible (change wpList _ _ _ _ _ _)
       refine wpList_symF (v := ?_) (a' := ?_) rfl rfl rfl (fun hb2 => ?_) ?_ ?_
       case refine_3 => (go_simp; try rfl)
       case refine_4 => (simp only [Act.put, List.setIfInBounds_toArray, List.set_cons_succ, List.set_cons_zero]; try rfl))
    | (with_reducible (change wpList _ _ _ _ _ _)
       refine wpList_symS (v := ?_) (a' := ?_) rfl rfl rfl (fun hb2 hb3 => ?_) ?_ ?_
       case refine_3 => (go_simp; try rfl)
       case refine_4 => (simp only [Act.put, List.setIfInBounds_toArray, List.set_cons_succ, List.set_cons_zero]; try rfl))
    | (with_reducible (change wpList _ _ _ _ _ _); refine VCell.load rfl (.tmp 3) rfl w.heap.size _ rfl HV3.out ?_)
    | go_step)
  · rename_i h
    have hP : holderV k = true ∧ 64 ≤ m := by (revert h; unfold Hid at *; subst_vars; intro h; simpa [or_assoc, and_assoc, cast_lt127, cast_lt65535, cast_lt1048576, cast_le127, cast_le65535, cast_le1048576] using h)
    go_ret
    exact ⟨by show Ending.returned (Value.int .i64 9) = _; rw [← Ht.out, if_neg N1.out, if_neg N2.out, if_neg N3.out, if_neg N4.out, if_neg N5.out, if_pos hP], Hb3.out⟩
  rename_i h
  have N6 : Hid (¬ (holderV k = true ∧ 64 ≤ m)) := Lib.hid (by revert h; unfold Hid at *; subst_vars; intro h; simpa [or_assoc, and_assoc, cast_lt127, cast_lt65535, cast_lt1048576, cast_le127, cast_le65535, cast_le1048576] using h)
  clear h
  repeat (first
    | (with_reducible (change wpList _ _ _ _ _ _)
       refine wpList_callS (v := .bool (zeroS s)) (a' := ?_) (f := 81) (args := #[.string s]) rfl rfl rfl (fun hb2 hb3 => ?_) (fun _ _ => zero_any s _ Hsz.out) ?_ ?_
       case refine_2 => go_simp
       case refine_3 => (simp only [Act.put, List.setIfInBounds_toArray, List.set_cons_succ, List.set_cons_zero]; try rfl))
    | (with_reducible (change wpList _ _ _ _ _ _)
       refine wpList_pickAndF (A := ?_) rfl rfl rfl rfl rfl rfl rfl (fun r => ?_) (fun r hr => ?_)
       case refine_2 => (simp only [Act.put, List.setIfInBounds_toArray, List.set_cons_succ, List.set_cons_zero]; try rfl))
    | (with_reducible (change wpList _ _ _ _ _ _)
       refine wpList_pickAnd (A := ?_) rfl rfl rfl rfl rfl (fun r => ?_) (fun r hr => ?_)
       case refine_2 => (simp only [Act.put, List.setIfInBounds_toArray, List.set_cons_succ, List.set_cons_zero]; try rfl))
    | (with_reducible (change wpList _ _ _ _ _ _)
       refine wpList_pickOr (A := ?_) rfl rfl rfl rfl rfl (fun r => ?_) (fun r hr => ?_)
       case refine_2 => (simp only [Act.put, List.setIfInBounds_toArray, List.set_cons_succ, List.set_cons_zero]; try rfl))
    | (with_reducible (change wpList _ _ _ _ _ _)
       refine wpList_symT (v := ?_) (a' := ?_) rfl rfl rfl (fun hb2 => ?_) ?_ ?_
       case refine_3 => (go_simp; try rfl)
       case refine_4 => (simp only [Act.put, List.setIfInBounds_toArray, List.set_cons_succ, List.set_cons_zero]; try rfl))
    | (with_reducible (change wpList _ _ _ _ _ _)
       refine wpList_symF (v := ?_) (a' := ?_) rfl rfl rfl (fun hb2 => ?_) ?_ ?_
       case refine_3 => (go_simp; try rfl)
       case refine_4 => (simp only [Act.put, List.setIfInBounds_toArray, List.set_cons_succ, List.set_cons_zero]; try rfl))
    | (with_reducible (change wpList _ _ _ _ _ _)
       refine wpList_symS (v := ?_) (a' := ?_) rfl rfl rfl (fun hb2 hb3 => ?_) ?_ ?_
       case refine_3 => (go_simp; try rfl)
       case refine_4 => (simp only [Act.put, List.setIfInBounds_toArray, List.set_cons_succ, List.set_cons_zero]; try rfl))
    | (with_reducible (change wpList _ _ _ _ _ _); refine VCell.load rfl (.tmp 3) rfl w.heap.size _ rfl HV3.out ?_)
    | go_step)
  go_ret
  exact ⟨by show Ending.returned (Value.int .i64 0) = _; rw [← Ht.out, if_neg N1.out, if_neg N2.out, if_neg N3.out, if_neg N4.out, if_neg N5.out, if_neg N6.out], Hb3.out⟩
end
end Go.Proofs.YtljgjjbmgjfbcaaDoor
