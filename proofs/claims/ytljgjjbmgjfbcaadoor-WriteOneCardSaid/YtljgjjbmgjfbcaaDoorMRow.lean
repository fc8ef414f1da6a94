/-
  VRowP, VPut, VRKey, VRowV, VAppAll: texts merged.
-/
import Derived.Test.YtljgjjbmgjfbcaaDoorMMem
import Derived.Test.YtljgjjbmgjfbcaaDoorMZero
import Derived.Deep.Upon
/-
  Rows of pairs that a call makes: they grow, and are read.
-/
namespace Go.Proofs.YtljgjjbmgjfbcaaDoor
section
open Go.RowKit
set_option maxRecDepth 100000

theorem infoP : (Tryd.prog.info? 41).map (fun i => (i.zero, i.size, i.bytes)) = some (some (.agg #[.string ⟨#[]⟩, .int .i64 0, .int .i64 0, .int .i64 0, .string ⟨#[]⟩, .slice none 0 0, .slice none 0 0]), 7, 104) := by kernel_rfl
def flatP (xs : List Hp) : List Value := xs.flatMap fun x => x.cells
theorem flatP_snoc (xs : List Hp) (x : Hp) : flatP (xs ++ [x]) = flatP xs ++ x.cells := by simp [flatP]
theorem flatP_at : ∀ (xs : List Hp) (i : Nat) (x : Hp), xs[i]? = some x → ((flatP xs).drop (i * 7)).take 7 = x.cells
  | [], i, x, h => by simp at h
  | y :: r, 0, x, h => by simp at h; subst h; rfl
  | y :: r, i + 1, x, h => by
    have := flatP_at r i x (by simpa using h)
    rw [show flatP (y :: r) = y.cells ++ flatP r from rfl, show (i + 1) * 7 = y.cells.length + i * 7 by rw [show y.cells.length = 7 from rfl]; omega, ← List.drop_drop, List.drop_left]
    exact this
theorem Hp.one (x : Hp) : ∀ u ∈ x.cells, u.oneCell' = true := by
  intro u hu
  simp only [Hp.cells, Hv.cells, List.mem_cons, List.not_mem_nil, or_false] at hu
  rcases hu with rfl | rfl | rfl | rfl | rfl | rfl | rfl <;> rfl

/-- A row of the call's own. -/
def OwnP (w : World) (B : Nat) (p : Option Addr) (cap : Nat) (xs : List Hp) : Prop := w.ownsRow B 41 7 (.slice p xs.length cap) xs.length (flatP xs)
theorem OwnP.void (w : World) (B : Nat) : OwnP w B none 0 [] := World.ownsRow_nil w B _ _
theorem OwnP.made (w : World) {B : Nat} (hB : B ≤ w.heap.size) : OwnP (w.alloc (.cells #[] 41)) B (some ⟨w.heap.size, 0, none⟩) 0 [] := World.ownsRow_made w #[] 0 hB (by decide) rfl
theorem OwnP.keep {w w' : World} {B : Nat} {p : Option Addr} {cap : Nat} {xs : List Hp} (h : OwnP w B p cap xs) (hk : ∀ a, p = some a → w'.heap[a.block]? = w.heap[a.block]?) : OwnP w' B p cap xs := by
  refine ⟨h.1, ?_⟩
  rcases h.2 with h2 | ⟨g, c, cur, hv, hB, hg, hr⟩
  · exact .inl h2
  · have hp : p = some ⟨g, 0, none⟩ := by injection hv
    exact .inr ⟨g, c, cur, hv, hB, (hk _ hp).trans hg, hr⟩
theorem OwnP.lt {w : World} {B : Nat} {p : Option Addr} {cap : Nat} {xs : List Hp} (h : OwnP w B p cap xs) : ∀ a, p = some a → B ≤ a.block ∧ a.block < w.heap.size := by
  intro a ha
  exact World.ownsRow.lt h a.block (by rw [ha]; rfl)
theorem OwnP.later {w w' : World} {B : Nat} {p : Option Addr} {cap : Nat} {xs : List Hp} (h : OwnP w B p cap xs) (hb : Below w.heap.size w w') : OwnP w' B p cap xs := h.keep fun a ha => hb.block _ (h.lt a ha).2
theorem OwnP.alloc {w : World} {B : Nat} {p : Option Addr} {cap : Nat} {xs : List Hp} (h : OwnP w B p cap xs) (o : Obj) : OwnP (w.alloc o) B p cap xs := h.later ((Below.refl _ w).alloc (Nat.le_refl _) _)
theorem OwnP.push {w w' : World} {B : Nat} {p : Option Addr} {cap : Nat} {xs : List Hp} {o : Obj} (h : OwnP w B p cap xs) (e : w'.heap = w.heap.push o) : OwnP w' B p cap xs := h.keep fun a ha => push_old e (h.lt a ha).2
theorem OwnP.form {w : World} {B : Nat} {p : Option Addr} {cap : Nat} {xs : List Hp} (h : OwnP w B p cap xs) : (xs.length ≤ cap ∧ cap ≤ maxLen) ∧ ∃ g, (xs.length ≠ 0 → p = some ⟨g, 0, none⟩ ∧ B ≤ g) ∧ ∀ i (hi : i < xs.length), HpAt w g (0 + i * 7) (xs[i]) := by
  rcases h.2 with ⟨h2, h3⟩ | ⟨g, c, cur, hv, hB, hg, hn, hm, hs, ht⟩
  · injection h2 with e1 e2 e3
    exact ⟨⟨by omega, by rw [e3]; exact Nat.zero_le _⟩, 0, fun h => absurd e2 h, fun i hi => absurd hi (by omega)⟩
  · injection hv with e1 e2 e3
    subst e3
    refine ⟨⟨hn, hm⟩, g, fun _ => ⟨e1, hB⟩, fun i hi => ?_⟩
    have hx := flatP_at xs i xs[i] (List.getElem?_eq_getElem hi)
    rw [← ht, List.drop_take, List.take_take, Nat.min_eq_left (by omega)] at hx
    have hc : ∀ j, j < 7 → w.cell? ⟨g, i * 7 + j, none⟩ = (xs[i]).cells[j]? := fun j hj => by
      rw [← hx, List.getElem?_take_of_lt hj, List.getElem?_drop]
      unfold World.cell?
      simp only [hg]
      simp
    simp only [Nat.zero_add]
    exact ⟨hc 0 (by decide), hc 1 (by decide), hc 2 (by decide), hc 3 (by decide), hc 4 (by decide), hc 5 (by decide), hc 6 (by decide)⟩
theorem OwnP.at {w : World} {B : Nat} {p : Option Addr} {cap : Nat} {xs : List Hp} (h : OwnP w B p cap xs) {i : Nat} (hi : i < xs.length) : ∃ g, p = some ⟨g, 0, none⟩ ∧ B ≤ g ∧ HpAt w g (i * 7) (xs[i]) := by
  obtain ⟨_, g, h1, h2⟩ := h.form
  have h3 := h2 i hi
  rw [Nat.zero_add] at h3
  exact ⟨g, (h1 (by omega)).1, (h1 (by omega)).2, h3⟩

/-- One is put behind them. -/
theorem wpList_append_P {ops : Array Oper} {rest : List Oper} {o : Oper} {a : Act} {w : World} {Q : Exit → Act → World → Prop} (hgd : o.guard = none) (s x : Operand)
    (ho : o.op = .call { callee := .builtin .append, args := #[s, x], argTypes := #[23, 23] })
    (B : Nat) (p : Option Addr) (cap : Nat) (xs : List Hp) (hs : a.eval s = .slice p xs.length cap) (hown : OwnP w B p cap xs) (y : Hp) (b c : Nat) (hx : a.eval x = .slice (some ⟨b, 0, none⟩) 1 c)
    (hy : w.heap[b]? = some (.cells y.arr 41 (0, 0))) (hlen : xs.length ≤ 100000000) (W0 : World) (hb : Below B W0 w) (hB : B ≤ w.heap.size)
    (h : ∀ g cap' w', Hid (OwnP w' B (some ⟨g, 0, none⟩) cap' (xs ++ [y])) → Hid (Below B W0 w') → Hid (∀ k, k < w.heap.size → (∀ q, p = some q → k ≠ q.block) → w'.heap[k]? = w.heap[k]?) → Hid ((p = some ⟨g, 0, none⟩ ∨ g = w.heap.size) ∧ w.heap.size ≤ w'.heap.size) →
      wpList Tryd.prog ops Q rest (a.put o.dst (.slice (some ⟨g, 0, none⟩) (xs.length + 1) cap')) w') : wpList Tryd.prog ops Q (o :: rest) a w := by
  obtain ⟨i0, hi, hz0, hz1, hz2⟩ := info_parts infoP
  refine wpList_append_lies w hgd s x 23 ho B 41 i0 _ 7 104 Tryd.underlying23 hi hz0 hz1 hz2 rfl (by decide) _ _ _ hs hown ⟨b, 0, none⟩ 1 c y.cells hx rfl (fun j u hu => World.news_of_block hy j u (by rw [show y.arr.toList = y.cells from rfl]; exact hu)) y.one (by decide) (by unfold maxLen; omega) (by omega) hB _ rfl ?_
  intro g' cap' w' hown' hgrow hat hlt
  have e : xs.length + 1 = (xs ++ [y]).length := by rw [List.length_append]; rfl
  refine h g' cap' w' (Lib.hid ?_) (Lib.hid (hb.grown hgrow hB (fun k ek => (World.ownsRow.lt hown k ek).1))) (Lib.hid fun k hk hne => hgrow.block k hk (fun e => ?_)) (Lib.hid ⟨?_, hgrow.size⟩)
  · unfold OwnP
    rw [flatP_snoc, ← e]
    exact hown'
  · cases p with
    | none => cases e
    | some q => exact hne q rfl (by injection e with e)
  · rcases hat with hat | hat
    · left
      rcases hown.2 with ⟨h2, _⟩ | ⟨g2, c2, cur, hv, _⟩
      · rw [h2] at hat; cases hat
      · injection hv with e1 _ _
        rw [e1] at hat ⊢
        have : g2 = g' := by injection hat
        rw [this]
    · exact .inr hat

/-- A row of the call's own whose pairs are read: none of them from the row itself. -/
def RowP (w : World) (B : Nat) (p : Option Addr) (cap : Nat) (xs : List Hp) (vs : Prs) : Prop :=
  OwnP w B p cap xs ∧ xs.length = vs.length ∧ ∀ i (h : i < xs.length) (h' : i < vs.length), (xs[i]).key = (vs[i]).1 ∧ Rd w (fun k => (B ≤ k ∧ ∀ a, p = some a → k ≠ a.block) ∧ k < w.heap.size) (xs[i]).v (vs[i]).2
theorem RowP.void (w : World) (B : Nat) : RowP w B none 0 [] [] := ⟨OwnP.void w B, rfl, fun _ h => absurd h (Nat.not_lt_zero _)⟩
theorem RowP.made (w : World) {B : Nat} (hB : B ≤ w.heap.size) : RowP (w.alloc (.cells #[] 41)) B (some ⟨w.heap.size, 0, none⟩) 0 [] [] := ⟨OwnP.made w hB, rfl, fun _ h => absurd h (Nat.not_lt_zero _)⟩
theorem RowP.later {w w' : World} {B : Nat} {p : Option Addr} {cap : Nat} {xs : List Hp} {vs : Prs} (h : RowP w B p cap xs vs) (hb : Below w.heap.size w w') : RowP w' B p cap xs vs :=
  ⟨h.1.later hb, h.2.1, fun i h1 h2 => ⟨(h.2.2 i h1 h2).1, ((h.2.2 i h1 h2).2.later (fun k hk => hb.block k hk.2)).mono (fun _ hk => ⟨hk.1, Nat.lt_of_lt_of_le hk.2 hb.size⟩)⟩⟩
/-- What the row holds, read. -/
theorem RowP.read {w : World} {B : Nat} {p : Option Addr} {cap : Nat} {xs : List Hp} {vs : Prs} (h : RowP w B p cap xs vs) : RdD w (fun k => B ≤ k) ⟨p, xs.length, cap⟩ vs := by
  obtain ⟨h1, g, h2, h3⟩ := h.1.form
  refine ⟨h.2.1, h1, g, 0, fun i => (xs[i]?).getD ⟨⟨#[]⟩, .nil⟩, h2, fun i hi => ?_, fun i hi => ?_⟩
  · have hi' : i < xs.length := by rw [h.2.1]; exact hi
    dsimp only
    rw [List.getElem?_eq_getElem hi']
    exact h3 i hi'
  · have hi' : i < xs.length := by rw [h.2.1]; exact hi
    dsimp only
    rw [List.getElem?_eq_getElem hi']
    exact ⟨(h.2.2 i hi' hi).1, (h.2.2 i hi' hi).2.mono (fun _ hk => hk.1.1)⟩
/-- Behind an append. -/
theorem RowP.snoc {w w' w0 : World} {B : Nat} {p : Option Addr} {cap : Nat} {xs : List Hp} {vs : Prs} (h : RowP w0 B p cap xs vs) (hb : Below w0.heap.size w0 w) {g cap' : Nat} {y : Hp} {u : (ByteArray × Val)}
    (hy : y.key = u.1 ∧ Rd w (fun k => w0.heap.size ≤ k) y.v u.2) (hB0 : B ≤ w0.heap.size) (h1 : OwnP w' B (some ⟨g, 0, none⟩) cap' (xs ++ [y])) (h2 : ∀ k, k < w.heap.size → (∀ q, p = some q → k ≠ q.block) → w'.heap[k]? = w.heap[k]?) (h3 : (p = some ⟨g, 0, none⟩ ∨ g = w.heap.size) ∧ w.heap.size ≤ w'.heap.size) :
    RowP w' B (some ⟨g, 0, none⟩) cap' (xs ++ [y]) (vs ++ [u]) := by
  have hpl := h.1.lt
  have hsz := hb.size
  refine ⟨h1, by rw [List.length_append, List.length_append, h.2.1]; rfl, fun i hi hi' => ?_⟩
  have hS : ∀ k, (B ≤ k ∧ ∀ a, p = some a → k ≠ a.block) ∧ k < w.heap.size → (B ≤ k ∧ ∀ a, (some ⟨g, 0, none⟩ : Option Addr) = some a → k ≠ a.block) ∧ k < w'.heap.size := fun k hk => by
    refine ⟨⟨hk.1.1, fun a ha => ?_⟩, by have := h3.2; omega⟩
    injection ha with ha
    subst ha
    rcases h3.1 with e | e
    · exact hk.1.2 _ e
    · show k ≠ g
      omega
  rcases Nat.lt_or_ge i xs.length with hlt | hge
  · have hlt' : i < vs.length := by rw [← h.2.1]; exact hlt
    rw [List.getElem_append_left hlt, List.getElem_append_left hlt']
    have h4 := h.2.2 i hlt hlt'
    exact ⟨h4.1, ((h4.2.later (fun k hk => hb.block k hk.2)).mono (fun k hk => (⟨hk.1, by omega⟩ : _ ∧ k < w.heap.size))).later (fun k hk => h2 k hk.2 hk.1.2) |>.mono hS⟩
  · obtain rfl : i = xs.length := by rw [List.length_append] at hi; simp at hi; omega
    rw [List.getElem_append_right (Nat.le_refl _), List.getElem_append_right (by rw [h.2.1]; exact Nat.le_refl _)]
    exact by simpa [h.2.1] using (⟨hy.1, ((hy.2.bound.mono (fun k hk => (⟨⟨by omega, fun a ha => by have := (hpl a ha).2; omega⟩, hk.2⟩ : (B ≤ k ∧ ∀ a, p = some a → k ≠ a.block) ∧ k < w.heap.size))).later (fun k hk => h2 k hk.2 hk.1.2)).mono hS⟩ : y.key = u.1 ∧ _)
end
end Go.Proofs.YtljgjjbmgjfbcaaDoor
/-
  The document's answer: a pair among pairs that rise.
-/
namespace Go.Proofs.YtljgjjbmgjfbcaaDoor
section
open Go.RowKit
set_option maxRecDepth 100000

/-- As far as i pairs were looked at: what stands in the new row, and whether the new pair stands there. -/
theorem insP_split (p : ByteArray × Val) : ∀ (d : Prs), insP p d = d.takeWhile (fun q => !kLt p.1 q.1) ++ p :: d.dropWhile (fun q => !kLt p.1 q.1)
  | [] => rfl
  | q :: t => by
    rw [insP]
    by_cases h : kLt p.1 q.1 = true
    · rw [if_pos h, List.takeWhile_cons, List.dropWhile_cons]; simp [h]
    · have h' : kLt p.1 q.1 = false := by simpa using h
      rw [if_neg h, List.takeWhile_cons, List.dropWhile_cons, insP_split p t]; simp [h']
/-- The row behind i pairs. -/
def midP (p : ByteArray × Val) (l : Prs) : Bool → Prs
  | true => insP p l
  | false => l
/-- Has the new pair been put? -/
def doneP (p : ByteArray × Val) (l : Prs) : Bool := l.any (fun q => kLt p.1 q.1)
theorem insP_snoc (p q : ByteArray × Val) : ∀ (l : Prs), doneP p l = true → insP p (l ++ [q]) = insP p l ++ [q]
  | [], h => by simp [doneP] at h
  | r :: t, h => by
    rw [List.cons_append, insP, insP]
    by_cases h1 : kLt p.1 r.1 = true
    · rw [if_pos h1, if_pos h1]; rfl
    · rw [if_neg h1, if_neg h1, insP_snoc p q t (by unfold doneP at h ⊢; simpa [h1] using h)]; rfl
theorem insP_put (p q : ByteArray × Val) : ∀ (l : Prs), doneP p l = false → kLt p.1 q.1 = true → insP p (l ++ [q]) = l ++ [p] ++ [q]
  | [], _, h => by rw [List.nil_append, insP, if_pos h]; rfl
  | r :: t, h, h2 => by
    unfold doneP at h
    rw [List.any_cons, Bool.or_eq_false_iff] at h
    rw [List.cons_append, insP, if_neg (by rw [h.1]; decide), insP_put p q t h.2 h2]; rfl
theorem insP_end (p : ByteArray × Val) : ∀ (l : Prs), doneP p l = false → insP p l = l ++ [p]
  | [], _ => rfl
  | r :: t, h => by
    unfold doneP at h
    rw [List.any_cons, Bool.or_eq_false_iff] at h
    rw [insP, if_neg (by rw [h.1]; decide), insP_end p t h.2]; rfl

/-- Pairs as the program holds them are these. -/
def AllIs (w : World) (S : Nat → Prop) : List Hp → Prs → Prop
  | [], [] => True
  | x :: xs, p :: ps => (x.key = p.1 ∧ Rd w S x.v p.2) ∧ AllIs w S xs ps
  | _, _ => False
theorem AllIs.len {w : World} {S : Nat → Prop} : ∀ {xs : List Hp} {ps : Prs}, AllIs w S xs ps → xs.length = ps.length
  | [], [], _ => rfl
  | _ :: xs, _ :: ps, h => by rw [List.length_cons, List.length_cons, h.2.len]
  | [], _ :: _, h => h.elim
  | _ :: _, [], h => h.elim
theorem AllIs.snoc {w : World} {S : Nat → Prop} {x : Hp} {p : ByteArray × Val} (hx : x.key = p.1 ∧ Rd w S x.v p.2) : ∀ {xs : List Hp} {ps : Prs}, AllIs w S xs ps → AllIs w S (xs ++ [x]) (ps ++ [p])
  | [], [], _ => ⟨hx, trivial⟩
  | _ :: _, _ :: _, h => ⟨h.1, h.2.snoc hx⟩
  | [], _ :: _, h => h.elim
  | _ :: _, [], h => h.elim
theorem AllIs.at {w : World} {S : Nat → Prop} : ∀ {xs : List Hp} {ps : Prs}, AllIs w S xs ps → ∀ i (h : i < xs.length) (h' : i < ps.length), (xs[i]).key = (ps[i]).1 ∧ Rd w S (xs[i]).v (ps[i]).2
  | _ :: _, _ :: _, h, 0, _, _ => h.1
  | _ :: _, _ :: _, h, i + 1, h1, h2 => h.2.at i (by simpa using h1) (by simpa using h2)
  | [], _ :: _, h, _, _, _ => h.elim
  | _ :: _, [], h, _, _, _ => h.elim
/-- Such pairs, in a row of the call's own. -/
theorem AllIs.read {w w' : World} {S : Nat → Prop} {B : Nat} {q : Option Addr} {cap : Nat} {xs : List Hp} {ps : Prs} (h : AllIs w S xs ps) (hS : ∀ k, S k → w'.heap[k]? = w.heap[k]?) (ho : OwnP w' B q cap xs) (N : Nat) (hB : N ≤ B) :
    RdD w' (fun k => S k ∨ N ≤ k) ⟨q, xs.length, cap⟩ ps := by
  obtain ⟨h1, g, h2, h3⟩ := ho.form
  refine ⟨h.len, h1, g, 0, fun i => (xs[i]?).getD ⟨⟨#[]⟩, .nil⟩, fun e => ⟨(h2 e).1, .inr (Nat.le_trans hB (h2 e).2)⟩, fun i hi => ?_, fun i hi => ?_⟩
  · have hi' : i < xs.length := by rw [h.len]; exact hi
    dsimp only
    rw [List.getElem?_eq_getElem hi']
    exact h3 i hi'
  · have hi' : i < xs.length := by rw [h.len]; exact hi
    dsimp only
    rw [List.getElem?_eq_getElem hi']
    exact ⟨(h.at i hi' hi).1, ((h.at i hi' hi).2.later hS).mono (fun _ hk => .inl hk)⟩
theorem RdD.pair {w : World} {S : Nat → Prop} {sl : Sl} {d : Prs} (h : RdD w S sl d) {i : Nat} (hi : i < d.length) : ∃ (b o : Nat) (y : Hp), sl.p = some ⟨b, o, none⟩ ∧ S b ∧ HpAt w b (o + i * 7) y ∧ y.key = (d[i]).1 ∧ Rd w S y.v (d[i]).2 := by
  obtain ⟨b, o, y, _, h1⟩ := RdD.at (p := sl.p) (len := sl.len) (cap := sl.cap) h (i := i) (by rw [h.1]; exact hi)
  exact ⟨b, o, y, h1⟩
theorem bl_toList (a b : ByteArray) : Op.bytesLess a.toList b.toList = kLt a b := by unfold kLt; rw [ByteArray.toList_eq, ByteArray.toList_eq]
theorem eq_toList (a b : ByteArray) : (a.toList == b.toList) = decide (a = b) := by
  rw [ByteArray.toList_eq, ByteArray.toList_eq]
  rcases a with ⟨⟨a⟩⟩; rcases b with ⟨⟨b⟩⟩
  by_cases h : a = b
  · subst h; simp
  · simp [h]
theorem doneP_snoc (p q : ByteArray × Val) (l : Prs) : doneP p (l ++ [q]) = (doneP p l || kLt p.1 q.1) := by unfold doneP; simp
theorem hasK_snoc (k : ByteArray) (q : ByteArray × Val) (l : Prs) : hasK k (l ++ [q]) = (hasK k l || decide (q.1 = k)) := by unfold hasK; simp

set_option maxHeartbeats 4000000 in
theorem vput_any (d : Prs) (p : ByteArray × Val) (sl : Sl) (x : Hp) (w : World) (S : Nat → Prop) (hD : RdD w S sl d) (hp : x.key = p.1 ∧ Rd w S x.v p.2) (hS : ∀ k, S k → k < w.heap.size) (hlen : d.length ≤ 100000) :
    Calls Tryd.prog 70 #[.slice sl.p sl.len sl.cap, .agg x.arr] w fun e w' => ∃ sl', e = .returned (.slice sl'.p sl'.len sl'.cap) ∧ RdD w' (fun k => S k ∨ w.heap.size ≤ k) sl' (putP d p) ∧ Below w.heap.size w w' := by
  obtain ⟨dp, dl, dc⟩ := sl
  have Hp0 := Lib.hid hp
  obtain ⟨yy, ⟨k, n, g, s, ⟨lp, ll, lc⟩, ⟨ep, el, ec⟩⟩⟩ := x
  obtain ⟨hdl, hdm⟩ := hD.len_le
  have hky : yy = p.1 := hp.1
  dsimp only at hdl hdm
  unfold maxLen at hdm
  have HD := Lib.hid hD
  have HS := Lib.hid hS
  have Hky := Lib.hid hky
  have Hdl := Lib.hid hdl
  have hdl2 : dl ≤ 100000 := by omega
  clear hp hD hS hky hdl
  obtain ⟨w1, hw1⟩ : ∃ w1, w.alloc (.cells #[.string yy, .int .i64 k, .int .i64 n, .int .i64 g, .string s, .slice lp ll lc, .slice ep el ec] 41) = w1 := ⟨_, rfl⟩
  have hb1 : Below w.heap.size w w1 := by rw [← hw1]; exact (Below.refl _ w).alloc (Nat.le_refl _) _
  have hc0 : w1.cell? ⟨w.heap.size, 0, none⟩ = some (.string yy) := by rw [← hw1]; simp
  have hc1 : w1.cell? ⟨w.heap.size, 1, none⟩ = some (.int .i64 k) := by rw [← hw1]; simp
  have hc2 : w1.cell? ⟨w.heap.size, 2, none⟩ = some (.int .i64 n) := by rw [← hw1]; simp
  have hc3 : w1.cell? ⟨w.heap.size, 3, none⟩ = some (.int .i64 g) := by rw [← hw1]; simp
  have hc4 : w1.cell? ⟨w.heap.size, 4, none⟩ = some (.string s) := by rw [← hw1]; simp
  have hc5 : w1.cell? ⟨w.heap.size, 5, none⟩ = some (.slice lp ll lc) := by rw [← hw1]; simp
  have hc6 : w1.cell? ⟨w.heap.size, 6, none⟩ = some (.slice ep el ec) := by rw [← hw1]; simp
  have hlt : w.heap.size < w1.heap.size := by rw [← hw1]; simp
  have HO0 := Lib.hid (OwnP.made w1 (Nat.le_refl w1.heap.size))
  have Hb1 := Lib.hid hb1
  have HB0 := Lib.hid ((Below.refl w1.heap.size w1).alloc (Nat.le_refl _) (.cells #[] 41))
  show Calls Tryd.prog 70 #[.slice dp dl dc, .agg #[.string yy, .int .i64 k, .int .i64 n, .int .i64 g, .string s, .slice lp ll lc, .slice ep el ec]] w _
  go_enter Tryd.func70, Tryd.ntmps70
  go_wp2
  clear hw1 hb1
  go_loopg [5, 6, 7] dl (fun f s5 s6 s7 wr => ∃ (i : Nat) (b : Bool) (q : Option Addr) (cap : Nat) (xs : List Hp), s7 = .int .i64 i ∧ s6 = .bool b ∧ s5 = .slice q xs.length cap ∧ i ≤ dl ∧ dl ≤ f + i ∧ xs.length ≤ i + 1 ∧
    Aside (b = doneP p (d.take i) ∧ hasK p.1 (d.take i) = false ∧ AllIs w S xs (midP p (d.take i) b)) ∧ Aside (OwnP wr w1.heap.size q cap xs) ∧ Aside (Below w1.heap.size w1 wr))
  case atStart => exact ⟨0, false, _, 0, [], rfl, rfl, rfl, Nat.zero_le _, Nat.le_refl _, Nat.zero_le _, (show Aside _ from ⟨rfl, rfl, trivial⟩), HO0, HB0⟩
  case round =>
    obtain ⟨i, b, q, cap, xs, rfl, rfl, rfl, hi, hf, hxl, HI, HO, HB⟩ := hrel
    have c0 := (HB.out.cell (p := ⟨w.heap.size, 0, none⟩) hlt).trans hc0
    have c1 := (HB.out.cell (p := ⟨w.heap.size, 1, none⟩) hlt).trans hc1
    have c2 := (HB.out.cell (p := ⟨w.heap.size, 2, none⟩) hlt).trans hc2
    have c3 := (HB.out.cell (p := ⟨w.heap.size, 3, none⟩) hlt).trans hc3
    have c4 := (HB.out.cell (p := ⟨w.heap.size, 4, none⟩) hlt).trans hc4
    have c5 := (HB.out.cell (p := ⟨w.heap.size, 5, none⟩) hlt).trans hc5
    have c6 := (HB.out.cell (p := ⟨w.heap.size, 6, none⟩) hlt).trans hc6
    have Hww : Hid (Below w.heap.size w wr) := Lib.hid (Hb1.out.trans (HB.out.mono (Nat.le_of_lt hlt)))
    by_cases hil : i < dl
    · have hid : i < d.length := by rw [← Hdl.out]; exact hil
      obtain ⟨lb, lo, ⟨zk, ⟨yk, yn, yg, ys, ⟨ylp, yll, ylc⟩, ⟨ydp, ydl, ydc⟩⟩⟩, h3, h4, h5, hkz, h6⟩ := HD.out.pair hid
      replace h3 : dp = some ⟨lb, lo, none⟩ := h3
      subst h3
      obtain ⟨e0, e1, e2, e3, e4, e5, e6⟩ := h5.same (Hww.out.block _ (HS.out _ h4))
      dsimp only at e0 e1 e2 e3 e4 e5 e6 hkz h6
      have H6 : Hid (zk = (d[i]).1 ∧ Rd w S ⟨yk, yn, yg, ys, ⟨ylp, yll, ylc⟩, ⟨ydp, ydl, ydc⟩⟩ (d[i]).2) := Lib.hid ⟨hkz, h6⟩
      have Hts : Hid (d.take (i + 1) = d.take i ++ [d[i]]) := Lib.hid (by rw [List.take_add_one, List.getElem?_eq_getElem hid]; rfl)
      by_cases heq : zk = yy
      · have hke : (zk.toList == yy.toList) = true := by rw [eq_toList]; exact decide_eq_true heq
        have Hres : Hid (putP d p = d) := Lib.hid (by
          unfold putP
          rw [if_pos]
          unfold hasK
          rw [List.any_eq_true]
          exact ⟨d[i], List.getElem_mem hid, decide_eq_true (by rw [← hkz, heq]; exact Hky.out)⟩)
        clear hkz h6 heq
        go_wp2_with fail
        go_quiet (fail)
        go_wp2
        go_ret
        exact ⟨⟨some ⟨lb, lo, none⟩, dl, dc⟩, rfl, by rw [Hres.out]; exact (HD.out.later (below_old HS.out (below_drewN Hww.out nq))).mono (fun _ hk => .inl hk), below_drewN Hww.out nq⟩
      · have hke : (zk.toList == yy.toList) = false := by rw [eq_toList]; exact decide_eq_false heq
        have Hnk : Hid (hasK p.1 (d.take (i + 1)) = false) := Lib.hid (by rw [Hts.out, hasK_snoc, HI.out.2.1, Bool.false_or]; exact decide_eq_false (by rw [← hkz]; intro e; exact heq (e.trans Hky.out.symm)))
        obtain ⟨r, hr⟩ : ∃ r, kLt yy zk = r := ⟨_, rfl⟩
        have hbl : Op.bytesLess yy.toList zk.toList = r := by rw [bl_toList]; exact hr
        have Hr : Hid (kLt p.1 (d[i]).1 = r) := Lib.hid (by rw [← Hky.out, ← hkz]; exact hr)
        have f2 : wr.cell? ⟨lb, lo + i * 7 + 2, none⟩ = some (.int .i64 yn) := e2
        have f3 : wr.cell? ⟨lb, lo + i * 7 + 3, none⟩ = some (.int .i64 yg) := e3
        have f4 : wr.cell? ⟨lb, lo + i * 7 + 4, none⟩ = some (.string ys) := e4
        have f5 : wr.cell? ⟨lb, lo + i * 7 + 5, none⟩ = some (.slice ylp yll ylc) := e5
        have f6 : wr.cell? ⟨lb, lo + i * 7 + 6, none⟩ = some (.slice ydp ydl ydc) := e6
        clear hkz h6 heq hr
        have hrow := Lib.hid (HO.out.lt)
        cases b with
        | true =>
          have Hnew : Hid (true = doneP p (d.take (i + 1)) ∧ hasK p.1 (d.take (i + 1)) = false ∧ AllIs w S (xs ++ [⟨zk, ⟨yk, yn, yg, ys, ⟨ylp, yll, ylc⟩, ⟨ydp, ydl, ydc⟩⟩⟩]) (midP p (d.take (i + 1)) true)) := Lib.hid (by
            obtain ⟨g1, g2, g3⟩ := HI.out
            refine ⟨by rw [Hts.out, doneP_snoc, ← g1]; rfl, Hnk.out, ?_⟩
            show AllIs w S _ (insP p (d.take (i + 1)))
            rw [Hts.out, insP_snoc p _ _ g1.symm]
            exact AllIs.snoc H6.out g3)
          clear HI hbl e2 e3 e4 e5 e6 h5
          go_wp2_with fail
          go_quiet (fail)
          go_wp2_with fail
          go_quiet (fail)
          go_wp2_with (at_builtin; refine wpList_append_P rfl (.tmp 40) (.tmp 45) rfl w1.heap.size _ _ xs rfl (HO.out.push rfl) ⟨zk, ⟨yk, yn, yg, ys, ⟨ylp, yll, ylc⟩, ⟨ydp, ydl, ydc⟩⟩⟩ wr.heap.size 1 rfl (push_new rfl) (by omega) w1 (below_push HB.out HB.out.size rfl rfl rfl rfl) (by have := HB.out.size; simp; omega) ?_; intro g' cap' w2 HO2 HB2 HK2 HF2)
          have e : (xs ++ [(⟨zk, ⟨yk, yn, yg, ys, ⟨ylp, yll, ylc⟩, ⟨ydp, ydl, ydc⟩⟩⟩ : Hp)]).length = xs.length + 1 := by rw [List.length_append]; rfl
          go_roundg (dl - (i + 1))
          case measure => omega
          case rel => exact ⟨i + 1, true, _, cap', _, by go_num, rfl, by rw [e], by omega, by omega, by rw [e]; omega, Hnew.out, HO2.out, HB2.out⟩
        | false =>
          cases r with
          | false =>
            have Hnew : Hid (false = doneP p (d.take (i + 1)) ∧ hasK p.1 (d.take (i + 1)) = false ∧ AllIs w S (xs ++ [⟨zk, ⟨yk, yn, yg, ys, ⟨ylp, yll, ylc⟩, ⟨ydp, ydl, ydc⟩⟩⟩]) (midP p (d.take (i + 1)) false)) := Lib.hid (by
              obtain ⟨g1, g2, g3⟩ := HI.out
              refine ⟨by rw [Hts.out, doneP_snoc, ← g1, Hr.out]; rfl, Hnk.out, ?_⟩
              show AllIs w S _ (d.take (i + 1))
              rw [Hts.out]
              exact AllIs.snoc H6.out g3)
            clear HI e2 e3 e4 e5 e6 h5
            go_wp2_with fail
            go_quiet (fail)
            go_wp2_with fail
            go_quiet (fail)
            go_wp2_with (at_builtin; refine wpList_append_P rfl (.tmp 40) (.tmp 45) rfl w1.heap.size _ _ xs rfl (HO.out.push rfl) ⟨zk, ⟨yk, yn, yg, ys, ⟨ylp, yll, ylc⟩, ⟨ydp, ydl, ydc⟩⟩⟩ wr.heap.size 1 rfl (push_new rfl) (by omega) w1 (below_push HB.out HB.out.size rfl rfl rfl rfl) (by have := HB.out.size; simp; omega) ?_; intro g' cap' w2 HO2 HB2 HK2 HF2)
            have e : (xs ++ [(⟨zk, ⟨yk, yn, yg, ys, ⟨ylp, yll, ylc⟩, ⟨ydp, ydl, ydc⟩⟩⟩ : Hp)]).length = xs.length + 1 := by rw [List.length_append]; rfl
            go_roundg (dl - (i + 1))
            case measure => omega
            case rel => exact ⟨i + 1, false, _, cap', _, by go_num, rfl, by rw [e], by omega, by omega, by rw [e]; omega, Hnew.out, HO2.out, HB2.out⟩
          | true =>
            have Hnew : Hid (true = doneP p (d.take (i + 1)) ∧ hasK p.1 (d.take (i + 1)) = false ∧ AllIs w S ((xs ++ [⟨yy, ⟨k, n, g, s, ⟨lp, ll, lc⟩, ⟨ep, el, ec⟩⟩⟩]) ++ [⟨zk, ⟨yk, yn, yg, ys, ⟨ylp, yll, ylc⟩, ⟨ydp, ydl, ydc⟩⟩⟩]) (midP p (d.take (i + 1)) true)) := Lib.hid (by
              obtain ⟨g1, g2, g3⟩ := HI.out
              refine ⟨by rw [Hts.out, doneP_snoc, Hr.out, Bool.or_true], Hnk.out, ?_⟩
              show AllIs w S _ (insP p (d.take (i + 1)))
              rw [Hts.out, insP_put p _ _ g1.symm Hr.out]
              exact AllIs.snoc H6.out (AllIs.snoc Hp0.out g3))
            have hx2 : xs.length ≤ i := by
              have h := HI.out.2.2.len
              rw [show midP p (d.take i) false = d.take i from rfl, List.length_take] at h
              omega
            have H5 := Lib.hid h5
            clear HI e2 e3 e4 e5 e6 h5
            have e1l : (xs ++ [(⟨yy, ⟨k, n, g, s, ⟨lp, ll, lc⟩, ⟨ep, el, ec⟩⟩⟩ : Hp)]).length = xs.length + 1 := by rw [List.length_append]; rfl
            have E1l := Lib.hid e1l
            clear e1l
            go_wp2_with fail
            go_quiet (fail)
            go_wp2_with fail
            go_quiet (fail)
            go_wp2_with (first
              | (at_builtin; refine wpList_append_P rfl (.tmp 36) (.tmp 38) rfl w1.heap.size _ _ xs rfl (HO.out.push rfl) ⟨yy, ⟨k, n, g, s, ⟨lp, ll, lc⟩, ⟨ep, el, ec⟩⟩⟩ wr.heap.size 1 rfl (push_new rfl) (by omega) w1 (below_push HB.out HB.out.size rfl rfl rfl rfl) (by have := HB.out.size; simp; omega) ?_; intro g1 cap1 w2 HO2 HB2 HK2 HF2; obtain ⟨k0, k1, k2, k3, k4, k5, k6⟩ := H5.out.same ((Hb1.out.trans (HB2.out.mono (Nat.le_of_lt hlt))).block _ (HS.out _ h4)); dsimp only at k0 k1 k2 k3 k4 k5 k6)
              | (at_builtin; refine wpList_append_P rfl (.tmp 40) (.tmp 45) rfl w1.heap.size _ cap1 (xs ++ [⟨yy, ⟨k, n, g, s, ⟨lp, ll, lc⟩, ⟨ep, el, ec⟩⟩⟩]) (by rw [E1l.out]; rfl) (HO2.out.push rfl) ⟨zk, ⟨yk, yn, yg, ys, ⟨ylp, yll, ylc⟩, ⟨ydp, ydl, ydc⟩⟩⟩ w2.heap.size 1 rfl (push_new rfl) (by rw [E1l.out]; omega) w1 (below_push HB2.out HB2.out.size rfl rfl rfl rfl) (by have := HB2.out.size; simp; omega) ?_; intro g' cap' w3 HO3 HB3 HK3 HF3))
            have e : ((xs ++ [(⟨yy, ⟨k, n, g, s, ⟨lp, ll, lc⟩, ⟨ep, el, ec⟩⟩⟩ : Hp)]) ++ [(⟨zk, ⟨yk, yn, yg, ys, ⟨ylp, yll, ylc⟩, ⟨ydp, ydl, ydc⟩⟩⟩ : Hp)]).length = xs.length + 1 + 1 := by rw [List.length_append, E1l.out]; rfl
            go_roundg (dl - (i + 1))
            case measure => omega
            case rel => exact ⟨i + 1, true, _, cap', _, by go_num, rfl, by rw [e], by omega, by omega, by rw [e]; omega, Hnew.out, HO3.out, HB3.out⟩
    · have htk : d.take i = d := List.take_of_length_le (by have := Hdl.out; omega)
      rw [htk] at HI
      cases b with
      | true =>
        have Hres : Hid (AllIs w S xs (putP d p)) := Lib.hid (by
          obtain ⟨g1, g2, g3⟩ := HI.out
          unfold putP
          rw [if_neg (by rw [g2]; decide)]
          exact g3)
        clear HI
        go_wp2
        go_ret
        exact ⟨⟨q, xs.length, cap⟩, rfl, Hres.out.read (below_old HS.out Hww.out) HO.out _ (Nat.le_of_lt hlt), Hww.out⟩
      | false =>
        have Hres : Hid (AllIs w S (xs ++ [⟨yy, ⟨k, n, g, s, ⟨lp, ll, lc⟩, ⟨ep, el, ec⟩⟩⟩]) (putP d p)) := Lib.hid (by
          obtain ⟨g1, g2, g3⟩ := HI.out
          unfold putP
          rw [if_neg (by rw [g2]; decide), insP_end p _ g1.symm]
          exact AllIs.snoc Hp0.out g3)
        clear HI
        have E1l : Hid ((xs ++ [(⟨yy, ⟨k, n, g, s, ⟨lp, ll, lc⟩, ⟨ep, el, ec⟩⟩⟩ : Hp)]).length = xs.length + 1) := Lib.hid (by rw [List.length_append]; rfl)
        go_wp2_with (at_builtin; refine wpList_append_P rfl (.tmp 49) (.tmp 51) rfl w1.heap.size _ _ xs rfl (HO.out.push rfl) ⟨yy, ⟨k, n, g, s, ⟨lp, ll, lc⟩, ⟨ep, el, ec⟩⟩⟩ wr.heap.size 1 rfl (push_new rfl) (by omega) w1 (below_push HB.out HB.out.size rfl rfl rfl rfl) (by have := HB.out.size; simp; omega) ?_; intro g1 cap1 w2 HO2 HB2 HK2 HF2)
        go_ret
        have Hw2 := Hb1.out.trans (HB2.out.mono (Nat.le_of_lt hlt))
        have h8 := Hres.out.read (below_old HS.out Hw2) HO2.out _ (Nat.le_of_lt hlt)
        rw [E1l.out] at h8
        exact ⟨⟨some ⟨g1, 0, none⟩, xs.length + 1, cap1⟩, rfl, h8, Hw2⟩
end
end Go.Proofs.YtljgjjbmgjfbcaaDoor
/-
  The document's answer: what is wrong with a key.
-/
namespace Go.Proofs.YtljgjjbmgjfbcaaDoor
section
open Go.RowKit
set_option maxRecDepth 100000
attribute [local go_sem] undef

def keyE (b : Bool) : Int := if b = true then 11 else 0
theorem any_snoc_key (d : Prs) (j : Nat) (hj : j < d.length) (k : ByteArray) : ((d.take (j + 1)).map Prod.fst).any (fun x => decide (x = k)) = (((d.take j).map Prod.fst).any (fun x => decide (x = k)) || decide ((d[j]).1 = k)) := by
  rw [List.take_add_one, List.getElem?_eq_getElem hj, Option.toList_some, List.map_append, List.any_append, List.map_cons, List.map_nil, List.any_cons, List.any_nil, Bool.or_false]

set_option maxHeartbeats 4000000 in
theorem rkey_any (d : Prs) (sl : Sl) (i : Nat) (hi : i < d.length) (w : World) (S : Nat → Prop) (hD : RdD w S sl d) (hsz : (d[i]).1.size ≤ 100000) :
    Calls Tryd.prog 69 #[.slice sl.p sl.len sl.cap, .int .i64 (i : Int)] w fun e w' => e = .returned (.int .i64 (keyE (keyV (d[i]).1 ((d.take i).map Prod.fst)))) ∧ Below w.heap.size w w' := by
  obtain ⟨dp, dl, dc⟩ := sl
  obtain ⟨hdl, hdm⟩ := hD.len_le
  dsimp only at hdl hdm
  unfold maxLen at hdm
  obtain ⟨lb, lo, y, h3, h4, h5, hky, h6⟩ := hD.pair hi
  replace h3 : dp = some ⟨lb, lo, none⟩ := h3
  subst h3
  have e0 : w.cell? ⟨lb, lo + i * 7, none⟩ = some (.string y.key) := h5.1
  rw [← hky] at hsz
  rw [← hky]
  obtain ⟨kk, hkk⟩ : ∃ kk, y.key = kk := ⟨_, rfl⟩
  rw [hkk] at hsz e0 ⊢
  obtain ⟨r, hr⟩ : ∃ r, keyV kk ((d.take i).map Prod.fst) = r := ⟨_, rfl⟩
  rw [hr]
  unfold keyV at hr
  have Hr := Lib.hid hr
  have HD := Lib.hid hD
  have Hdl := Lib.hid hdl
  have hil : i < dl := by omega
  have hz := Lib.hid (fun W => zero_any kk W (by unfold maxLen; omega))
  obtain ⟨b2, hb2⟩ : ∃ b2, zeroS kk = b2 := ⟨_, rfl⟩
  rw [hb2] at hz Hr
  clear hr hD hdl hky hkk h5 h6 hb2 hi
  show Calls Tryd.prog 69 #[.slice (some ⟨lb, lo, none⟩) dl dc, .int .i64 (i : Int)] w _
  by_cases h1 : 127 < kk.size
  · have h1z : (127 : Int) < (kk.size : Int) := by omega
    obtain rfl : r = true := by rw [← Hr.out, decide_eq_true h1]; rfl
    clear Hr h1
    go_enter Tryd.func69, Tryd.ntmps69
    go_wp2
    go_ret
    exact ⟨rfl, Below.refl _ w⟩
  · have h1z : ¬ (127 : Int) < (kk.size : Int) := by omega
    cases b2 with
    | true =>
      obtain rfl : r = true := by rw [← Hr.out, decide_eq_false h1]; rfl
      clear Hr h1
      go_enter Tryd.func69, Tryd.ntmps69
      go_wp2_with (go_at_call 81; refine (hz.out _).mono ?_; rintro e w1 ⟨rfl, rfl⟩)
      go_ret
      exact ⟨rfl, Below.refl _ _⟩
    | false =>
      have hr2 : ((d.take i).map Prod.fst).any (fun x => decide (x = kk)) = r := by have h := Hr.out; rw [decide_eq_false h1] at h; simpa using h
      have Hr2 := Lib.hid hr2
      clear Hr h1 hr2
      have Hw : Aside (Below w.heap.size w w) := Below.refl _ w
      go_enter Tryd.func69, Tryd.ntmps69
      go_wp2_with (go_at_call 81; refine (hz.out _).mono ?_; rintro e w1 ⟨rfl, hw1⟩; subst w1)
      go_loopg [6] i (fun f s6 wr => ∃ j : Nat, s6 = .int .i64 j ∧ j ≤ i ∧ i ≤ f + j ∧ wr = w ∧ Aside (((d.take j).map Prod.fst).any (fun x => decide (x = kk)) = false))
      case atStart => exact ⟨0, rfl, Nat.zero_le _, Nat.le_refl _, by first | rfl | assumption, rfl⟩
      case round =>
        obtain ⟨j, rfl, hj, hf, rfl, HI⟩ := hrel
        by_cases hjl : j < i
        · have hjd : j < d.length := by have := Hdl.out; omega
          obtain ⟨lb', lo', z, h3, h4', h5, hkz, h6⟩ := HD.out.pair hjd
          have eb : lb' = lb ∧ lo' = lo := by injection h3 with h3; injection h3 with h3 h3'; exact ⟨h3.symm, h3'.symm⟩
          obtain ⟨rfl, rfl⟩ := eb
          have f0 : wr.cell? ⟨lb', lo' + j * 7, none⟩ = some (.string z.key) := h5.1
          by_cases heq : z.key = kk
          · have hre : Hid (r = true) := Lib.hid (by
              rw [← Hr2.out, List.any_eq_true]
              refine ⟨z.key, List.mem_map.2 ⟨d[j], ?_, hkz.symm⟩, decide_eq_true heq⟩
              exact List.mem_take_iff_getElem.2 ⟨j, by omega, rfl⟩)
            have hke : z.key.toList = kk.toList := by rw [heq]
            clear h5 h6 hkz heq
            go_wp2
            go_ret
            exact ⟨by rw [hre.out]; rfl, Below.refl _ _⟩
          · have Hnew : Aside (((d.take (j + 1)).map Prod.fst).any (fun x => decide (x = kk)) = false) := by
              show _ = _
              rw [any_snoc_key d j hjd, HI.out, ← hkz, decide_eq_false heq]; rfl
            obtain ⟨zz, hzz⟩ : ∃ zz, z.key = zz := ⟨_, rfl⟩
            rw [hzz] at f0 heq
            have hke : ¬ zz.toList = kk.toList := by intro e; apply heq; rw [ByteArray.toList_eq, ByteArray.toList_eq] at e; rcases zz with ⟨⟨a⟩⟩; rcases kk with ⟨⟨b⟩⟩; simpa using e
            have hke2 : (zz.toList == kk.toList) = false := by simpa using hke
            have hke3 : decide (zz.toList = kk.toList) = false := decide_eq_false hke
            have hke4 : (zz.toList != kk.toList) = true := by rw [bne, hke2]; rfl
            clear h5 h6 hkz heq hzz
            go_wp2
            go_roundg (i - (j + 1))
            case measure => omega
            case rel => exact ⟨j + 1, by go_num, by omega, by omega, rfl, Hnew⟩
        · have hji : j = i := by omega
          have hre : Hid (r = false) := Lib.hid (by rw [← Hr2.out, ← hji]; exact HI.out)
          go_wp2
          go_ret
          exact ⟨by rw [hre.out]; rfl, Below.refl _ _⟩
end
end Go.Proofs.YtljgjjbmgjfbcaaDoor
/-
  Rows of values that a call makes: they grow, and are read.
-/
namespace Go.Proofs.YtljgjjbmgjfbcaaDoor
section
open Go.RowKit
set_option maxRecDepth 100000

theorem infoV : (Tryd.prog.info? 25).map (fun i => (i.zero, i.size, i.bytes)) = some (some (.agg #[.int .i64 0, .int .i64 0, .int .i64 0, .string ⟨#[]⟩, .slice none 0 0, .slice none 0 0]), 6, 88) := by kernel_rfl
def flatV (xs : List Hv) : List Value := xs.flatMap fun x => x.cells
theorem flatV_snoc (xs : List Hv) (x : Hv) : flatV (xs ++ [x]) = flatV xs ++ x.cells := by simp [flatV]
theorem flatV_at : ∀ (xs : List Hv) (i : Nat) (x : Hv), xs[i]? = some x → ((flatV xs).drop (i * 6)).take 6 = x.cells
  | [], i, x, h => by simp at h
  | y :: r, 0, x, h => by simp at h; subst h; rfl
  | y :: r, i + 1, x, h => by
    have := flatV_at r i x (by simpa using h)
    rw [show flatV (y :: r) = y.cells ++ flatV r from rfl, show (i + 1) * 6 = y.cells.length + i * 6 by rw [show y.cells.length = 6 from rfl]; omega, ← List.drop_drop, List.drop_left]
    exact this
theorem Hv.one (x : Hv) : ∀ u ∈ x.cells, u.oneCell' = true := by
  intro u hu
  simp only [Hv.cells, List.mem_cons, List.not_mem_nil, or_false] at hu
  rcases hu with rfl | rfl | rfl | rfl | rfl | rfl <;> rfl

/-- A row of the call's own. -/
def OwnV (w : World) (B : Nat) (p : Option Addr) (cap : Nat) (xs : List Hv) : Prop := w.ownsRow B 25 6 (.slice p xs.length cap) xs.length (flatV xs)
theorem OwnV.void (w : World) (B : Nat) : OwnV w B none 0 [] := World.ownsRow_nil w B _ _
theorem OwnV.made (w : World) {B : Nat} (hB : B ≤ w.heap.size) : OwnV (w.alloc (.cells #[] 25)) B (some ⟨w.heap.size, 0, none⟩) 0 [] := World.ownsRow_made w #[] 0 hB (by decide) rfl
theorem OwnV.keep {w w' : World} {B : Nat} {p : Option Addr} {cap : Nat} {xs : List Hv} (h : OwnV w B p cap xs) (hk : ∀ a, p = some a → w'.heap[a.block]? = w.heap[a.block]?) : OwnV w' B p cap xs := by
  refine ⟨h.1, ?_⟩
  rcases h.2 with h2 | ⟨g, c, cur, hv, hB, hg, hr⟩
  · exact .inl h2
  · have hp : p = some ⟨g, 0, none⟩ := by injection hv
    exact .inr ⟨g, c, cur, hv, hB, (hk _ hp).trans hg, hr⟩
theorem OwnV.lt {w : World} {B : Nat} {p : Option Addr} {cap : Nat} {xs : List Hv} (h : OwnV w B p cap xs) : ∀ a, p = some a → B ≤ a.block ∧ a.block < w.heap.size := by
  intro a ha
  exact World.ownsRow.lt h a.block (by rw [ha]; rfl)
theorem OwnV.later {w w' : World} {B : Nat} {p : Option Addr} {cap : Nat} {xs : List Hv} (h : OwnV w B p cap xs) (hb : Below w.heap.size w w') : OwnV w' B p cap xs := h.keep fun a ha => hb.block _ (h.lt a ha).2
theorem OwnV.alloc {w : World} {B : Nat} {p : Option Addr} {cap : Nat} {xs : List Hv} (h : OwnV w B p cap xs) (o : Obj) : OwnV (w.alloc o) B p cap xs := h.later ((Below.refl _ w).alloc (Nat.le_refl _) _)
theorem OwnV.push {w w' : World} {B : Nat} {p : Option Addr} {cap : Nat} {xs : List Hv} {o : Obj} (h : OwnV w B p cap xs) (e : w'.heap = w.heap.push o) : OwnV w' B p cap xs := h.keep fun a ha => push_old e (h.lt a ha).2
theorem OwnV.form {w : World} {B : Nat} {p : Option Addr} {cap : Nat} {xs : List Hv} (h : OwnV w B p cap xs) : (xs.length ≤ cap ∧ cap ≤ maxLen) ∧ ∃ g, (xs.length ≠ 0 → p = some ⟨g, 0, none⟩ ∧ B ≤ g) ∧ ∀ i (hi : i < xs.length), HvAt w g (0 + i * 6) (xs[i]) := by
  rcases h.2 with ⟨h2, h3⟩ | ⟨g, c, cur, hv, hB, hg, hn, hm, hs, ht⟩
  · injection h2 with e1 e2 e3
    exact ⟨⟨by omega, by rw [e3]; exact Nat.zero_le _⟩, 0, fun h => absurd e2 h, fun i hi => absurd hi (by omega)⟩
  · injection hv with e1 e2 e3
    subst e3
    refine ⟨⟨hn, hm⟩, g, fun _ => ⟨e1, hB⟩, fun i hi => ?_⟩
    have hx := flatV_at xs i xs[i] (List.getElem?_eq_getElem hi)
    rw [← ht, List.drop_take, List.take_take, Nat.min_eq_left (by omega)] at hx
    have hc : ∀ j, j < 6 → w.cell? ⟨g, i * 6 + j, none⟩ = (xs[i]).cells[j]? := fun j hj => by
      rw [← hx, List.getElem?_take_of_lt hj, List.getElem?_drop]
      unfold World.cell?
      simp only [hg]
      simp
    simp only [Nat.zero_add]
    exact ⟨hc 0 (by decide), hc 1 (by decide), hc 2 (by decide), hc 3 (by decide), hc 4 (by decide), hc 5 (by decide)⟩
theorem OwnV.at {w : World} {B : Nat} {p : Option Addr} {cap : Nat} {xs : List Hv} (h : OwnV w B p cap xs) {i : Nat} (hi : i < xs.length) : ∃ g, p = some ⟨g, 0, none⟩ ∧ B ≤ g ∧ HvAt w g (i * 6) (xs[i]) := by
  obtain ⟨_, g, h1, h2⟩ := h.form
  have h3 := h2 i hi
  rw [Nat.zero_add] at h3
  exact ⟨g, (h1 (by omega)).1, (h1 (by omega)).2, h3⟩

/-- One is put behind them. -/
theorem wpList_append_V {ops : Array Oper} {rest : List Oper} {o : Oper} {a : Act} {w : World} {Q : Exit → Act → World → Prop} (hgd : o.guard = none) (s x : Operand)
    (ho : o.op = .call { callee := .builtin .append, args := #[s, x], argTypes := #[22, 22] })
    (B : Nat) (p : Option Addr) (cap : Nat) (xs : List Hv) (hs : a.eval s = .slice p xs.length cap) (hown : OwnV w B p cap xs) (y : Hv) (b c : Nat) (hx : a.eval x = .slice (some ⟨b, 0, none⟩) 1 c)
    (hy : w.heap[b]? = some (.cells y.arr 25 (0, 0))) (hlen : xs.length ≤ 100000000) (W0 : World) (hb : Below B W0 w) (hB : B ≤ w.heap.size)
    (h : ∀ g cap' w', Hid (OwnV w' B (some ⟨g, 0, none⟩) cap' (xs ++ [y])) → Hid (Below B W0 w') → Hid (∀ k, k < w.heap.size → (∀ q, p = some q → k ≠ q.block) → w'.heap[k]? = w.heap[k]?) → Hid ((p = some ⟨g, 0, none⟩ ∨ g = w.heap.size) ∧ w.heap.size ≤ w'.heap.size) →
      wpList Tryd.prog ops Q rest (a.put o.dst (.slice (some ⟨g, 0, none⟩) (xs.length + 1) cap')) w') : wpList Tryd.prog ops Q (o :: rest) a w := by
  obtain ⟨i0, hi, hz0, hz1, hz2⟩ := info_parts infoV
  refine wpList_append_lies w hgd s x 22 ho B 25 i0 _ 6 88 Tryd.underlying22 hi hz0 hz1 hz2 rfl (by decide) _ _ _ hs hown ⟨b, 0, none⟩ 1 c y.cells hx rfl (fun j u hu => World.news_of_block hy j u (by rw [show y.arr.toList = y.cells from rfl]; exact hu)) y.one (by decide) (by unfold maxLen; omega) (by omega) hB _ rfl ?_
  intro g' cap' w' hown' hgrow hat hlt
  have e : xs.length + 1 = (xs ++ [y]).length := by rw [List.length_append]; rfl
  refine h g' cap' w' (Lib.hid ?_) (Lib.hid (hb.grown hgrow hB (fun k ek => (World.ownsRow.lt hown k ek).1))) (Lib.hid fun k hk hne => hgrow.block k hk (fun e => ?_)) (Lib.hid ⟨?_, hgrow.size⟩)
  · unfold OwnV
    rw [flatV_snoc, ← e]
    exact hown'
  · cases p with
    | none => cases e
    | some q => exact hne q rfl (by injection e with e)
  · rcases hat with hat | hat
    · left
      rcases hown.2 with ⟨h2, _⟩ | ⟨g2, c2, cur, hv, _⟩
      · rw [h2] at hat; cases hat
      · injection hv with e1 _ _
        rw [e1] at hat ⊢
        have : g2 = g' := by injection hat
        rw [this]
    · exact .inr hat

/-- A row of the call's own whose values are read: none of them from the row itself. -/
def RowV (w : World) (B : Nat) (p : Option Addr) (cap : Nat) (xs : List Hv) (vs : List Val) : Prop :=
  OwnV w B p cap xs ∧ xs.length = vs.length ∧ ∀ i (h : i < xs.length) (h' : i < vs.length), Rd w (fun k => (B ≤ k ∧ ∀ a, p = some a → k ≠ a.block) ∧ k < w.heap.size) (xs[i]) (vs[i])
theorem RowV.void (w : World) (B : Nat) : RowV w B none 0 [] [] := ⟨OwnV.void w B, rfl, fun _ h => absurd h (Nat.not_lt_zero _)⟩
theorem RowV.made (w : World) {B : Nat} (hB : B ≤ w.heap.size) : RowV (w.alloc (.cells #[] 25)) B (some ⟨w.heap.size, 0, none⟩) 0 [] [] := ⟨OwnV.made w hB, rfl, fun _ h => absurd h (Nat.not_lt_zero _)⟩
theorem RowV.later {w w' : World} {B : Nat} {p : Option Addr} {cap : Nat} {xs : List Hv} {vs : List Val} (h : RowV w B p cap xs vs) (hb : Below w.heap.size w w') : RowV w' B p cap xs vs :=
  ⟨h.1.later hb, h.2.1, fun i h1 h2 => ((h.2.2 i h1 h2).later (fun k hk => hb.block k hk.2)).mono (fun _ hk => ⟨hk.1, Nat.lt_of_lt_of_le hk.2 hb.size⟩)⟩
/-- What the row holds, read. -/
theorem RowV.read {w : World} {B : Nat} {p : Option Addr} {cap : Nat} {xs : List Hv} {vs : List Val} (h : RowV w B p cap xs vs) : RdL w (fun k => B ≤ k) ⟨p, xs.length, cap⟩ vs := by
  obtain ⟨h1, g, h2, h3⟩ := h.1.form
  refine ⟨h.2.1, h1, g, 0, fun i => (xs[i]?).getD .nil, h2, fun i hi => ?_, fun i hi => ?_⟩
  · have hi' : i < xs.length := by rw [h.2.1]; exact hi
    dsimp only
    rw [List.getElem?_eq_getElem hi']
    exact h3 i hi'
  · have hi' : i < xs.length := by rw [h.2.1]; exact hi
    dsimp only
    rw [List.getElem?_eq_getElem hi']
    exact (h.2.2 i hi' hi).mono (fun _ hk => hk.1.1)
/-- Behind an append. -/
theorem RowV.snoc {w w' w0 : World} {B : Nat} {p : Option Addr} {cap : Nat} {xs : List Hv} {vs : List Val} (h : RowV w0 B p cap xs vs) (hb : Below w0.heap.size w0 w) {g cap' : Nat} {y : Hv} {u : Val}
    (hy : Rd w (fun k => w0.heap.size ≤ k) y u) (hB0 : B ≤ w0.heap.size) (h1 : OwnV w' B (some ⟨g, 0, none⟩) cap' (xs ++ [y])) (h2 : ∀ k, k < w.heap.size → (∀ q, p = some q → k ≠ q.block) → w'.heap[k]? = w.heap[k]?) (h3 : (p = some ⟨g, 0, none⟩ ∨ g = w.heap.size) ∧ w.heap.size ≤ w'.heap.size) :
    RowV w' B (some ⟨g, 0, none⟩) cap' (xs ++ [y]) (vs ++ [u]) := by
  have hpl := h.1.lt
  have hsz := hb.size
  refine ⟨h1, by rw [List.length_append, List.length_append, h.2.1]; rfl, fun i hi hi' => ?_⟩
  have hS : ∀ k, (B ≤ k ∧ ∀ a, p = some a → k ≠ a.block) ∧ k < w.heap.size → (B ≤ k ∧ ∀ a, (some ⟨g, 0, none⟩ : Option Addr) = some a → k ≠ a.block) ∧ k < w'.heap.size := fun k hk => by
    refine ⟨⟨hk.1.1, fun a ha => ?_⟩, by have := h3.2; omega⟩
    injection ha with ha
    subst ha
    rcases h3.1 with e | e
    · exact hk.1.2 _ e
    · show k ≠ g
      omega
  rcases Nat.lt_or_ge i xs.length with hlt | hge
  · have hlt' : i < vs.length := by rw [← h.2.1]; exact hlt
    rw [List.getElem_append_left hlt, List.getElem_append_left hlt']
    have h4 := h.2.2 i hlt hlt'
    exact ((h4.later (fun k hk => hb.block k hk.2)).mono (fun k hk => (⟨hk.1, by omega⟩ : _ ∧ k < w.heap.size))).later (fun k hk => h2 k hk.2 hk.1.2) |>.mono hS
  · obtain rfl : i = xs.length := by rw [List.length_append] at hi; simp at hi; omega
    rw [List.getElem_append_right (Nat.le_refl _), List.getElem_append_right (by rw [h.2.1]; exact Nat.le_refl _)]
    exact by simpa [h.2.1] using ((hy.bound.mono (fun k hk => (⟨⟨by omega, fun a ha => by have := (hpl a ha).2; omega⟩, hk.2⟩ : (B ≤ k ∧ ∀ a, p = some a → k ≠ a.block) ∧ k < w.heap.size))).later (fun k hk => h2 k hk.2 hk.1.2)).mono hS
end
end Go.Proofs.YtljgjjbmgjfbcaaDoor
/-
  A row of a call's own to which all elements of another slice are appended.
-/
namespace Go.Proofs.YtljgjjbmgjfbcaaDoor
section
open Go.RowKit
set_option maxRecDepth 100000

theorem wpList_append_all {P : Program} {ops : Array Oper} {rest : List Oper} {o : Oper} {a : Act} {w : World} {Q : Exit → Act → World → Prop} (hgd : o.guard = none) (s x : Operand) (t : TypeId)
    (ho : o.op = .call { callee := .builtin .append, args := #[s, x], argTypes := #[t, t] })
    (base : Nat) (e : TypeId) (i : TypeInfo) (z : Value) (size bytes : Nat) (ht : P.underlying t = some (.slice e)) (hi : P.info? e = some i) (hz : i.zero = some z)
    (hsize : i.size = size) (hby : i.bytes = bytes) (hzs : z.cells.size = size) (hsz : 0 < size)
    (p : Option Addr) (n cap : Nat) (xs : List Value) (hs : a.eval s = .slice p n cap) (hle : n ≤ cap) (hown : w.ownsRow base e size (.slice p n cap) n xs)
    (q : Option Addr) (m c : Nat) (news : List Value) (hx : a.eval x = .slice q m c) (hl : news.length = m * size) (hq : 0 < m → ∃ ad, q = some ad ∧ ∀ j u, news[j]? = some u → w.cell? (ad.add j) = some u) (h1 : ∀ u ∈ news, u.oneCell' = true)
    (h63 : n + m ≤ maxLen) (hbytes : (n + m) * bytes ≤ 140737488355328) (hbase : base ≤ w.heap.size)
    (h : ∀ p' cap' w', w'.ownsRow base e size (.slice p' (n + m) cap') (n + m) (xs ++ news) → w.grownBy w' (Value.slice p n cap).ownBlock → (p' = p ∨ ∃ g, p' = some ⟨g, 0, none⟩ ∧ ((Value.slice p n cap).ownBlock = some g ∨ g = w.heap.size)) → wpList P ops Q rest (a.put o.dst (.slice p' (n + m) cap')) w') : wpList P ops Q (o :: rest) a w := by
  rcases Nat.eq_zero_or_pos m with h0 | hm
  · subst h0
    obtain rfl : news = [] := List.eq_nil_of_length_eq_zero (by simpa using hl)
    refine wpList_plain hgd fun K hK => ?_
    have hsrc : Src P i.size t (.slice q 0 c) 0 [] w := by
      cases q with
      | none => exact Src.ofNil w ht c
      | some ad => exact Src.ofSlice w ht ad 0 c [] (by simp) (fun j u hu => by simp at hu) (fun _ h => by cases h)
    have hrun := run_append_nothing (P := P) w t t o.type e i ht hi p n cap hle (.slice q 0 c) hsrc
    unfold Oper.wp
    simp [execOp, ho, resolve, invoke, builtin, hs, hx, hrun, Result.andThen]
    exact hK _ _ (h p cap w (by simpa using hown) ⟨rfl, rfl, rfl, Nat.le_refl _, fun _ _ _ => rfl⟩ (.inl rfl))
  · obtain ⟨ad, rfl, hnews⟩ := hq hm
    refine wpList_append_lies w hgd s x t ho base e i z size bytes ht hi hz hsize hby hzs hsz _ n xs hs hown ad m c news hx hl hnews h1 hm h63 hbytes hbase _ rfl ?_
    intro g cap' w' hown' hgrow hat _
    exact h _ _ _ hown' hgrow (.inr ⟨g, rfl, hat⟩)

theorem flatP_append (xs ys : List Hp) : flatP (xs ++ ys) = flatP xs ++ flatP ys := by simp [flatP]
theorem flatP_length : ∀ xs : List Hp, (flatP xs).length = xs.length * 7
  | [] => rfl
  | x :: t => by rw [show flatP (x :: t) = x.cells ++ flatP t from rfl, List.length_append, flatP_length t, List.length_cons (a := x)]; have : x.cells.length = 7 := rfl; omega
theorem flatP_one {xs : List Hp} : ∀ u ∈ flatP xs, u.oneCell' = true := fun u hu => by
  obtain ⟨x, _, hx⟩ := List.mem_flatMap.1 hu
  exact x.one u hx
theorem flatP_get : ∀ (xs : List Hp) (j : Nat) (u : Value), (flatP xs)[j]? = some u → ∃ (i r : Nat) (h : i < xs.length), r < 7 ∧ j = i * 7 + r ∧ (xs[i]).cells[r]? = some u
  | [], j, u, h => by simp [flatP] at h
  | x :: t, j, u, h => by
    rw [show flatP (x :: t) = x.cells ++ flatP t from rfl] at h
    rcases Nat.lt_or_ge j 7 with hj | hj
    · rw [List.getElem?_append_left (by exact hj)] at h
      exact ⟨0, j, Nat.zero_lt_succ _, hj, by omega, h⟩
    · rw [List.getElem?_append_right (by exact hj)] at h
      obtain ⟨i, r, hi, hr, e, hc⟩ := flatP_get t _ u h
      exact ⟨i + 1, r, Nat.succ_lt_succ hi, hr, by have : x.cells.length = 7 := rfl; omega, hc⟩
theorem HpAt.cells {w : World} {b o : Nat} {x : Hp} (h : HpAt w b o x) (r : Nat) (u : Value) (hu : x.cells[r]? = some u) (hr : r < 7) : w.cell? ⟨b, o + r, none⟩ = some u := by
  obtain ⟨h0, h1, h2, h3, h4, h5, h6⟩ := h
  match r, hr with
  | 0, _ => rw [← hu]; exact h0
  | 1, _ => rw [← hu]; exact h1
  | 2, _ => rw [← hu]; exact h2
  | 3, _ => rw [← hu]; exact h3
  | 4, _ => rw [← hu]; exact h4
  | 5, _ => rw [← hu]; exact h5
  | 6, _ => rw [← hu]; exact h6
/-- All pairs of a slice are put behind them. -/
theorem wpList_append_Ps {ops : Array Oper} {rest : List Oper} {o : Oper} {a : Act} {w : World} {Q : Exit → Act → World → Prop} (hgd : o.guard = none) (s x : Operand)
    (ho : o.op = .call { callee := .builtin .append, args := #[s, x], argTypes := #[23, 23] })
    (B : Nat) (p : Option Addr) (cap : Nat) (xs : List Hp) (hs : a.eval s = .slice p xs.length cap) (hown : OwnP w B p cap xs) (q : Option Addr) (c : Nat) (ys : List Hp) (hx : a.eval x = .slice q ys.length c)
    (hy : 0 < ys.length → ∃ b off, q = some ⟨b, off, none⟩ ∧ ∀ i (h : i < ys.length), HpAt w b (off + i * 7) (ys[i])) (hlen : xs.length ≤ 100000000) (hlen2 : ys.length ≤ 100000000) (W0 : World) (hb : Below B W0 w) (hB : B ≤ w.heap.size)
    (h : ∀ p' cap' w', Hid (OwnP w' B p' cap' (xs ++ ys)) → Hid (Below B W0 w') → Hid (∀ k, k < w.heap.size → (∀ q, p = some q → k ≠ q.block) → w'.heap[k]? = w.heap[k]?) → Hid (w.heap.size ≤ w'.heap.size) →
      wpList Tryd.prog ops Q rest (a.put o.dst (.slice p' (xs.length + ys.length) cap')) w') : wpList Tryd.prog ops Q (o :: rest) a w := by
  obtain ⟨i0, hi, hz0, hz1, hz2⟩ := info_parts infoP
  refine wpList_append_all hgd s x 23 ho B 41 i0 _ 7 104 Tryd.underlying23 hi hz0 hz1 hz2 rfl (by decide) p xs.length cap _ hs hown.form.1.1 hown q ys.length c (flatP ys) hx (flatP_length ys) (fun hm => ?_) flatP_one (by unfold maxLen; omega) (by omega) hB ?_
  · obtain ⟨b, off, e, hc⟩ := hy hm
    refine ⟨_, e, fun j u hu => ?_⟩
    obtain ⟨i, r, hi, hr, ej, hcu⟩ := flatP_get ys j u hu
    rw [ej]
    have h5 := (hc i hi).cells r u hcu hr
    rw [Nat.add_assoc] at h5
    unfold Addr.add
    split
    · rename_i h0; rw [h0] at h5; exact h5
    · exact h5
  · intro p' cap' w' hown' hgrow hat
    have e : xs.length + ys.length = (xs ++ ys).length := by rw [List.length_append]
    refine h p' cap' w' (Lib.hid ?_) (Lib.hid (hb.grown hgrow hB (fun k ek => (World.ownsRow.lt hown k ek).1))) (Lib.hid fun k hk hne => hgrow.block k hk (fun e => ?_)) (Lib.hid hgrow.size)
    · unfold OwnP
      rw [flatP_append, ← e]
      exact hown'
    · cases p with
      | none => cases e
      | some q => exact hne q rfl (by injection e with e)
/-- A row that was made of one. -/
theorem OwnP.one {w : World} {B : Nat} (hB : B ≤ w.heap.size) (x : Hp) : OwnP (w.alloc (.cells x.arr 41)) B (some ⟨w.heap.size, 0, none⟩) 1 [x] := by
  refine ⟨by simp [flatP], .inr ⟨w.heap.size, 1, x.arr, rfl, hB, heap_alloc_new w _, Nat.le_refl _, by decide, rfl, ?_⟩⟩
  rfl
end
end Go.Proofs.YtljgjjbmgjfbcaaDoor
