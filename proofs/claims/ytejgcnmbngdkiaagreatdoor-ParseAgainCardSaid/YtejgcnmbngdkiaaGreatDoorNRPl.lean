/-
  VPut, VRPairs, VRPlainL, VRPlainD, VRPlainS, VRPlain, VRWith: texts merged.
-/
import Derived.Test.YtejgcnmbngdkiaaGreatDoorNMem
import Derived.Test.YtejgcnmbngdkiaaGreatDoorNVal
import Derived.Test.YtejgcnmbngdkiaaGreatDoorNEl
/-
  The document's answer: a pair among pairs that rise.
-/
namespace Go.Proofs.YtejgcnmbngdkiaaGreatDoor
section
open Go.RowKit
set_option maxRecDepth 100000

/-- As far as i pairs were looked at: what stands in the new row, and whether the new pair stands there. -/
theorem insP_split (p : ByteArray × Val) : ∀ (d : Prs), insP p d = d.takeWhile (fun q => !kLt p.1 q.1) ++ p :: d.dropWhile (fun q => !kLt p.1 q.1)
  | [] => rfl
  | q :: t => by
    rw [insP]
    by_cases h : kLt p.1 q.1 = true
    · rw [if_pos h, List.takeWhile_cons, List.dropWhile_cons]; simp [h]
    · have h' : kLt p.1 q.1 = false := by simpa using h
      rw [if_neg h, List.takeWhile_cons, List.dropWhile_cons, insP_split p t]; simp [h']
/-- The row behind i pairs. -/
def midP (p : ByteArray × Val) (l : Prs) : Bool → Prs
  | true => insP p l
  | false => l
/-- Has the new pair been put? -/
def doneP (p : ByteArray × Val) (l : Prs) : Bool := l.any (fun q => kLt p.1 q.1)
theorem insP_snoc (p q : ByteArray × Val) : ∀ (l : Prs), doneP p l = true → insP p (l ++ [q]) = insP p l ++ [q]
  | [], h => by simp [doneP] at h
  | r :: t, h => by
    rw [List.cons_append, insP, insP]
    by_cases h1 : kLt p.1 r.1 = true
    · rw [if_pos h1, if_pos h1]; rfl
    · rw [if_neg h1, if_neg h1, insP_snoc p q t (by unfold doneP at h ⊢; simpa [h1] using h)]; rfl
theorem insP_put (p q : ByteArray × Val) : ∀ (l : Prs), doneP p l = false → kLt p.1 q.1 = true → insP p (l ++ [q]) = l ++ [p] ++ [q]
  | [], _, h => by rw [List.nil_append, insP, if_pos h]; rfl
  | r :: t, h, h2 => by
    unfold doneP at h
    rw [List.any_cons, Bool.or_eq_false_iff] at h
    rw [List.cons_append, insP, if_neg (by rw [h.1]; decide), insP_put p q t h.2 h2]; rfl
theorem insP_end (p : ByteArray × Val) : ∀ (l : Prs), doneP p l = false → insP p l = l ++ [p]
  | [], _ => rfl
  | r :: t, h => by
    unfold doneP at h
    rw [List.any_cons, Bool.or_eq_false_iff] at h
    rw [insP, if_neg (by rw [h.1]; decide), insP_end p t h.2]; rfl

/-- Pairs as the program holds them are these. -/
def AllIs (w : World) (S : Nat → Prop) : List Hp → Prs → Prop
  | [], [] => True
  | x :: xs, p :: ps => (x.key = p.1 ∧ Rd w S x.v p.2) ∧ AllIs w S xs ps
  | _, _ => False
theorem AllIs.len {w : World} {S : Nat → Prop} : ∀ {xs : List Hp} {ps : Prs}, AllIs w S xs ps → xs.length = ps.length
  | [], [], _ => rfl
  | _ :: xs, _ :: ps, h => by rw [List.length_cons, List.length_cons, h.2.len]
  | [], _ :: _, h => h.elim
  | _ :: _, [], h => h.elim
theorem AllIs.snoc {w : World} {S : Nat → Prop} {x : Hp} {p : ByteArray × Val} (hx : x.key = p.1 ∧ Rd w S x.v p.2) : ∀ {xs : List Hp} {ps : Prs}, AllIs w S xs ps → AllIs w S (xs ++ [x]) (ps ++ [p])
  | [], [], _ => ⟨hx, trivial⟩
  | _ :: _, _ :: _, h => ⟨h.1, h.2.snoc hx⟩
  | [], _ :: _, h => h.elim
  | _ :: _, [], h => h.elim
theorem AllIs.at {w : World} {S : Nat → Prop} : ∀ {xs : List Hp} {ps : Prs}, AllIs w S xs ps → ∀ i (h : i < xs.length) (h' : i < ps.length), (xs[i]).key = (ps[i]).1 ∧ Rd w S (xs[i]).v (ps[i]).2
  | _ :: _, _ :: _, h, 0, _, _ => h.1
  | _ :: _, _ :: _, h, i + 1, h1, h2 => h.2.at i (by simpa using h1) (by simpa using h2)
  | [], _ :: _, h, _, _, _ => h.elim
  | _ :: _, [], h, _, _, _ => h.elim
/-- Such pairs, in a row of the call's own. -/
theorem AllIs.read {w w' : World} {S : Nat → Prop} {B : Nat} {q : Option Addr} {cap : Nat} {xs : List Hp} {ps : Prs} (h : AllIs w S xs ps) (hS : ∀ k, S k → w'.heap[k]? = w.heap[k]?) (ho : OwnP w' B q cap xs) (N : Nat) (hB : N ≤ B) :
    RdD w' (fun k => S k ∨ N ≤ k) ⟨q, xs.length, cap⟩ ps := by
  obtain ⟨h1, g, h2, h3⟩ := ho.form
  refine ⟨h.len, h1, g, 0, fun i => (xs[i]?).getD ⟨⟨#[]⟩, .nil⟩, fun e => ⟨(h2 e).1, .inr (Nat.le_trans hB (h2 e).2)⟩, fun i hi => ?_, fun i hi => ?_⟩
  · have hi' : i < xs.length := by rw [h.len]; exact hi
    dsimp only
    rw [List.getElem?_eq_getElem hi']
    exact h3 i hi'
  · have hi' : i < xs.length := by rw [h.len]; exact hi
    dsimp only
    rw [List.getElem?_eq_getElem hi']
    exact ⟨(h.at i hi' hi).1, ((h.at i hi' hi).2.later hS).mono (fun _ hk => .inl hk)⟩
theorem RdD.pair {w : World} {S : Nat → Prop} {sl : Sl} {d : Prs} (h : RdD w S sl d) {i : Nat} (hi : i < d.length) : ∃ (b o : Nat) (y : Hp), sl.p = some ⟨b, o, none⟩ ∧ S b ∧ HpAt w b (o + i * 7) y ∧ y.key = (d[i]).1 ∧ Rd w S y.v (d[i]).2 := by
  obtain ⟨b, o, y, _, h1⟩ := RdD.at (p := sl.p) (len := sl.len) (cap := sl.cap) h (i := i) (by rw [h.1]; exact hi)
  exact ⟨b, o, y, h1⟩
theorem bl_toList (a b : ByteArray) : Op.bytesLess a.toList b.toList = kLt a b := by unfold kLt; rw [ByteArray.toList_eq, ByteArray.toList_eq]
theorem eq_toList (a b : ByteArray) : (a.toList == b.toList) = decide (a = b) := by
  rw [ByteArray.toList_eq, ByteArray.toList_eq]
  rcases a with ⟨⟨a⟩⟩; rcases b with ⟨⟨b⟩⟩
  by_cases h : a = b
  · subst h; simp
  · simp [h]
theorem doneP_snoc (p q : ByteArray × Val) (l : Prs) : doneP p (l ++ [q]) = (doneP p l || kLt p.1 q.1) := by unfold doneP; simp
theorem hasK_snoc (k : ByteArray) (q : ByteArray × Val) (l : Prs) : hasK k (l ++ [q]) = (hasK k l || decide (q.1 = k)) := by unfold hasK; simp

end
end Go.Proofs.YtejgcnmbngdkiaaGreatDoor
/-
  The document's answer: pairs, plainly.
-/
namespace Go.Proofs.YtejgcnmbngdkiaaGreatDoor
section
open Go.RowKit
set_option maxRecDepth 100000

theorem insP_length (p : ByteArray × Val) : ∀ d : Prs, (insP p d).length = d.length + 1
  | [] => rfl
  | q :: t => by rw [insP]; split; rfl; rw [List.length_cons, insP_length p t]; rfl
theorem putP_length (d : Prs) (p : ByteArray × Val) : (putP d p).length ≤ d.length + 1 := by unfold putP; split; omega; rw [insP_length]; omega
theorem fold_length : ∀ (l a : Prs), (l.foldl putP a).length ≤ a.length + l.length
  | [], a => by simp
  | p :: t, a => by rw [List.foldl_cons, List.length_cons]; have := fold_length t (putP a p); have := putP_length a p; omega
theorem plainD_length (d : Prs) : (plainD d).length = d.length := by rw [plainD_map]; simp [mapD]
theorem plainD_at {d : Prs} {i : Nat} (h : i < d.length) : (plainD d)[i]'(by rw [plainD_length]; exact h) = ((d[i]).1, plainV (d[i]).2) := by
  have e := plainD_map d
  simp only [e]
  simp [mapD]

end
end Go.Proofs.YtejgcnmbngdkiaaGreatDoor
/-
  The document's answer: a value, plainly.
-/
namespace Go.Proofs.YtejgcnmbngdkiaaGreatDoor
section
open Go.RowKit
set_option maxRecDepth 100000
attribute [local go_sem] Hv.arr

end
end Go.Proofs.YtejgcnmbngdkiaaGreatDoor
/-
  The document's answer: a value, plainly.
-/
namespace Go.Proofs.YtejgcnmbngdkiaaGreatDoor
section
open Go.RowKit
set_option maxRecDepth 100000
attribute [local go_sem] Hv.arr

end
end Go.Proofs.YtejgcnmbngdkiaaGreatDoor
/-
  The document's answer: a value, plainly.
-/
namespace Go.Proofs.YtejgcnmbngdkiaaGreatDoor
section
open Go.RowKit
set_option maxRecDepth 100000
attribute [local go_sem] Hv.arr

end
end Go.Proofs.YtejgcnmbngdkiaaGreatDoor
/-
  The document's answer: a value, plainly.
-/
namespace Go.Proofs.YtejgcnmbngdkiaaGreatDoor
section
open Go.RowKit
set_option maxRecDepth 100000
attribute [local go_sem] Hv.arr

end
end Go.Proofs.YtejgcnmbngdkiaaGreatDoor
/-
  The document's answer: a value with another one under a key.
-/
namespace Go.Proofs.YtejgcnmbngdkiaaGreatDoor
section
open Go.RowKit
set_option maxRecDepth 100000

attribute [local go_sem] Hv.arr
/-- Pairs in memory, as a list. -/
theorem RdD.list {w : World} {S : Nat → Prop} {p : Option Addr} {len cap : Nat} {d : Prs} (h : RdD w S ⟨p, len, cap⟩ d) :
    ∃ ys : List Hp, ys.length = len ∧ ys.length = d.length ∧ (0 < ys.length → ∃ b off, p = some ⟨b, off, none⟩ ∧ S b ∧ ∀ i (hi : i < ys.length), HpAt w b (off + i * 7) (ys[i])) ∧
      ∀ i (hi : i < ys.length) (hi' : i < d.length), (ys[i]).key = (d[i]).1 ∧ Rd w S (ys[i]).v (d[i]).2 := by
  obtain ⟨h1, h2, b, o, ds, h3, h4, h5⟩ := h
  dsimp only at h1 h2 h3
  refine ⟨(List.range len).map ds, by simp, by simpa using h1, fun hp => ?_, fun i hi hi' => ?_⟩
  · rw [List.length_map, List.length_range] at hp
    obtain ⟨e, hb⟩ := h3 (by omega)
    refine ⟨b, o, e, hb, fun i hi => ?_⟩
    rw [List.getElem_map, List.getElem_range]
    exact h4 i (by simp at hi; omega)
  · rw [List.getElem_map, List.getElem_range]
    exact h5 i hi'
/-- A row of the call's own whose pairs are read anywhere in memory. -/
theorem OwnP.read {w : World} {B : Nat} {p : Option Addr} {cap : Nat} {xs : List Hp} {vs : Prs} (h : OwnP w B p cap xs) (hl : xs.length = vs.length)
    (hr : ∀ i (hi : i < xs.length) (hi' : i < vs.length), (xs[i]).key = (vs[i]).1 ∧ Rd w (fun k => k < w.heap.size) (xs[i]).v (vs[i]).2) : RdD w (fun k => k < w.heap.size) ⟨p, xs.length, cap⟩ vs := by
  obtain ⟨h1, g, h2, h3⟩ := h.form
  refine ⟨hl, h1, g, 0, fun i => (xs[i]?).getD ⟨⟨#[]⟩, .nil⟩, fun hn => ?_, fun i hi => ?_, fun i hi => ?_⟩
  · have h4 := (h2 hn).1
    exact ⟨h4, (h.lt _ h4).2⟩
  · have hi' : i < xs.length := by rw [hl]; exact hi
    dsimp only
    rw [List.getElem?_eq_getElem hi']
    exact h3 i hi'
  · have hi' : i < xs.length := by rw [hl]; exact hi
    dsimp only
    rw [List.getElem?_eq_getElem hi']
    exact hr i hi' hi

/-- The new pair ahead of a value's own. -/
theorem with_rows {w3 w5 : World} {S : Nat → Prop} {B : Nat} {p : Option Addr} {cap : Nat} {key : ByteArray} {y : Hv} {u v : Val} {ys : List Hp} (hO : OwnP w5 B p cap ([⟨key, y⟩] ++ ys)) (hyd : ys.length = v.d.length)
    (hold : ∀ k, S k → w5.heap[k]? = w3.heap[k]?) (hS : ∀ k, S k → k < w3.heap.size) (hsz : w3.heap.size ≤ w5.heap.size)
    (hyr : ∀ i (hi : i < ys.length) (hi' : i < v.d.length), (ys[i]).key = (v.d[i]).1 ∧ Rd w3 S (ys[i]).v (v.d[i]).2) (hu : Rd w3 S y u) : RdD w5 (fun k => k < w5.heap.size) ⟨p, 1 + ys.length, cap⟩ ((key, u) :: v.d) := by
  have hm : ∀ k, S k → k < w5.heap.size := fun k hk => Nat.lt_of_lt_of_le (hS k hk) hsz
  have h := hO.read (vs := (key, u) :: v.d) (by simp [hyd]) (fun i hi hi' => by
    cases i with
    | zero => exact ⟨rfl, (hu.later hold).mono hm⟩
    | succ i =>
      have h2 := hyr i (by simp at hi; omega) (by simp at hi'; omega)
      exact ⟨h2.1, (h2.2.later hold).mono hm⟩)
  rw [List.length_append] at h
  exact h

/-- Boxes for a value, another one, and the result. -/
theorem boxes3 {w w1 w2 w3 : World} {x y : Hv} (hw1 : w.alloc (.cells x.arr 25) = w1) (hw2 : w1.alloc (.cells y.arr 25) = w2) (hw3 : w2.alloc (.cells Hv.nil.arr 25) = w3) :
    w3.heap.size = w.heap.size + 1 + 1 + 1 ∧ Below w.heap.size w w3 ∧ VCell w3 w.heap.size x ∧ VCell w3 (w.heap.size + 1) y ∧ VCell w3 (w.heap.size + 1 + 1) .nil := by
  subst hw1 hw2 hw3
  have hb3 : ∀ (u : World) (o : Obj), Below u.heap.size u (u.alloc o) := fun u o => (Below.refl _ u).alloc (Nat.le_refl _) _
  refine ⟨by simp, (hb3 _ _).trans (((hb3 _ _).trans ((hb3 _ _).mono (by simp))).mono (by simp)), ?_, ?_, ?_⟩
  · exact ((VCell.new w x).later (hb3 _ _) (by simp)).later (hb3 _ _) (by simp; omega)
  · have h := (VCell.new (w.alloc (.cells x.arr 25)) y).later (hb3 _ (.cells Hv.nil.arr 25)) (by simp)
    simpa using h
  · have h := VCell.new ((w.alloc (.cells x.arr 25)).alloc (.cells y.arr 25)) .nil
    simpa using h

end
end Go.Proofs.YtejgcnmbngdkiaaGreatDoor
