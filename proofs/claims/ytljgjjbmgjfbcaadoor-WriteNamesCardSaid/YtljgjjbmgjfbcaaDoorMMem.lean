/-
  VMem, StructRows, VArg, VBase: texts merged.
-/
import Derived.Test.YtljgjjbmgjfbcaaDoorMPlain
import Derived.Test.YtljgjjbmgjfbcaaDoorRows
import Derived.WalkKit
import Derived.ProofKit
import Derived.Below
import Derived.Laws.Tables
import Derived.Lib.Hide
import Derived.Deep.Slices
import Derived.ChangeSame
import Derived.ChangeArms
import Derived.WalkSpells
import Derived.WalkSmall
import Derived.WalkLawsBesides
import Derived.Deep.QuietTactic
import Derived.BigQuiet
import Derived.Deep.LoopGhost
import Derived.OwnWalk
import Derived.Maps.AppendAt
import Derived.RangeFuncBox
import Derived.Deep.AppendLies
import Derived.Deep.RegionLaw
import Derived.Deep.RegionWith
import Derived.Deep.RegionHeld3
import Derived.Sort.Grow
/-
  Values in memory: how the program holds them, and that they stay.
-/
namespace Go.Proofs.YtljgjjbmgjfbcaaDoor
section
open Go.RowKit
set_option autoImplicit false

/-- A slice as the program holds it. -/
structure Sl where
  p : Option Addr
  len : Nat
  cap : Nat
/-- A value as the program holds it, and a pair. -/
structure Hv where
  k : Int
  n : Int
  g : Int
  s : ByteArray
  l : Sl
  d : Sl
structure Hp where
  key : ByteArray
  v : Hv
abbrev Hv.cells (x : Hv) : List Value := [.int .i64 x.k, .int .i64 x.n, .int .i64 x.g, .string x.s, .slice x.l.p x.l.len x.l.cap, .slice x.d.p x.d.len x.d.cap]
abbrev Hp.cells (x : Hp) : List Value := .string x.key :: x.v.cells
def Hv.arr (x : Hv) : Array Value := #[.int .i64 x.k, .int .i64 x.n, .int .i64 x.g, .string x.s, .slice x.l.p x.l.len x.l.cap, .slice x.d.p x.d.len x.d.cap]
def Hp.arr (x : Hp) : Array Value := #[.string x.key, .int .i64 x.v.k, .int .i64 x.v.n, .int .i64 x.v.g, .string x.v.s, .slice x.v.l.p x.v.l.len x.v.l.cap, .slice x.v.d.p x.v.d.len x.v.d.cap]
def Hv.nil : Hv := ⟨0, 0, 0, ⟨#[]⟩, ⟨none, 0, 0⟩, ⟨none, 0, 0⟩⟩

/-- The six cells of a value from a place on. -/
def HvAt (w : World) (b o : Nat) (x : Hv) : Prop :=
  w.cell? ⟨b, o, none⟩ = some (.int .i64 x.k) ∧ w.cell? ⟨b, o + 1, none⟩ = some (.int .i64 x.n) ∧ w.cell? ⟨b, o + 2, none⟩ = some (.int .i64 x.g) ∧
  w.cell? ⟨b, o + 3, none⟩ = some (.string x.s) ∧ w.cell? ⟨b, o + 4, none⟩ = some (.slice x.l.p x.l.len x.l.cap) ∧ w.cell? ⟨b, o + 5, none⟩ = some (.slice x.d.p x.d.len x.d.cap)
def HpAt (w : World) (b o : Nat) (x : Hp) : Prop := w.cell? ⟨b, o, none⟩ = some (.string x.key) ∧ HvAt w b (o + 1) x.v
theorem cell_of_block {w w' : World} {b : Nat} (h : w'.heap[b]? = w.heap[b]?) (o : Nat) : w'.cell? ⟨b, o, none⟩ = w.cell? ⟨b, o, none⟩ := by unfold World.cell?; simp only [h]
theorem HvAt.same {w w' : World} {b o : Nat} {x : Hv} (h : HvAt w b o x) (hb : w'.heap[b]? = w.heap[b]?) : HvAt w' b o x := by
  obtain ⟨h0, h1, h2, h3, h4, h5⟩ := h
  exact ⟨(cell_of_block hb _).trans h0, (cell_of_block hb _).trans h1, (cell_of_block hb _).trans h2, (cell_of_block hb _).trans h3, (cell_of_block hb _).trans h4, (cell_of_block hb _).trans h5⟩
theorem HpAt.same {w w' : World} {b o : Nat} {x : Hp} (h : HpAt w b o x) (hb : w'.heap[b]? = w.heap[b]?) : HpAt w' b o x := ⟨(cell_of_block hb _).trans h.1, h.2.same hb⟩
theorem HvAt.lt {w : World} {b o : Nat} {x : Hv} (h : HvAt w b o x) : b < w.heap.size := by
  rcases Nat.lt_or_ge b w.heap.size with h' | h'
  · exact h'
  · have := h.1; unfold World.cell? at this; simp only [Array.getElem?_eq_none h'] at this; cases this

/-- A value is read from memory: S: the blocks that are read. -/
inductive Rd (w : World) (S : Nat → Prop) : Hv → Val → Prop
  | mk (x : Hv) (v : Val) (lb lo db dof : Nat) (ls : Nat → Hv) (ds : Nat → Hp)
    (hk : x.k = v.kind) (hn : x.n = v.n) (hg : x.g = v.g) (hs : x.s = v.s)
    (hl : x.l.len = v.l.length) (hd : x.d.len = v.d.length) (hlm : x.l.len ≤ x.l.cap ∧ x.l.cap ≤ maxLen) (hdm : x.d.len ≤ x.d.cap ∧ x.d.cap ≤ maxLen)
    (lp : x.l.len ≠ 0 → x.l.p = some ⟨lb, lo, none⟩ ∧ S lb) (dp : x.d.len ≠ 0 → x.d.p = some ⟨db, dof, none⟩ ∧ S db)
    (lc : ∀ i, i < v.l.length → HvAt w lb (lo + i * 6) (ls i)) (lr : ∀ i (h : i < v.l.length), Rd w S (ls i) (v.l[i]))
    (dc : ∀ i, i < v.d.length → HpAt w db (dof + i * 7) (ds i)) (dk : ∀ i (h : i < v.d.length), (ds i).key = (v.d[i]).1)
    (dr : ∀ i (h : i < v.d.length), Rd w S (ds i).v (v.d[i]).2) : Rd w S x v
/-- Elements in memory. -/
def RdL (w : World) (S : Nat → Prop) (sl : Sl) (l : List Val) : Prop :=
  sl.len = l.length ∧ (sl.len ≤ sl.cap ∧ sl.cap ≤ maxLen) ∧ ∃ (b o : Nat) (ls : Nat → Hv), (sl.len ≠ 0 → sl.p = some ⟨b, o, none⟩ ∧ S b) ∧ (∀ i, i < l.length → HvAt w b (o + i * 6) (ls i)) ∧ ∀ i (h : i < l.length), Rd w S (ls i) (l[i])
/-- Pairs in memory. -/
def RdD (w : World) (S : Nat → Prop) (sl : Sl) (d : Prs) : Prop :=
  sl.len = d.length ∧ (sl.len ≤ sl.cap ∧ sl.cap ≤ maxLen) ∧ ∃ (b o : Nat) (ds : Nat → Hp), (sl.len ≠ 0 → sl.p = some ⟨b, o, none⟩ ∧ S b) ∧ (∀ i, i < d.length → HpAt w b (o + i * 7) (ds i)) ∧ ∀ i (h : i < d.length), (ds i).key = (d[i]).1 ∧ Rd w S (ds i).v (d[i]).2
theorem rd_iff {w : World} {S : Nat → Prop} {x : Hv} {v : Val} : Rd w S x v ↔ (x.k = v.kind ∧ x.n = v.n ∧ x.g = v.g ∧ x.s = v.s) ∧ RdL w S x.l v.l ∧ RdD w S x.d v.d := by
  constructor
  · intro h
    cases h with
    | mk _ _ lb lo db dof ls ds hk hn hg hs hl hd hlm hdm lp dp lc lr dc dk dr =>
      exact ⟨⟨hk, hn, hg, hs⟩, ⟨hl, hlm, lb, lo, ls, lp, lc, lr⟩, ⟨hd, hdm, db, dof, ds, dp, dc, fun i h => ⟨dk i h, dr i h⟩⟩⟩
  · rintro ⟨⟨hk, hn, hg, hs⟩, ⟨hl, hlm, lb, lo, ls, lp, lc, lr⟩, ⟨hd, hdm, db, dof, ds, dp, dc, dr⟩⟩
    exact .mk x v lb lo db dof ls ds hk hn hg hs hl hd hlm hdm lp dp lc lr dc (fun i h => (dr i h).1) (fun i h => (dr i h).2)
theorem Rd.later {w w' : World} {S : Nat → Prop} {x : Hv} {v : Val} (h : Rd w S x v) (hb : ∀ k, S k → w'.heap[k]? = w.heap[k]?) : Rd w' S x v := by
  induction h with
  | mk x v lb lo db dof ls ds hk hn hg hs hl hd hlm hdm lp dp lc lr dc dk dr ihl ihd =>
    exact .mk x v lb lo db dof ls ds hk hn hg hs hl hd hlm hdm lp dp (fun i h => (lc i h).same (hb _ (lp (by omega)).2)) ihl (fun i h => (dc i h).same (hb _ (dp (by omega)).2)) dk ihd
theorem Rd.mono {w : World} {S S' : Nat → Prop} {x : Hv} {v : Val} (h : Rd w S x v) (hS : ∀ k, S k → S' k) : Rd w S' x v := by
  induction h with
  | mk x v lb lo db dof ls ds hk hn hg hs hl hd hlm hdm lp dp lc lr dc dk dr ihl ihd =>
    exact .mk x v lb lo db dof ls ds hk hn hg hs hl hd hlm hdm (fun h => ⟨(lp h).1, hS _ (lp h).2⟩) (fun h => ⟨(dp h).1, hS _ (dp h).2⟩) lc ihl dc dk ihd
/-- What is read lies in memory. -/
theorem Rd.bound {w : World} {S : Nat → Prop} {x : Hv} {v : Val} (h : Rd w S x v) : Rd w (fun k => S k ∧ k < w.heap.size) x v := by
  induction h with
  | mk x v lb lo db dof ls ds hk hn hg hs hl hd hlm hdm lp dp lc lr dc dk dr ihl ihd =>
    exact .mk x v lb lo db dof ls ds hk hn hg hs hl hd hlm hdm (fun h => ⟨(lp h).1, (lp h).2, (lc 0 (by omega)).lt⟩) (fun h => ⟨(dp h).1, (dp h).2, (dc 0 (by omega)).2.lt⟩) lc ihl dc dk ihd
theorem RdL.later {w w' : World} {S : Nat → Prop} {sl : Sl} {l : List Val} (h : RdL w S sl l) (hb : ∀ k, S k → w'.heap[k]? = w.heap[k]?) : RdL w' S sl l := by
  obtain ⟨h1, h2, b, o, ls, h3, h4, h5⟩ := h
  exact ⟨h1, h2, b, o, ls, h3, fun i hi => (h4 i hi).same (hb _ (h3 (by omega)).2), fun i hi => (h5 i hi).later hb⟩
theorem RdD.later {w w' : World} {S : Nat → Prop} {sl : Sl} {d : Prs} (h : RdD w S sl d) (hb : ∀ k, S k → w'.heap[k]? = w.heap[k]?) : RdD w' S sl d := by
  obtain ⟨h1, h2, b, o, ls, h3, h4, h5⟩ := h
  exact ⟨h1, h2, b, o, ls, h3, fun i hi => (h4 i hi).same (hb _ (h3 (by omega)).2), fun i hi => ⟨(h5 i hi).1, (h5 i hi).2.later hb⟩⟩
theorem RdL.mono {w : World} {S S' : Nat → Prop} {sl : Sl} {l : List Val} (h : RdL w S sl l) (hS : ∀ k, S k → S' k) : RdL w S' sl l := by
  obtain ⟨h1, h2, b, o, ls, h3, h4, h5⟩ := h
  exact ⟨h1, h2, b, o, ls, fun h => ⟨(h3 h).1, hS _ (h3 h).2⟩, h4, fun i hi => (h5 i hi).mono hS⟩
theorem RdD.mono {w : World} {S S' : Nat → Prop} {sl : Sl} {d : Prs} (h : RdD w S sl d) (hS : ∀ k, S k → S' k) : RdD w S' sl d := by
  obtain ⟨h1, h2, b, o, ls, h3, h4, h5⟩ := h
  exact ⟨h1, h2, b, o, ls, fun h => ⟨(h3 h).1, hS _ (h3 h).2⟩, h4, fun i hi => ⟨(h5 i hi).1, (h5 i hi).2.mono hS⟩⟩
theorem RdL.nil (w : World) (S : Nat → Prop) (p : Option Addr) (c : Nat) (hc : c ≤ maxLen) : RdL w S ⟨p, 0, c⟩ [] := ⟨rfl, ⟨Nat.zero_le _, hc⟩, 0, 0, fun _ => .nil, fun h => absurd rfl h, fun _ h => absurd h (Nat.not_lt_zero _), fun _ h => absurd h (Nat.not_lt_zero _)⟩
theorem RdD.nil (w : World) (S : Nat → Prop) (p : Option Addr) (c : Nat) (hc : c ≤ maxLen) : RdD w S ⟨p, 0, c⟩ [] := ⟨rfl, ⟨Nat.zero_le _, hc⟩, 0, 0, fun _ => ⟨⟨#[]⟩, .nil⟩, fun h => absurd rfl h, fun _ h => absurd h (Nat.not_lt_zero _), fun _ h => absurd h (Nat.not_lt_zero _)⟩
theorem Rd.null (w : World) (S : Nat → Prop) : Rd w S .nil .null := rd_iff.2 ⟨⟨rfl, rfl, rfl, rfl⟩, RdL.nil w S none 0 (Nat.zero_le _), RdD.nil w S none 0 (Nat.zero_le _)⟩

/-- Blocks that lie in a world: behind a call that turns nothing that was there they are as they were. -/
def Old (w : World) : Nat → Prop := fun k => k < w.heap.size
theorem below_old {w w' : World} {S : Nat → Prop} (hS : ∀ k, S k → k < w.heap.size) (hb : Below w.heap.size w w') : ∀ k, S k → w'.heap[k]? = w.heap[k]? := fun k hk => hb.block k (hS k hk)
theorem old_later {w w' : World} {S : Nat → Prop} (hS : ∀ k, S k → k < w.heap.size) (hb : Below w.heap.size w w') : ∀ k, S k → k < w'.heap.size := fun k hk => Nat.lt_of_lt_of_le (hS k hk) hb.size
theorem RdL.bound {w : World} {S : Nat → Prop} {sl : Sl} {l : List Val} (h : RdL w S sl l) : RdL w (fun k => S k ∧ k < w.heap.size) sl l := by
  obtain ⟨h1, h2, b, o, ls, h3, h4, h5⟩ := h
  exact ⟨h1, h2, b, o, ls, fun h => ⟨(h3 h).1, (h3 h).2, (h4 0 (by omega)).lt⟩, h4, fun i hi => (h5 i hi).bound⟩
theorem RdD.bound {w : World} {S : Nat → Prop} {sl : Sl} {d : Prs} (h : RdD w S sl d) : RdD w (fun k => S k ∧ k < w.heap.size) sl d := by
  obtain ⟨h1, h2, b, o, ls, h3, h4, h5⟩ := h
  exact ⟨h1, h2, b, o, ls, fun h => ⟨(h3 h).1, (h3 h).2, (h4 0 (by omega)).2.lt⟩, h4, fun i hi => ⟨(h5 i hi).1, (h5 i hi).2.bound⟩⟩
/-- Read at an earlier world, within its memory: read behind whatever turned nothing of it. -/
theorem RdD.carry {w w' : World} {B : Nat} {sl : Sl} {d : Prs} (h : RdD w (fun k => B ≤ k) sl d) (hb : Below w.heap.size w w') : RdD w' (fun k => B ≤ k ∧ k < w'.heap.size) sl d :=
  (h.bound.later (fun k hk => hb.block k hk.2)).mono (fun _ hk => ⟨hk.1, Nat.lt_of_lt_of_le hk.2 hb.size⟩)
theorem RdL.carry {w w' : World} {B : Nat} {sl : Sl} {l : List Val} (h : RdL w (fun k => B ≤ k) sl l) (hb : Below w.heap.size w w') : RdL w' (fun k => B ≤ k ∧ k < w'.heap.size) sl l :=
  (h.bound.later (fun k hk => hb.block k hk.2)).mono (fun _ hk => ⟨hk.1, Nat.lt_of_lt_of_le hk.2 hb.size⟩)
theorem Rd.carry {w w' : World} {B : Nat} {x : Hv} {v : Val} (h : Rd w (fun k => B ≤ k) x v) (hb : Below w.heap.size w w') : Rd w' (fun k => B ≤ k ∧ k < w'.heap.size) x v :=
  (h.bound.later (fun k hk => hb.block k hk.2)).mono (fun _ hk => ⟨hk.1, Nat.lt_of_lt_of_le hk.2 hb.size⟩)
/-- One element; one pair. -/
theorem RdL.at {w : World} {S : Nat → Prop} {p : Option Addr} {len cap : Nat} {l : List Val} (h : RdL w S ⟨p, len, cap⟩ l) {i : Nat} (hi : i < len) :
    ∃ (b o : Nat) (y : Hv) (hl : i < l.length), p = some ⟨b, o, none⟩ ∧ S b ∧ HvAt w b (o + i * 6) y ∧ Rd w S y (l[i]) := by
  obtain ⟨h1, h2, b, o, ls, h3, h4, h5⟩ := h
  have hi' : i < l.length := h1 ▸ hi
  obtain ⟨h6, h7⟩ := h3 (by show len ≠ 0; omega)
  exact ⟨b, o, ls i, hi', h6, h7, h4 i hi', h5 i hi'⟩
theorem RdD.at {w : World} {S : Nat → Prop} {p : Option Addr} {len cap : Nat} {l : Prs} (h : RdD w S ⟨p, len, cap⟩ l) {i : Nat} (hi : i < len) :
    ∃ (b o : Nat) (y : Hp) (hl : i < l.length), p = some ⟨b, o, none⟩ ∧ S b ∧ HpAt w b (o + i * 7) y ∧ y.key = (l[i]).1 ∧ Rd w S y.v (l[i]).2 := by
  obtain ⟨h1, h2, b, o, ls, h3, h4, h5⟩ := h
  have hi' : i < l.length := h1 ▸ hi
  obtain ⟨h6, h7⟩ := h3 (by show len ≠ 0; omega)
  exact ⟨b, o, ls i, hi', h6, h7, h4 i hi', (h5 i hi').1, (h5 i hi').2⟩
theorem RdL.len_le {w : World} {S : Nat → Prop} {sl : Sl} {l : List Val} (h : RdL w S sl l) : sl.len = l.length ∧ sl.len ≤ maxLen := ⟨h.1, Nat.le_trans h.2.1.1 h.2.1.2⟩
theorem RdD.len_le {w : World} {S : Nat → Prop} {sl : Sl} {d : Prs} (h : RdD w S sl d) : sl.len = d.length ∧ sl.len ≤ maxLen := ⟨h.1, Nat.le_trans h.2.1.1 h.2.1.2⟩
end
end Go.Proofs.YtljgjjbmgjfbcaaDoor
/-
  A slice of structs that came in: its cells, element by element, field by field.
-/
namespace Go.Proofs.YtljgjjbmgjfbcaaDoor
section
open Go.ChangeShapes Go.WideShapes Go.Deep

/-- One thing for each number, all in a list. -/
theorem list_of {α : Type} {P : Nat → α → Prop} {n : Nat} (h : ∀ i, i < n → ∃ r, P i r) : ∃ zs : List α, zs.length = n ∧ ∀ i (hi : i < zs.length), P i zs[i] := by
  induction n with
  | zero => exact ⟨[], rfl, fun i hi => by cases hi⟩
  | succ n ih =>
    obtain ⟨zs, hl, hz⟩ := ih fun i hi => h i (by omega)
    obtain ⟨r, hr⟩ := h n (by omega)
    refine ⟨zs ++ [r], by simp [hl], fun i hi => ?_⟩
    by_cases e : i < zs.length
    · rw [List.getElem_append_left e]; exact hz i e
    · have hi' : i = n := by simp at hi; omega
      subst hi'
      rw [List.getElem_append_right (by omega)]
      simpa [hl] using hr
theorem slice_of_structs {H : Type} {enc : TypeId × Value → H} {P : Program} {w : World} {base : Nat} {spare : Nat → Bool} {held : Bool} {t e : TypeId} {fs : Array Field} {nf fuel : Nat} {cs : List Value} {x : DataW H × List MemPlace}
    (ht : P.underlying t = some (.slice e)) (he : P.underlying e = some (.struct fs)) (hC : P.cellsOf e = nf) (hone : ∀ j f, fs[j]? = some f → j < nf ∧ f.offset = j ∧ P.cellsOf f.type = 1)
    (h : DataW.trod enc P w base spare held fuel t cs = some x) :
    cs = [.slice none 0 0] ∨ ∃ (a : Addr) (len cap : Nat), cs = [.slice (some a) len cap] ∧ len ≤ cap ∧ cap ≤ maxLen ∧
      ∀ i, i < len → ∀ (j : Nat) (f : Field), fs[j]? = some f → ∃ (v : Value) (y : DataW H × List MemPlace) (n : Nat), w.cell? (a.add (i * nf + j)) = some v ∧ DataW.trod enc P w base spare held n f.type [v] = some y := by
  rcases open_slice ht h with h0 | ⟨a, len, cap, m, n, D, Pl, hcs, _, hl, hm, hmm, _, hi⟩
  · exact .inl h0.1
  · refine .inr ⟨a, len, cap, hcs, hl, hm, fun i hil j f hj => ?_⟩
    have him : i < m := by
      rw [hmm]
      split <;> omega
    obtain ⟨cells, hc, hel⟩ := hi i him
    rw [hC] at hc
    obtain ⟨xs, n', _, _, hlen, hxs, hat⟩ := DataW.trod_struct he hel
    obtain ⟨_, hcl, hcell⟩ := World.cells?_some hc
    obtain ⟨hjn, hoff, hsz⟩ := hone j f hj
    have hread := hat j f hj
    rw [hoff, hsz, List.drop_eq_getElem_cons (show j < cells.length by rw [hlen, hC]; exact hjn)] at hread
    have hjx : j < xs.length := by rw [hxs]; exact (Array.getElem?_eq_some_iff.1 hj).1
    rw [List.getElem?_eq_getElem hjx] at hread
    refine ⟨cells[j]'(by rw [hlen, hC]; exact hjn), xs[j], n', ?_, hread⟩
    rw [← Go.Deep.add_add, hcell j hjn]
    exact List.getElem?_eq_getElem _

end
end Go.Proofs.YtljgjjbmgjfbcaaDoor
/-
  A value that came in, read out of its datum.
-/
namespace Go.Proofs.YtljgjjbmgjfbcaaDoor
section
open Go.ChangeShapes Go.WideShapes Go.Deep
set_option maxRecDepth 100000

theorem at_spot {w : World} {a : Addr} {v : Value} (h : w.cell? a = some v) : a = ⟨a.block, a.off, none⟩ := by
  obtain ⟨b, o, s⟩ := a
  cases s with
  | none => rfl
  | some s => unfold World.cell? at h; simp at h; split at h <;> simp at h
theorem add_at (a : Addr) (n : Nat) : (a.add n).block = a.block ∧ (a.add n).off = a.off + n := by
  unfold Addr.add
  split
  · rename_i h; exact ⟨rfl, by rw [h]; rfl⟩
  · exact ⟨rfl, rfl⟩
theorem add_zero (a : Addr) : a.add 0 = a := rfl
theorem add_two {w : World} {a : Addr} {n j : Nat} {v : Value} (h : w.cell? ((a.add n).add j) = some v) : (a.add n).add j = ⟨a.block, a.off + n + j, none⟩ := by
  rw [at_spot h, (add_at _ _).1, (add_at _ _).2, (add_at _ _).1, (add_at _ _).2]
theorem cellsV : Tryd.prog.cellsOf 25 = 6 := by kernel_rfl
theorem cellsP : Tryd.prog.cellsOf 41 = 7 := by kernel_rfl
theorem cellsI : Tryd.prog.cellsOf 3 = 1 ∧ Tryd.prog.cellsOf 9 = 1 ∧ Tryd.prog.cellsOf 22 = 1 ∧ Tryd.prog.cellsOf 23 = 1 := ⟨by kernel_rfl, by kernel_rfl, by kernel_rfl, by kernel_rfl⟩

/-- What a datum of fewer steps says. -/
def TrodC {H : Type} (enc : TypeId × Value → H) (w : World) (base : Nat) (spare : Nat → Bool) (held : Bool) (fuel : Nat) : Prop :=
  ∀ cs x, DataW.trod enc Tryd.prog w base spare held fuel 25 cs = some x → ∃ (y : Hv) (v : Val), cs = y.cells ∧ Rd w (fun k => k < w.heap.size) y v
section
variable {H : Type} {enc : TypeId × Value → H} {w : World} {base : Nat} {spare : Nat → Bool} {held : Bool}
theorem elems_of {n : Nat} (ih : ∀ m, m < n → TrodC enc w base spare held m) {c : Value} {x : DataW H × List MemPlace} (h : DataW.trod enc Tryd.prog w base spare held n 22 [c] = some x) :
    ∃ (sl : Sl) (l : List Val), c = .slice sl.p sl.len sl.cap ∧ RdL w (fun k => k < w.heap.size) sl l := by
  rcases DataW.trod_slice Tryd.underlying22 h with ⟨hc, _⟩ | ⟨a, len, cap, elems, rest, m, hn, hc, _, _, hl, hm, hel, hi, _, _⟩
  · injection hc with hc
    exact ⟨⟨none, 0, 0⟩, [], hc, RdL.nil _ _ _ _ (Nat.zero_le _)⟩
  · injection hc with hc
    rw [cellsV] at hi
    have hone : ∀ i, i < len → ∃ yv : Hv × Val, HvAt w a.block (a.off + i * 6) yv.1 ∧ (a = ⟨a.block, a.off, none⟩ ∨ 0 < i) ∧ Rd w (fun k => k < w.heap.size) yv.1 yv.2 := by
      intro i hil
      have h1 := hi i hil
      rw [List.getElem?_eq_getElem (by omega)] at h1
      obtain ⟨cells, hcs, htr⟩ := Option.bind_eq_some_iff.1 h1
      obtain ⟨y, v, hy, hr⟩ := ih m (by omega) cells _ htr
      obtain ⟨_, hlen, hat⟩ := World.cells?_some hcs
      subst hy
      have key : ∀ j, j < 6 → w.cell? ⟨a.block, a.off + i * 6 + j, none⟩ = y.cells[j]? ∧ ((a.add (i * 6)).add j = ⟨a.block, a.off + i * 6 + j, none⟩) := by
        intro j hj
        have h2 := hat j hj
        have h3 : ∃ u, w.cell? ((a.add (i * 6)).add j) = some u := ⟨y.cells[j]'(by simpa using hj), by rw [h2]; exact List.getElem?_eq_getElem _⟩
        obtain ⟨u, hu⟩ := h3
        have e2 := add_two hu
        exact ⟨by rw [← e2]; exact h2, e2⟩
      refine ⟨(y, v), ⟨(key 0 (by decide)).1, (key 1 (by decide)).1, (key 2 (by decide)).1, (key 3 (by decide)).1, (key 4 (by decide)).1, (key 5 (by decide)).1⟩, ?_, hr⟩
      rcases Nat.eq_zero_or_pos i with e | e
      · subst e
        left
        have h0 := (key 0 (by decide)).2
        rw [Nat.zero_mul, add_zero, add_zero] at h0
        exact h0
      · exact .inr e
    obtain ⟨zs, hzl, hzs⟩ := list_of (P := fun i (yv : Hv × Val) => HvAt w a.block (a.off + i * 6) yv.1 ∧ (a = ⟨a.block, a.off, none⟩ ∨ 0 < i) ∧ Rd w (fun k => k < w.heap.size) yv.1 yv.2) hone
    refine ⟨⟨some a, len, cap⟩, zs.map Prod.snd, hc, by simp [hzl], ⟨hl, hm⟩, a.block, a.off, fun i => (zs[i]?.getD (Hv.nil, .null)).1, ?_, ?_, ?_⟩
    · intro hne
      have hne' : len ≠ 0 := hne
      have h0 := hzs 0 (by omega)
      refine ⟨?_, h0.1.lt⟩
      rcases h0.2.1 with e | e
      · rw [← e]
      · omega
    · intro i hil
      rw [List.length_map] at hil
      dsimp only
      rw [List.getElem?_eq_getElem hil]
      exact (hzs i hil).1
    · intro i hil
      have hil' := hil
      rw [List.length_map] at hil'
      dsimp only
      rw [List.getElem?_eq_getElem hil', List.getElem_map]
      exact (hzs i hil').2.2
theorem pairs_of {n : Nat} (ih : ∀ m, m < n → TrodC enc w base spare held m) {c : Value} {x : DataW H × List MemPlace} (h : DataW.trod enc Tryd.prog w base spare held n 23 [c] = some x) :
    ∃ (sl : Sl) (d : Prs), c = .slice sl.p sl.len sl.cap ∧ RdD w (fun k => k < w.heap.size) sl d := by
  rcases DataW.trod_slice Tryd.underlying23 h with ⟨hc, _⟩ | ⟨a, len, cap, elems, rest, m, hn, hc, _, _, hl, hm, hel, hi, _, _⟩
  · injection hc with hc
    exact ⟨⟨none, 0, 0⟩, [], hc, RdD.nil _ _ _ _ (Nat.zero_le _)⟩
  · injection hc with hc
    rw [cellsP] at hi
    have hone : ∀ i, i < len → ∃ yv : Hp × Val, HpAt w a.block (a.off + i * 7) yv.1 ∧ (a = ⟨a.block, a.off, none⟩ ∨ 0 < i) ∧ Rd w (fun k => k < w.heap.size) yv.1.v yv.2 := by
      intro i hil
      have h1 := hi i hil
      rw [List.getElem?_eq_getElem (by omega)] at h1
      obtain ⟨cells, hcs, htr⟩ := Option.bind_eq_some_iff.1 h1
      obtain ⟨xs, n', hn', _, hlen', hxs, hf⟩ := DataW.trod_struct Tryd.underlying41 htr
      obtain ⟨_, hlen, hat⟩ := World.cells?_some hcs
      have hxs2 : xs.length = 2 := hxs
      have f0 : DataW.trod enc Tryd.prog w base spare held n' 9 ((cells.drop 0).take (Tryd.prog.cellsOf 9)) = xs[0]? := hf 0 _ rfl
      have f1 : DataW.trod enc Tryd.prog w base spare held n' 25 ((cells.drop 1).take (Tryd.prog.cellsOf 25)) = xs[1]? := hf 1 _ rfl
      rw [cellsI.2.1, List.getElem?_eq_getElem (by omega)] at f0
      rw [cellsV, List.getElem?_eq_getElem (by omega)] at f1
      obtain ⟨s, hs, _, _⟩ := DataW.trod_string Tryd.underlying9 f0
      obtain ⟨y, v, hy, hr⟩ := ih n' (by omega) _ _ f1
      have hcells : cells = .string s :: y.cells := by
        match cells, hlen, hs, hy with
        | [c0, c1, c2, c3, c4, c5, c6], _, hs, hy => simp at hs hy; simp [hs, hy]
      subst hcells
      have key : ∀ j, j < 7 → w.cell? ⟨a.block, a.off + i * 7 + j, none⟩ = (.string s :: y.cells)[j]? ∧ ((a.add (i * 7)).add j = ⟨a.block, a.off + i * 7 + j, none⟩) := by
        intro j hj
        have h2 := hat j hj
        have h3 : ∃ u, w.cell? ((a.add (i * 7)).add j) = some u := ⟨(.string s :: y.cells)[j]'(by simpa using hj), by rw [h2]; exact List.getElem?_eq_getElem _⟩
        obtain ⟨u, hu⟩ := h3
        have e2 := add_two hu
        exact ⟨by rw [← e2]; exact h2, e2⟩
      refine ⟨(⟨s, y⟩, v), ⟨(key 0 (by decide)).1, (key 1 (by decide)).1, (key 2 (by decide)).1, (key 3 (by decide)).1, (key 4 (by decide)).1, (key 5 (by decide)).1, (key 6 (by decide)).1⟩, ?_, hr⟩
      rcases Nat.eq_zero_or_pos i with e | e
      · subst e
        left
        have h0 := (key 0 (by decide)).2
        rw [Nat.zero_mul, add_zero, add_zero] at h0
        exact h0
      · exact .inr e
    obtain ⟨zs, hzl, hzs⟩ := list_of (P := fun i (yv : Hp × Val) => HpAt w a.block (a.off + i * 7) yv.1 ∧ (a = ⟨a.block, a.off, none⟩ ∨ 0 < i) ∧ Rd w (fun k => k < w.heap.size) yv.1.v yv.2) hone
    refine ⟨⟨some a, len, cap⟩, zs.map fun z => (z.1.key, z.2), hc, by simp [hzl], ⟨hl, hm⟩, a.block, a.off, fun i => (zs[i]?.getD (⟨⟨#[]⟩, Hv.nil⟩, .null)).1, ?_, ?_, ?_⟩
    · intro hne
      have hne' : len ≠ 0 := hne
      have h0 := hzs 0 (by omega)
      refine ⟨?_, h0.1.2.lt⟩
      rcases h0.2.1 with e | e
      · rw [← e]
      · omega
    · intro i hil
      rw [List.length_map] at hil
      dsimp only
      rw [List.getElem?_eq_getElem hil]
      exact (hzs i hil).1
    · intro i hil
      have hil' := hil
      rw [List.length_map] at hil'
      dsimp only
      rw [List.getElem?_eq_getElem hil', List.getElem_map]
      exact ⟨rfl, (hzs i hil').2.2⟩
theorem rd_trod (fuel : Nat) : TrodC enc w base spare held fuel := by
  induction fuel using Nat.strongRecOn with
  | ind n ih =>
    intro cs x h
    obtain ⟨xs, n', hn', _, hlen, hxs, hf⟩ := DataW.trod_struct Tryd.underlying25 h
    rw [cellsV] at hlen
    have hxs2 : xs.length = 6 := hxs
    match cs, hlen with
    | [c0, c1, c2, c3, c4, c5], _ =>
      have f0 : DataW.trod enc Tryd.prog w base spare held n' 3 (([c0, c1, c2, c3, c4, c5].drop 0).take (Tryd.prog.cellsOf 3)) = xs[0]? := hf 0 _ rfl
      have f1 : DataW.trod enc Tryd.prog w base spare held n' 3 (([c0, c1, c2, c3, c4, c5].drop 1).take (Tryd.prog.cellsOf 3)) = xs[1]? := hf 1 _ rfl
      have f2 : DataW.trod enc Tryd.prog w base spare held n' 3 (([c0, c1, c2, c3, c4, c5].drop 2).take (Tryd.prog.cellsOf 3)) = xs[2]? := hf 2 _ rfl
      have f3 : DataW.trod enc Tryd.prog w base spare held n' 9 (([c0, c1, c2, c3, c4, c5].drop 3).take (Tryd.prog.cellsOf 9)) = xs[3]? := hf 3 _ rfl
      have f4 : DataW.trod enc Tryd.prog w base spare held n' 22 (([c0, c1, c2, c3, c4, c5].drop 4).take (Tryd.prog.cellsOf 22)) = xs[4]? := hf 4 _ rfl
      have f5 : DataW.trod enc Tryd.prog w base spare held n' 23 (([c0, c1, c2, c3, c4, c5].drop 5).take (Tryd.prog.cellsOf 23)) = xs[5]? := hf 5 _ rfl
      rw [cellsI.1, List.getElem?_eq_getElem (by omega)] at f0 f1 f2
      rw [cellsI.2.1, List.getElem?_eq_getElem (by omega)] at f3
      rw [cellsI.2.2.1, List.getElem?_eq_getElem (by omega)] at f4
      rw [cellsI.2.2.2, List.getElem?_eq_getElem (by omega)] at f5
      obtain ⟨k, e0, _, _⟩ := DataW.trod_int Tryd.underlying3 f0
      obtain ⟨m, e1, _, _⟩ := DataW.trod_int Tryd.underlying3 f1
      obtain ⟨g, e2, _, _⟩ := DataW.trod_int Tryd.underlying3 f2
      obtain ⟨s, e3, _, _⟩ := DataW.trod_string Tryd.underlying9 f3
      obtain ⟨sl, l, e4, hL⟩ := elems_of (fun j hj => ih j (by omega)) (c := c4) f4
      obtain ⟨sd, d, e5, hD⟩ := pairs_of (fun j hj => ih j (by omega)) (c := c5) f5
      simp at e0 e1 e2 e3
      subst e0 e1 e2 e3 e4 e5
      exact ⟨⟨k, m, g, s, sl, sd⟩, .mk k m g s l d, rfl, rd_iff.2 ⟨⟨rfl, rfl, rfl, rfl⟩, hL, hD⟩⟩
end
end
end Go.Proofs.YtljgjjbmgjfbcaaDoor
/-
  What the walks over values import; a region that draws, whose callees make memory, walked once.
-/
namespace Go.Proofs.YtljgjjbmgjfbcaaDoor
section
open Go.RowKit
set_option maxRecDepth 100000

theorem drop_cons {α : Type} {l : List α} {i : Nat} (h : i < l.length) : l.drop i = l[i] :: l.drop (i + 1) := List.drop_eq_getElem_cons h

/-- How far a world is from another: its draws, and the blocks that were laid. -/
structure Far where
  n : Nat
  os : Array Obj
  deriving Inhabited
def far (w : World) (p : Far) : World := { w with heap := w.heap ++ p.os, drawn := p.n }
theorem below_far {w w' : World} (h : Below w.heap.size w w') : ∃ p : Far, w' = far w p := by
  refine ⟨⟨w'.drawn, w'.heap.extract w.heap.size w'.heap.size⟩, ?_⟩
  obtain ⟨hp, tp, dn, os, ou⟩ := w
  obtain ⟨hp', tp', dn', os', ou'⟩ := w'
  obtain ⟨h1, h2, h3, h4, h5⟩ := h
  simp only at h1 h2 h3 h4 h5
  subst h1 h2 h3
  unfold far
  simp only [World.mk.injEq, and_true]
  refine Array.ext (by simp; omega) fun i h6 h7 => ?_
  rcases Nat.lt_or_ge i hp.size with h8 | h8
  · have := h5 i h8
    rw [Array.getElem?_eq_getElem h6, Array.getElem?_eq_getElem h8] at this
    rw [Array.getElem_append_left h8]
    exact Option.some.inj this
  · rw [Array.getElem_append_right h8]
    simp [Nat.add_sub_cancel' h8]
theorem far_below (w : World) (p : Far) : Below w.heap.size w (far w p) := by
  refine ⟨rfl, rfl, rfl, by simp [far], fun k hk => ?_⟩
  show (w.heap ++ p.os)[k]? = _
  rw [Array.getElem?_append_left hk]
theorem far_cell {w : World} {b o : Nat} {v : Value} (h : w.cell? ⟨b, o, none⟩ = some v) (hb : b < w.heap.size) (p : Far) : (far w p).cell? ⟨b, o, none⟩ = some v :=
  (cell_of_block ((far_below w p).block b hb) o).trans h
theorem wp_region_far {P : Program} {id : Nat} {Q : Exit → Act → World → Prop} {a : Act} {w : World} {l : List Oper} (hm : P.follows .mixedOrders = true) (hB : Region.lexB .any l.toArray = true)
    (h : wpQuiet P l.toArray (fun w' => ∃ p : Far, w' = far w p) (fun a' => ∀ w', (∃ p : Far, w' = far w p) → Q .normal a' w') l a) : (Code.region id l.toArray true).wp P Q a w :=
  wp_region_quiet (C := fun w' => ∃ p : Far, w' = far w p) hm hB ⟨⟨w.drawn + 1, #[]⟩, by unfold far; simp⟩ (by simpa using h)
/-- A callee's contract, met in a world that far. -/
theorem Calls.far_of {P : Program} {f : FuncId} {args : Array Value} {w : World} {q : Far} {v : Value}
    (h : Calls P f args (far w q) fun e w' => e = .returned v ∧ Below (far w q).heap.size (far w q) w') : Calls P f args (far w q) fun e w'' => e = .returned v ∧ ∃ p : Far, w'' = far w p :=
  h.mono fun _ _ ⟨he, hb⟩ => ⟨he, below_far ((far_below w q).trans (hb.mono (far_below w q).size))⟩
theorem push_old {w w' : World} {o : Obj} (e : w'.heap = w.heap.push o) {k : Nat} (hk : k < w.heap.size) : w'.heap[k]? = w.heap[k]? := by rw [e, Array.getElem?_push, if_neg (by omega)]
theorem push_new {w w' : World} {o : Obj} (e : w'.heap = w.heap.push o) : w'.heap[w.heap.size]? = some o := by rw [e]; simp
theorem below_push {B : Nat} {a w w' : World} {o : Obj} (h : Below B a w) (hB : B ≤ w.heap.size) (e : w'.heap = w.heap.push o) (e1 : w'.os = w.os) (e2 : w'.tape = w.tape) (e3 : w'.output = w.output) : Below B a w' :=
  ⟨e1.trans h.os, e2.trans h.tape, e3.trans h.output, by rw [e]; have := h.size; simp; omega, fun k hk => (push_old e (by omega)).trans (h.block k hk)⟩
theorem below_drewN {B : Nat} {a w : World} (h : Below B a w) (n : Nat) : Below B a (w.drewN n) := ⟨h.os, h.tape, h.output, h.size, h.block⟩
theorem below_of_drewN {w w' : World} {n : Nat} (h : Below (w.drewN n).heap.size (w.drewN n) w') : Below w.heap.size w w' := ⟨h.os, h.tape, h.output, h.size, h.block⟩
end
end Go.Proofs.YtljgjjbmgjfbcaaDoor
