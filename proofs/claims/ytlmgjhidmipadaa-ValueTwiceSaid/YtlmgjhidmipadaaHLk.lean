/-
  VLoop, VPTell, VPLinks, VPHolds: texts merged.
-/
import Derived.Test.YtlmgjhidmipadaaHIt
import Derived.Test.YtlmgjhidmipadaaVRLinks
import Derived.Test.YtlmgjhidmipadaaVPPlain
import Derived.Test.YtlmgjhidmipadaaVPGet
import Derived.Laws.EntriesVeiled
/-
  A range over an iterator that ranges itself: its rounds keep whatever lies, but for the loop's record, a box and the row to which that points.
-/
namespace Go.Proofs.Ytlmgjhidmipadaa
section
open Go.RowKit Go.Shelf
set_option maxRecDepth 100000
set_option autoImplicit false

/-- The block to which a slice in a box points. -/
def rowB (bo : Nat) (W : World) : Option Nat := match W.cell? ⟨bo, 0, none⟩ with
  | some (.slice (some a) _ _) => some a.block
  | _ => none
theorem rowB_same {bo : Nat} {W W' : World} (h : W'.heap[bo]? = W.heap[bo]?) : rowB bo W' = rowB bo W := by
  unfold rowB
  rw [show W'.cell? ⟨bo, 0, none⟩ = W.cell? ⟨bo, 0, none⟩ from by unfold World.cell?; simp only [h]]
def RowCells (bo : Nat) (W : World) : Prop := ∀ k, rowB bo W = some k → ∃ o, W.heap[k]? = some o ∧ o.isCells = true
theorem RowCells.not {bo : Nat} {W : World} (h : RowCells bo W) {k : Nat} {o : Obj} (hk : W.heap[k]? = some o) (ho : o.isCells = false) : rowB bo W ≠ some k := fun e => by
  obtain ⟨o', h1, h2⟩ := h k e
  rw [hk] at h1
  cases h1
  rw [ho] at h2
  cases h2
theorem RowCells.lt {bo : Nat} {W : World} (h : RowCells bo W) {k : Nat} (hk : rowB bo W = some k) : k < W.heap.size := by
  obtain ⟨o, h1, _⟩ := h k hk
  exact (Array.getElem?_eq_some_iff.1 h1).1
/-- What a round keeps. -/
structure LKeep (L : Nat → Prop) (bo : Nat) (W W' : World) : Prop where
  size : W.heap.size ≤ W'.heap.size
  block : ∀ k, k < W.heap.size → ¬ L k → k ≠ bo → rowB bo W ≠ some k → W'.heap[k]? = W.heap[k]?
  row : ∀ r, rowB bo W' = some r → rowB bo W = some r ∨ W.heap.size ≤ r
  cells : RowCells bo W → RowCells bo W'
theorem LKeep.refl (L : Nat → Prop) (bo : Nat) (W : World) : LKeep L bo W W := ⟨Nat.le_refl _, fun _ _ _ _ _ => rfl, fun _ h => .inl h, id⟩
theorem LKeep.trans {L : Nat → Prop} {bo : Nat} {X Y Z : World} (h : LKeep L bo X Y) (k : LKeep L bo Y Z) : LKeep L bo X Z := by
  refine ⟨Nat.le_trans h.size k.size, ?_, ?_, fun c => k.cells (h.cells c)⟩
  · intro j hj h1 h2 h3
    refine (k.block j (Nat.lt_of_lt_of_le hj h.size) h1 h2 (fun e => ?_)).trans (h.block j hj h1 h2 h3)
    rcases h.row j e with e2 | e2
    · exact h3 e2
    · omega
  · intro r hr
    rcases k.row r hr with e | e
    · exact h.row r e
    · exact .inr (Nat.le_trans h.size e)
theorem LKeep.mono {L L' : Nat → Prop} {bo : Nat} {W W' : World} (h : LKeep L bo W W') (hL : ∀ k, L k → L' k) : LKeep L' bo W W' := ⟨h.size, fun k hk h1 h2 h3 => h.block k hk (fun h4 => h1 (hL k h4)) h2 h3, h.row, h.cells⟩
/-- One more. -/
def Also (L : Nat → Prop) (l : Nat) : Nat → Prop := fun k => L k ∨ k = l
theorem LKeep.any {L : Nat → Prop} {bo : Nat} {W W' : World} (h : LKeep L bo W W') (l : Nat) : LKeep (Also L l) bo W W' := h.mono fun _ => .inl
/-- New blocks alone. -/
theorem LKeep.grown {L : Nat → Prop} {bo : Nat} {W W' : World} (hg : W.grownBy W' none) (hbo : bo < W.heap.size) : LKeep L bo W W' := by
  have e := rowB_same (hg.block bo hbo (by simp))
  refine ⟨hg.size, fun k hk _ _ _ => hg.block k hk (by simp), fun r hr => .inl (e ▸ hr), fun c k hk => ?_⟩
  rw [e] at hk
  obtain ⟨o, h1, h2⟩ := c k hk
  exact ⟨o, (hg.block k (c.lt hk) (by simp)).trans h1, h2⟩
theorem LKeep.below {L : Nat → Prop} {bo : Nat} {W W' : World} (hb : Below W.heap.size W W') (hbo : bo < W.heap.size) : LKeep L bo W W' := LKeep.grown ⟨hb.os, hb.tape, hb.output, hb.size, fun k hk _ => hb.block k hk⟩ hbo
/-- A block is turned that is none of those. -/
theorem RowCells.turn {bo k : Nat} {W W' : World} (c : RowCells bo W) (hg : W.grownBy W' (some k)) (hbo : bo < W.heap.size) (hk : k ≠ bo) (hr : rowB bo W ≠ some k) : RowCells bo W' ∧ rowB bo W' = rowB bo W := by
  have e := rowB_same (hg.block bo hbo (by simpa using Ne.symm hk))
  refine ⟨fun j hj => ?_, e⟩
  rw [e] at hj
  obtain ⟨o, h1, h2⟩ := c j hj
  exact ⟨o, (hg.block j (c.lt hj) (fun e2 => by cases e2; exact hr hj)).trans h1, h2⟩
theorem LKeep.turn {L : Nat → Prop} {bo l : Nat} {W W' : World} (c : RowCells bo W) (hg : W.grownBy W' (some l)) (hbo : bo < W.heap.size) (hl : l ≠ bo) (hr : rowB bo W ≠ some l) : LKeep (Also L l) bo W W' := by
  obtain ⟨h1, h2⟩ := c.turn hg hbo hl hr
  exact ⟨hg.size, fun k hk h3 _ _ => hg.block k hk (fun e => by cases e; exact h3 (.inr rfl)), fun r hr => .inl (h2 ▸ hr), fun _ => h1⟩
/-- A block is turned that lay not yet where it began. -/
theorem LKeep.turned {L : Nat → Prop} {bo k : Nat} {W W1 W' : World} (h : LKeep L bo W W1) (c : RowCells bo W1) (hg : W1.grownBy W' (some k)) (hbo : bo < W.heap.size) (hk : W.heap.size ≤ k) (hr : rowB bo W1 ≠ some k) : LKeep L bo W W' := by
  obtain ⟨h1, h2⟩ := c.turn hg (Nat.lt_of_lt_of_le hbo h.size) (by omega) hr
  exact ⟨Nat.le_trans h.size hg.size, fun j hj a b d => (hg.block j (Nat.lt_of_lt_of_le hj h.size) (by intro e; cases e; omega)).trans (h.block j hj a b d), fun r hr => h.row r (h2 ▸ hr), fun _ => h1⟩
/-- What abides a turn of blocks that are none of those. -/
def OwnL {β : Type} (M bo : Nat) (I : β → World → Prop) : Prop :=
  ∀ s W W' row, I s W → W.grownBy W' row → (∀ k, row = some k → M ≤ k ∧ rowB bo W ≠ some k) → I s W'
theorem OwnL.mono {β : Type} {M M' bo : Nat} {I : β → World → Prop} (h : OwnL M bo I) (hM : M ≤ M') : OwnL M' bo I := fun s W W' row hs hg hr => h s W W' row hs hg fun k e => ⟨Nat.le_trans hM (hr k e).1, (hr k e).2⟩
/-- An iterator's word, for every body whose rounds keep that. -/
def SeqL {α : Type} (P : Program) (g : Nat) (lb : Array Value) (encs : α → Array Value) (L : Nat → Prop) (bo : Nat) (Ok : List α → α → Prop) (S : List α → Prop) (w : World) : Prop :=
  ∀ (l : Nat) (J Jx : List α → World → Prop) (W : World), Below w.heap.size w W → w.heap.size ≤ l → l < W.heap.size → RowCells bo W → rowB bo W = rowB bo w → OwnL W.heap.size bo J → OwnL W.heap.size bo Jx →
    (∀ pre x W1, J pre W1 → Ok pre x → YieldAt Fence.wide 1 P l (encs x) W1 fun e W' =>
      ((e = .returned (.bool true) ∧ J (pre ++ [x]) W') ∨ (e = .returned (.bool false) ∧ Jx (pre ++ [x]) W')) ∧ LKeep (Also L l) bo W1 W') →
    J [] W →
    Calls P g (#[.func (.yield l) #[] #[]] ++ lb) W fun e W' => (∃ v, e = .returned v) ∧ ((∃ xs, S xs ∧ J xs W') ∨ (∃ pre, Jx pre W'))
theorem YieldAt.deep {m : Nat} (m' : Nat) {P : Program} {l : Nat} {args : Array Value} {W : World} {R : Ending → World → Prop} (h : YieldAt Fence.wide m P l args W R) : YieldAt Fence.wide m' P l args W R := by
  obtain ⟨fn, tmps, assign, body, hy, h1, h2⟩ := h
  exact ⟨fn, tmps, assign, body, hy, h1, fun c cs _ => h2 c cs (room_wide _)⟩
/-- How a round's body may be left. -/
def postL {α : Type} (L : Nat → Prop) (bo : Nat) (I Ix : List α → World → Prop) (xs : List α) (W : World) : Exit → Act → World → Prop
  | .normal, _, W' => LKeep L bo W W' ∧ I xs W'
  | .ret, _, W' => LKeep L bo W W' ∧ Ix xs W'
  | _, _, _ => False

/-- The caller's word with the facts of book-keeping beside it. -/
theorem own_books {β : Type} {w W1 : World} {bo : Nat} {I : β → World → Prop} {o1 o2 : Obj} (hI : OwnL w.heap.size bo I) (hbo : bo < w.heap.size) (hsz : W1.heap.size = w.heap.size + 2) :
    OwnL W1.heap.size bo (fun s W => I s W ∧ RowCells bo W ∧ W.heap[w.heap.size + 1]? = some o1 ∧ W.heap[w.heap.size]? = some o2) := by
  rintro s X Y row ⟨h1, h2, h3, h4⟩ hg hr
  have hlt := (Array.getElem?_eq_some_iff.1 h3).1
  refine ⟨hI s X Y row h1 hg (fun k e => ⟨by have := (hr k e).1; omega, (hr k e).2⟩), ?_, (hg.block _ hlt (fun e => by have := (hr _ e.symm).1; omega)).trans h3, (hg.block _ (by omega) (fun e => by have := (hr _ e.symm).1; omega)).trans h4⟩
  cases row with
  | none => exact (LKeep.grown (L := fun _ => False) hg (by omega)).cells h2
  | some k => exact (h2.turn hg (by omega) (by have := (hr k rfl).1; omega) (hr k rfl).2).1

set_option maxHeartbeats 1000000 in
theorem wp_range_L {α : Type} {P : Program} {n : Nat} {g : Operand} {ps : Array Tmp} {assign body : Code} {Q : Exit → Act → World → Prop} {a : Act} {w : World} {gf : Nat} {lb : Array Value} (hg : a.eval g = .func (.func gf) #[] lb)
    (eg : ∀ args w, (callFunc gf args).run P w = .ok (.enter gf args) w) {encs : α → Array Value} {L : Nat → Prop} {bo : Nat} {Ok : List α → α → Prop} {S : List α → Prop} (hbo : bo < w.heap.size) (hLw : ∀ k, L k → k < w.heap.size) (hrc : RowCells bo w) (hseq : SeqL P gf lb encs L bo Ok S w) (hps : ∀ x, (encs x).size = ps.size)
    (I Ix : List α → World → Prop) (hI : OwnL w.heap.size bo I) (hIx : OwnL w.heap.size bo Ix) (h0 : I [] w) (Ax : α → Act → World → Prop) (hAx : ∀ x a', OwnFrom w.heap.size (fun (_ : Unit) W => Ax x a' W))
    (hassign : ∀ (l : Nat) (pre : List α) (x : α) (W : World) (K : Act → World → Prop), I pre W → (∀ a' W', LKeep L bo W W' → I pre W' → Ax x a' W' → K a' W') →
      assign.wpIn (Fence.wide.inRound l) 1 P (Exit.then K (fun _ _ _ => False)) { tmps := (ps.zip (encs x)).foldl (fun t (p, v) => t.setIfInBounds p v) a.tmps, defers := [] } W)
    (hbody : ∀ (l : Nat) (pre : List α) (x : α) (a' : Act) (W : World), w.heap.size < l → I pre W → Ax x a' W → Ok pre x → body.wpIn (Fence.wide.inRound l) 1 P (postL L bo I Ix (pre ++ [x]) W) a' W)
    (hdone : ∀ (D : Nat) (xs : List α) (W : World), w.heap.size ≤ D → S xs → I xs W → W.heap[D]? = some (.deferred (some [])) → Q .normal { a with defers := { target := .collected D, args := #[] } :: a.defers } W)
    (hstop : ∀ (D : Nat) (pre : List α) (W : World), w.heap.size ≤ D → Ix pre W → W.heap[D]? = some (.deferred (some [])) → Code.ret.wpIn Fence.wide n P Q { a with defers := { target := .collected D, args := #[] } :: a.defers } W) :
    (Code.rangeFunc g ps assign body).wpIn Fence.wide n P Q a w := by
  refine wpIn_rangeFunc fun fn hfn => ?_
  let rec1 : LoopState → Option Code → Loop := fun st pe => { state := st, pending := pe, fn, tmps := a.tmps, params := ps, assign, body, defers := w.heap.size }
  have hA : w.grownBy (w.alloc (.deferred (some []))) none := World.grownBy_alloc _ _ _
  have hB : (w.alloc (.deferred (some []))).grownBy ((w.alloc (.deferred (some []))).alloc (.loop (rec1 .ready none))) none := World.grownBy_alloc _ _ _
  obtain ⟨W1, hW1⟩ : ∃ W1, (w.alloc (.deferred (some []))).alloc (.loop (rec1 .ready none)) = W1 := ⟨_, rfl⟩
  have hsz : W1.heap.size = w.heap.size + 2 := by rw [← hW1]; simp
  have hL1 : W1.heap[w.heap.size + 1]? = some (.loop (rec1 .ready none)) := by
    rw [← hW1]
    have h := World.alloc_heap_new (w.alloc (.deferred (some []))) (.loop (rec1 .ready none))
    rwa [World.size_alloc] at h
  have hD1 : W1.heap[w.heap.size]? = some (.deferred (some [])) := by
    rw [← hW1]
    exact (Below.heap_alloc _ _ _ (by simp)).trans (World.alloc_heap_new w _)
  have hI1 : I [] W1 := by rw [← hW1]; exact hI _ _ _ none (hI _ _ _ none h0 hA (fun _ e => by cases e)) hB (fun _ e => by cases e)
  have hK1 : LKeep L bo w W1 := by rw [← hW1]; exact (LKeep.grown hA hbo).trans (LKeep.grown hB (by simp; omega))
  have hb1 : Below w.heap.size w W1 := by rw [← hW1]; exact ((Below.refl _ w).alloc (Nat.le_refl _) _).alloc (by simp) _
  have hrc1 := hK1.cells hrc
  rw [show (Instr.enterLoop fn a.tmps ps assign body Fence.wide.round).run P w = .ok (w.heap.size + 1, [{ target := .collected w.heap.size, args := #[] }]) W1 from by rw [← hW1]; exact run_enterLoop_outer fn a.tmps ps assign body]
  refine ⟨_, _, _, { target := .fn (.func gf) lb, args := #[.func (.yield (w.heap.size + 1)) #[] #[]] }, W1, gf, #[.func (.yield (w.heap.size + 1)) #[] #[]] ++ lb, W1, rfl, ?_, fun _ _ => trivial, by simp [invoke, go_sem, eg], (fun h => by cases h), ?_⟩
  · simp only [resolve, hg]
    simp [go_sem]
  refine callsIn_wide.2 ((hseq (w.heap.size + 1) (fun pre W => I pre W ∧ RowCells bo W ∧ W.heap[w.heap.size + 1]? = some (.loop (rec1 .ready none)) ∧ W.heap[w.heap.size]? = some (.deferred (some [])))
    (fun pre W => Ix pre W ∧ RowCells bo W ∧ W.heap[w.heap.size + 1]? = some (.loop (rec1 .done (some .ret))) ∧ W.heap[w.heap.size]? = some (.deferred (some [])))
    W1 hb1 (by omega) (by omega) hrc1 (rowB_same (hb1.block bo hbo)) (own_books hI hbo hsz) (own_books hIx hbo hsz) ?_ ⟨hI1, hrc1, hL1, hD1⟩).mono ?_)
  · rintro pre x W ⟨hi, hrw, hl, hd⟩ hlen
    have hlt : w.heap.size + 1 < W.heap.size := (Array.getElem?_eq_some_iff.1 hl).1
    refine ⟨fn, _, assign, body, run_yield (r := rec1 .ready none) hl (hps x), roundIn_of_wpIn hfn (hassign _ pre x W _ hi ?_)⟩
    intro a' Wa hka hia hax
    have hnl : ¬ L (w.heap.size + 1) := fun h => by have := hLw _ h; omega
    have hnd : ¬ L w.heap.size := fun h => by have := hLw _ h; omega
    have hla : Wa.heap[w.heap.size + 1]? = some (.loop (rec1 .ready none)) := (hka.block _ hlt hnl (by omega) (hrw.not hl rfl)).trans hl
    have hda : Wa.heap[w.heap.size]? = some (.deferred (some [])) := (hka.block _ (by omega) hnd (by omega) (hrw.not hd rfl)).trans hd
    have hrwa := hka.cells hrw
    have hlta := hka.size
    refine ⟨_, run_beginRound hla rfl, ?_⟩
    have hgb := grownBy_putObj' Wa (w.heap.size + 1) (.loop { rec1 .ready none with state := .busy })
    have hrnb := hrwa.not hla rfl
    obtain ⟨W2, hW2⟩ : ∃ W2, Wa.putObj (w.heap.size + 1) (.loop { rec1 .ready none with state := .busy }) = W2 := ⟨_, rfl⟩
    have hl2 : W2.heap[w.heap.size + 1]? = some (.loop { rec1 .ready none with state := .busy }) := by rw [← hW2]; exact World.putObj_heap_same (by omega)
    have hd2 : W2.heap[w.heap.size]? = some (.deferred (some [])) := by rw [← hW2]; exact (World.putObj_heap_other (by omega)).trans hda
    have hax2 : Ax x a' W2 := by rw [← hW2]; exact (hAx x a').putObj (s := ()) _ hax (by omega) hla rfl
    rw [hW2] at hgb ⊢
    have hkb : LKeep (Also L (w.heap.size + 1)) bo Wa W2 := LKeep.turn hrwa hgb (by omega) (by omega) hrnb
    have hi2 : I pre W2 := hI _ _ _ _ hia hgb (fun k e => by cases e; exact ⟨by omega, hrnb⟩)
    have hrw2 := hkb.cells hrwa
    have hlt2 := hkb.size
    refine wpIn_mono (hbody _ pre x a' W2 (by omega) hi2 hax2 hlen) ?_
    have fin : ∀ (jump : Option Code) (W3 : World), LKeep L bo W2 W3 → ∃ W4, (Instr.endRound (w.heap.size + 1) jump).run P W3 = .ok (.bool jump.isNone) W4 ∧ W3.grownBy W4 (some (w.heap.size + 1)) ∧ rowB bo W3 ≠ some (w.heap.size + 1) ∧
        RowCells bo W4 ∧ W4.heap[w.heap.size + 1]? = some (.loop (rec1 (if jump.isNone then .ready else .done) jump)) ∧ W4.heap[w.heap.size]? = some (.deferred (some [])) ∧ LKeep (Also L (w.heap.size + 1)) bo W W4 := fun jump W3 hk3 => by
      have hl3 := (hk3.block _ (by omega) hnl (by omega) (hrw2.not hl2 rfl)).trans hl2
      have hd3 := (hk3.block _ (by omega) hnd (by omega) (hrw2.not hd2 rfl)).trans hd2
      have hrw3 := hk3.cells hrw2
      have hgc := grownBy_putObj' W3 (w.heap.size + 1) (.loop (rec1 (if jump.isNone then .ready else .done) jump))
      have hrn3 := hrw3.not hl3 rfl
      have hlt3 := hk3.size
      have hkc : LKeep (Also L (w.heap.size + 1)) bo W3 _ := LKeep.turn hrw3 hgc (by omega) (by omega) hrn3
      exact ⟨_, run_endRound jump hl3, hgc, hrn3, hkc.cells hrw3, World.putObj_heap_same (by omega), (World.putObj_heap_other (by omega)).trans hd3, ((hka.any _).trans hkb).trans ((hk3.any _).trans hkc)⟩
    rintro e a3 W3 hp
    cases e with
    | normal =>
      obtain ⟨hk3, hi3⟩ := hp
      obtain ⟨W4, h1, h2, h3, h4, h5, h6, h7⟩ := fin none W3 hk3
      exact ⟨_, _, h1, .inl ⟨rfl, hI _ _ _ _ hi3 h2 (fun k e => by cases e; exact ⟨by omega, h3⟩), h4, h5, h6⟩, h7⟩
    | ret =>
      obtain ⟨hk3, hi3⟩ := hp
      obtain ⟨W4, h1, h2, h3, h4, h5, h6, h7⟩ := fin (some .ret) W3 hk3
      exact ⟨_, _, h1, .inr ⟨rfl, hIx _ _ _ _ hi3 h2 (fun k e => by cases e; exact ⟨by omega, h3⟩), h4, h5, h6⟩, h7⟩
    | exit id => exact hp.elim
    | goto t => exact hp.elim
    | panic ch => exact hp.elim
    | outgrown => exact hp.elim
  · rintro e W2 ⟨⟨v, rfl⟩, (⟨xs, hS, hi, hrw, hl, hd⟩ | ⟨pre, hi, hrw, hl, hd⟩)⟩
    · exact ⟨none, _, run_endLoop hl (by simp [rec1]), hdone _ xs _ (Nat.le_refl _) hS (hI _ _ _ _ hi (grownBy_putObj' _ _ _) (fun k e => by cases e; exact ⟨by omega, hrw.not hl rfl⟩)) ((World.putObj_heap_other (by omega)).trans hd)⟩
    · exact ⟨some .ret, _, run_endLoop hl (by simp [rec1]), hstop _ pre _ (Nat.le_refl _) (hIx _ _ _ _ hi (grownBy_putObj' _ _ _) (fun k e => by cases e; exact ⟨by omega, hrw.not hl rfl⟩)) ((World.putObj_heap_other (by omega)).trans hd)⟩
end
end Go.Proofs.Ytlmgjhidmipadaa
/-
  The program's: the links of a value, told in order: the closure that calls itself.
-/
namespace Go.Proofs.Ytlmgjhidmipadaa
section
open Go.RowKit Go.Shelf
set_option maxRecDepth 100000
attribute [local go_sem] Oper.semAt_some

theorem linksL_flat (l : List Val) : linksL l = l.flatMap linksV := by
  induction l with
  | nil => rfl
  | cons v t ih => rw [linksL, ih]; rfl
theorem linksD_flat (d : Prs) : linksD d = (d.map Prod.snd).flatMap linksV := by
  induction d with
  | nil => rfl
  | cons p t ih => obtain ⟨k, v⟩ := p; rw [linksD, ih]; rfl
theorem links_held (v : Val) : linksV v = (if v.kind = 7 then [(v.n, v.g)] else []) ++ (heldV v).flatMap linksV := by
  rw [linksV_eq, linksL_flat, linksD_flat]
  unfold heldV
  rw [List.flatMap_append]
/-- What has come when so many elements are over. -/
def linksTo (v : Val) (i : Nat) : List (Int × Int) := ((heldV v).take i).flatMap linksV
theorem linksTo_succ {v : Val} {i : Nat} (h : i < (heldV v).length) : linksTo v (i + 1) = linksTo v i ++ linksV (heldAt v i) := by
  unfold linksTo heldAt
  rw [List.take_add_one, List.getElem?_eq_getElem h, List.flatMap_append]
  simp
theorem linksTo_all (v : Val) : linksTo v (heldV v).length = (heldV v).flatMap linksV := by unfold linksTo; rw [List.take_length]
theorem linksTo_prefix (v : Val) {i : Nat} : linksTo v i <+: (heldV v).flatMap linksV := by
  unfold linksTo
  exact ⟨((heldV v).drop i).flatMap linksV, by rw [← List.flatMap_append, List.take_append_drop]⟩
/-- What a plain value holds is plain. -/
theorem plain_held {v : Val} (h : plainV v = v) {i : Nat} (hi : i < (heldV v).length) : plainV (heldAt v i) = heldAt v i := by
  rcases held_mem hi with h1 | ⟨p, hp, e⟩
  · exact plain_l (v := v) (by rw [h]; exact h1)
  · rw [e]; exact plain_d (v := v) (by rw [h]; exact hp)
theorem plain_seven {v : Val} (h : plainV v = v) (hk : v.kind = 7) : linksV v = [(v.n, v.g)] := by
  have h2 := plain_link (v := v) (by rw [h]; exact hk)
  rw [h] at h2
  rw [linksV_eq, if_pos hk, h2.1, h2.2]
  rfl

/-- Blocks that are none of those that turn. -/
structure FreeT (T : Nat → Prop) (bo : Nat) (X : World) : Prop where
  cells : RowCells bo X
  lt : bo < X.heap.size
  here : ∀ k, T k → k < X.heap.size
  row : ∀ k, T k → rowB bo X ≠ some k
theorem FreeT.keep {T L : Nat → Prop} {bo : Nat} {X Y : World} (h : FreeT T bo X) (hk : LKeep L bo X Y) : FreeT T bo Y := by
  refine ⟨hk.cells h.cells, Nat.lt_of_lt_of_le h.lt hk.size, fun k hT => Nat.lt_of_lt_of_le (h.here k hT) hk.size, fun k hT e => ?_⟩
  rcases hk.row k e with e2 | e2
  · exact h.row k hT e2
  · have := h.here k hT
    omega
theorem FreeT.keeps {T L : Nat → Prop} {bo : Nat} {X Y : World} (h : FreeT T bo X) (hT : ∀ k, T k → ¬ L k ∧ k ≠ bo) (hk : LKeep L bo X Y) : KeepT T X Y :=
  ⟨hk.size, fun k hk2 => hk.block k (h.here k hk2) (hT k hk2).1 (hT k hk2).2 (h.row k hk2)⟩
theorem FreeT.mono {T T' : Nat → Prop} {bo : Nat} {X : World} (h : FreeT T bo X) (hT : ∀ k, T' k → T k) : FreeT T' bo X := ⟨h.cells, h.lt, fun k hk => h.here k (hT k hk), fun k hk => h.row k (hT k hk)⟩
/-- A block more. -/
theorem FreeT.also {T : Nat → Prop} {bo : Nat} {X Y : World} (h : FreeT T bo X) (hg : X.grownBy Y none) (h2 : X.heap.size < Y.heap.size) : FreeT (Also T X.heap.size) bo Y := by
  have hk := LKeep.grown (L := fun _ => False) hg h.lt
  have hf := h.keep hk
  refine ⟨hf.cells, hf.lt, fun k hT => ?_, fun k hT e => ?_⟩
  · rcases hT with hT | rfl
    · exact hf.here k hT
    · exact h2
  · rcases hT with hT | rfl
    · exact hf.row k hT e
    · rw [rowB_same (hg.block bo h.lt (by simp))] at e
      have := h.cells.lt e
      omega

/-- What a value holds, told in order. -/
theorem within_L (Bn : Nat) (x : Hv) (v : Val) (hs : Nat → Hv) (S L : Nat → Prop) (bo : Nat) (w : World) (hlen : (heldV v).length ≤ 100000) (hBn : w.heap[Bn]? = some (.cells x.arr 25)) (hH : HeldR w S x v hs)
    (hF : FreeT (fun k => S k ∨ k = Bn) bo w) (hT : ∀ k, (S k ∨ k = Bn) → ¬ L k ∧ k ≠ bo) :
    SeqL Try.prog 49 #[.pointer (some ⟨Bn, 0, none⟩)] (fun i : Nat => #[.agg (hs i).arr]) L bo (fun pre x => x = pre.length ∧ x < (heldV v).length) (fun ys => ys.length = (heldV v).length) w := by
  intro l J Jx W hW hl hlW hrc hrow hJ hJx hY h0
  have hF1 : FreeT (fun k => S k ∨ k = Bn) bo W := ⟨hrc, Nat.lt_of_lt_of_le hF.lt hW.size, fun k hk => Nat.lt_of_lt_of_le (hF.here k hk) hW.size, fun k hk => by rw [hrow]; exact hF.row k hk⟩
  refine (callsIn_wide (n := 2)).1 ((within_core 2 (by omega) l Bn x v hs S W (fun i X => ∃ pre, pre.length = i ∧ J pre X ∧ FreeT (fun k => S k ∨ k = Bn) bo X) (fun _ X => ∃ pre, Jx pre X) ?_ ?_ hlen (fun k hk => hF1.here k (.inl hk))
    ((hW.block Bn (hF.here Bn (.inr rfl))).trans hBn) (hH.later (fun k hk => hW.block k (hF.here k (.inl hk)))) ⟨[], rfl, h0, hF1⟩).mono ?_)
  · rintro i X Y ⟨pre, h1, h2, h3⟩ hg
    exact ⟨pre, h1, hJ _ _ _ none h2 hg (fun k e => by cases e), h3.keep (LKeep.grown (L := fun _ => False) hg h3.lt)⟩
  · rintro i X ⟨pre, h1, h2, h3⟩ hi
    refine YieldAt.deep _ ((hY pre i X h2 ⟨h1.symm, hi⟩).mono ?_)
    rintro e Y ⟨(⟨h4, h5⟩ | ⟨h4, h5⟩), h6⟩
    · exact .inl ⟨h4, ⟨_, by rw [List.length_append, h1]; rfl, h5, h3.keep h6⟩, h3.keeps (fun k hk => ⟨fun h => by rcases h with h | rfl; exact (hT k hk).1 h; have := hF.here _ hk; omega, (hT k hk).2⟩) h6⟩
    · exact .inr ⟨h4, _, h5⟩
  · rintro e Y ⟨h1, (⟨pre, h2, h3, _⟩ | ⟨_, pre, h2⟩)⟩
    · exact ⟨h1, .inl ⟨pre, h2, h3⟩⟩
    · exact ⟨h1, .inr ⟨pre, h2⟩⟩

theorem FreeT.turn {T : Nat → Prop} {bo k : Nat} {X Y : World} (h : FreeT T bo X) (hg : X.grownBy Y (some k)) (hk : k ≠ bo) (hr : rowB bo X ≠ some k) : FreeT T bo Y := by
  obtain ⟨h1, h2⟩ := h.cells.turn hg h.lt hk hr
  exact ⟨h1, Nat.lt_of_lt_of_le h.lt hg.size, fun j hj => Nat.lt_of_lt_of_le (h.here j hj) hg.size, fun j hj => by rw [h2]; exact h.row j hj⟩
/-- What a call has kept so far, abides. -/
theorem own_kept {β : Type} {L T : Nat → Prop} {bo M : Nat} {w : World} {I : β → World → Prop} (hI : OwnL M bo I) (hM : M ≤ w.heap.size) (hbo : bo < w.heap.size) : OwnL w.heap.size bo (fun s X => I s X ∧ LKeep L bo w X ∧ FreeT T bo X) := by
  rintro s X Y row ⟨h1, h2, h3⟩ hg hr
  refine ⟨hI s X Y row h1 hg (fun k e => ⟨Nat.le_trans hM (hr k e).1, (hr k e).2⟩), ?_⟩
  cases row with
  | none => exact ⟨h2.trans (LKeep.grown hg h3.lt), h3.keep (LKeep.grown (L := fun _ => False) hg h3.lt)⟩
  | some k => exact ⟨h2.turned h3.cells hg hbo (hr k rfl).1 (hr k rfl).2, h3.turn hg (by have := (hr k rfl).1; omega) (hr k rfl).2⟩
/-- A store that changes nothing. -/
theorem grown_same {X : World} {r : Nat} {t : TypeId} {v : Value} (h : Boxed X r t v) : X.grownBy (X.setCell ⟨r, 0, none⟩ v) none := by
  have hg := grownBy_setCell' X r v
  refine ⟨hg.os, hg.tape, hg.output, hg.size, fun k hk _ => ?_⟩
  by_cases e : k = r
  · subst e
    exact (show _ = _ from (h.set v).trans h.symm)
  · exact hg.block k hk (by simpa using e)
/-- A block of the call's own is turned. -/
theorem turn_own {β : Type} {M bo r : Nat} {W W3 W4 : World} {I : β → World → Prop} (hI : OwnL M bo I) (hr : W.heap.size ≤ r) (hM : M ≤ W.heap.size) (hw : rowB bo W3 ≠ some r) (hg : W3.grownBy W4 (some r)) {s : β} (h : I s W3) : I s W4 :=
  hI s W3 W4 _ h hg (fun k e => by cases e; exact ⟨Nat.le_trans hM hr, hw⟩)
/-- How a ref is handed on. -/
def encR (r : Int × Int) : Array Value := #[.agg #[.int .i64 r.1, .int .i64 r.2]]
/-- What tell does, at a value. -/
def TellC (l bo M : Nat) (L : Nat → Prop) (total : List (Int × Int)) (J Jx : List (Int × Int) → World → Prop) (v : Val) : Prop :=
  ∀ (x : Hv) (S : Nat → Prop) (Yb Tb : Nat) (W : World) (pre : List (Int × Int)), Rd W S x v → W.heap[Yb]? = some (.cells #[.func (.yield l) #[] #[]] 60) →
    W.heap[Tb]? = some (.cells #[.func (.func 44) #[] #[.pointer (some ⟨Yb, 0, none⟩), .pointer (some ⟨Tb, 0, none⟩)]] 61) →
    FreeT (fun k => S k ∨ (k = Yb ∨ k = Tb)) bo W → (∀ k, (S k ∨ (k = Yb ∨ k = Tb)) → ¬ L k ∧ k ≠ bo) → M ≤ W.heap.size → J pre W → pre ++ linksV v <+: total → plainV v = v → Fit v 4000 →
    Calls Try.prog 44 #[.agg x.arr, .pointer (some ⟨Yb, 0, none⟩), .pointer (some ⟨Tb, 0, none⟩)] W fun e W' =>
      ((e = .returned (.bool true) ∧ J (pre ++ linksV v) W') ∨ (e = .returned (.bool false) ∧ ∃ q, Jx q W')) ∧ LKeep L bo W W'

set_option maxHeartbeats 1000000 in
theorem tell_any (l bo M : Nat) (L : Nat → Prop) (total : List (Int × Int)) (J Jx : List (Int × Int) → World → Prop) (hJ : OwnL M bo J) (hJx : OwnL M bo Jx) (hL : ∀ k, L k → k < M) (hboM : bo < M)
    (hY : ∀ pre x W1, J pre W1 → pre ++ [x] <+: total → YieldAt Fence.wide 1 Try.prog l (encR x) W1 fun e W' =>
      ((e = .returned (.bool true) ∧ J (pre ++ [x]) W') ∨ (e = .returned (.bool false) ∧ Jx (pre ++ [x]) W')) ∧ LKeep L bo W1 W') (v : Val) : TellC l bo M L total J Jx v := by
  induction v using held_ind with
  | h v ih =>
    intro x S Yb Tb W pre hR hYb hTb hF hT hM h0 hpre hpl hfit
    have HJ := Lib.hid hJ
    have HJx := Lib.hid hJx
    have HY := Lib.hid hY
    have HL := Lib.hid hL
    have HF := Lib.hid hF
    have HT := Lib.hid hT
    have HPre := Lib.hid hpre
    have HPl := Lib.hid hpl
    have HFit := Lib.hid hfit
    have H0 := Lib.hid h0
    have HR := Lib.hid hR
    have Hih := Lib.hid ih
    have HYb := Lib.hid hYb
    have HTb := Lib.hid hTb
    have hk := (rd_iff.1 hR).1
    clear hJ hJx hY hL hF hT hpre hpl hfit h0 hR ih
    obtain ⟨xk, xn, xg, xs, ⟨lp, ll, lc⟩, ⟨dp, dl, dc⟩⟩ := x
    dsimp only at hk
    obtain ⟨hk1, hk2, hk3, -⟩ := hk
    show Calls Try.prog 44 #[.agg #[.int .i64 xk, .int .i64 xn, .int .i64 xg, .string xs, .slice lp ll lc, .slice dp dl dc], .pointer (some ⟨Yb, 0, none⟩), .pointer (some ⟨Tb, 0, none⟩)] W _
    obtain ⟨W1, hW1⟩ : ∃ W1, (W.alloc (.cells #[.int .i64 xk, .int .i64 xn, .int .i64 xg, .string xs, .slice lp ll lc, .slice dp dl dc] 25)).alloc (.cells #[.bool false] 4) = W1 := ⟨_, rfl⟩
    have hsz1 : W1.heap.size = W.heap.size + 2 := by rw [← hW1]; simp
    have hb1 : Below W.heap.size W W1 := by rw [← hW1]; exact ((Below.refl _ W).alloc (Nat.le_refl _) _).alloc (by simp) _
    have hF1 : FreeT (Also (Also (fun k => S k ∨ (k = Yb ∨ k = Tb)) W.heap.size) (W.heap.size + 1)) bo W1 := by
      rw [← hW1]
      have h := (HF.out.also (World.grownBy_alloc W (.cells #[.int .i64 xk, .int .i64 xn, .int .i64 xg, .string xs, .slice lp ll lc, .slice dp dl dc] 25) none) (by simp)).also (World.grownBy_alloc _ (.cells #[.bool false] 4) none) (by simp)
      rwa [World.size_alloc] at h
    have hT1 : ∀ k, Also (Also (fun k => S k ∨ (k = Yb ∨ k = Tb)) W.heap.size) (W.heap.size + 1) k → ¬ L k ∧ k ≠ bo := fun k hk => by
      rcases hk with (hk | rfl) | rfl
      · exact HT.out k hk
      · exact ⟨fun h => by have := HL.out _ h; omega, by omega⟩
      · exact ⟨fun h => by have := HL.out _ h; omega, by omega⟩
    have hJ1 : J pre W1 := HJ.out _ _ _ none H0.out ⟨hb1.os, hb1.tape, hb1.output, hb1.size, fun k hk _ => hb1.block k hk⟩ (fun k e => by cases e)
    have hres1 : W1.heap[W.heap.size + 1]? = some (.cells #[.bool false] 4) := by
      rw [← hW1]
      have h := World.alloc_heap_new (W.alloc (.cells #[.int .i64 xk, .int .i64 xn, .int .i64 xg, .string xs, .slice lp ll lc, .slice dp dl dc] 25)) (.cells #[.bool false] 4)
      rwa [World.size_alloc] at h
    have HW1 := Lib.hid hW1
    have HF1 := Lib.hid hF1
    have HT1 := Lib.hid hT1
    have HJ1 := Lib.hid hJ1
    have Hb1 := Lib.hid hb1
    have Hres1 := Lib.hid hres1
    clear hW1 hF1 hT1 hJ1 hb1 hres1
    refine (callsIn_wide (n := 3)).1 ?_
    refine callsIn_of_wp_marks Try.func44 rfl trivial ?_ rfl
    simp only [Try.ntmps44, List.size_toArray, List.length_cons, List.length_nil, Nat.reduceAdd, Nat.reduceSub, Array.replicate_succ, Array.replicate_zero, List.push_toArray, List.append_toArray, List.nil_append, List.cons_append]
    by_cases h7 : xk = 7
    · subst h7
      obtain ⟨fn, tmps, assign, body, hyd, hRd⟩ := YieldAt.deep 2 (HY.out pre (xn, xg) W1 HJ1.out (by have h := HPre.out; rw [plain_seven HPl.out hk1.symm, ← hk2, ← hk3] at h; exact h))
      dsimp only [encR] at hyd
      have cY : ((W.alloc (.cells #[.int .i64 7, .int .i64 xn, .int .i64 xg, .string xs, .slice lp ll lc, .slice dp dl dc] 25)).alloc (.cells #[.bool false] 4)).cell? ⟨Yb, 0, none⟩ = some (.func (.yield l) #[] #[]) := by
        rw [HW1.out]
        unfold World.cell?
        simp only [(Hb1.out.block Yb (HF.out.here _ (.inr (.inl rfl)))).trans HYb.out]
        rfl
      have Hk1 := Lib.hid hk1
      have Hk2 := Lib.hid hk2
      have Hk3 := Lib.hid hk3
      clear hYb hTb hk1 hk2 hk3
      gi_wp2_with fail
      rw [HW1.out, hyd]
      gi_wp2
      refine hRd.mono ?_
      clear hyd hRd cY
      rintro e W3 ⟨h3, hk3⟩
      obtain ⟨b, rfl, hb3⟩ : ∃ b, e = .returned (.bool b) ∧ ((b = true ∧ J (pre ++ [(xn, xg)]) W3) ∨ (b = false ∧ Jx (pre ++ [(xn, xg)]) W3)) := by
        rcases h3 with ⟨rfl, h⟩ | ⟨rfl, h⟩
        · exact ⟨true, rfl, .inl ⟨rfl, h⟩⟩
        · exact ⟨false, rfl, .inr ⟨rfl, h⟩⟩
      have hF3 := HF1.out.keep hk3
      have hres3 : Boxed W3 (W.heap.size + 1) 4 (.bool false) := ((HF1.out.keeps HT1.out hk3).2 _ (.inr rfl)).trans Hres1.out
      have c3 := hres3.cell
      have f3 := hres3.frozen
      have HF3 := Lib.hid hF3
      have HR3 := Lib.hid hres3
      have H3 := Lib.hid hb3
      have HK3 : Hid (LKeep L bo W W3) := Lib.hid ((LKeep.below Hb1.out (by omega)).trans hk3)
      clear hF3 hres3 h3 hb3 hk3
      gi_wp2
      have hg := grownBy_setCell' W3 (W.heap.size + 1) (.bool b)
      have hw := HF3.out.row (W.heap.size + 1) (.inr rfl)
      have d0 := (HR3.out.set (.bool b)).cell
      refine ⟨.bool b, by simp [results, Try.f44, go_sem, d0], ?_, HK3.out.turned HF3.out.cells hg (by omega) (Nat.le_succ _) hw⟩
      rcases H3.out with ⟨rfl, h⟩ | ⟨rfl, h⟩
      · refine .inl ⟨rfl, ?_⟩
        rw [plain_seven HPl.out Hk1.out.symm, ← Hk2.out, ← Hk3.out]
        exact turn_own HJ.out (Nat.le_succ _) hM hw hg h
      · exact .inr ⟨rfl, _, turn_own HJx.out (Nat.le_succ _) hM hw hg h⟩
    · have Hk1 := Lib.hid hk1
      have h7' : ¬ v.kind = 7 := by rw [← hk1]; exact h7
      have Hk7 := Lib.hid h7'
      clear hk1 hk2 hk3 hYb hTb h7'
      gi_wp2_with fail
      refine ⟨trivial, ?_⟩
      refine (within_maker _ ⟨xk, xn, xg, xs, ⟨lp, ll, lc⟩, ⟨dp, dl, dc⟩⟩ _).mono ?_
      rintro e w' ⟨rfl, rfl⟩
      gi_wp2_with fail
      obtain ⟨hs, hH⟩ := held_of HR.out
      obtain ⟨hlen, hfits⟩ := held_fit HFit.out
      rw [HW1.out]
      have hbx := World.alloc_heap_new W1 (.cells (Hv.arr ⟨xk, xn, xg, xs, ⟨lp, ll, lc⟩, ⟨dp, dl, dc⟩⟩) 25)
      have hg2 := World.grownBy_alloc W1 (.cells (Hv.arr ⟨xk, xn, xg, xs, ⟨lp, ll, lc⟩, ⟨dp, dl, dc⟩⟩) 25) none
      have hb2 : Below W1.heap.size W1 (W1.alloc (.cells (Hv.arr ⟨xk, xn, xg, xs, ⟨lp, ll, lc⟩, ⟨dp, dl, dc⟩⟩) 25)) := (Below.refl _ W1).alloc (Nat.le_refl _) _
      have hs2 : (W1.alloc (.cells (Hv.arr ⟨xk, xn, xg, xs, ⟨lp, ll, lc⟩, ⟨dp, dl, dc⟩⟩) 25)).heap.size = W1.heap.size + 1 := by simp
      have hF2 := HF1.out.also hg2 (by omega)
      obtain ⟨W2, hW2⟩ : ∃ W2, W1.alloc (.cells (Hv.arr ⟨xk, xn, xg, xs, ⟨lp, ll, lc⟩, ⟨dp, dl, dc⟩⟩) 25) = W2 := ⟨_, rfl⟩
      rw [hW2] at hbx hg2 hb2 hs2 hF2 ⊢
      rw [hsz1] at hbx hs2 hF2
      have hT2 : ∀ k, Also (Also (Also (fun k => S k ∨ (k = Yb ∨ k = Tb)) W.heap.size) (W.heap.size + 1)) (W.heap.size + 2) k → ¬ L k ∧ k ≠ bo := fun k hk => by
        rcases hk with hk | rfl
        · exact HT1.out k hk
        · exact ⟨fun h => by have := HL.out _ h; omega, by omega⟩
      have hbW : Below W.heap.size W W2 := Hb1.out.trans (hb2.mono (by omega))
      have hH2 := hH.later (fun k hk => hbW.block k (HF.out.here k (.inl hk)))
      have hJ2 : J pre W2 := HJ.out _ _ _ none HJ1.out hg2 (fun k e => by cases e)
      have hres2 : W2.heap[W.heap.size + 1]? = some (.cells #[.bool false] 4) := (hb2.block _ (by omega)).trans Hres1.out
      have HTT : ∀ k, S k → Also (Also (Also (fun k => S k ∨ (k = Yb ∨ k = Tb)) W.heap.size) (W.heap.size + 1)) (W.heap.size + 2) k := fun k hk => .inl (.inl (.inl (.inl hk)))
      obtain ⟨T, hTT⟩ : ∃ T : Nat → Prop, Also (Also (Also (fun k => S k ∨ (k = Yb ∨ k = Tb)) W.heap.size) (W.heap.size + 1)) (W.heap.size + 2) = T := ⟨_, rfl⟩
      have hTr : T (W.heap.size + 1) := by rw [← hTT]; exact .inl (.inr rfl)
      have hTb2 : T (W.heap.size + 2) := by rw [← hTT]; exact .inr rfl
      have hTo : ∀ k, (S k ∨ (k = Yb ∨ k = Tb)) → T k := fun k hk => by rw [← hTT]; exact .inl (.inl (.inl hk))
      rw [hTT] at hF2 hT2 HTT
      refine wp_range_L (gf := 49) (lb := #[.pointer (some ⟨W.heap.size + 2, 0, none⟩)]) rfl (enters_of Try.func49 (by kernel_rfl) rfl) (L := L) (bo := bo) (by omega) (fun k hk => by have := HL.out k hk; omega) hF2.cells
        (within_L (W.heap.size + 2) ⟨xk, xn, xg, xs, ⟨lp, ll, lc⟩, ⟨dp, dl, dc⟩⟩ v hs S L bo W2 (by omega) hbx hH2 (hF2.mono (fun k hk => by rcases hk with hk | rfl; exact HTT k hk; exact hTb2)) (fun k hk => by rcases hk with hk | rfl; exact hT2 k (HTT k hk); exact hT2 _ hTb2)) (fun _ => rfl)
        (fun ys X => (ys.length ≤ (heldV v).length ∧ J (pre ++ linksTo v ys.length) X) ∧ LKeep L bo W2 X ∧ FreeT T bo X) (fun ys X => ((∃ q, Jx q X) ∧ True) ∧ LKeep L bo W2 X ∧ FreeT T bo X)
        (own_kept (I := fun (ys : List Nat) X => ys.length ≤ (heldV v).length ∧ J (pre ++ linksTo v ys.length) X) (M := M) (fun ys X Y row h hg hr => ⟨h.1, HJ.out _ _ _ _ h.2 hg hr⟩) (by omega) (by omega))
        (own_kept (I := fun (ys : List Nat) X => (∃ q, Jx q X) ∧ True) (M := M) (fun ys X Y row ⟨⟨q, h⟩, _⟩ hg hr => ⟨⟨q, HJx.out _ _ _ _ h hg hr⟩, trivial⟩) (by omega) (by omega))
        ⟨⟨Nat.zero_le _, by show J (pre ++ []) W2; rw [List.append_nil]; exact hJ2⟩, LKeep.refl _ _ _, hF2⟩
        (fun i a' X => ElA (W.heap.size + 3) (fun p => { tmps := #[.agg #[.int .i64 xk, .int .i64 xn, .int .i64 xg, .string xs, .slice lp ll lc, .slice dp dl dc], .pointer (some ⟨Yb, 0, none⟩), .pointer (some ⟨Tb, 0, none⟩), .pointer (some ⟨W.heap.size, 0, none⟩), .pointer (some ⟨W.heap.size + 1, 0, none⟩), .pointer (some p), .pointer (some ⟨W.heap.size, 0, none⟩), .int .i64 xk, .bool false, undef, undef, undef, undef, undef, undef, undef, .agg #[.int .i64 xk, .int .i64 xn, .int .i64 xg, .string xs, .slice lp ll lc, .slice dp dl dc], .func (.func 49) #[] #[.pointer (some ⟨W.heap.size + 2, 0, none⟩)], .agg (hs i).arr, undef, undef, undef, undef], defers := [] }) (hs i) a' X)
        (fun i a' => elA_own _ _ _ _ a') ?assign ?body ?done ?stop
      case assign =>
        rintro l2 ys i X K ⟨h1, h2, h3⟩ hK
        have hsz := h2.size
        have HK := Lib.hid hK
        have HI := Lib.hid h1
        have HI2 := Lib.hid h2
        have HI3 := Lib.hid h3
        clear hK h1 h2 h3
        obtain ⟨y, hy⟩ : ∃ y, hs i = y := ⟨_, rfl⟩
        rw [hy] at HK ⊢
        obtain ⟨yk, yn, yg, ys, ⟨ylp, yll, ylc⟩, ⟨ydp, ydl, ydc⟩⟩ := y
        dsimp only [Hv.arr]
        gi_wp2
        have hga := World.grownBy_alloc X (.cells #[.int .i64 yk, .int .i64 yn, .int .i64 yg, .string ys, .slice ylp yll ylc, .slice ydp ydl ydc] 25) none
        exact HK.out _ _ (LKeep.grown hga HI3.out.lt) ⟨⟨HI.out.1, HJ.out _ _ _ _ HI.out.2 hga (fun k e => by cases e)⟩, HI2.out.trans (LKeep.grown hga HI3.out.lt), HI3.out.keep (LKeep.grown (L := fun _ => False) hga HI3.out.lt)⟩ ⟨X.heap.size, by omega, World.alloc_heap_new X _, rfl⟩
      case body =>
        rintro l2 ys i a' X hl2 ⟨⟨h1, hJX⟩, hkX, hFX⟩ ⟨b, hNb, hbk, rfl⟩ ⟨rfl, hin⟩
        have hkp := hF2.keeps hT2 hkX
        have hszX := hkX.size
        have hTbX : X.heap[Tb]? = _ := ((hkp.2 Tb (hTo _ (.inr (.inr rfl)))).trans (hbW.block Tb (HF.out.here _ (.inr (.inr rfl))))).trans HTb.out
        have hYbX : X.heap[Yb]? = _ := ((hkp.2 Yb (hTo _ (.inr (.inl rfl)))).trans (hbW.block Yb (HF.out.here _ (.inr (.inl rfl))))).trans HYb.out
        have hresX : X.heap[W.heap.size + 1]? = _ := (hkp.2 _ hTr).trans hres2
        have hHX := hH2.later (fun k hk => hkp.2 k (HTT k hk))
        have hRX : Rd X S (hs ys.length) (heldAt v ys.length) := by obtain ⟨_, _, _, _, _, _, _, _, _, _, h7⟩ := hHX; exact h7 _ hin
        have hpx : pre ++ linksTo v ys.length ++ linksV (heldAt v ys.length) <+: total := by
          refine List.IsPrefix.trans ?_ HPre.out
          rw [List.append_assoc, ← linksTo_succ hin, links_held v, if_neg Hk7.out, List.nil_append]
          obtain ⟨r, hr⟩ := linksTo_prefix v (i := ys.length + 1)
          exact ⟨r, by rw [List.append_assoc, hr]⟩
        have hcall := Hih.out ys.length hin (hs ys.length) S Yb Tb X (pre ++ linksTo v ys.length) hRX hYbX hTbX (hFX.mono hTo) (fun k hk => hT2 k (hTo k hk)) (by omega) hJX hpx (plain_held HPl.out hin) (hfits _ hin).1
        rw [List.append_assoc, ← linksTo_succ hin] at hcall
        obtain ⟨y, hy⟩ : ∃ y, hs ys.length = y := ⟨_, rfl⟩
        rw [hy] at hbk hcall ⊢
        obtain ⟨yk, yn, yg, ysx, ⟨ylp, yll, ylc⟩, ⟨ydp, ydl, ydc⟩⟩ := y
        dsimp only [Hv.arr] at hbk hcall ⊢
        obtain ⟨k0, k1, k2, k3, k4, k5⟩ := six_cells hbk
        have cT : X.cell? ⟨Tb, 0, none⟩ = some (.func (.func 44) #[] #[.pointer (some ⟨Yb, 0, none⟩), .pointer (some ⟨Tb, 0, none⟩)]) := by unfold World.cell?; simp [hTbX]
        have HCall := Lib.hid hcall
        have HresX := Lib.hid hresX
        have HFX := Lib.hid hFX
        have HkX := Lib.hid hkX
        have Hin := Lib.hid hin
        clear hcall hTbX hYbX hresX hHX hRX hpx hbk hy hkp hFX hkX hJX h1 hin
        gi_wp2_with fail
        refine ⟨trivial, ?_⟩
        refine (CallsIn.inRound l2 (callsIn_wide.2 HCall.out)).mono ?_
        rintro e X3 ⟨h3, hk3⟩
        have hF3 := HFX.out.keep hk3
        have hres3 : Boxed X3 (W.heap.size + 1) 4 (.bool false) := ((HFX.out.keeps hT2 hk3).2 _ hTr).trans HresX.out
        have c3 := hres3.cell
        have f3 := hres3.frozen
        have HF3 := Lib.hid hF3
        have HR3 := Lib.hid hres3
        have HK3 := Lib.hid hk3
        have HK23 := Lib.hid (HkX.out.trans hk3)
        clear hF3 hres3 hk3 HCall
        rcases h3 with ⟨rfl, h3⟩ | ⟨rfl, q, h3⟩
        · have H3 := Lib.hid h3
          clear h3
          gi_wp2
          exact ⟨HK3.out, ⟨by rw [List.length_append]; exact Hin.out, by rw [List.length_append]; exact H3.out⟩, HK23.out, HF3.out⟩
        · have H3 := Lib.hid h3
          clear h3
          gi_wp2
          have hg := grown_same HR3.out
          have hlk : LKeep L bo X3 _ := LKeep.grown hg HF3.out.lt
          exact ⟨HK3.out.trans hlk, ⟨⟨q, HJx.out _ _ _ none H3.out hg (fun k e => by cases e)⟩, trivial⟩, HK23.out.trans hlk, HF3.out.keep hlk⟩
      case done =>
        rintro D ys X hD hys ⟨⟨_, hJX⟩, hkX, hFX⟩ hDf
        rw [hys, linksTo_all, show (heldV v).flatMap linksV = linksV v from by rw [links_held v, if_neg Hk7.out]; rfl] at hJX
        have hresX : Boxed X (W.heap.size + 1) 4 (.bool false) := ((hF2.keeps hT2 hkX).2 _ hTr).trans hres2
        have c3 := hresX.cell
        have f3 := hresX.frozen
        have hg1 := grownBy_setCell' X (W.heap.size + 1) (.bool true)
        have hw1 := hFX.row _ hTr
        have HD := Lib.hid ((hg1.block D (Array.getElem?_eq_some_iff.1 hDf).1 (fun e => by cases e; omega)).trans hDf)
        have HRX := Lib.hid (hresX.set (.bool true))
        have HJX := Lib.hid (turn_own HJ.out (Nat.le_succ _) hM hw1 hg1 hJX)
        have HF3 := Lib.hid (hFX.turn hg1 (by omega) hw1)
        have HK3 := Lib.hid (((LKeep.below hbW (by omega)).trans hkX).turned hFX.cells hg1 (by omega) (Nat.le_succ _) hw1)
        clear hresX hg1 hw1 hDf hJX hFX hkX
        gi_wp2
        refine ⟨by simp, .inl ⟨_, _, rfl, run_takeDeferred HD.out, ?_⟩⟩
        have d0 := cell_kept HRX.out.cell (grownBy_putObj' _ D (.deferred none)) (fun r e => by cases e; exact ⟨_, HD.out, rfl⟩)
        have hw2 := HF3.out.cells.not HD.out rfl
        exact ⟨.bool true, by simp [results, Try.f44, go_sem, d0], .inl ⟨rfl, turn_own HJ.out (by omega) hM hw2 (grownBy_putObj' _ D _) HJX.out⟩, HK3.out.turned HF3.out.cells (grownBy_putObj' _ D _) (by omega) (by omega) hw2⟩
      case stop =>
        rintro D ys X hD ⟨⟨⟨q, hq⟩, _⟩, hkX, hFX⟩ hDf
        have hresX : Boxed X (W.heap.size + 1) 4 (.bool false) := ((hF2.keeps hT2 hkX).2 _ hTr).trans hres2
        have HRX := Lib.hid hresX
        have HF3 := Lib.hid hFX
        have HK3 := Lib.hid ((LKeep.below hbW (by omega)).trans hkX)
        have HD := Lib.hid hDf
        have HQ := Lib.hid hq
        clear hresX hDf hFX hkX hq
        gi_wp2
        refine ⟨by simp, .inl ⟨_, _, rfl, run_takeDeferred HD.out, ?_⟩⟩
        have d0 := cell_kept HRX.out.cell (grownBy_putObj' _ D (.deferred none)) (fun r e => by cases e; exact ⟨_, HD.out, rfl⟩)
        have hw2 := HF3.out.cells.not HD.out rfl
        exact ⟨.bool false, by simp [results, Try.f44, go_sem, d0], .inr ⟨rfl, q, turn_own HJx.out (by omega) hM hw2 (grownBy_putObj' _ D _) HQ.out⟩, HK3.out.turned HF3.out.cells (grownBy_putObj' _ D _) (by omega) (by omega) hw2⟩
end
end Go.Proofs.Ytlmgjhidmipadaa
/-
  The program's: the links of a value, as an iterator.
-/
namespace Go.Proofs.Ytlmgjhidmipadaa
section
open Go.RowKit Go.Shelf
set_option maxRecDepth 100000
attribute [local go_sem] Oper.semAt_some

set_option maxHeartbeats 1000000 in
theorem links_L (Vb : Nat) (y : Hv) (p : Val) (S L : Nat → Prop) (bo : Nat) (w : World) (hVb : w.heap[Vb]? = some (.cells y.arr 25)) (hR : Rd w S y p) (hpl : plainV p = p) (hfit : Fit p 4000)
    (hF : FreeT (fun k => S k ∨ k = Vb) bo w) (hT : ∀ k, (S k ∨ k = Vb) → ¬ L k ∧ k ≠ bo) (hL : ∀ k, L k → k < w.heap.size) :
    SeqL Try.prog 43 #[.pointer (some ⟨Vb, 0, none⟩)] encR L bo (fun pre x => pre ++ [x] <+: linksV p) (fun xs => xs = linksV p) w := by
  intro l J Jx W hW hl hlW hrc hrow hJ hJx hY h0
  have hwsz := hW.size
  have hbo := hF.lt
  have hF1 : FreeT (fun k => S k ∨ k = Vb) bo W := ⟨hrc, by omega, fun k hk => Nat.lt_of_lt_of_le (hF.here k hk) hW.size, fun k hk => by rw [hrow]; exact hF.row k hk⟩
  have hVW : W.heap[Vb]? = some (.cells y.arr 25) := (hW.block Vb (hF.here Vb (.inr rfl))).trans hVb
  have hRW : Rd W S y p := hR.later (fun k hk => hW.block k (hF.here k (.inl hk)))
  obtain ⟨Wa, hWa⟩ : ∃ Wa, W.alloc (.cells #[.func (.yield l) #[] #[]] 60) = Wa := ⟨_, rfl⟩
  obtain ⟨Wb, hWb⟩ : ∃ Wb, Wa.alloc (.cells #[.func (.func 44) #[] #[.pointer (some ⟨W.heap.size, 0, none⟩), .pointer (some ⟨W.heap.size + 1, 0, none⟩)]] 61) = Wb := ⟨_, rfl⟩
  have hsa : Wa.heap.size = W.heap.size + 1 := by rw [← hWa]; simp
  have hsb : Wb.heap.size = W.heap.size + 2 := by rw [← hWb]; simp; omega
  have hga : W.grownBy Wa none := by rw [← hWa]; exact World.grownBy_alloc _ _ _
  have hgb : Wa.grownBy Wb none := by rw [← hWb]; exact World.grownBy_alloc _ _ _
  have hba : Below W.heap.size W Wb := by rw [← hWb, ← hWa]; exact ((Below.refl _ W).alloc (Nat.le_refl _) _).alloc (by simp) _
  have hYb : Wb.heap[W.heap.size]? = some (.cells #[.func (.yield l) #[] #[]] 60) := (hgb.block _ (by omega) (by simp)).trans (by rw [← hWa]; exact World.alloc_heap_new W _)
  have hTb : Wb.heap[W.heap.size + 1]? = some (.cells #[.func (.func 44) #[] #[.pointer (some ⟨W.heap.size, 0, none⟩), .pointer (some ⟨W.heap.size + 1, 0, none⟩)]] 61) := by
    rw [← hWb, ← hsa]; exact World.alloc_heap_new Wa _
  have hF2 := (hF1.also hga (by omega)).also hgb (by omega)
  rw [hsa] at hF2
  have hY0 : (W.alloc (.cells #[.func (.yield l) #[] #[]] 60)).heap[W.heap.size]? = some (.cells #[.func (.yield l) #[] #[]] 60) := World.alloc_heap_new W _
  have hT2 : ∀ k, (S k ∨ (k = W.heap.size ∨ k = W.heap.size + 1)) → ¬ Also L l k ∧ k ≠ bo := fun k hk => by
    rcases hk with hk | rfl | rfl
    · have h1 := hT k (.inl hk)
      have h2 := hF.here k (.inl hk)
      exact ⟨fun h => by rcases h with h | rfl; exact h1.1 h; omega, h1.2⟩
    · exact ⟨fun h => by rcases h with h | h; have := hL _ h; omega; omega, by omega⟩
    · exact ⟨fun h => by rcases h with h | h; have := hL _ h; omega; omega, by omega⟩
  have hJb : J [] Wb := hJ _ _ _ none (hJ _ _ _ none h0 hga (fun k e => by cases e)) hgb (fun k e => by cases e)
  have htell := tell_any l bo W.heap.size (Also L l) (linksV p) J Jx hJ hJx (fun k hk => by rcases hk with hk | rfl; have := hL k hk; omega; exact hlW) (by omega) (fun pre x W1 h1 h2 => hY pre x W1 h1 h2) p y S W.heap.size (W.heap.size + 1) Wb []
    (hRW.later (fun k hk => hba.block k (hF1.here k (.inl hk)))) hYb hTb (hF2.mono (fun k hk => by rcases hk with hk | rfl | rfl; exact .inl (.inl (.inl hk)); exact .inl (.inr rfl); exact .inr rfl)) hT2 hba.size hJb (List.prefix_refl _) hpl hfit
  have HTell := Lib.hid htell
  have HWa := Lib.hid hWa
  have HWb := Lib.hid hWb
  obtain ⟨yk, yn, yg, ys, ⟨ylp, yll, ylc⟩, ⟨ydp, ydl, ydc⟩⟩ := y
  dsimp only [Hv.arr] at hVW HTell
  have hVb2 := hVW
  obtain ⟨k0, k1, k2, k3, k4, k5⟩ := six_cells hVW
  clear htell hVb2 hWa hWb hY0 hsa hsb hga hgb hba hYb hTb hF2 hT2 hJb hF1 hRW hF hT hL hY h0 hJ hJx
  refine (callsIn_wide (n := 3)).1 ?_
  refine callsIn_of_wp Try.func43 rfl trivial ?_ rfl
  simp only [Try.ntmps43, List.size_toArray, List.length_cons, List.length_nil, Nat.reduceAdd, Nat.reduceSub, Array.replicate_succ, Array.replicate_zero, List.push_toArray, List.append_toArray, List.nil_append, List.cons_append]
  have hlt : Vb < W.heap.size := (Array.getElem?_eq_some_iff.1 hVW).1
  have kk : ∀ o v, W.cell? ⟨Vb, o, none⟩ = some v → ((W.alloc (.cells #[.func (.yield l) #[] #[]] 60)).alloc (.cells #[.func (.func 44) #[] #[.pointer (some ⟨W.heap.size, 0, none⟩), .pointer (some ⟨W.heap.size + 1, 0, none⟩)]] 61)).cell? ⟨Vb, o, none⟩ = some v := fun o v h => (World.cell?_alloc_lt _ _ _ (by show Vb < _; rw [World.size_alloc]; omega)).trans ((World.cell?_alloc_lt _ _ _ hlt).trans h)
  replace k0 := kk _ _ k0
  replace k1 := kk _ _ k1
  replace k2 := kk _ _ k2
  replace k3 := kk _ _ k3
  replace k4 := kk _ _ k4
  replace k5 := kk _ _ k5
  clear kk hVW
  gi_wp2_with fail
  refine ⟨trivial, ?_⟩
  have h := HTell.out
  rw [← HWb.out, ← HWa.out] at h
  refine (callsIn_wide.2 h).mono ?_
  clear h HTell k0 k1 k2 k3 k4 k5
  rintro e W3 ⟨(⟨rfl, h3⟩ | ⟨rfl, q, h3⟩), -⟩
  · gi_wp2
    go_end0
    exact ⟨⟨_, rfl⟩, .inl ⟨_, rfl, h3⟩⟩
  · gi_wp2
    go_end0
    exact ⟨⟨_, rfl⟩, .inr ⟨_, h3⟩⟩

set_option maxHeartbeats 1000000 in
/-- Links makes the value plain, and hands its iterator back. -/
theorem plinks_maker (v : Val) (x : Hv) (w : World) (S : Nat → Prop) (hR : Rd w S x v) (hS : ∀ k, S k → k < w.heap.size) (hfit : Fit v 4000) :
    Calls Try.prog 25 #[.agg x.arr] w fun e w' => e = .returned (.func (.func 43) #[] #[.pointer (some ⟨w.heap.size, 0, none⟩)]) ∧ Below w.heap.size w w' ∧
      ∃ y : Hv, w'.heap[w.heap.size]? = some (.cells y.arr 25) ∧ Rd w' (fun k => w.heap.size < k ∧ k < w'.heap.size) y (plainV v) := by
  obtain ⟨xk, xn, xg, xs, ⟨lp, ll, lc⟩, ⟨dp, dl, dc⟩⟩ := x
  have Hc := Lib.hid (fun W (hb : Below w.heap.size w W) => pplain_any v ⟨xk, xn, xg, xs, ⟨lp, ll, lc⟩, ⟨dp, dl, dc⟩⟩ W S (hR.later (below_old hS hb)) (old_later hS hb) hfit)
  clear hR hS hfit
  show Calls Try.prog 25 #[.agg #[.int .i64 xk, .int .i64 xn, .int .i64 xg, .string xs, .slice lp ll lc, .slice dp dl dc]] w _
  refine (callsIn_wide (n := 3)).1 ?_
  refine callsIn_of_wp Try.func25 rfl trivial ?_ rfl
  simp only [Try.ntmps25, List.size_toArray, List.length_cons, List.length_nil, Nat.reduceAdd, Nat.reduceSub, Array.replicate_succ, Array.replicate_zero, List.push_toArray, List.append_toArray, List.nil_append, List.cons_append]
  gi_wp2_with fail
  refine ⟨trivial, ?_⟩
  have hb1 : Below w.heap.size w (w.alloc (.cells #[.int .i64 xk, .int .i64 xn, .int .i64 xg, .string xs, .slice lp ll lc, .slice dp dl dc] 25)) := (Below.refl _ w).alloc (Nat.le_refl _) _
  refine (callsIn_wide.2 (Hc.out _ hb1)).mono ?_
  rintro e w3 ⟨y, rfl, hy, hb3⟩
  obtain ⟨yk, yn, yg, ys, ⟨ylp, yll, ylc⟩, ⟨ydp, ydl, ydc⟩⟩ := y
  dsimp only [Hv.arr]
  rw [World.size_alloc] at hy hb3
  have hv : VCell w3 w.heap.size ⟨xk, xn, xg, xs, ⟨lp, ll, lc⟩, ⟨dp, dl, dc⟩⟩ := (VCell.new w _).later hb3 (Nat.lt_succ_self _)
  obtain ⟨k0, k1, k2, k3, k4, k5⟩ := hv.at
  simp only [Nat.zero_add] at k0 k1 k2 k3 k4 k5

  have f0 := hv.free 0
  have f1 := hv.free 1
  have f2 := hv.free 2
  have f3 := hv.free 3
  have f4 := hv.free 4
  have f5 := hv.free 5
  have Hv6 := Lib.hid (vcell_six hv yk yn yg ys ylp ydp yll ylc ydl ydc)
  have Hy := Lib.hid hy
  have Hb3 := Lib.hid (hb1.trans (hb3.mono (Nat.le_succ _)))
  clear hv hy hb3 hb1 Hc
  gi_wp2
  have hset : ∀ (W W' : World) (j : Nat) (u : Value), (Below w.heap.size w W' ∧ W'.heap.size = w3.heap.size ∧ ∀ k, k ≠ w.heap.size → W'.heap[k]? = w3.heap[k]?) → W = W'.setCell ⟨w.heap.size, j, none⟩ u → (Below w.heap.size w W ∧ W.heap.size = w3.heap.size ∧ ∀ k, k ≠ w.heap.size → W.heap[k]? = w3.heap[k]?) := fun W W' j u h e => by
    subst e
    exact ⟨h.1.setCell (p := ⟨w.heap.size, j, none⟩) (Nat.le_refl _) _, by rw [← h.2.1]; simp [World.setCell], fun k hk => (Below.heap_setCell _ _ _ _ hk).trans (h.2.2 k hk)⟩
  obtain ⟨hb, hsz, hk⟩ := hset _ _ 5 (.slice ydp ydl ydc) (hset _ _ 4 (.slice ylp yll ylc) (hset _ _ 3 (.string ys) (hset _ _ 2 (.int .i64 yg) (hset _ _ 1 (.int .i64 yn) (hset _ _ 0 (.int .i64 yk) ⟨Hb3.out, rfl, fun _ _ => rfl⟩ rfl) rfl) rfl) rfl) rfl) rfl
  have hv6 := Hv6.out
  generalize hgen : (((((w3.setCell ⟨w.heap.size, 0, none⟩ (.int .i64 yk)).setCell ⟨w.heap.size, 1, none⟩ (.int .i64 yn)).setCell ⟨w.heap.size, 2, none⟩ (.int .i64 yg)).setCell ⟨w.heap.size, 3, none⟩ (.string ys)).setCell ⟨w.heap.size, 4, none⟩ (.slice ylp yll ylc)).setCell ⟨w.heap.size, 5, none⟩ (.slice ydp ydl ydc) = w6 at *
  clear Hv6 hset
  go_ret
  exact ⟨rfl, hb, _, hv6, (Hy.out.bound.later (fun k hk2 => hk k (by have := hk2.1; omega))).mono (fun k hk2 => ⟨hk2.1, by rw [hsz]; exact hk2.2⟩)⟩
end
end Go.Proofs.Ytlmgjhidmipadaa
/-
  The program's: whether a value names an object.
-/
namespace Go.Proofs.Ytlmgjhidmipadaa
section
open Go.RowKit Go.Shelf
set_option maxRecDepth 100000
attribute [local go_sem] Oper.semAt_some

/-- A ref's block. -/
abbrev refA (r : Int × Int) : Array Value := #[.int .i64 r.1, .int .i64 r.2]
def ElR (N : Nat) (f : Addr → Act) (r : Int × Int) (a' : Act) (W : World) : Prop := ∃ b, N ≤ b ∧ W.heap[b]? = some (.cells (refA r) 40) ∧ a' = f ⟨b, 0, none⟩
theorem elR_own (N B : Nat) (f : Addr → Act) (r : Int × Int) (a' : Act) : OwnFrom B (fun (_ : Unit) W => ElR N f r a' W) := fun _ X Y row ⟨b, h1, h2, h3⟩ hg hr =>
  ⟨b, h1, (hg.block b (Array.getElem?_eq_some_iff.1 h2).1 (fun e => by obtain ⟨o, ho, hc⟩ := (hr b e.symm).2; rw [h2] at ho; cases ho; cases hc)).trans h2, h3⟩
theorem two_cells {W : World} {b : Nat} {v0 v1 : Value} {ty : TypeId} (h : W.heap[b]? = some (.cells #[v0, v1] ty)) : W.cell? ⟨b, 0, none⟩ = some v0 ∧ W.cell? ⟨b, 1, none⟩ = some v1 := by
  unfold World.cell?
  simp [h]
/-- What speaks of low blocks. -/
theorem own_low {β : Type} {M bo : Nat} {w : World} (p : β → Prop) (os : Nat → Obj → Prop) (hM : w.heap.size ≤ M) (hos : ∀ k o, os k o → k < M) : OwnL M bo (fun s W => (p s ∧ ∀ k o, os k o → W.heap[k]? = some o) ∧ Below w.heap.size w W ∧ M ≤ W.heap.size) := by
  rintro s X Y row ⟨⟨h1, h2⟩, h3, h4⟩ hg hr
  refine ⟨⟨h1, fun k o hk => (hg.block k (by have := hos k o hk; omega) (fun e => by have := (hr k e.symm).1; have := hos k o hk; omega)).trans (h2 k o hk)⟩, ⟨hg.os.trans h3.os, hg.tape.trans h3.tape, hg.output.trans h3.output, Nat.le_trans h3.size hg.size, fun k hk => ?_⟩, Nat.le_trans h4 hg.size⟩
  exact (hg.block k (by have := h3.size; omega) (fun e => by have := (hr k e.symm).1; omega)).trans (h3.block k hk)

set_option maxHeartbeats 1000000 in
theorem pholds_any (v : Val) (x : Hv) (r : Int × Int) (w : World) (S : Nat → Prop) (hR : Rd w S x v) (hS : ∀ k, S k → k < w.heap.size) (hfit : Fit v 4000) :
    Calls Try.prog 28 #[.agg x.arr, .agg (refA r)] w fun e w' => e = .returned (.bool (decide (r ∈ linksV (plainV v)))) ∧ Below w.heap.size w w' := by
  obtain ⟨xk, xn, xg, xs, ⟨lp, ll, lc⟩, ⟨dp, dl, dc⟩⟩ := x
  obtain ⟨rn, rg⟩ := r
  obtain ⟨W1, hW1⟩ : ∃ W1, ((w.alloc (.cells #[.int .i64 xk, .int .i64 xn, .int .i64 xg, .string xs, .slice lp ll lc, .slice dp dl dc] 25)).alloc (.cells #[.int .i64 rn, .int .i64 rg] 40)).alloc (.cells #[.bool false] 4) = W1 := ⟨_, rfl⟩
  have hb1 : Below w.heap.size w W1 := by rw [← hW1]; exact (((Below.refl _ w).alloc (Nat.le_refl _) _).alloc (by simp) _).alloc (by simp; omega) _
  have hs1 : W1.heap.size = w.heap.size + 3 := by rw [← hW1]; simp
  have hc := plinks_maker v ⟨xk, xn, xg, xs, ⟨lp, ll, lc⟩, ⟨dp, dl, dc⟩⟩ W1 S (hR.later (below_old hS hb1)) (old_later hS hb1) hfit
  have b1 : W1.heap[w.heap.size + 1]? = some (.cells #[.int .i64 rn, .int .i64 rg] 40) := by
    rw [← hW1]
    have h := World.alloc_heap_new (w.alloc (.cells #[.int .i64 xk, .int .i64 xn, .int .i64 xg, .string xs, .slice lp ll lc, .slice dp dl dc] 25)) (.cells #[.int .i64 rn, .int .i64 rg] 40)
    rw [World.size_alloc] at h
    exact (Below.heap_alloc _ _ _ (by simp)).trans h
  have b2 : W1.heap[w.heap.size + 2]? = some (.cells #[.bool false] 4) := by
    rw [← hW1]
    have h := World.alloc_heap_new ((w.alloc (.cells #[.int .i64 xk, .int .i64 xn, .int .i64 xg, .string xs, .slice lp ll lc, .slice dp dl dc] 25)).alloc (.cells #[.int .i64 rn, .int .i64 rg] 40)) (.cells #[.bool false] 4)
    simpa using h
  rw [hs1] at hc
  have Hc := Lib.hid hc
  have Hb1 := Lib.hid hb1
  have HB1 := Lib.hid b1
  have HB2 := Lib.hid b2
  have HW1 := Lib.hid hW1
  have HFit := Lib.hid hfit
  clear hR hS hfit hc hb1 b1 b2 hW1
  show Calls Try.prog 28 #[.agg #[.int .i64 xk, .int .i64 xn, .int .i64 xg, .string xs, .slice lp ll lc, .slice dp dl dc], .agg #[.int .i64 rn, .int .i64 rg]] w _
  refine (callsIn_wide (n := 3)).1 ?_
  refine callsIn_of_wp_marks Try.func28 rfl trivial ?_ rfl
  simp only [Try.ntmps28, List.size_toArray, List.length_cons, List.length_nil, Nat.reduceAdd, Nat.reduceSub, Array.replicate_succ, Array.replicate_zero, List.push_toArray, List.append_toArray, List.nil_append, List.cons_append]
  gi_wp2_with fail
  refine ⟨trivial, ?_⟩
  rw [HW1.out]
  refine (callsIn_wide.2 Hc.out).mono ?_
  rintro e w2 ⟨rfl, hb2, y, hy, hRy⟩
  gi_wp2_with fail
  have hsz2 := hb2.size
  rw [hs1] at hsz2
  have hrow : rowB (w.heap.size + 2) w2 = none := by
    have h := (hb2.block (w.heap.size + 2) (by omega)).trans HB2.out
    unfold rowB World.cell?
    simp [h]
  have hrc : RowCells (w.heap.size + 2) w2 := fun k hk => by rw [hrow] at hk; cases hk
  have hF : FreeT (fun k => (w.heap.size + 3 < k ∧ k < w2.heap.size) ∨ k = w.heap.size + 3) (w.heap.size + 2) w2 := ⟨hrc, by omega, fun k hk => by have := (Array.getElem?_eq_some_iff.1 hy).1; omega, fun k _ e => by rw [hrow] at e; cases e⟩
  have hbw : Below w.heap.size w w2 := Hb1.out.trans (hb2.mono (by omega))
  have q1 := (hb2.block (w.heap.size + 1) (by omega)).trans HB1.out
  have q2 := (hb2.block (w.heap.size + 2) (by omega)).trans HB2.out
  have hlow : ∀ {o1 o2 : Obj} (k : Nat) (o : Obj), (k = w.heap.size + 1 ∧ o = o1) ∨ (k = w.heap.size + 2 ∧ o = o2) → k < w2.heap.size := fun k o h => by omega
  refine wp_range_L (gf := 43) (lb := #[.pointer (some ⟨w.heap.size + 3, 0, none⟩)]) rfl (enters_of Try.func43 (by kernel_rfl) rfl) (L := fun _ => False) (bo := w.heap.size + 2) (by omega) (fun k hk => hk.elim) hrc
    (links_L (w.heap.size + 3) y (plainV v) _ _ _ w2 hy hRy (plain_plain v) (plain_fit HFit.out) hF (fun k hk => ⟨id, by omega⟩) (fun k hk => hk.elim)) (fun _ => rfl)
    (fun pre W => ((rn, rg) ∉ pre ∧ ∀ k o, ((k = w.heap.size + 1 ∧ o = .cells #[.int .i64 rn, .int .i64 rg] 40) ∨ (k = w.heap.size + 2 ∧ o = .cells #[.bool false] 4)) → W.heap[k]? = some o) ∧ Below w.heap.size w W ∧ w2.heap.size ≤ W.heap.size)
    (fun pre W => ((rn, rg) ∈ linksV (plainV v) ∧ ∀ k o, ((k = w.heap.size + 2 ∧ o = .cells #[.bool true] 4) ∨ (k = w.heap.size + 2 ∧ o = .cells #[.bool true] 4)) → W.heap[k]? = some o) ∧ Below w.heap.size w W ∧ w2.heap.size ≤ W.heap.size)
    (own_low _ _ (by omega) (fun k o h => by omega)) (own_low _ _ (by omega) (fun k o h => by omega))
    ⟨⟨by simp, fun k o h => by rcases h with ⟨rfl, rfl⟩ | ⟨rfl, rfl⟩; exact q1; exact q2⟩, hbw, Nat.le_refl _⟩
    (fun r a' X => ElR (w.heap.size + 3) (fun p => { tmps := #[.agg #[.int .i64 xk, .int .i64 xn, .int .i64 xg, .string xs, .slice lp ll lc, .slice dp dl dc], .agg #[.int .i64 rn, .int .i64 rg], .pointer (some ⟨w.heap.size, 0, none⟩), .pointer (some ⟨w.heap.size + 1, 0, none⟩), .pointer (some ⟨w.heap.size + 2, 0, none⟩), .pointer (some p), .agg #[.int .i64 xk, .int .i64 xn, .int .i64 xg, .string xs, .slice lp ll lc, .slice dp dl dc], .func (.func 43) #[] #[.pointer (some ⟨w.heap.size + 3, 0, none⟩)], .agg (refA r), undef, undef, undef], defers := [] }) r a' X)
    (fun r a' => elR_own _ _ _ _ a') ?assign ?body ?done ?stop
  case assign =>
    rintro l2 pre ⟨an, ag⟩ X K ⟨⟨h1, h2⟩, h3, h4⟩ hK
    have HK := Lib.hid hK
    have H2 := Lib.hid h2
    have H3 := Lib.hid h3
    clear hK h2 h3
    dsimp only [encR]
    gi_wp2
    have hga := World.grownBy_alloc X (.cells #[.int .i64 an, .int .i64 ag] 40) none
    refine HK.out _ _ (LKeep.grown hga (by omega)) ⟨⟨h1, fun k o hk => (hga.block k (by omega) (by simp)).trans (H2.out k o hk)⟩, H3.out.alloc H3.out.size _, by have := hga.size; omega⟩ ⟨X.heap.size, by omega, World.alloc_heap_new X _, rfl⟩
  case body =>
    rintro l2 pre ⟨an, ag⟩ a' X hl2 ⟨⟨h1, h2⟩, h3, h4⟩ ⟨b, hNb, hbk, rfl⟩ hok
    have r1 := h2 (w.heap.size + 1) _ (.inl ⟨rfl, rfl⟩)
    have r2 : Boxed X (w.heap.size + 2) 4 (.bool false) := h2 (w.heap.size + 2) _ (.inr ⟨rfl, rfl⟩)
    obtain ⟨k0, k1⟩ := two_cells hbk
    obtain ⟨j0, j1⟩ := two_cells r1
    have c2 := r2.cell
    have f2 := r2.frozen
    have R2 := Lib.hid r2
    have H2 := Lib.hid h2
    have H3 := Lib.hid h3
    have Hok := Lib.hid hok
    clear r1 r2 h2 h3 hbk hok
    by_cases he : an = rn ∧ ag = rg
    · obtain ⟨rfl, rfl⟩ := he
      have hin : (an, ag) ∈ linksV (plainV v) := by
        obtain ⟨t, ht⟩ := Hok.out
        rw [← ht]
        simp
      have Hin := Lib.hid hin
      clear hin h1 hb2 hy hRy hrow hrc hF hbw q1 q2
      gi_wp2
      have r3 := R2.out.set (.bool true)
      have hrow3 : rowB (w.heap.size + 2) (X.setCell ⟨w.heap.size + 2, 0, none⟩ (.bool true)) = none := by unfold rowB; rw [r3.cell]
      exact ⟨⟨by simp [World.setCell], fun k _ _ h _ => Below.heap_setCell _ _ _ _ h, fun k e => by (rw [hrow3] at e; cases e), fun _ k e => by (rw [hrow3] at e; cases e)⟩, ⟨Hin.out, r3⟩, H3.out.setCell (p := ⟨w.heap.size + 2, 0, none⟩) (by show w.heap.size ≤ w.heap.size + 2; omega) _, by simp [World.setCell]; omega⟩
    · have hnin : (rn, rg) ∉ pre ++ [(an, ag)] := fun h => by
        rcases List.mem_append.1 h with h | h
        · exact h1 h
        · rw [List.mem_singleton] at h
          cases h
          exact he ⟨rfl, rfl⟩
      have Hnin := Lib.hid hnin
      have fin : LKeep (fun _ => False) (w.heap.size + 2) X X := LKeep.refl _ _ _
      have Hfin := Lib.hid fin
      clear hnin fin hb2 hy hRy hrow hrc hF hbw q1 q2 h1
      by_cases hn : an = rn
      · subst hn
        have hg : ¬ ag = rg := fun h => he ⟨rfl, h⟩
        clear he
        gi_wp2
        exact ⟨Hfin.out, ⟨Hnin.out, H2.out⟩, H3.out, h4⟩
      · clear he
        gi_wp2
        exact ⟨Hfin.out, ⟨Hnin.out, H2.out⟩, H3.out, h4⟩
  case done =>
    rintro D ys X hD rfl ⟨⟨h1, h2⟩, h3, h4⟩ hDf
    have r2 : Boxed X (w.heap.size + 2) 4 (.bool false) := h2 (w.heap.size + 2) _ (.inr ⟨rfl, rfl⟩)
    have c2 := r2.cell
    have f2 := r2.frozen
    have hg1 := grownBy_setCell' X (w.heap.size + 2) (.bool false)
    have HD := Lib.hid ((hg1.block D (Array.getElem?_eq_some_iff.1 hDf).1 (fun e => by cases e; omega)).trans hDf)
    have HRX := Lib.hid (r2.set (.bool false))
    have H3 := Lib.hid (h3.setCell (p := ⟨w.heap.size + 2, 0, none⟩) (by show w.heap.size ≤ w.heap.size + 2; omega) (.bool false))
    have H1 := Lib.hid h1
    clear r2 hg1 hDf h1 h2 h3 hb2 hy hRy hrow hrc hF hbw q1 q2
    gi_wp2
    refine ⟨by simp, .inl ⟨_, _, rfl, run_takeDeferred HD.out, ?_⟩⟩
    have d0 := cell_kept HRX.out.cell (grownBy_putObj' _ D (.deferred none)) (fun r e => by cases e; exact ⟨_, HD.out, rfl⟩)
    exact ⟨.bool false, by simp [results, Try.f28, go_sem, d0], by rw [decide_eq_false H1.out], H3.out.trans (belowK_b (w := w) (Nat.le_refl _) _ D _ _ (by omega) HD.out rfl rfl)⟩
  case stop =>
    rintro D ys X hD ⟨⟨h1, h2⟩, h3, h4⟩ hDf
    have r2 : Boxed X (w.heap.size + 2) 4 (.bool true) := h2 (w.heap.size + 2) _ (.inr ⟨rfl, rfl⟩)
    have HD := Lib.hid hDf
    have HRX := Lib.hid r2
    have H3 := Lib.hid h3
    have H1 := Lib.hid h1
    clear r2 hDf h1 h2 h3 hb2 hy hRy hrow hrc hF hbw q1 q2
    gi_wp2
    refine ⟨by simp, .inl ⟨_, _, rfl, run_takeDeferred HD.out, ?_⟩⟩
    have d0 := cell_kept HRX.out.cell (grownBy_putObj' _ D (.deferred none)) (fun r e => by cases e; exact ⟨_, HD.out, rfl⟩)
    exact ⟨.bool true, by simp [results, Try.f28, go_sem, d0], by rw [decide_eq_true H1.out], H3.out.trans (belowK_b (w := w) (Nat.le_refl _) _ D _ _ (by omega) HD.out rfl rfl)⟩
end
end Go.Proofs.Ytlmgjhidmipadaa
