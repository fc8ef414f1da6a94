/-
  token.Many: how many signs there are.
-/
import Derived.Test.YtnjmapgmodoodaaTkIter
namespace Go.Proofs.Ytnjmapgmodoodaa
open Go.RowKit Go.Shelf
set_option maxRecDepth 100000
attribute [local go_sem] Oper.semAt_some

/-- The last one of them. -/
def lastS (xs : List Sg) : Sg := xs.getLastD (Sg.err 0)
theorem lastS_snoc (q : List Sg) (x : Sg) : lastS (q ++ [x]) = x := by simp [lastS]
/-- An error is told last. -/
theorem yields_err {l : List UInt8} {q : List Sg} {x : Sg} (h : q ++ [x] <+: yields l) (hx : ¬ x.code = 0) : q = (allL l).1 ∧ x.code = (allL l).2 ∧ ¬ (allL l).2 = 0 := by
  have hg := (all_good l (l.length + 1) 0 (by omega) (Nat.zero_le _)).2.1
  unfold yields at h
  obtain ⟨r, hr⟩ := h
  by_cases hc : (allL l).2 = 0
  · rw [if_pos hc, List.append_nil] at hr
    have hm : x ∈ (allL l).1 := by rw [← hr]; simp
    exact absurd (hg x hm).1 hx
  · rw [if_neg hc] at hr
    rcases List.eq_nil_or_concat r with rfl | ⟨r', y, rfl⟩
    · rw [List.append_nil] at hr
      obtain ⟨h1, h2⟩ := List.append_inj' hr rfl
      injection h2 with h3 _
      exact ⟨h1, by rw [h3]; rfl, hc⟩
    · rw [List.concat_eq_append, ← List.append_assoc] at hr
      obtain ⟨h1, _⟩ := List.append_inj' hr rfl
      have hm : x ∈ (allL l).1 := by rw [← h1]; simp
      exact absurd (hg x hm).1 hx
theorem yields_ok {l : List UInt8} (h : ∀ x ∈ yields l, x.code = 0) : yields l = (allL l).1 ∧ (allL l).2 = 0 := by
  by_cases hc : (allL l).2 = 0
  · refine ⟨?_, hc⟩
    unfold yields
    rw [if_pos hc, List.append_nil]
  · exfalso
    refine hc (h (Sg.err (allL l).2) ?_)
    unfold yields
    rw [if_neg hc]
    simp
theorem tokCell_own {β : Type} (b : Nat) (cs : Array Value) : Own (fun (_ : β) W => TokCell W b cs) := fun _ X Y row hs hg hrow =>
  (hg.block b hs.lt (fun e' => by obtain ⟨o, ho, hc⟩ := hrow b e'.symm; rw [show X.heap[b]? = _ from hs] at ho; cases ho; cases hc)).trans hs

theorem roundKeeps_grown {N bo bn : Nat} {W W' : World} (hg : W.grownBy W' none) (hbo : bo < W.heap.size) (hbn : bn < W.heap.size) : RoundKeeps N bo bn W W' := by
  have hcell : ∀ q, q < W.heap.size → W'.cell? ⟨q, 0, none⟩ = W.cell? ⟨q, 0, none⟩ := fun q hq => by
    have h2 := hg.block q hq (by simp)
    unfold World.cell?
    simp only [h2]
  have hrow := rowOf_same (hcell bo hbo)
  exact ⟨hg.size, hcell bn hbn, fun h => by rw [hrow]; exact Nat.lt_of_lt_of_le h hg.size, .inl hrow, fun k cs ty fz _ hk _ => (hg.block k (Array.getElem?_eq_some_iff.1 hk).1 (by simp)).trans hk⟩
theorem roundKeeps_refl (N bo bn : Nat) (W : World) : RoundKeeps N bo bn W W := ⟨Nat.le_refl _, rfl, id, .inl rfl, fun _ _ _ _ _ h _ => h⟩
theorem roundKeeps_set {N bo bn q : Nat} {W : World} (v : Value) (hq : q < N) (h1 : q ≠ bo) (h2 : q ≠ bn) : RoundKeeps N bo bn W (W.setCell ⟨q, 0, none⟩ v) := by
  have hcell : ∀ r, q ≠ r → (W.setCell ⟨q, 0, none⟩ v).cell? ⟨r, 0, none⟩ = W.cell? ⟨r, 0, none⟩ := fun r hr => by
    have h3 : (W.setCell ⟨q, 0, none⟩ v).heap[r]? = W.heap[r]? := Below.heap_setCell _ _ _ _ (Ne.symm hr)
    unfold World.cell?
    simp only [h3]
  have hrow := rowOf_same (hcell bo h1)
  have hsz : (W.setCell ⟨q, 0, none⟩ v).heap.size = W.heap.size := by simp [World.setCell]
  exact ⟨by rw [hsz]; exact Nat.le_refl _, hcell bn h2, fun h => by rw [hrow, hsz]; exact h, .inl hrow, fun k cs ty fz hN hk _ => (Below.heap_setCell _ _ _ _ (by show k ≠ q; omega)).trans hk⟩

/-- What holds in Many's rounds. -/
def ManyI (w : World) (s : ByteArray) (pre : List Sg) (W : World) : Prop :=
  ((Boxed W w.heap.size 3 (.int .i64 0) ∧ Boxed W (w.heap.size + 1) 25 (.int .i64 0)) ∧ (Boxed W (w.heap.size + 1 + 1) 3 (.int .i64 (countS pre : Nat)) ∧ Boxed W (w.heap.size + 1 + 1 + 1) 9 (.string s))) ∧ ((∀ x ∈ pre, x.code = 0) ∧ Below w.heap.size w W)
def ManyX (w : World) (c : Code) (pre : List Sg) (W : World) : Prop :=
  ((c = Code.ret ∧ ¬ (lastS pre).code = 0) ∧ (Boxed W w.heap.size 3 (.int .i64 (countS pre.dropLast : Nat)) ∧ Boxed W (w.heap.size + 1) 25 (.int .i64 (lastS pre).code))) ∧ Below w.heap.size w W
theorem manyI_own (w : World) (s : ByteArray) (B : Nat) (hB : w.heap.size ≤ B) : OwnFrom B (ManyI w s) :=
  OwnFrom.and (OwnFrom.and (OwnFrom.and (Own.from (boxed_own _ _ (fun _ : List Sg => _)) _) (Own.from (boxed_own _ _ (fun _ : List Sg => _)) _)) (OwnFrom.and (Own.from (boxed_own (w.heap.size + 1 + 1) 3 (fun pre : List Sg => .int .i64 (countS pre : Nat))) _) (Own.from (boxed_own _ _ (fun _ : List Sg => _)) _)))
    (OwnFrom.and (ownFrom_pure _ (fun pre : List Sg => ∀ x ∈ pre, x.code = 0)) (ownFrom_below (Nat.le_refl _) hB))
theorem manyX_own (w : World) (c : Code) (B : Nat) (hB : w.heap.size ≤ B) : OwnFrom B (ManyX w c) :=
  OwnFrom.and (OwnFrom.and (ownFrom_pure _ (fun pre : List Sg => c = Code.ret ∧ ¬ (lastS pre).code = 0)) (OwnFrom.and (Own.from (boxed_own w.heap.size 3 (fun pre : List Sg => .int .i64 (countS pre.dropLast : Nat))) _) (Own.from (boxed_own (w.heap.size + 1) 25 (fun pre : List Sg => .int .i64 (lastS pre).code)) _)))
    (ownFrom_below (Nat.le_refl _) hB)
/-- The activation of a round, and the sign's own block. -/
def ManyA (w : World) (s : ByteArray) (N : Nat) (x : Sg) (a' : Act) (W : World) : Prop :=
  ∃ b, N ≤ b ∧ TokCell W b (tokC x.kind x.num (bytes x.str) (x.beg : Int) (x.fin : Int)) ∧ a' = { tmps := #[.string s, undef, .pointer (some ⟨w.heap.size, 0, none⟩), .pointer (some ⟨w.heap.size + 1, 0, none⟩), .pointer (some ⟨w.heap.size + 1 + 1, 0, none⟩), .pointer (some ⟨b, 0, none⟩), .int .i64 x.code, .string s,
    .func (.func 25) #[] #[.pointer (some ⟨w.heap.size + 1 + 1 + 1, 0, none⟩)], .agg (tokC x.kind x.num (bytes x.str) (x.beg : Int) (x.fin : Int)), .int .i64 x.code, undef, undef, undef, undef, undef, undef, undef, undef, undef, undef], defers := [] }
theorem manyA_own (w : World) (s : ByteArray) (N B : Nat) (x : Sg) (a' : Act) : OwnFrom B (fun (_ : Unit) W => ManyA w s N x a' W) := fun _ X Y row ⟨b, h1, h2, h3⟩ hg hr => ⟨b, h1, tokCell_own b _ () X Y row h2 hg (fun r e => (hr r e).2), h3⟩

set_option maxHeartbeats 4000000 in
theorem many_in (n : Nat) (hn : 3 ≤ n) (s : ByteArray) (hs : s.size ≤ 1000000) (w : World) :
    CallsIn Fence.wide n Try.prog 15 #[.string s] w fun e w' => e = .returned (.tuple #[.int .i64 (countS (allL s.data.toList).1 : Nat), .int .i64 (allL s.data.toList).2]) ∧ Below w.heap.size w w' := by
  have h1 : 1 ≤ n := by omega
  refine callsIn_of_wp_marks Try.func15 rfl trivial ?_ rfl
  simp only [Try.ntmps15, List.size_toArray, List.length_cons, List.length_nil, Nat.reduceAdd, Nat.reduceSub, Array.replicate_succ, Array.replicate_zero, List.push_toArray, List.append_toArray, List.nil_append, List.cons_append]
  gi_wp2_with fail
  refine ⟨trivial, ?_⟩
  refine (all_maker _ s _).mono ?_
  rintro e w' ⟨rfl, rfl⟩
  gi_wp2_with fail
  have c0 := Boxed.new w 3 (.int .i64 0)
  have c1 := Boxed.new (w.alloc (.cells #[.int .i64 0] 3)) 25 (.int .i64 0)
  have c2 := Boxed.new ((w.alloc (.cells #[.int .i64 0] 3)).alloc (.cells #[.int .i64 0] 25)) 3 (.int .i64 0)
  have c3 := Boxed.new (((w.alloc (.cells #[.int .i64 0] 3)).alloc (.cells #[.int .i64 0] 25)).alloc (.cells #[.int .i64 0] 3)) 9 (.string s)
  simp only [World.size_alloc] at c1 c2 c3
  have hI0 : ManyI w s [] ((((w.alloc (.cells #[.int .i64 0] 3)).alloc (.cells #[.int .i64 0] 25)).alloc (.cells #[.int .i64 0] 3)).alloc (.cells #[.string s] 9)) :=
    ⟨⟨⟨((c0.alloc _).alloc _).alloc _, (c1.alloc _).alloc _⟩, c2.alloc _, c3⟩, fun x hx => (by cases hx), ((((Below.refl _ w).alloc (Nat.le_refl _) _).alloc (by simp) _).alloc (by simp; omega) _).alloc (by simp; omega) _⟩
  obtain ⟨W0, hW0⟩ : ∃ W0, (((w.alloc (.cells #[.int .i64 0] 3)).alloc (.cells #[.int .i64 0] 25)).alloc (.cells #[.int .i64 0] 3)).alloc (.cells #[.string s] 9) = W0 := ⟨_, rfl⟩
  have hsz : W0.heap.size = w.heap.size + 4 := by rw [← hW0]; simp
  rw [hW0] at hI0 ⊢
  clear hW0 c0 c1 c2 c3
  have hrow : rowOf (w.heap.size + 1 + 1 + 1) W0 < W0.heap.size := by
    unfold rowOf
    rw [hI0.1.2.2.cell]
    show 0 < W0.heap.size
    omega
  refine wpIn_rangeFunc_ownH rfl h1 (gf := 25) (lb := #[.pointer (some ⟨w.heap.size + 1 + 1 + 1, 0, none⟩)]) rfl trivial (enters_of Try.func25 (by kernel_rfl) rfl)
    (all_stops (n - 1) (by omega) (w.heap.size + 1 + 1 + 1) (w.heap.size + 1 + 1 + 1) s hs W0 (by omega) (by omega) hrow hI0.1.2.2.cell) roundKeeps_t (roundKeeps_b (by omega) (by omega)) (Below.refl _ _) (fun _ => rfl)
    (ManyI w s) (ManyX w) (manyI_own w s _ (by omega)) (fun c => manyX_own w c _ (by omega)) hI0 (ManyA w s W0.heap.size) (fun x a' => manyA_own w s _ _ x a') ?assign ?body ?done ?stop
  case assign =>
    intro l pre x W K hI hK
    have hlt := hI.1.2.2.lt
    have hg := grown_new (Below.refl W.heap.size W) (.cells (tokC 0 0 ⟨#[]⟩ 0 0) 24) (tokC x.kind x.num (bytes x.str) (x.beg : Int) (x.fin : Int))
    have hfin := hK _ _ ((KeepsOthers.of_grownBy hg (fun j o e => by cases e)).from _) (roundKeeps_grown hg (by omega) (by omega)) (manyI_own w s W0.heap.size (by omega) pre W _ none hI hg (fun r e => by cases e)) ⟨W.heap.size, by omega, setRow_heap _ _ _ _ _ _ (heap_alloc_new W _), rfl⟩
    have Hfin := Lib.hid hfin
    clear hfin hg hK
    dsimp only [encS]
    gi_wp2_with (refine TokCell.storeIn rfl rfl _ _ rfl W.heap.size (tokC 0 0 ⟨#[]⟩ 0 0) (tokC x.kind x.num (bytes x.str) (x.beg : Int) (x.fin : Int)) rfl rfl rfl (tokC_one _ _ _ _ _) (TokCell.new W _) rfl ?_)
    exact Hfin.out
  case body =>
    rintro l pre x a' W _ _ hI ⟨b, hNb, hT, rfl⟩ hlt
    have HI := Lib.hid hI
    have cnt := countS_le pre
    have hlt' : countS pre ≤ 1000003 := by omega
    obtain ⟨⟨⟨b0, b1⟩, b2, b3⟩, hok, hbel⟩ := hI
    have c0 := b0.cell
    have f0 := b0.frozen
    have c1 := b1.cell
    have f1 := b1.frozen
    have c2 := b2.cell
    have f2 := b2.frozen
    obtain ⟨k0, _, _, _, _⟩ := hT.parts
    clear b0 b1 b2 b3 hok hbel cnt hlt
    by_cases h1 : x.code = 0
    · have h1' : (x.code != 0) = false := by simpa using h1
      have Hok : Hid (∀ y ∈ pre ++ [x], y.code = 0) := Lib.hid (fun y hy => by
        rcases List.mem_append.1 hy with hy | hy
        · exact HI.out.2.1 y hy
        · rw [List.mem_singleton.1 hy]; exact h1)
      by_cases h2 : x.kind = 0
      · have h2' : (x.kind != 0) = false := by simpa using h2
        have Hc : Hid (countS (pre ++ [x]) = countS pre) := Lib.hid (by rw [countS_snoc, if_pos h2])
        clear h1 h2
        gi_wp2
        exact ⟨KeepsFrom.refl _ _, roundKeeps_refl _ _ _ _, ⟨HI.out.1.1, by rw [Hc.out]; exact HI.out.1.2.1, HI.out.1.2.2⟩, Hok.out, HI.out.2.2⟩
      · have h2' : (x.kind != 0) = true := by simpa using h2
        have Hc : Hid (((countS (pre ++ [x]) : Nat) : Int) = (countS pre : Int) + 1) := Lib.hid (by rw [countS_snoc, if_neg h2]; omega)
        clear h1 h2
        gi_wp2
        exact ⟨(KeepsOthers.setCell _ _ _).from _, roundKeeps_set _ (by omega) (by omega) (by omega), ⟨⟨HI.out.1.1.1.other (by omega) _, HI.out.1.1.2.other (by omega) _⟩, by rw [Hc.out]; exact HI.out.1.2.1.set _, HI.out.1.2.2.other (by omega) _⟩, Hok.out, HI.out.2.2.setCell (p := ⟨w.heap.size + 1 + 1, 0, none⟩) (show w.heap.size ≤ w.heap.size + 1 + 1 by omega) _⟩
    · have h1' : (x.code != 0) = true := by simpa using h1
      have Hne := Lib.hid h1
      clear h1
      gi_wp2
      refine ⟨((KeepsOthers.setCell _ _ _).trans (KeepsOthers.setCell _ _ _)).from _, ⟨⟨rfl, by rw [lastS_snoc]; exact Hne.out⟩, ?_, ?_⟩, (HI.out.2.2.setCell (p := ⟨w.heap.size, 0, none⟩) (Nat.le_refl _) _).setCell (p := ⟨w.heap.size + 1, 0, none⟩) (show w.heap.size ≤ w.heap.size + 1 by omega) _⟩
      · rw [List.dropLast_concat]
        exact (HI.out.1.1.1.set _).other (by omega) _
      · rw [lastS_snoc]
        exact (HI.out.1.1.2.other (by omega) _).set _
  case done =>
    rintro D ys W hD hys hI hK
    obtain ⟨⟨⟨b0, b1⟩, b2, b3⟩, hok, hbel⟩ := hI
    subst hys
    obtain ⟨y1, y2⟩ := yields_ok hok
    rw [y1] at b2
    have Hy2 := Lib.hid y2
    have Hbel := Lib.hid hbel
    obtain ⟨m, hm⟩ : ∃ m : Nat, countS (allL s.data.toList).1 = m := ⟨_, rfl⟩
    rw [hm] at b2
    have Hm := Lib.hid hm
    have c0 := b0.cell
    have f0 := b0.frozen
    have c1 := b1.cell
    have f1 := b1.frozen
    have c2 := b2.cell
    have Hb0 := Lib.hid ((b0.set (.int .i64 (m : Int))).other (B' := w.heap.size + 1) (by omega) (.int .i64 0))
    have Hb1 := Lib.hid ((b1.other (B' := w.heap.size) (by omega) (.int .i64 (m : Int))).set (.int .i64 0))
    have HK := Lib.hid (((KeepsOthers.setCell W ⟨w.heap.size, 0, none⟩ (.int .i64 (m : Int))).trans (KeepsOthers.setCell _ ⟨w.heap.size + 1, 0, none⟩ (.int .i64 0))).same D _ hK rfl)
    clear b0 b1 b2 b3 hok hbel y1 y2 hm
    gi_wp2
    refine ⟨by simp, .inl ⟨_, _, rfl, run_takeDeferred HK.out, ?_⟩⟩
    have d0 := cell_kept Hb0.out.cell (grownBy_putObj' _ D (.deferred none)) (fun r e => by cases e; exact ⟨_, HK.out, rfl⟩)
    have d1 := cell_kept Hb1.out.cell (grownBy_putObj' _ D (.deferred none)) (fun r e => by cases e; exact ⟨_, HK.out, rfl⟩)
    refine ⟨.tuple #[.int .i64 (m : Int), .int .i64 0], ?_, by rw [Hm.out, Hy2.out], ((Hbel.out.setCell (p := ⟨w.heap.size, 0, none⟩) (Nat.le_refl _) _).setCell (p := ⟨w.heap.size + 1, 0, none⟩) (show w.heap.size ≤ w.heap.size + 1 by omega) _).trans (belowK_b (w := w) (Nat.le_refl _) _ D _ _ (by omega) HK.out rfl rfl)⟩
    simp [results, Try.f15, go_sem, d0, d1]
  case stop =>
    rintro D c pre W hD hpre ⟨⟨⟨rfl, hne⟩, b0, b1⟩, hbel⟩ hK
    rcases List.eq_nil_or_concat pre with rfl | ⟨q, x, rfl⟩
    · exact absurd rfl hne
    · rw [List.concat_eq_append] at hpre hne b0 b1
      rw [lastS_snoc] at hne b1
      rw [List.dropLast_concat] at b0
      obtain ⟨y1, y2, _⟩ := yields_err hpre hne
      rw [y1] at b0
      rw [y2] at b1
      have Hbel := Lib.hid hbel
      obtain ⟨m, hm⟩ : ∃ m : Nat, countS (allL s.data.toList).1 = m := ⟨_, rfl⟩
      obtain ⟨e, he⟩ : ∃ e, (allL s.data.toList).2 = e := ⟨_, rfl⟩
      rw [hm] at b0
      rw [he] at b1
      have Hm := Lib.hid hm
      have He := Lib.hid he
      have c0 := b0.cell
      have c1 := b1.cell
      clear b0 b1 hbel y1 y2 hm he hne hpre
      gi_wp2
      refine ⟨by simp, .inl ⟨_, _, rfl, run_takeDeferred hK, ?_⟩⟩
      have d0 := cell_kept c0 (grownBy_putObj' _ D (.deferred none)) (fun r e => by cases e; exact ⟨_, hK, rfl⟩)
      have d1 := cell_kept c1 (grownBy_putObj' _ D (.deferred none)) (fun r e => by cases e; exact ⟨_, hK, rfl⟩)
      refine ⟨.tuple #[.int .i64 (m : Int), .int .i64 e], ?_, by rw [Hm.out, He.out], Hbel.out.trans (belowK_b (w := w) (Nat.le_refl _) _ D _ _ (by omega) hK rfl rfl)⟩
      simp [results, Try.f15, go_sem, d0, d1]
theorem many_any (s : ByteArray) (w : World) (hs : s.size ≤ 1000000) :
    Calls Try.prog 15 #[.string s] w fun e w' => e = .returned (.tuple #[.int .i64 (countS (allL s.data.toList).1 : Nat), .int .i64 (allL s.data.toList).2]) ∧ Below w.heap.size w w' :=
  (callsIn_wide (n := 3)).1 (many_in 3 (by omega) s hs w)
end Go.Proofs.Ytnjmapgmodoodaa
