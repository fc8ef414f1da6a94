/-
  What the iterator tells, gathered.
-/
import Derived.Test.YtnjmapgmodoodaaTkMany
import Derived.Test.YtnjmapgmodoodaaTkRow
import Derived.Maps.OwnIn
namespace Go.Proofs.Ytnjmapgmodoodaa
open Go.RowKit Go.Shelf
set_option maxRecDepth 100000
attribute [local go_sem] Oper.semAt_some

/-- The signs that came, and the error that came last. -/
def okS (pre : List Sg) : List Sg := pre.filter fun x => decide (x.code = 0)
theorem okS_ok {pre : List Sg} {x : Sg} (h : x.code = 0) : okS (pre ++ [x]) = okS pre ++ [x] := by unfold okS; rw [List.filter_append]; simp [h]
theorem okS_err {pre : List Sg} {x : Sg} (h : ¬ x.code = 0) : okS (pre ++ [x]) = okS pre := by unfold okS; rw [List.filter_append]; simp [h]
theorem okS_le (pre : List Sg) : (okS pre).length ≤ pre.length := List.length_filter_le _ _
theorem okS_all {l : List Sg} (h : ∀ x ∈ l, x.code = 0) : okS l = l := List.filter_eq_self.2 (fun x hx => by simp [h x hx])
theorem okS_yields (l : List UInt8) : okS (yields l) = (allL l).1 ∧ (lastS (yields l)).code = (allL l).2 := by
  have hg := (all_good l (l.length + 1) 0 (by omega) (Nat.zero_le _))
  have hok : okS (allL l).1 = (allL l).1 := okS_all fun x hx => (hg.2.1 x hx).1
  unfold yields
  by_cases hc : (allL l).2 = 0
  · rw [if_pos hc, List.append_nil]
    refine ⟨hok, ?_⟩
    obtain ⟨q, x, e1, _, _⟩ := hg.2.2.1 hc
    have hm : x ∈ (allL l).1 := by show x ∈ (allGo l (l.length + 1) 0).1; rw [e1]; simp
    rw [show (allL l).1 = q ++ [x] from e1, lastS_snoc, hc]
    exact (hg.2.1 x hm).1
  · rw [if_neg hc]
    exact ⟨by rw [okS_err (x := Sg.err (allL l).2) hc]; exact hok, by rw [lastS_snoc]; rfl⟩
/-- Behind an error comes nothing; and an error comes with no sign. -/
theorem yields_past {l : List UInt8} {pre : List Sg} {x : Sg} (h : ¬ (lastS pre).code = 0) : ¬ pre ++ [x] <+: yields l := by
  intro hp
  rcases List.eq_nil_or_concat pre with rfl | ⟨q, y, rfl⟩
  · exact h rfl
  · rw [List.concat_eq_append] at h hp
    rw [lastS_snoc] at h
    obtain ⟨h1, h2, h3⟩ := yields_err ((List.prefix_append _ _).trans hp) h
    have hl := hp.length_le
    unfold yields at hl
    rw [if_neg h3, ← h1] at hl
    simp only [List.length_append, List.length_cons, List.length_nil] at hl
    omega
theorem yields_none {l : List UInt8} {pre : List Sg} {x : Sg} (h : ¬ x.code = 0) (hp : pre ++ [x] <+: yields l) : x = Sg.err x.code := by
  obtain ⟨h1, h2, h3⟩ := yields_err hp h
  obtain ⟨r, hr⟩ := hp
  unfold yields at hr
  rw [if_neg h3, ← h1] at hr
  have : x ∈ pre ++ [Sg.err (allL l).2] := by rw [← hr]; simp
  have he := List.append_cancel_left (show pre ++ ([x] ++ r) = pre ++ [Sg.err (allL l).2] by rw [← List.append_assoc]; exact hr)
  injection he with he _
  rw [he]; rfl

/-- What holds in the rounds. -/
def ToldI (w : World) (s : ByteArray) (pre : List Sg) (W : World) : Prop :=
  ((Boxed W w.heap.size 35 (.slice none 0 0) ∧ Boxed W (w.heap.size + 1) 3 (.int .i64 0)) ∧
    ((∃ v, Boxed W (w.heap.size + 1 + 1 + 1) 35 v ∧ TRow W (w.heap.size + 1 + 1) v (okS pre)) ∧ (Boxed W (w.heap.size + 1 + 1 + 1 + 1) 3 (.int .i64 (lastS pre).code) ∧ Boxed W (w.heap.size + 1 + 1 + 1 + 1 + 1) 9 (.string s)))) ∧ Below w.heap.size w W
def ToldX (s : ByteArray) (c : Code) (pre : List Sg) (_ : World) : Prop := c = Code.ret ∧ ¬ pre <+: yields s.data.toList
theorem trow_own (q B : Nat) : Own (fun (pre : List Sg) W => ∃ v, Boxed W q 35 v ∧ TRow W B v (okS pre)) := fun pre X Y row ⟨v, hb, ht⟩ hg hrow =>
  ⟨v, boxed_own q 35 (fun _ : Unit => v) () X Y row hb hg hrow, ht.keep fun k hk => by
    obtain ⟨g, cap, cur, rfl, hgc, _, hlt, _⟩ := ht.block
    obtain rfl : g = k := by simpa [Value.ownBlock] using hk
    exact hg.block g hlt (fun e' => by obtain ⟨o, ho, hc⟩ := hrow g e'.symm; rw [hgc] at ho; cases ho; cases hc)⟩
theorem toldI_own (w : World) (s : ByteArray) (B : Nat) (hB : w.heap.size ≤ B) : OwnFrom B (ToldI w s) :=
  OwnFrom.and (OwnFrom.and (OwnFrom.and (Own.from (boxed_own _ _ (fun _ : List Sg => _)) _) (Own.from (boxed_own _ _ (fun _ : List Sg => _)) _))
      (OwnFrom.and (Own.from (trow_own _ _) _) (OwnFrom.and (Own.from (boxed_own (w.heap.size + 1 + 1 + 1 + 1) 3 (fun pre : List Sg => .int .i64 (lastS pre).code)) _) (Own.from (boxed_own _ _ (fun _ : List Sg => _)) _))))
    (ownFrom_below (Nat.le_refl _) hB)
theorem wpListIn_append_tok {F : Fence} {n : Nat} {ops : Array Oper} {rest : List Oper} {o : Oper} {a : Act} {w : World} {Q : Exit → Act → World → Prop} (hgd : o.guard = none) (s x : Operand)
    (ho : o.op = .call { callee := .builtin .append, args := #[s, x], argTypes := #[35, 35] })
    (B : Nat) (v : Value) (xs : List Sg) (hs : a.eval s = v) (hown : TRow w B v xs) (y : Sg) (b c : Nat) (hx : a.eval x = .slice (some ⟨b, 0, none⟩) 1 c)
    (hy : TokCell w b (tokC y.kind y.num (bytes y.str) (y.beg : Int) (y.fin : Int))) (hlen : xs.length ≤ 100000000) (hB : B ≤ w.heap.size)
    (h : ∀ v' w', Hid (TRow w' B v' (xs ++ [y])) → Hid (w.grownBy w' v.ownBlock) → Hid (v'.ownBlock = v.ownBlock ∨ v'.ownBlock = some w.heap.size) → wpListIn F n Try.prog ops Q rest (a.put o.dst v') w') : wpListIn F n Try.prog ops Q (o :: rest) a w := by
  obtain ⟨i0, hi, hz0, hz1, hz2⟩ := info_parts infoTok
  obtain ⟨h1, g, cap, rfl⟩ := hown
  refine wpListIn_append_own_at w hgd s x 35 ho B 24 i0 _ 5 48 Try.underlying35 hi hz0 hz1 hz2 rfl (by decide) _ _ _ hs h1 ⟨b, 0, none⟩ 1 c (tokC y.kind y.num (bytes y.str) (y.beg : Int) (y.fin : Int)).toList hx rfl (World.news_of_block hy) (tokC_all _ _ _ _ _) (by unfold maxLen; omega) (by omega) hB ?_
  intro v' w' hown' hgrow _ hat
  have e : xs.length + 1 = (xs ++ [y]).length := by rw [List.length_append]; rfl
  obtain ⟨g', cap', hv', _⟩ := hown'.form (by omega)
  exact h v' w' (Lib.hid ⟨by rw [cellsT_snoc, ← e]; exact hown', g', cap', by rw [← e]; exact hv'⟩) (Lib.hid hgrow) (Lib.hid hat)
/-- The activation of a round, and the sign's own block. -/
def ToldA (w : World) (s : ByteArray) (N : Nat) (x : Sg) (a' : Act) (W : World) : Prop :=
  ∃ b, N ≤ b ∧ TokCell W b (tokC x.kind x.num (bytes x.str) (x.beg : Int) (x.fin : Int)) ∧ a' = { tmps := #[.string s, undef, .pointer (some ⟨w.heap.size, 0, none⟩), .pointer (some ⟨w.heap.size + 1, 0, none⟩), .pointer (some ⟨w.heap.size + 1 + 1 + 1, 0, none⟩), .pointer (some ⟨w.heap.size + 1 + 1 + 1 + 1, 0, none⟩),
    .pointer (some ⟨b, 0, none⟩), .int .i64 x.code, .slice (some ⟨w.heap.size + 1 + 1, 0, none⟩) 0 0, .string s, .func (.func 25) #[] #[.pointer (some ⟨w.heap.size + 1 + 1 + 1 + 1 + 1, 0, none⟩)],
    .agg (tokC x.kind x.num (bytes x.str) (x.beg : Int) (x.fin : Int)), .int .i64 x.code, undef, undef, undef, undef, undef, undef, undef, undef, undef, undef, undef, undef, undef, undef, undef, undef, undef, undef, undef, undef], defers := [] }
theorem toldA_own (w : World) (s : ByteArray) (N B : Nat) (x : Sg) (a' : Act) : OwnFrom B (fun (_ : Unit) W => ToldA w s N x a' W) := fun _ X Y row ⟨b, h1, h2, h3⟩ hg hr => ⟨b, h1, tokCell_own b _ () X Y row h2 hg (fun r e => (hr r e).2), h3⟩

/-- A sign has been put behind those that came. -/
theorem told_step {w W w4 : World} {s : ByteArray} {pre : List Sg} {x : Sg} {v v' : Value} {tmp : Obj} {N : Nat} (hx : x.code = 0) (hN : N = w.heap.size + 6) (hNW : N ≤ W.heap.size)
    (hI : ToldI w s pre W) (b3 : Boxed W (w.heap.size + 1 + 1 + 1) 35 v) (hR : TRow W (w.heap.size + 1 + 1) v (okS pre)) (hR4 : TRow w4 (w.heap.size + 1 + 1) v' (okS pre ++ [x]))
    (hg : (W.alloc tmp).grownBy w4 v.ownBlock) (hat : v'.ownBlock = v.ownBlock ∨ v'.ownBlock = some (W.alloc tmp).heap.size) :
    (Boxed w4 (w.heap.size + 1 + 1 + 1) 35 v ∧ Boxed w4 (w.heap.size + 1 + 1 + 1 + 1) 3 (.int .i64 (lastS pre).code)) ∧
    KeepsFrom N W ((w4.setCell ⟨w.heap.size + 1 + 1 + 1, 0, none⟩ v').setCell ⟨w.heap.size + 1 + 1 + 1 + 1, 0, none⟩ (.int .i64 x.code)) ∧
    RoundKeeps N (w.heap.size + 1 + 1 + 1) (w.heap.size + 1 + 1 + 1 + 1 + 1) W ((w4.setCell ⟨w.heap.size + 1 + 1 + 1, 0, none⟩ v').setCell ⟨w.heap.size + 1 + 1 + 1 + 1, 0, none⟩ (.int .i64 x.code)) ∧
    ToldI w s (pre ++ [x]) ((w4.setCell ⟨w.heap.size + 1 + 1 + 1, 0, none⟩ v').setCell ⟨w.heap.size + 1 + 1 + 1 + 1, 0, none⟩ (.int .i64 x.code)) := by
  obtain ⟨⟨⟨b0, b1⟩, _, b4, b5⟩, hbel⟩ := hI
  obtain ⟨g, cap, cur, rfl, hgc, hBg, hgl, _⟩ := hR.block
  obtain ⟨g4, cap4, cur4, rfl, hgc4, hBg4, hgl4, _⟩ := hR4.block
  have nr : ∀ {q : Nat} {t : TypeId} {u : Value}, t ≠ 24 → Boxed W q t u → Boxed w4 q t u := fun hne hb => (hb.alloc tmp).kept hg ((hb.alloc tmp).not_row hne (hR.alloc tmp).1)
  have d0 := nr (by decide) b0
  have d1 := nr (by decide) b1
  have d3 := nr (by decide) b3
  have d4 := nr (by decide) b4
  have d5 := nr (by decide) b5
  have e3 := d3.set (.slice (some ⟨g4, 0, none⟩) (okS pre ++ [x]).length cap4)
  have hsz4 : W.heap.size + 1 ≤ w4.heap.size := by have := hg.size; simpa using this
  have hsz : ((w4.setCell ⟨w.heap.size + 1 + 1 + 1, 0, none⟩ (.slice (some ⟨g4, 0, none⟩) (okS pre ++ [x]).length cap4)).setCell ⟨w.heap.size + 1 + 1 + 1 + 1, 0, none⟩ (.int .i64 x.code)).heap.size = w4.heap.size := by simp [World.setCell]
  have f3 := e3.other (B' := w.heap.size + 1 + 1 + 1 + 1) (by omega) (.int .i64 x.code)
  have f5 := (d5.other (B' := w.heap.size + 1 + 1 + 1) (by omega) (.slice (some ⟨g4, 0, none⟩) (okS pre ++ [x]).length cap4)).other (B' := w.heap.size + 1 + 1 + 1 + 1) (by omega) (.int .i64 x.code)
  have r1 := rowOf_at b3.cell
  have r2 := rowOf_at f3.cell
  refine ⟨⟨d3, d4⟩, ?_, ⟨by rw [hsz]; omega, ?_, fun _ => ?_, ?_, ?_⟩, ⟨⟨⟨?_, ?_⟩, ⟨_, f3, ?_⟩, ?_, f5⟩, ?_⟩⟩
  · refine ((((KeepsOthers.alloc W tmp).trans (KeepsOthers.of_grownBy hg fun j o e hj => ?_)).trans (KeepsOthers.setCell _ _ _)).trans (KeepsOthers.setCell _ _ _)).from _
    obtain rfl : g = j := by simpa [Value.ownBlock] using e
    rw [Below.heap_alloc _ _ _ hgl, hgc] at hj
    cases hj; rfl
  · rw [f5.cell, b5.cell]
  · rw [r2, hsz]; exact hgl4
  · rw [r1, r2]
    rcases hat with e | e
    · left
      have : g4 = g := by simpa [Value.ownBlock] using e
      exact this
    · right
      have : g4 = W.heap.size + 1 := by simpa [Value.ownBlock] using e
      show W.heap.size ≤ g4
      omega
  · intro k cs ty fz hk hc hne
    rw [r1] at hne
    have hlt := (Array.getElem?_eq_some_iff.1 hc).1
    rw [Below.heap_setCell _ _ _ _ (show k ≠ w.heap.size + 1 + 1 + 1 + 1 by omega), Below.heap_setCell _ _ _ _ (show k ≠ w.heap.size + 1 + 1 + 1 by omega),
      hg.block k (by simp; omega) (fun e => hne (by simpa [Value.ownBlock] using e)), Below.heap_alloc _ _ _ hlt]
    exact hc
  · exact (d0.other (by omega) _).other (by omega) _
  · exact (d1.other (by omega) _).other (by omega) _
  · rw [okS_ok hx]
    refine hR4.keep fun k hk => ?_
    have n3 := d3.not_row (by decide) hR4.1
    have n4 := d4.not_row (by decide) hR4.1
    rw [Below.heap_setCell _ _ _ _ (fun e => n4 (by rw [hk, e])), Below.heap_setCell _ _ _ _ (fun e => n3 (by rw [hk, e]))]
  · rw [lastS_snoc]
    exact (d4.other (by omega) _).set _
  · exact (((hbel.alloc hbel.size tmp).grown hg (by have := hbel.size; simp; omega) (fun k e => by
      have : g = k := by simpa [Value.ownBlock] using e
      omega)).setCell (p := ⟨w.heap.size + 1 + 1 + 1, 0, none⟩) (show w.heap.size ≤ w.heap.size + 1 + 1 + 1 by omega) _).setCell (p := ⟨w.heap.size + 1 + 1 + 1 + 1, 0, none⟩) (show w.heap.size ≤ w.heap.size + 1 + 1 + 1 + 1 by omega) _

set_option maxHeartbeats 4000000 in
theorem told_in (n : Nat) (hn : 3 ≤ n) (s : ByteArray) (hs : s.size ≤ 1000000) (w : World) :
    CallsIn Fence.wide n Try.prog 13 #[.string s] w fun e w' => ∃ v, e = .returned (.tuple #[v, .int .i64 (allL s.data.toList).2]) ∧ TRow w' w.heap.size v (allL s.data.toList).1 ∧ Below w.heap.size w w' := by
  have h1 : 1 ≤ n := by omega
  refine callsIn_of_wp_marks Try.func13 rfl trivial ?_ rfl
  simp only [Try.ntmps13, List.size_toArray, List.length_cons, List.length_nil, Nat.reduceAdd, Nat.reduceSub, Array.replicate_succ, Array.replicate_zero, List.push_toArray, List.append_toArray, List.nil_append, List.cons_append]
  gi_wp2_with fail
  refine ⟨trivial, ?_⟩
  refine (all_maker _ s _).mono ?_
  rintro e w' ⟨rfl, rfl⟩
  gi_wp2_with fail
  obtain ⟨W0, hW0⟩ : ∃ W0, (((((w.alloc (.cells #[.slice none 0 0] 35)).alloc (.cells #[.int .i64 0] 3)).alloc (.cells #[] 24)).alloc (.cells #[.slice (some ⟨w.heap.size + 1 + 1, 0, none⟩) 0 0] 35)).alloc (.cells #[.int .i64 0] 3)).alloc (.cells #[.string s] 9) = W0 := ⟨_, rfl⟩
  have hI0 : ToldI w s [] W0 := by
    rw [← hW0]
    have c0 := Boxed.new w 35 (.slice none 0 0)
    have c1 := Boxed.new (w.alloc (.cells #[.slice none 0 0] 35)) 3 (.int .i64 0)
    have c2 := TRow.made ((w.alloc (.cells #[.slice none 0 0] 35)).alloc (.cells #[.int .i64 0] 3)) (B := w.heap.size + 1 + 1) (by simp)
    have c3 := Boxed.new (((w.alloc (.cells #[.slice none 0 0] 35)).alloc (.cells #[.int .i64 0] 3)).alloc (.cells #[] 24)) 35 (.slice (some ⟨w.heap.size + 1 + 1, 0, none⟩) 0 0)
    have c4 := Boxed.new ((((w.alloc (.cells #[.slice none 0 0] 35)).alloc (.cells #[.int .i64 0] 3)).alloc (.cells #[] 24)).alloc (.cells #[.slice (some ⟨w.heap.size + 1 + 1, 0, none⟩) 0 0] 35)) 3 (.int .i64 0)
    have c5 := Boxed.new (((((w.alloc (.cells #[.slice none 0 0] 35)).alloc (.cells #[.int .i64 0] 3)).alloc (.cells #[] 24)).alloc (.cells #[.slice (some ⟨w.heap.size + 1 + 1, 0, none⟩) 0 0] 35)).alloc (.cells #[.int .i64 0] 3)) 9 (.string s)
    simp only [World.size_alloc] at c1 c2 c3 c4 c5
    exact ⟨⟨⟨((((c0.alloc _).alloc _).alloc _).alloc _).alloc _, (((c1.alloc _).alloc _).alloc _).alloc _⟩, ⟨_, (c3.alloc _).alloc _, ((c2.alloc _).alloc _).alloc _⟩, c4.alloc _, c5⟩,
      ((((((Below.refl _ w).alloc (Nat.le_refl _) _).alloc (by simp) _).alloc (by simp; omega) _).alloc (by simp; omega) _).alloc (by simp; omega) _).alloc (by simp; omega) _⟩
  have hsz : W0.heap.size = w.heap.size + 6 := by rw [← hW0]; simp
  rw [hW0]
  clear hW0
  have hrow : rowOf (w.heap.size + 1 + 1 + 1) W0 < W0.heap.size := by
    obtain ⟨v, hb, ht⟩ := hI0.1.2.1
    obtain ⟨g, cap, cur, rfl, _, _, hlt, _⟩ := ht.block
    rw [rowOf_at hb.cell]
    exact hlt
  refine wpIn_rangeFunc_ownH rfl h1 (gf := 25) (lb := #[.pointer (some ⟨w.heap.size + 1 + 1 + 1 + 1 + 1, 0, none⟩)]) rfl trivial (enters_of Try.func25 (by kernel_rfl) rfl)
    (all_stops (n - 1) (by omega) (w.heap.size + 1 + 1 + 1) (w.heap.size + 1 + 1 + 1 + 1 + 1) s hs W0 (by omega) (by omega) hrow hI0.1.2.2.2.cell) roundKeeps_t (roundKeeps_b (by omega) (by omega)) (Below.refl _ _) (fun _ => rfl)
    (ToldI w s) (ToldX s) (toldI_own w s _ (by omega)) (fun c => ownFrom_pure _ (fun pre : List Sg => c = Code.ret ∧ ¬ pre <+: yields s.data.toList)) hI0 (ToldA w s W0.heap.size) (fun x a' => toldA_own w s _ _ x a') ?assign ?body ?done ?stop
  case assign =>
    intro l pre x W K hI hK
    have hlt := hI.1.2.2.2.lt
    have hg := grown_new (Below.refl W.heap.size W) (.cells (tokC 0 0 ⟨#[]⟩ 0 0) 24) (tokC x.kind x.num (bytes x.str) (x.beg : Int) (x.fin : Int))
    have hle : W0.heap.size ≤ W.heap.size := by omega
    have hfin := hK _ _ ((KeepsOthers.of_grownBy hg (fun j o e => by cases e)).from _) (roundKeeps_grown hg (by omega) (by omega)) (toldI_own w s W0.heap.size (by omega) pre W _ none hI hg (fun r e => by cases e)) ⟨W.heap.size, hle, setRow_heap _ _ _ _ _ _ (heap_alloc_new W _), rfl⟩
    have Hfin := Lib.hid hfin
    clear hfin hg hK
    dsimp only [encS]
    gi_wp2_with (refine TokCell.storeIn rfl rfl _ _ rfl W.heap.size (tokC 0 0 ⟨#[]⟩ 0 0) (tokC x.kind x.num (bytes x.str) (x.beg : Int) (x.fin : Int)) rfl rfl rfl (tokC_one _ _ _ _ _) (TokCell.new W _) rfl ?_)
    exact Hfin.out
  case body =>
    rintro l pre x a' W _ _ hI ⟨b, hNb, hT, rfl⟩ hlt
    have HI := Lib.hid hI
    have hol := okS_le pre
    obtain ⟨⟨⟨b0, b1⟩, ⟨v, b3, hR⟩, b4, b5⟩, hbel⟩ := hI
    obtain ⟨g, cap, cur, rfl, hgc, hBg, hgl, _⟩ := hR.block
    have c0 := b0.cell
    have f0 := b0.frozen
    have c1 := b1.cell
    have f1 := b1.frozen
    have c3 := b3.cell
    have f3 := b3.frozen
    have c4 := b4.cell
    have f4 := b4.frozen
    have HT := Lib.hid hT
    obtain ⟨k0, k1, k2, k3, k4⟩ := hT.parts
    by_cases hc : (lastS pre).code = 0
    · rw [hc] at c4
      by_cases h1 : x.code = 0
      · have h1' : (x.code != 0) = false := by simpa using h1
        have h1'' : (x.code == 0) = true := by simpa using h1
        have Hx := Lib.hid h1
        have Hb3 := Lib.hid b3
        have HR := Lib.hid hR
        have hsW : w.heap.size + 6 ≤ W.heap.size := by have := hT.lt; omega
        clear h1 b0 b1 b3 b4 b5 hbel hR hgc
        gi_wp2_with (gi_at_builtin; refine wpListIn_append_tok rfl (.tmp 26) (.tmp 28) rfl (w.heap.size + 1 + 1) _ (okS pre) rfl (HR.out.alloc _) x W.heap.size 1 rfl (TokCell.new W _) (by omega) (by simp; omega) ?_; intro v4 w4 HR4 Hg4 Hat4; have Hst := Lib.hid (told_step Hx.out rfl hsW HI.out Hb3.out HR.out HR4.out Hg4.out Hat4.out); obtain ⟨g4, cap4, rfl⟩ := HR4.out.2; have d3 := Hst.out.1.1.cell; have e3 := Hst.out.1.1.frozen; have d4 := Hst.out.1.2.cell; have e4 := Hst.out.1.2.frozen)
        have h := Hst.out.2
        rw [show (okS pre ++ [x]).length = (okS pre).length + 1 from by rw [List.length_append]; rfl] at h
        rw [hsz]
        exact h
      · have h1' : (x.code != 0) = true := by simpa using h1
        have h1'' : (x.code == 0) = false := by simpa using h1
        gi_wp2
        all_goals first
          | (refine ⟨((KeepsOthers.setCell _ _ _).trans (KeepsOthers.setCell _ _ _)).from _, rfl, fun hp => ?_⟩
             have e := yields_none h1 hp
             have e1 : x.kind = 0 := congrArg Sg.kind e
             have e2 : x.num = 0 := congrArg Sg.num e
             have e3 : (bytes x.str).toList = [] := by rw [Lib.toList_data, bytes_data]; exact congrArg Sg.str e
             have e4 : x.beg = 0 := congrArg Sg.beg e
             have e5 : x.fin = 0 := congrArg Sg.fin e
             contradiction)
          | (refine ⟨(KeepsOthers.setCell _ _ _).from _, roundKeeps_set _ (by omega) (by omega) (by omega), ⟨⟨HI.out.1.1.1.other (by omega) _, HI.out.1.1.2.other (by omega) _⟩, ⟨_, b3.other (by omega) _, ?_⟩, ?_, HI.out.1.2.2.2.other (by omega) _⟩, HI.out.2.setCell (p := ⟨w.heap.size + 1 + 1 + 1 + 1, 0, none⟩) (show w.heap.size ≤ w.heap.size + 1 + 1 + 1 + 1 by omega) _⟩
             · rw [okS_err h1]
               exact hR.keep fun k hk => Below.heap_setCell _ _ _ _ (fun e => b4.not_row (by decide) hR.1 (by rw [hk, e]))
             · rw [lastS_snoc]
               exact HI.out.1.2.2.1.set _)
    · have hc' : ((lastS pre).code != 0) = true := by simpa using hc
      gi_wp2
      refine ⟨((KeepsOthers.setCell _ _ _).trans (KeepsOthers.setCell _ _ _)).from _, rfl, yields_past hc⟩
  case done =>
    rintro D ys W hD hys hI hK
    obtain ⟨⟨⟨b0, b1⟩, ⟨v, b3, hR⟩, b4, b5⟩, hbel⟩ := hI
    subst hys
    obtain ⟨y1, y2⟩ := okS_yields s.data.toList
    rw [y1] at hR
    rw [y2] at b4
    obtain ⟨c, hc⟩ : ∃ c, (allL s.data.toList).2 = c := ⟨_, rfl⟩
    obtain ⟨A, hA⟩ : ∃ A, (allL s.data.toList).1 = A := ⟨_, rfl⟩
    rw [hc] at b4
    rw [hA] at hR
    have Hc := Lib.hid hc
    have HA := Lib.hid hA
    obtain ⟨g, cap, cur, rfl, hgc, hBg, hgl, _⟩ := hR.block
    have c0 := b0.cell
    have f0 := b0.frozen
    have c1 := b1.cell
    have f1 := b1.frozen
    have c3 := b3.cell
    have f3 := b3.frozen
    have c4 := b4.cell
    have f4 := b4.frozen
    have Hbel := Lib.hid hbel
    have HR := Lib.hid hR
    have Hb0 := Lib.hid b0
    have Hb1 := Lib.hid b1
    clear b0 b1 b3 b4 b5 hbel hR hgc hc hA y1 y2
    have hmx : Try.prog.follows .mixedOrders = true := by kernel_rfl
    gi_wp2
    gi_region_o
    all_goals
      gi_wp2
      obtain ⟨W1, hW1⟩ : ∃ W1, ((W.setCell ⟨w.heap.size, 0, none⟩ (.slice (some ⟨g, 0, none⟩) A.length cap)).setCell ⟨w.heap.size + 1, 0, none⟩ (.int .i64 c)).drew = W1 := ⟨_, rfl⟩
      have e0 : Boxed W1 w.heap.size 35 (.slice (some ⟨g, 0, none⟩) A.length cap) := by
        rw [← hW1]; exact (Hb0.out.set _).other (B' := w.heap.size + 1) (by omega) _
      have e1 : Boxed W1 (w.heap.size + 1) 3 (.int .i64 c) := by
        rw [← hW1]; exact (Hb1.out.other (B' := w.heap.size) (by omega) _).set _
      have hR1 : TRow W1 w.heap.size (.slice (some ⟨g, 0, none⟩) A.length cap) A := by
        rw [← hW1]
        refine TRow.keep (w := W) ⟨?_, HR.out.2⟩ fun k hk => ?_
        · rcases HR.out.1.2 with h | ⟨g', cap', cur', h1, h2, h3⟩
          · exact ⟨HR.out.1.1, .inl h⟩
          · exact ⟨HR.out.1.1, .inr ⟨g', cap', cur', h1, by omega, h3⟩⟩
        · have n0 := Hb0.out.not_row (by decide) HR.out.1
          have n1 := Hb1.out.not_row (by decide) HR.out.1
          show ((W.setCell ⟨w.heap.size, 0, none⟩ (.slice (some ⟨g, 0, none⟩) A.length cap)).setCell ⟨w.heap.size + 1, 0, none⟩ (.int .i64 c)).heap[k]? = _
          rw [Below.heap_setCell _ _ _ _ (fun e => n1 (by rw [hk, e])), Below.heap_setCell _ _ _ _ (fun e => n0 (by rw [hk, e]))]
      have hbel1 : Below w.heap.size w W1 := by
        rw [← hW1]
        exact ((Hbel.out.setCell (p := ⟨w.heap.size, 0, none⟩) (Nat.le_refl _) _).setCell (p := ⟨w.heap.size + 1, 0, none⟩) (show w.heap.size ≤ w.heap.size + 1 by omega) _).drew
      have hK1 : W1.heap[D]? = some (.deferred (some [])) := by
        rw [← hW1]
        exact ((KeepsOthers.setCell W ⟨w.heap.size, 0, none⟩ (.slice (some ⟨g, 0, none⟩) A.length cap)).trans (KeepsOthers.setCell _ ⟨w.heap.size + 1, 0, none⟩ (.int .i64 c))).same D _ hK rfl
      rw [hW1]
      clear hW1
      refine ⟨by simp, .inl ⟨_, _, rfl, run_takeDeferred hK1, ?_⟩⟩
      have d0 := cell_kept e0.cell (grownBy_putObj' _ D (.deferred none)) (fun r e => by cases e; exact ⟨_, hK1, rfl⟩)
      have d1 := cell_kept e1.cell (grownBy_putObj' _ D (.deferred none)) (fun r e => by cases e; exact ⟨_, hK1, rfl⟩)
      refine ⟨.tuple #[.slice (some ⟨g, 0, none⟩) A.length cap, .int .i64 c], ?_, ⟨_, by rw [Hc.out], ?_, hbel1.trans (belowK_b (w := w) (Nat.le_refl _) _ D _ _ (by omega) hK1 rfl rfl)⟩⟩
      · simp [results, Try.f13, go_sem, d0, d1]
      · rw [HA.out]
        refine hR1.keep fun k hk => ?_
        obtain ⟨g', cap', cur', hv', hgc', _⟩ := hR1.block
        rw [hv'] at hk
        obtain rfl : g' = k := by simpa [Value.ownBlock] using hk
        exact World.putObj_heap_other (fun e => by subst e; rw [hK1] at hgc'; cases hgc')
  case stop =>
    rintro D c pre W hD hpre ⟨rfl, hne⟩ hK
    exact absurd hpre hne
theorem told_any (s : ByteArray) (w : World) (hs : s.size ≤ 1000000) :
    Calls Try.prog 13 #[.string s] w fun e w' => ∃ v, e = .returned (.tuple #[v, .int .i64 (allL s.data.toList).2]) ∧ TRow w' w.heap.size v (allL s.data.toList).1 ∧ Below w.heap.size w w' :=
  (callsIn_wide (n := 3)).1 (told_in 3 (by omega) s hs w)
end Go.Proofs.Ytnjmapgmodoodaa
