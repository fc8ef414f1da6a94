/-
  The law's: what a value names, gathered.
-/
import Derived.Test.YtlmgjhidmipadaaHLk
import Derived.Test.YtlmgjhidmipadaaHRow
import Derived.Maps.OwnIn
import Derived.Maps.AppendAt
namespace Go.Proofs.Ytlmgjhidmipadaa
open Go.RowKit Go.Shelf
set_option maxRecDepth 100000
attribute [local go_sem] Oper.semAt_some

theorem wpListIn_append_R {F : Fence} {n : Nat} {ops : Array Oper} {rest : List Oper} {o : Oper} {a : Act} {w : World} {Q : Exit → Act → World → Prop} (hgd : o.guard = none) (s x : Operand)
    (ho : o.op = .call { callee := .builtin .append, args := #[s, x], argTypes := #[44, 44] })
    (B : Nat) (p : Option Addr) (k cap : Nat) (xs : List (Int × Int)) (hk : k = xs.length) (hs : a.eval s = .slice p k cap) (hown : OwnR w B p cap xs) (r : Int × Int) (b c : Nat) (hx : a.eval x = .slice (some ⟨b, 0, none⟩) 1 c)
    (hy : w.heap[b]? = some (.cells (refA r) 40)) (hlen : xs.length ≤ 100000000) (hB : B ≤ w.heap.size)
    (h : ∀ g' cap' w', Hid (OwnR w' B (some ⟨g', 0, none⟩) cap' (xs ++ [r])) → Hid (w.grownBy w' (p.map (·.block))) → Hid (some g' = p.map (·.block) ∨ g' = w.heap.size) → wpListIn F n Try.prog ops Q rest (a.put o.dst (.slice (some ⟨g', 0, none⟩) (k + 1) cap')) w') : wpListIn F n Try.prog ops Q (o :: rest) a w := by
  subst hk
  obtain ⟨i0, hi, hz0, hz1, hz2⟩ := info_parts infoR
  have hob : ∀ (q : Option Addr) (l c : Nat), (Value.slice q l c).ownBlock = q.map (·.block) := fun q l c => by cases q <;> rfl
  refine wpListIn_append_own_at w hgd s x 44 ho B 40 i0 _ 2 16 Try.underlying44 hi hz0 hz1 hz2 rfl (by decide) _ _ _ hs hown ⟨b, 0, none⟩ 1 c (refC r) hx rfl (World.news_of_block hy) (fun u hu => flatR_one (xs := [r]) u (by simpa [flatR] using hu)) (by unfold maxLen; omega) (by omega) hB ?_
  intro v' w' hown' hgrow _ hat
  have e : xs.length + 1 = (xs ++ [r]).length := by rw [List.length_append]; rfl
  obtain ⟨g', cap', rfl⟩ := ownsRow_succ hown'
  rw [hob] at hgrow hat
  rw [hob] at hat
  refine h g' cap' w' (Lib.hid ?_) (Lib.hid hgrow) (Lib.hid (hat.imp id (fun e => by injection e)))
  unfold OwnR
  rw [flatR_append, ← e]
  simpa [flatR] using hown'

/-- What holds in the rounds. -/
def LinkI (w : World) (M : Nat) (pre : List (Int × Int)) (W : World) : Prop :=
  (∃ g cap, Boxed W (w.heap.size + 2) 44 (.slice (some ⟨g, 0, none⟩) pre.length cap) ∧ OwnR W (w.heap.size + 1) (some ⟨g, 0, none⟩) cap pre) ∧ Below w.heap.size w W ∧ M ≤ W.heap.size
theorem linkI_row {w W : World} {pre : List (Int × Int)} {g cap : Nat} (h : Boxed W (w.heap.size + 2) 44 (.slice (some ⟨g, 0, none⟩) pre.length cap)) : rowB (w.heap.size + 2) W = some g := by unfold rowB; rw [h.cell]
theorem linkI_own (w : World) (M : Nat) (hM : w.heap.size + 3 ≤ M) : OwnL M (w.heap.size + 2) (LinkI w M) := by
  rintro pre X Y row ⟨⟨g, cap, hb, hr⟩, h3, h4⟩ hg hrow
  have hrb := linkI_row hb
  refine ⟨⟨g, cap, (hg.block _ hb.lt (fun e => by have := (hrow _ e.symm).1; omega)).trans hb, hr.keep fun a ha => ?_⟩, ⟨hg.os.trans h3.os, hg.tape.trans h3.tape, hg.output.trans h3.output, Nat.le_trans h3.size hg.size, fun k hk => ?_⟩, Nat.le_trans h4 hg.size⟩
  · cases ha
    exact hg.block g (hr.lt _ rfl).2 (fun e => (hrow g e.symm).2 hrb)
  · exact (hg.block k (by have := h3.size; omega) (fun e => by have := (hrow k e.symm).1; omega)).trans (h3.block k hk)
theorem own_cells {W : World} {B g cap : Nat} {xs : List (Int × Int)} (h : OwnR W B (some ⟨g, 0, none⟩) cap xs) : ∃ o, W.heap[g]? = some o ∧ o.isCells = true := by
  rcases h.2 with ⟨h2, _⟩ | ⟨g', c, cur, hv, _, hg, _⟩
  · cases h2
  · cases hv
    exact ⟨_, hg, rfl⟩
theorem link_step {w X w4 : World} {M : Nat} {pre : List (Int × Int)} {r : Int × Int} {tmp : Obj} {g cap g' cap' : Nat} (hb : Boxed X (w.heap.size + 2) 44 (.slice (some ⟨g, 0, none⟩) pre.length cap)) (hr : OwnR X (w.heap.size + 1) (some ⟨g, 0, none⟩) cap pre) (h3 : Below w.heap.size w X) (h4 : M ≤ X.heap.size)
    (ho : OwnR w4 (w.heap.size + 1) (some ⟨g', 0, none⟩) cap' (pre ++ [r])) (hg : (X.alloc tmp).grownBy w4 (some g)) (hat : some g' = some g ∨ g' = (X.alloc tmp).heap.size) :
    Boxed w4 (w.heap.size + 2) 44 (.slice (some ⟨g, 0, none⟩) pre.length cap) ∧
    LKeep (fun _ => False) (w.heap.size + 2) X (w4.setCell ⟨w.heap.size + 2, 0, none⟩ (.slice (some ⟨g', 0, none⟩) (pre.length + 1) cap')) ∧ LinkI w M (pre ++ [r]) (w4.setCell ⟨w.heap.size + 2, 0, none⟩ (.slice (some ⟨g', 0, none⟩) (pre.length + 1) cap')) := by
  have hlt := hb.lt
  have hsx : (X.alloc tmp).heap.size = X.heap.size + 1 := by simp
  have hrg := hr.lt _ rfl
  dsimp only at hrg
  have hne : w.heap.size + 2 ≠ g := fun e => by
    have := hb.not_row (by decide) hr
    exact this (by rw [e]; rfl)
  have hb4 : Boxed w4 (w.heap.size + 2) 44 (.slice (some ⟨g, 0, none⟩) pre.length cap) := (hb.alloc tmp).kept hg (by simpa using hne)
  have hsz := hg.size
  have hne4 : g' ≠ w.heap.size + 2 := by
    rcases hat with e | e
    · cases e; exact Ne.symm hne
    · omega
  have hset : (w4.setCell ⟨w.heap.size + 2, 0, none⟩ (.slice (some ⟨g', 0, none⟩) (pre.length + 1) cap')).heap.size = w4.heap.size := by simp [World.setCell]
  have hbs := hb4.set (.slice (some ⟨g', 0, none⟩) (pre.length + 1) cap')
  have hrow : rowB (w.heap.size + 2) (w4.setCell ⟨w.heap.size + 2, 0, none⟩ (.slice (some ⟨g', 0, none⟩) (pre.length + 1) cap')) = some g' := by unfold rowB; rw [hbs.cell]
  have hrow0 : rowB (w.heap.size + 2) X = some g := linkI_row hb
  have ho2 : OwnR (w4.setCell ⟨w.heap.size + 2, 0, none⟩ (.slice (some ⟨g', 0, none⟩) (pre.length + 1) cap')) (w.heap.size + 1) (some ⟨g', 0, none⟩) cap' (pre ++ [r]) := ho.keep fun a ha => by
    cases ha
    exact Below.heap_setCell _ _ _ _ hne4
  have hkeep : ∀ k, k < X.heap.size → k ≠ w.heap.size + 2 → k ≠ g → (w4.setCell ⟨w.heap.size + 2, 0, none⟩ (.slice (some ⟨g', 0, none⟩) (pre.length + 1) cap')).heap[k]? = X.heap[k]? := fun k hk h1 h2 =>
    ((Below.heap_setCell _ _ _ _ h1).trans (hg.block k (by omega) (by simpa using h2))).trans (Below.heap_alloc _ _ _ hk)
  refine ⟨hb4, ⟨by omega, fun k hk _ h1 h2 => hkeep k hk h1 (fun e => h2 (by rw [hrow0, e])), fun q hq => ?_, fun _ q hq => ?_⟩, ⟨g', cap', by rw [List.length_append]; exact hbs, ho2⟩, ?_, by omega⟩
  · rw [hrow] at hq
    rcases hat with e | e
    · exact .inl (by rw [hrow0, ← e, hq])
    · cases hq; exact .inr (by omega)
  · rw [hrow] at hq
    cases hq
    exact own_cells ho2
  · refine Below.setCell (p := ⟨w.heap.size + 2, 0, none⟩) ?_ (by show w.heap.size ≤ w.heap.size + 2; omega) _
    refine (h3.alloc h3.size tmp).grown hg (by have := h3.size; omega) (fun k e => by cases e; omega)

set_option maxHeartbeats 1000000 in
theorem links_any (v : Val) (x : Hv) (w : World) (S : Nat → Prop) (hR : Rd w S x v) (hS : ∀ k, S k → k < w.heap.size) (hfit : Fit v 4000) :
    Calls Try.prog 26 #[.agg x.arr] w fun e w' => ∃ p cap, e = .returned (.slice p (linksV (plainV v)).length cap) ∧ OwnR w' w.heap.size p cap (linksV (plainV v)) ∧ Below w.heap.size w w' := by
  obtain ⟨xk, xn, xg, xs, ⟨lp, ll, lc⟩, ⟨dp, dl, dc⟩⟩ := x
  obtain ⟨Wa, hWa⟩ : ∃ Wa, (w.alloc (.cells #[.int .i64 xk, .int .i64 xn, .int .i64 xg, .string xs, .slice lp ll lc, .slice dp dl dc] 25)).alloc (.cells #[] 40) = Wa := ⟨_, rfl⟩
  obtain ⟨W1, hW1⟩ : ∃ W1, Wa.alloc (.cells #[.slice (some ⟨w.heap.size + 1, 0, none⟩) 0 0] 44) = W1 := ⟨_, rfl⟩
  have hsa : Wa.heap.size = w.heap.size + 2 := by rw [← hWa]; simp
  have hs1 : W1.heap.size = w.heap.size + 3 := by rw [← hW1]; simp; omega
  have hba : Below w.heap.size w Wa := by rw [← hWa]; exact ((Below.refl _ w).alloc (Nat.le_refl _) _).alloc (by simp) _
  have hb1 : Below w.heap.size w W1 := by rw [← hW1]; exact hba.alloc (by omega) _
  have ba : OwnR Wa (w.heap.size + 1) (some ⟨w.heap.size + 1, 0, none⟩) 0 [] := by
    rw [← hWa]
    have h := OwnR.made (w.alloc (.cells #[.int .i64 xk, .int .i64 xn, .int .i64 xg, .string xs, .slice lp ll lc, .slice dp dl dc] 25)) (B := w.heap.size + 1) (by simp)
    rwa [World.size_alloc] at h
  have hI1 : LinkI w (w.heap.size + 3) [] W1 := by
    refine ⟨⟨w.heap.size + 1, 0, ?_, ?_⟩, hb1, by omega⟩
    · rw [← hW1, ← hsa]; exact Boxed.new Wa _ _
    · rw [← hW1]; exact ba.later ((Below.refl _ Wa).alloc (Nat.le_refl _) _)
  have hc := plinks_maker v ⟨xk, xn, xg, xs, ⟨lp, ll, lc⟩, ⟨dp, dl, dc⟩⟩ W1 S (hR.later (below_old hS hb1)) (old_later hS hb1) hfit
  rw [hs1] at hc
  have Hc := Lib.hid hc
  have Hb1 := Lib.hid hb1
  have HW1 := Lib.hid hW1
  have HWa := Lib.hid hWa
  have HI1 := Lib.hid hI1
  have HFit := Lib.hid hfit
  clear hR hS hfit hc hb1 hW1 hWa hI1 ba hba hsa
  show Calls Try.prog 26 #[.agg #[.int .i64 xk, .int .i64 xn, .int .i64 xg, .string xs, .slice lp ll lc, .slice dp dl dc]] w _
  refine (callsIn_wide (n := 3)).1 ?_
  refine callsIn_of_wp_marks Try.func26 rfl trivial ?_ rfl
  simp only [Try.ntmps26, List.size_toArray, List.length_cons, List.length_nil, Nat.reduceAdd, Nat.reduceSub, Array.replicate_succ, Array.replicate_zero, List.push_toArray, List.append_toArray, List.nil_append, List.cons_append]
  gi_wp2_with fail
  refine ⟨trivial, ?_⟩
  rw [HWa.out, HW1.out]
  refine (callsIn_wide.2 Hc.out).mono ?_
  rintro e w2 ⟨rfl, hb2, y, hy, hRy⟩
  gi_wp2_with fail
  have hsz2 := hb2.size
  rw [hs1] at hsz2
  have hbw : Below w.heap.size w w2 := Hb1.out.trans (hb2.mono (by omega))
  have hI2 : LinkI w w2.heap.size [] w2 := by
    obtain ⟨⟨g, cap, h1, h2⟩, h3, h4⟩ := HI1.out
    have hlt := h2.lt _ rfl
    rw [hs1] at hlt
    exact ⟨⟨g, cap, (hb2.block _ (by omega)).trans h1, h2.keep fun a ha => by cases ha; exact hb2.block g hlt.2⟩, hbw, Nat.le_refl _⟩
  obtain ⟨g0, hrow, hg0⟩ : ∃ g0, rowB (w.heap.size + 2) w2 = some g0 ∧ g0 < w.heap.size + 3 := by
    obtain ⟨⟨g, cap, h1, h2⟩, _, _⟩ := HI1.out
    have hlt := h2.lt _ rfl
    rw [hs1] at hlt
    exact ⟨g, by rw [rowB_same (hb2.block (w.heap.size + 2) (by omega))]; exact linkI_row h1, hlt.2⟩
  have hrc : RowCells (w.heap.size + 2) w2 := fun k hk => by
    obtain ⟨⟨g, cap, h1, h2⟩, _, _⟩ := hI2
    rw [linkI_row h1] at hk
    cases hk
    exact own_cells h2
  have hF : FreeT (fun k => (w.heap.size + 3 < k ∧ k < w2.heap.size) ∨ k = w.heap.size + 3) (w.heap.size + 2) w2 := ⟨hrc, by omega, fun k hk => by have := (Array.getElem?_eq_some_iff.1 hy).1; omega, fun k hk e => by rw [hrow] at e; cases e; omega⟩
  refine wp_range_L (gf := 43) (lb := #[.pointer (some ⟨w.heap.size + 3, 0, none⟩)]) rfl (enters_of Try.func43 (by kernel_rfl) rfl) (L := fun _ => False) (bo := w.heap.size + 2) (by omega) (fun k hk => hk.elim) hrc
    (links_L (w.heap.size + 3) y (plainV v) _ _ _ w2 hy hRy (plain_plain v) (plain_fit HFit.out) hF (fun k hk => ⟨id, by omega⟩) (fun k hk => hk.elim)) (fun _ => rfl)
    (LinkI w w2.heap.size) (fun _ _ => False) (linkI_own w _ (by omega)) (fun _ _ _ _ h _ _ => h) hI2
    (fun r a' X => ElR (w.heap.size + 3) (fun p => { tmps := #[.agg #[.int .i64 xk, .int .i64 xn, .int .i64 xg, .string xs, .slice lp ll lc, .slice dp dl dc], .pointer (some ⟨w.heap.size, 0, none⟩), .slice none 0 0, .pointer (some ⟨w.heap.size + 2, 0, none⟩), .pointer (some p), .slice (some ⟨w.heap.size + 1, 0, none⟩) 0 0, .agg #[.int .i64 xk, .int .i64 xn, .int .i64 xg, .string xs, .slice lp ll lc, .slice dp dl dc], .func (.func 43) #[] #[.pointer (some ⟨w.heap.size + 3, 0, none⟩)], .agg (refA r), undef, undef, undef, undef, undef], defers := [] }) r a' X)
    (fun r a' => elR_own _ _ _ _ a') ?assign ?body ?done ?stop
  case assign =>
    rintro l2 pre ⟨an, ag⟩ X K hI hK
    have HK := Lib.hid hK
    have HI := Lib.hid hI
    have h4 := hI.2.2
    clear hK hI
    dsimp only [encR]
    gi_wp2
    have hga := World.grownBy_alloc X (.cells #[.int .i64 an, .int .i64 ag] 40) none
    exact HK.out _ _ (LKeep.grown hga (by omega)) (linkI_own w w2.heap.size (by omega) _ _ _ none HI.out hga (fun k e => by cases e)) ⟨X.heap.size, by omega, World.alloc_heap_new X _, rfl⟩
  case body =>
    rintro l2 pre ⟨an, ag⟩ a' X hl2 ⟨⟨g, cap, hbX, hrX⟩, h3, h4⟩ ⟨b, hNb, hbk, rfl⟩ hok
    obtain ⟨k0, k1⟩ := two_cells hbk
    have c2 := hbX.cell
    have f2 := hbX.frozen
    have hpl : pre.length ≤ 100000000 := by
      have h1 := hok.length_le
      rw [List.length_append] at h1
      have h2 := links_le (plainV v)
      have h5 := plain_size v
      have h6 := HFit.out.1
      omega
    have HbX := Lib.hid hbX
    have HrX := Lib.hid hrX
    have H3 := Lib.hid h3
    have H4 := Lib.hid h4
    have Hpl := Lib.hid hpl
    have hXs := h3.size
    have HXs := Lib.hid hXs
    have hw2 : w.heap.size + 3 ≤ w2.heap.size := hsz2
    clear hbX hrX h3 hbk hok hpl hXs hb2 hy hRy hrow hrc hF hbw hI2
    gi_wp2_with (gi_at_builtin; refine wpListIn_append_R rfl (.tmp 9) (.tmp 11) rfl (w.heap.size + 1) _ _ _ pre rfl rfl (HrX.out.later ((Below.refl _ X).alloc (Nat.le_refl _) _)) (an, ag) X.heap.size 1 rfl (World.alloc_heap_new X _) Hpl.out (by simp; omega) ?_; intro g4 cap4 w4 HO4 Hg4 Hat4; have Hst := Lib.hid (link_step HbX.out HrX.out H3.out H4.out HO4.out Hg4.out Hat4.out); have d2 := Hst.out.1.cell; have e2 := Hst.out.1.frozen)
    exact Hst.out.2
  case done =>
    rintro D ys X hD rfl ⟨⟨g, cap, hbX, hrX⟩, h3, h4⟩ hDf
    have c2 := hbX.cell
    have H3 := Lib.hid h3
    have HrX := Lib.hid hrX
    have HD := Lib.hid hDf
    clear hbX hrX h3 hDf hb2 hy hRy hrow hrc hF hbw hI2
    gi_wp2
    refine ⟨by simp, .inl ⟨_, _, rfl, run_takeDeferred HD.out, ?_⟩⟩
    refine ⟨_, results_tmp rfl _ _ _, _, cap, rfl, (HrX.out.low (Nat.le_succ _)).keep fun a ha => ?_, H3.out.trans (belowK_b (w := w) (Nat.le_refl _) _ D _ _ (by omega) HD.out rfl rfl)⟩
    cases ha
    refine World.putObj_heap_other fun e => ?_
    obtain ⟨o, ho, hc⟩ := own_cells HrX.out
    rw [show g = D from e, HD.out] at ho
    cases ho
    cases hc
  case stop =>
    rintro D ys X hD h _
    exact h.elim
end Go.Proofs.Ytlmgjhidmipadaa
