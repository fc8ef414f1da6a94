/-
  The document's state in memory; the contracts of its bits, symbol, fail.
-/
import Derived.Test.YtjmamomnbfnngaaDoorInfRef
import Derived.Deep.DeepCutAuto
import Derived.Deep.CutRange
namespace Go.Proofs.YtjmamomnbfnngaaDoor
open Go.RowKit

/-- A state's value. -/
def stV (s : ByteArray) (vb : Value) (vo : Value) (most : Nat) (x : St) : Array Value := #[.string s, vb, .int .i64 (x.at' : Int), vo, .int .i64 (most : Int), .int .i64 x.code]
theorem info_st : (Tryd.prog.info? 47).map (·.size) = some 6 := by kernel_rfl
def StCell (w : World) (b : Nat) (s : ByteArray) (vb vo : Value) (most : Nat) (x : St) : Prop := w.heap[b]? = some (.cells (stV s vb vo most x) 47 (0, 0))
theorem StCell.text {w : World} {b : Nat} {s : ByteArray} {vb vo : Value} {most : Nat} {x : St} (h : StCell w b s vb vo most x) : w.cell? ⟨b, 0, none⟩ = some (.string s) := by rw [cell_of_row _ _ _ _ _ _ h]; rfl
theorem StCell.bits {w : World} {b : Nat} {s : ByteArray} {vb vo : Value} {most : Nat} {x : St} (h : StCell w b s vb vo most x) : w.cell? ⟨b, 1, none⟩ = some vb := by rw [cell_of_row _ _ _ _ _ _ h]; rfl
theorem StCell.at' {w : World} {b : Nat} {s : ByteArray} {vb vo : Value} {most : Nat} {x : St} (h : StCell w b s vb vo most x) : w.cell? ⟨b, 2, none⟩ = some (.int .i64 (x.at' : Int)) := by rw [cell_of_row _ _ _ _ _ _ h]; rfl
theorem StCell.out {w : World} {b : Nat} {s : ByteArray} {vb vo : Value} {most : Nat} {x : St} (h : StCell w b s vb vo most x) : w.cell? ⟨b, 3, none⟩ = some vo := by rw [cell_of_row _ _ _ _ _ _ h]; rfl
theorem StCell.most {w : World} {b : Nat} {s : ByteArray} {vb vo : Value} {most : Nat} {x : St} (h : StCell w b s vb vo most x) : w.cell? ⟨b, 4, none⟩ = some (.int .i64 (most : Int)) := by rw [cell_of_row _ _ _ _ _ _ h]; rfl
theorem StCell.code {w : World} {b : Nat} {s : ByteArray} {vb vo : Value} {most : Nat} {x : St} (h : StCell w b s vb vo most x) : w.cell? ⟨b, 5, none⟩ = some (.int .i64 x.code) := by rw [cell_of_row _ _ _ _ _ _ h]; rfl
theorem StCell.free {w : World} {b : Nat} {s : ByteArray} {vb vo : Value} {most : Nat} {x : St} (h : StCell w b s vb vo most x) (j : Nat) : w.frozen? ⟨b, j, none⟩ = false := frozen_of_row _ _ _ _ _ h
theorem StCell.lt {w : World} {b : Nat} {s : ByteArray} {vb vo : Value} {most : Nat} {x : St} (h : StCell w b s vb vo most x) : b < w.heap.size := by
  rcases Nat.lt_or_ge b w.heap.size with h' | h'
  · exact h'
  · unfold StCell at h; rw [Array.getElem?_eq_none h'] at h; cases h
theorem StCell.later {w w' : World} {b : Nat} {s : ByteArray} {vb vo : Value} {most : Nat} {x : St} (h : StCell w b s vb vo most x) (hb : Below w.heap.size w w') : StCell w' b s vb vo most x := (hb.block b h.lt).trans h
theorem StCell.putAt {w : World} {b : Nat} {s : ByteArray} {vb vo : Value} {most : Nat} {x : St} (h : StCell w b s vb vo most x) (a : Nat) : StCell (w.setCell ⟨b, 2, none⟩ (.int .i64 (a : Int))) b s vb vo most ⟨a, x.out, x.code⟩ := heap_setCell_same _ _ 2 _ _ _ h
theorem StCell.putCode {w : World} {b : Nat} {s : ByteArray} {vb vo : Value} {most : Nat} {x : St} (h : StCell w b s vb vo most x) (e : Int) : StCell (w.setCell ⟨b, 5, none⟩ (.int .i64 e)) b s vb vo most ⟨x.at', x.out, e⟩ := heap_setCell_same _ _ 5 _ _ _ h
theorem StCell.putOut {w : World} {b : Nat} {s : ByteArray} {vb vo : Value} {most : Nat} {x : St} (h : StCell w b s vb vo most x) (v : Value) (o : List UInt8) : StCell (w.setCell ⟨b, 3, none⟩ v) b s vb v most ⟨x.at', o, x.code⟩ := heap_setCell_same _ _ 3 _ _ _ h
/-- Each of its parts is one cell. -/
theorem stV_one {s : ByteArray} {vb vo : Value} {most : Nat} {x : St} (hb : vb.oneCell' = true) (ho : vo.oneCell' = true) : (stV s vb vo most x).all (·.oneCell') = true := by
  have h : (stV s vb vo most x).toList.all (·.oneCell') = true := by
    show (_ && (vb.oneCell' && (_ && (vo.oneCell' && _)))) = true
    rw [hb, ho]; rfl
  simpa using h
theorem StCell.load {ops : Array Oper} {rest : List Oper} {o : Oper} {a : Act} {w : World} {Q : Exit → Act → World → Prop} (hgd : o.guard = none) (x : Operand) (ho : o.op = .load 47 x)
    (b : Nat) (s : ByteArray) (vb vo : Value) (most : Nat) (y : St) (hx : a.eval x = .pointer (some ⟨b, 0, none⟩)) (hg : StCell w b s vb vo most y) (h : wpList Tryd.prog ops Q rest (a.put o.dst (.agg (stV s vb vo most y))) w) : wpList Tryd.prog ops Q (o :: rest) a w :=
  wpList_load_row hgd _ x ho b hx _ _ _ _ hg Tryd.underlying47 rfl info_st h
theorem StCell.store {ops : Array Oper} {rest : List Oper} {o : Oper} {a : Act} {w : World} {Q : Exit → Act → World → Prop} (hgd : o.guard = none) (hdst : o.dst = none) (x y : Operand) (ho : o.op = .store 47 x y)
    (b : Nat) (s s' : ByteArray) (vb vb' vo vo' : Value) (most most' : Nat) (z z' : St) (hb1 : vb.oneCell' = true) (ho1 : vo.oneCell' = true) (hx : a.eval x = .pointer (some ⟨b, 0, none⟩)) (hy : a.eval y = .agg (stV s vb vo most z)) (hg : StCell w b s' vb' vo' most' z') (B : Nat) (w0 : World) (hb : Below B w0 w) (hB : B ≤ b)
    (h : ∀ w', Hid (StCell w' b s vb vo most z) → Hid (Below B w0 w') → Hid (∀ k, k ≠ b → w'.heap[k]? = w.heap[k]?) → wpList Tryd.prog ops Q rest a w') : wpList Tryd.prog ops Q (o :: rest) a w := by
  refine wpList_plain hgd fun K hK => ?_
  refine wp_store_row _ x y ho b (stV s vb vo most z) hx hy _ (stV s' vb' vo' most' z') hg info_st rfl (stV_one hb1 ho1) (hK _ _ ?_)
  have hr := h _ (Lib.hid (setRow_heap _ _ _ _ _ _ hg)) (Lib.hid (hb.trans ⟨rfl, rfl, rfl, by simp, fun k hk => setRow_other _ _ _ _ (by omega)⟩)) (Lib.hid fun k hk => setRow_other _ _ _ _ hk)
  rw [hdst]
  exact hr
theorem results_st {fn : Func} {p : Tmp} (h : fn.results = #[.cell p 47]) (tmps : Array Value) (w : World) (b : Nat) (s : ByteArray) (vb vo : Value) (most : Nat) (x : St) (hp : tmps.getD p undef = .pointer (some ⟨b, 0, none⟩)) (hg : StCell w b s vb vo most x) :
    (results fn tmps).run Tryd.prog w = .ok (.agg (stV s vb vo most x)) w :=
  results_cell_row h tmps w b _ _ _ _ hp hg Tryd.underlying47 rfl info_st
/-- A state that was handed in, and room for the one that is handed back. -/
def boxes (w : World) (s : ByteArray) (vb vo : Value) (most : Nat) (x : St) : World := (w.alloc (.cells (stV s vb vo most x) 47)).alloc (.cells #[.string ⟨#[]⟩, .slice none 0 0, .int .i64 0, .slice none 0 0, .int .i64 0, .int .i64 0] 47)
theorem boxes_one (w : World) (s : ByteArray) (vb vo : Value) (most : Nat) (x : St) : StCell (boxes w s vb vo most x) w.heap.size s vb vo most x := heap_alloc2_old w _ _
theorem boxes_two (w : World) (s : ByteArray) (vb vo : Value) (most : Nat) (x : St) : StCell (boxes w s vb vo most x) (w.heap.size + 1) ⟨#[]⟩ (.slice none 0 0) (.slice none 0 0) 0 ⟨0, [], 0⟩ := heap_alloc2_new w _ _
theorem boxes_below (w : World) (s : ByteArray) (vb vo : Value) (most : Nat) (x : St) : Below w.heap.size w (boxes w s vb vo most x) := ((Below.refl _ w).alloc (Nat.le_refl _) _).alloc (by simp) _

theorem boxes_is (w : World) (s : ByteArray) (vb vo : Value) (most : Nat) (x : St) : ∃ W, boxes w s vb vo most x = W ∧ Hid (StCell W w.heap.size s vb vo most x) ∧ Hid (StCell W (w.heap.size + 1) ⟨#[]⟩ (.slice none 0 0) (.slice none 0 0) 0 ⟨0, [], 0⟩) ∧ Hid (Below w.heap.size w W) :=
  ⟨_, rfl, Lib.hid (boxes_one w s vb vo most x), Lib.hid (boxes_two w s vb vo most x), Lib.hid (boxes_below w s vb vo most x)⟩
theorem StCell.other {w : World} {b : Nat} {s : ByteArray} {vb vo : Value} {most : Nat} {x : St} (h : StCell w b s vb vo most x) {a : Addr} (v : Value) (hne : b ≠ a.block) : StCell (w.setCell a v) b s vb vo most x := (heap_setCell_other _ _ _ _ hne).trans h

set_option maxHeartbeats 1000000 in
theorem rFail_any (s : ByteArray) (vb vo : Value) (most : Nat) (x : St) (c : Bool) (e : Int) (w : World) (hb1 : vb.oneCell' = true) (ho1 : vo.oneCell' = true) :
    Calls Tryd.prog 14 #[.agg (stV s vb vo most x), .bool c, .int .i64 e] w fun en w' => en = .returned (.agg (stV s vb vo most (failS x c e))) ∧ Below w.heap.size w w' := by
  obtain ⟨W, hW, H1, H2, HB⟩ := boxes_is w s vb vo most x
  unfold boxes at hW
  have k5 := H1.out.code
  have f5 := H1.out.free 5
  have H1c := Lib.hid (H1.out.putCode e)
  have H2c := Lib.hid (H2.out.other (a := ⟨w.heap.size, 5, none⟩) (.int .i64 e) (by simp))
  have hcase : (c = true ∧ x.code = 0) ∨ (failS x c e = x ∧ (c = false ∨ (c = true ∧ (x.code == 0) = false))) := by
    cases c
    · exact .inr ⟨failS_no, .inl rfl⟩
    · by_cases h : x.code = 0
      · exact .inl ⟨rfl, h⟩
      · exact .inr ⟨failS_bad h, .inr ⟨rfl, by simpa using h⟩⟩
  rcases hcase with ⟨rfl, h0⟩ | ⟨hr, hc⟩
  · have Hr : Hid (failS x true e = ⟨x.at', x.out, e⟩) := Lib.hid (failS_yes h0)
    rw [h0] at k5
    clear h0
    go_enter Tryd.func14, Tryd.ntmps14
    go_wp2_with (with_reducible first
      | refine StCell.load rfl (.tmp 3) rfl w.heap.size _ _ _ _ _ rfl H1c.out ?_
      | (refine StCell.store rfl rfl (.tmp 6) (.tmp 15) rfl (w.heap.size + 1) _ _ _ _ _ _ _ _ _ _ hb1 ho1 rfl rfl H2c.out w.heap.size w (HB.out.setCell (Nat.le_refl _) _) (by omega) ?_; intro w2 Hs Hb2 _))
    refine bodyPost_ret (results_st rfl _ _ (w.heap.size + 1) _ _ _ _ _ rfl Hs.out) rfl ⟨?_, Hb2.out⟩
    rw [Hr.out]
  · have Hr := Lib.hid hr
    clear hr
    rcases hc with rfl | ⟨rfl, hc⟩
    all_goals
      go_enter Tryd.func14, Tryd.ntmps14
      go_wp2_with (with_reducible first
        | refine StCell.load rfl (.tmp 3) rfl w.heap.size _ _ _ _ _ rfl H1.out ?_
        | (refine StCell.store rfl rfl (.tmp 6) (.tmp 15) rfl (w.heap.size + 1) _ _ _ _ _ _ _ _ _ _ hb1 ho1 rfl rfl H2.out w.heap.size w HB.out (by omega) ?_; intro w2 Hs Hb2 _))
      refine bodyPost_ret (results_st rfl _ _ (w.heap.size + 1) _ _ _ _ _ rfl Hs.out) rfl ⟨?_, Hb2.out⟩
      rw [Hr.out]


theorem load_st {w : World} {b : Nat} {s : ByteArray} {vb vo : Value} {most : Nat} {x : St} (hg : StCell w b s vb vo most x) : (loadVar 47 ⟨b, 0, none⟩).run Tryd.prog w = .ok (.agg (stV s vb vo most x)) w :=
  run_loadVar_row w b _ _ _ _ _ hg Tryd.underlying47 rfl info_st
theorem results_bits (tmps : Array Value) (w : World) (b : Nat) (s : ByteArray) (vb vo : Value) (most : Nat) (x : St) (n : Int) (hp : tmps.getD 4 undef = .pointer (some ⟨b, 0, none⟩)) (he : tmps.getD 5 undef = .int .i64 n) (hg : StCell w b s vb vo most x) :
    (results Tryd.f13 tmps).run Tryd.prog w = .ok (.tuple #[.agg (stV s vb vo most x), .int .i64 n]) w := by
  have hp' : tmps[4]?.getD undef = .pointer (some ⟨b, 0, none⟩) := by simpa using hp
  have he' : tmps[5]?.getD undef = .int .i64 n := by simpa using he
  simp [results, Tryd.results13, hp', he', asAddr, load_st hg]
theorem results_sym (tmps : Array Value) (w : World) (b : Nat) (s : ByteArray) (vb vo : Value) (most : Nat) (x : St) (n : Int) (hp : tmps.getD 6 undef = .pointer (some ⟨b, 0, none⟩)) (he : tmps.getD 7 undef = .int .i64 n) (hg : StCell w b s vb vo most x) :
    (results Tryd.f28 tmps).run Tryd.prog w = .ok (.tuple #[.agg (stV s vb vo most x), .int .i64 n]) w := by
  have hp' : tmps[6]?.getD undef = .pointer (some ⟨b, 0, none⟩) := by simpa using hp
  have he' : tmps[7]?.getD undef = .int .i64 n := by simpa using he
  simp [results, Tryd.results28, hp', he', asAddr, load_st hg]

set_option maxHeartbeats 1000000 in
theorem rBitsS_any (s : ByteArray) (vb vo : Value) (most : Nat) (x : St) (k : Nat) (w : World) (hb1 : vb.oneCell' = true) (ho1 : vo.oneCell' = true) (hk : k ≤ 16) (hp : x.at' ≤ 8 * s.size) (hs : s.size ≤ 1000000) :
    Calls Tryd.prog 13 #[.agg (stV s vb vo most x), .int .i64 (k : Int)] w fun en w' => en = .returned (.tuple #[.agg (stV s vb vo most (bitsS s.data.toList x k).1), .int .i64 ((bitsS s.data.toList x k).2 : Int)]) ∧ Below w.heap.size w w' := by
  obtain ⟨W, hW, H1, H2, HB⟩ := boxes_is w s vb vo most x
  unfold boxes at hW
  have k0 := H1.out.text
  have k2 := H1.out.at'
  have k5 := H1.out.code
  by_cases h0 : x.code = 0
  · obtain ⟨n, tt, e, hg⟩ : ∃ n tt e, getB s.data.toList x.at' (k : Int) = (n, tt, e) := ⟨_, _, _, rfl⟩
    have hn : (n.toNat : Int) = n := by
      have h1 : 0 ≤ n := by
        by_cases h : x.at' + k ≤ 8 * s.data.toList.length
        · rw [getB_ok hk h] at hg
          have := (Prod.mk.inj hg).1
          omega
        · rw [getB_short hk (by omega)] at hg
          have := (Prod.mk.inj hg).1
          omega
      omega
    have hr : bitsS s.data.toList x k = (⟨tt, x.out, e⟩, n.toNat) := by unfold bitsS; rw [if_neg (by simp [h0]), hg]
    have Hget := Lib.hid (fun W => rGetB_is s x.at' (k : Int) W hp hs (by omega) (by omega) hg)
    rw [h0] at k5
    rw [hr]
    have Hn := Lib.hid hn
    clear hg h0 hr hn
    go_enter Tryd.func13, Tryd.ntmps13
    go_wp2_with fail
    refine (Hget.out _).mono ?_
    rintro en w1 ⟨rfl, q, hq⟩
    have hb : Below W.heap.size W w1 := by rw [← hq]; exact below_drewN (Below.refl _ _) q
    have K1 := Lib.hid (H1.out.later hb)
    have K2 := Lib.hid (H2.out.later hb)
    have Hb1 := Lib.hid (HB.out.trans (hb.mono HB.out.size))
    have hz1 := K1.out.free 2
    have hz2 := K1.out.free 5
    have j2 := K1.out.at'
    have j5 := K1.out.code
    have L1 := Lib.hid ((K1.out.putAt tt).putCode e)
    have L2 := Lib.hid ((K2.out.other (a := ⟨w.heap.size, 2, none⟩) (.int .i64 (tt : Int)) (by simp)).other (a := ⟨w.heap.size, 5, none⟩) (.int .i64 e) (by simp))
    have Lb : Hid (Below w.heap.size w ((w1.setCell ⟨w.heap.size, 2, none⟩ (.int .i64 (tt : Int))).setCell ⟨w.heap.size, 5, none⟩ (.int .i64 e))) := Lib.hid ((Hb1.out.setCell (by simp) _).setCell (by simp) _)
    clear hb hq
    go_wp2_with (with_reducible first
      | refine StCell.load rfl (.tmp 2) rfl w.heap.size _ _ _ _ _ rfl L1.out ?_
      | (refine StCell.store rfl rfl (.tmp 4) (.tmp 27) rfl (w.heap.size + 1) _ _ _ _ _ _ _ _ _ _ hb1 ho1 rfl rfl L2.out w.heap.size w Lb.out (by omega) ?_; intro w2 Hs Hb2 _))
    refine bodyPost_ret (results_bits _ _ (w.heap.size + 1) _ _ _ _ _ n rfl rfl Hs.out) rfl ⟨?_, Hb2.out⟩
    rw [Hn.out]
  · have hz : (x.code != 0) = true := by simpa using h0
    rw [bitsS_bad h0]
    clear h0
    go_enter Tryd.func13, Tryd.ntmps13
    go_wp2_with (with_reducible first
      | refine StCell.load rfl (.tmp 2) rfl w.heap.size _ _ _ _ _ rfl H1.out ?_
      | (refine StCell.store rfl rfl (.tmp 4) (.tmp 12) rfl (w.heap.size + 1) _ _ _ _ _ _ _ _ _ _ hb1 ho1 rfl rfl H2.out w.heap.size w HB.out (by omega) ?_; intro w2 Hs Hb2 _))
    exact bodyPost_ret (results_bits _ _ (w.heap.size + 1) _ _ _ _ _ 0 rfl rfl Hs.out) rfl ⟨rfl, Hb2.out⟩


theorem readC_nonneg (ls : List Int) (cs : List Nat) : ∀ (k n code : Nat) (r : List Nat), 0 ≤ (readC ls cs k n code r).1
  | 0, n, code, r => by rw [readC_end]; exact Int.le_refl _
  | _ + 1, _, _, [] => by rw [readC_short]; exact Int.le_refl _
  | k + 1, n, code, b :: r => by
    by_cases h : 0 ≤ findC ls cs (n + 1) (2 * code + b) 0
    · rw [readC_hit h]; exact h
    · rw [readC_miss h]; exact readC_nonneg ls cs k (n + 1) (2 * code + b) r
theorem foldl_nat (ns : List Nat) : ∀ m : Nat, (intsOf ns).foldl max (m : Int) = ((ns.foldl max m : Nat) : Int) := by
  induction ns with
  | nil => intro m; rfl
  | cons n r ih =>
    intro m
    show (intsOf r).foldl max (max (m : Int) (n : Int)) = _
    rw [show max (m : Int) (n : Int) = ((max m n : Nat) : Int) by omega, ih]; rfl
theorem longN_is (ns : List Nat) : longZ (intsOf ns) = (longN ns : Int) := foldl_nat ns 0
theorem foldl_le {ns : List Nat} {b : Nat} (h : ∀ n ∈ ns, n ≤ b) : ∀ m, m ≤ b → ns.foldl max m ≤ b := by
  induction ns with
  | nil => intro m hm; exact hm
  | cons n r ih =>
    intro m hm
    exact ih (fun x hx => h x (by simp [hx])) (max m n) (by have := h n (by simp); omega)
theorem longN_le {ns : List Nat} (h : ∀ n ∈ ns, n ≤ 15) : longN ns ≤ 15 := foldl_le h 0 (by omega)
theorem intsOf_length (ns : List Nat) : (intsOf ns).length = ns.length := by simp [intsOf]

set_option maxHeartbeats 1000000 in
theorem rSymS_any (s : ByteArray) (pb : Option Addr) (cb : Nat) (vo : Value) (most : Nat) (x : St) (p1 p2 : Option Addr) (c1 c2 n1 n2 nb : Nat) (ns : List Nat) (w : World) (ho1 : vo.oneCell' = true) (hp : x.at' ≤ 8 * s.size) (hs : s.size ≤ 100000)
    (hl : ns.length ≤ 1000) (h15 : ∀ n ∈ ns, n ≤ 15) (hn1 : n1 = ns.length) (hn2 : n2 = ns.length) (hnb : nb = 8 * s.size) (hq1 : Nums w p1 (intsOf ns)) (hq2 : Nums w p2 (asZ (codesN ns))) (hq3 : Nums w pb (asZ (bitsOf s.data.toList))) :
    Calls Tryd.prog 28 #[.agg (stV s (.slice pb nb cb) vo most x), .slice p1 n1 c1, .slice p2 n2 c2] w fun en w' => en = .returned (.tuple #[.agg (stV s (.slice pb nb cb) vo most (symS s.data.toList x ns).1), .int .i64 ((symS s.data.toList x ns).2 : Int)]) ∧ Below w.heap.size w w' := by
  subst hn1 hn2 hnb
  obtain ⟨vb, hvb⟩ : ∃ vb, Value.slice pb (8 * s.size) cb = vb := ⟨_, rfl⟩
  have hb1 : vb.oneCell' = true := by rw [← hvb]; rfl
  rw [hvb]
  obtain ⟨W, hW, H1, H2, HB⟩ := boxes_is w s vb vo most x
  unfold boxes at hW
  have k1 := H1.out.bits
  have k2 := H1.out.at'
  have k5 := H1.out.code
  rw [← hvb] at k1
  clear hvb
  by_cases h0 : x.code = 0
  · obtain ⟨sy, m, e, hr⟩ : ∃ sy m e, readC (intsOf ns) (codesN ns) (longN ns) 0 0 ((bitsOf s.data.toList).drop x.at') = (sy, m, e) := ⟨_, _, _, rfl⟩
    have hsy : (sy.toNat : Int) = sy := by
      have := readC_nonneg (intsOf ns) (codesN ns) (longN ns) 0 0 ((bitsOf s.data.toList).drop x.at')
      rw [hr] at this
      simp only at this; omega
    have hrs : symS s.data.toList x ns = (⟨x.at' + m, x.out, e⟩, sy.toNat) := by unfold symS; rw [if_neg (by simp [h0]), hr]
    have hbl : (bitsOf s.data.toList).length = 8 * s.size := by rw [bitsOf_length, size_data]
    have Hread := Lib.hid (rRead_is p1 p2 pb c1 c2 cb (intsOf ns) (codesN ns) (bitsOf s.data.toList) x.at' (longN ns) W (by rw [intsOf_length]; omega) (by rw [codesN_length]; omega) (by omega) (longN_is ns) (longN_le h15) (bitsOf_two _) (by omega) (hq1.later HB.out) (hq2.later HB.out) (hq3.later HB.out) hr)
    rw [intsOf_length, codesN_length, hbl] at Hread
    rw [h0] at k5
    rw [hrs]
    have Hsy := Lib.hid hsy
    have hz1 := H1.out.free 2
    have hz2 := H1.out.free 5
    have L1 := Lib.hid ((H1.out.putAt (x.at' + m)).putCode e)
    have L2 := Lib.hid ((H2.out.other (a := ⟨w.heap.size, 2, none⟩) (.int .i64 ((x.at' + m : Nat) : Int)) (by simp)).other (a := ⟨w.heap.size, 5, none⟩) (.int .i64 e) (by simp))
    have Lb : Hid (Below w.heap.size w ((W.setCell ⟨w.heap.size, 2, none⟩ (.int .i64 ((x.at' + m : Nat) : Int))).setCell ⟨w.heap.size, 5, none⟩ (.int .i64 e))) := Lib.hid ((HB.out.setCell (by simp) _).setCell (by simp) _)
    obtain ⟨tt, htt⟩ : ∃ tt, x.at' + m = tt := ⟨_, rfl⟩
    rw [htt] at L1 L2 Lb Hread
    rw [htt]
    clear hr h0 hrs hsy hbl htt
    go_enter Tryd.func28, Tryd.ntmps28
    go_wp2_with fail
    refine Hread.out.mono ?_
    rintro en w1 ⟨rfl, rfl⟩
    go_wp2_with (with_reducible first
      | refine StCell.load rfl (.tmp 3) rfl w.heap.size _ _ _ _ _ rfl L1.out ?_
      | (refine StCell.store rfl rfl (.tmp 6) (.tmp 30) rfl (w.heap.size + 1) _ _ _ _ _ _ _ _ _ _ hb1 ho1 rfl rfl L2.out w.heap.size w Lb.out (by omega) ?_; intro w2 Hs Hb2 _))
    refine bodyPost_ret (results_sym _ _ (w.heap.size + 1) _ _ _ _ _ sy rfl rfl Hs.out) rfl ⟨?_, Hb2.out⟩
    rw [Hsy.out]
  · have hz : (x.code != 0) = true := by simpa using h0
    rw [symS_bad h0]
    clear h0
    go_enter Tryd.func28, Tryd.ntmps28
    go_wp2_with (with_reducible first
      | refine StCell.load rfl (.tmp 3) rfl w.heap.size _ _ _ _ _ rfl H1.out ?_
      | (refine StCell.store rfl rfl (.tmp 6) (.tmp 14) rfl (w.heap.size + 1) _ _ _ _ _ _ _ _ _ _ hb1 ho1 rfl rfl H2.out w.heap.size w HB.out (by omega) ?_; intro w2 Hs Hb2 _))
    exact bodyPost_ret (results_sym _ _ (w.heap.size + 1) _ _ _ _ _ 0 rfl rfl Hs.out) rfl ⟨rfl, Hb2.out⟩

end Go.Proofs.YtjmamomnbfnngaaDoor
