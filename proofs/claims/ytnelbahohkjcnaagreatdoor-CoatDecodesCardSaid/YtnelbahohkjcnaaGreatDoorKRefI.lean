/-
  InfRef, InfRef2, InfRef3, InfRef4, InfRef5, InfRef6: texts merged.
-/
import Derived.Test.YtnelbahohkjcnaaGreatDoorKPlain
import Derived.Test.YtnelbahohkjcnaaGreatDoorKHeld
import Derived.Test.YtnelbahohkjcnaaGreatDoorKCodeR
import Derived.Test.YtnelbahohkjcnaaGreatDoorKRows
import Derived.Deep.DeepCutAuto
import Derived.Deep.CutRange
import Derived.Deep.RegionLaw
import Derived.Deep.RegionHeld3
import Derived.Deep.MidRow
import Derived.Lib.AppendStr
/-
  The contracts of the document's small functions on deflated bytes: Extra, Power, Length, Distance; bits, symbol, fail.
-/
namespace Go.Proofs.YtnelbahohkjcnaaGreatDoor
section
open Go.RowKit
set_option maxHeartbeats 1000000 in
theorem rExtra_any (n f g : Nat) (w : World) (hn : n ≤ 1000) (hf : f ≤ 1000) (hg : 0 < g) (hg2 : g ≤ 1000) :
    Calls Tryz.prog 90 #[.int .i64 (n : Int), .int .i64 (f : Int), .int .i64 (g : Int)] w fun e w' => e = .returned (.int .i64 (extraN n f g : Int)) ∧ w = w' := by
  by_cases h : n < f
  · have hr : extraN n f g = 0 := by unfold extraN; rw [if_pos h]
    have hz : (n : Int) < (f : Int) := by omega
    rw [hr]
    clear hr h
    go_enter Tryz.func90, Tryz.ntmps90
    go_wp2_with fail
    go_ret
    exact ⟨rfl, rfl⟩
  · obtain ⟨d, hd⟩ : ∃ d, n - f = d := ⟨_, rfl⟩
    obtain ⟨q, hq⟩ : ∃ q, d / g = q := ⟨_, rfl⟩
    have hr : extraN n f g = q + 1 := by unfold extraN; rw [if_neg h, hd, hq]
    have hz : ¬ (n : Int) < (f : Int) := by omega
    have hdz : (n : Int) - (f : Int) = (d : Int) := by omega
    have hqz : (d : Int) / (g : Int) = (q : Int) := by rw [← hq]; simp
    have hqt : (d : Int).tdiv (g : Int) = (q : Int) := by rw [Int.tdiv_eq_ediv_of_nonneg (by omega)]; exact hqz
    have hql : q ≤ 1000 := by rw [← hq]; have := Nat.div_le_self d g; omega
    have hgz : ((g : Int) == 0) = false := by rw [beq_eq_false_iff_ne]; omega
    have hgz2 : ¬ (g : Int) = 0 := by omega
    rw [hr]
    clear hr h hd hq
    go_enter Tryz.func90, Tryz.ntmps90
    go_wp2_with fail
    go_ret
    exact ⟨ret_int (by simp), rfl⟩
set_option maxHeartbeats 1000000 in
theorem rPow_any (v : Nat) (w : World) (h : v ≤ 16) :
    Calls Tryz.prog 119 #[.int .i64 (v : Int)] w fun e w' => e = .returned (.int .i64 ((2 ^ v : Nat) : Int)) ∧ w = w' := by
  go_enter Tryz.func119, Tryz.ntmps119
  go_wp2_with fail
  go_loopg [3, 4] v (fun g s3 s4 wx => ∃ (j z : Nat), j + g = v ∧ s4 = .int .i64 j ∧ s3 = .int .i64 z ∧ z ≤ 65536 ∧ Aside (z = 2 ^ j) ∧ w = wx)
  case atStart => exact ⟨0, 1, by omega, rfl, rfl, by omega, rfl, rfl⟩
  case round =>
    obtain ⟨j, z, hjg, rfl, rfl, hz, HZ, rfl⟩ := hrel
    cases gk with
    | zero =>
      obtain rfl : j = v := by omega
      go_wp2_with fail
      go_ret
      exact ⟨ret_int (by rw [HZ.out]), rfl⟩
    | succ g =>
      have hjz : (j : Int) < (v : Int) := by omega
      have hz2 : Hid (2 * z ≤ 65536) := Lib.hid (by
        have h1 : (2 : Nat) ^ (j + 1) ≤ 2 ^ 16 := Nat.pow_le_pow_right (by omega) (by omega)
        rw [Nat.pow_succ] at h1
        have := HZ.out
        omega)
      go_wp2_with fail
      go_roundg g
      case measure => omega
      case rel => exact ⟨j + 1, 2 * z, by omega, by go_num, by go_num, hz2.out, by show _ = _; rw [HZ.out, Nat.pow_succ]; omega, rfl⟩
theorem sumL_small : ∀ k : Fin 30, sumL k.val ≤ 1000 := by decide +kernel
theorem distN_small : ∀ k : Fin 31, distN k.val ≤ 40000 := by decide +kernel
theorem sumL_le {k : Nat} (h : k ≤ 29) : sumL k ≤ 1000 := sumL_small ⟨k, by omega⟩
theorem distN_le {k : Nat} (h : k ≤ 30) : distN k ≤ 40000 := distN_small ⟨k, by omega⟩
theorem lengthN_le {k : Nat} (h : k ≤ 28) : lengthN k ≤ 1000 := by
  unfold lengthN
  split
  · omega
  · exact sumL_le (by omega)
set_option maxHeartbeats 1000000 in
theorem rLength_any (k : Nat) (w : World) (h : k ≤ 28) :
    Calls Tryz.prog 89 #[.int .i64 (k : Int)] w fun e w' => e = .returned (.int .i64 (lengthN k : Int)) ∧ w = w' := by
  by_cases h28 : k = 28
  · have hr : lengthN k = 258 := by unfold lengthN; rw [if_pos h28]
    rw [hr]
    subst h28
    go_enter Tryz.func89, Tryz.ntmps89
    go_wp2_with fail
    go_ret
    exact ⟨rfl, rfl⟩
  · have hr : lengthN k = sumL k := by unfold lengthN; rw [if_neg h28]
    have hz : ((k : Int) == 28) = false := by rw [beq_eq_false_iff_ne]; omega
    have Hr := Lib.hid hr
    clear hr h28
    go_enter Tryz.func89, Tryz.ntmps89
    go_wp2_with fail
    go_loopg [3, 4] k (fun g s3 s4 wx => ∃ (j z : Nat), j + g = k ∧ s4 = .int .i64 j ∧ s3 = .int .i64 z ∧ z ≤ 1000 ∧ Aside (z = sumL j) ∧ w = wx)
    case atStart => exact ⟨0, 3, by omega, rfl, rfl, by omega, rfl, rfl⟩
    case round =>
      obtain ⟨j, z, hjg, rfl, rfl, hz1, HZ, rfl⟩ := hrel
      cases gk with
      | zero =>
        obtain rfl : j = k := by omega
        go_wp2_with fail
        go_ret
        exact ⟨ret_int (by rw [HZ.out, Hr.out]), rfl⟩
      | succ g =>
        have hjz : (j : Int) < (k : Int) := by omega
        obtain ⟨x, hx⟩ : ∃ x, extraN j 8 4 = x := ⟨_, rfl⟩
        have hx6 : x ≤ 6 := by rw [← hx]; exact extra_len (by omega)
        have H1 := Lib.hid (rExtra_any j 8 4 w (by omega) (by omega) (by omega) (by omega))
        have H2 := Lib.hid (rPow_any x w (by omega))
        obtain ⟨y, hy⟩ : ∃ y, 2 ^ x = y := ⟨_, rfl⟩
        have hn : sumL (j + 1) = z + y := by rw [sumL, hx, hy, HZ.out]
        have hn2 : sumL (j + 1) ≤ 1000 := sumL_le (by omega)
        rw [hx] at H1
        rw [hy] at H2
        have hzy : z + y ≤ 1000 := by omega
        have Hn := Lib.hid hn
        clear hx hy hn hn2
        go_wp2_with fail
        refine H1.out.mono ?_
        rintro e w1 ⟨rfl, rfl⟩
        go_wp2_with fail
        refine H2.out.mono ?_
        rintro e w1 ⟨rfl, rfl⟩
        go_wp2_with fail
        go_roundg g
        case measure => omega
        case rel => exact ⟨j + 1, z + y, by omega, by go_num, by go_num, hzy, Hn.out.symm, rfl⟩
set_option maxHeartbeats 1000000 in
theorem rDistance_any (k : Nat) (w : World) (h : k ≤ 29) :
    Calls Tryz.prog 91 #[.int .i64 (k : Int)] w fun e w' => e = .returned (.int .i64 (distN k : Int)) ∧ w = w' := by
  go_enter Tryz.func91, Tryz.ntmps91
  go_wp2_with fail
  go_loopg [3, 4] k (fun g s3 s4 wx => ∃ (j z : Nat), j + g = k ∧ s4 = .int .i64 j ∧ s3 = .int .i64 z ∧ z ≤ 40000 ∧ Aside (z = distN j) ∧ w = wx)
  case atStart => exact ⟨0, 1, by omega, rfl, rfl, by omega, rfl, rfl⟩
  case round =>
    obtain ⟨j, z, hjg, rfl, rfl, hz1, HZ, rfl⟩ := hrel
    cases gk with
    | zero =>
      obtain rfl : j = k := by omega
      go_wp2_with fail
      go_ret
      exact ⟨ret_int (by rw [HZ.out]), rfl⟩
    | succ g =>
      have hjz : (j : Int) < (k : Int) := by omega
      obtain ⟨x, hx⟩ : ∃ x, extraN j 4 2 = x := ⟨_, rfl⟩
      have hx6 : x ≤ 13 := by rw [← hx]; exact extra_dist (by omega)
      have H1 := Lib.hid (rExtra_any j 4 2 w (by omega) (by omega) (by omega) (by omega))
      have H2 := Lib.hid (rPow_any x w (by omega))
      obtain ⟨y, hy⟩ : ∃ y, 2 ^ x = y := ⟨_, rfl⟩
      have hn : distN (j + 1) = z + y := by rw [distN, hx, hy, HZ.out]
      have hn2 : distN (j + 1) ≤ 40000 := distN_le (by omega)
      rw [hx] at H1
      rw [hy] at H2
      have hzy : z + y ≤ 40000 := by omega
      have Hn := Lib.hid hn
      clear hx hy hn hn2
      go_wp2_with fail
      refine H1.out.mono ?_
      rintro e w1 ⟨rfl, rfl⟩
      go_wp2_with fail
      refine H2.out.mono ?_
      rintro e w1 ⟨rfl, rfl⟩
      go_wp2_with fail
      go_roundg g
      case measure => omega
      case rel => exact ⟨j + 1, z + y, by omega, by go_num, by go_num, hzy, Hn.out.symm, rfl⟩
end
end Go.Proofs.YtnelbahohkjcnaaGreatDoor
/-
  The document's state in memory; the contracts of its bits, symbol, fail.
-/
namespace Go.Proofs.YtnelbahohkjcnaaGreatDoor
section
open Go.RowKit
def stV (s : ByteArray) (vb : Value) (vo : Value) (most : Nat) (x : St) : Array Value := #[.string s, vb, .int .i64 (x.at' : Int), vo, .int .i64 (most : Int), .int .i64 x.code]
theorem info_st : (Tryz.prog.info? 114).map (·.size) = some 6 := by kernel_rfl
def StCell (w : World) (b : Nat) (s : ByteArray) (vb vo : Value) (most : Nat) (x : St) : Prop := w.heap[b]? = some (.cells (stV s vb vo most x) 114 (0, 0))
theorem StCell.text {w : World} {b : Nat} {s : ByteArray} {vb vo : Value} {most : Nat} {x : St} (h : StCell w b s vb vo most x) : w.cell? ⟨b, 0, none⟩ = some (.string s) := by rw [cell_of_row _ _ _ _ _ _ h]; rfl
theorem StCell.bits {w : World} {b : Nat} {s : ByteArray} {vb vo : Value} {most : Nat} {x : St} (h : StCell w b s vb vo most x) : w.cell? ⟨b, 1, none⟩ = some vb := by rw [cell_of_row _ _ _ _ _ _ h]; rfl
theorem StCell.at' {w : World} {b : Nat} {s : ByteArray} {vb vo : Value} {most : Nat} {x : St} (h : StCell w b s vb vo most x) : w.cell? ⟨b, 2, none⟩ = some (.int .i64 (x.at' : Int)) := by rw [cell_of_row _ _ _ _ _ _ h]; rfl
theorem StCell.out {w : World} {b : Nat} {s : ByteArray} {vb vo : Value} {most : Nat} {x : St} (h : StCell w b s vb vo most x) : w.cell? ⟨b, 3, none⟩ = some vo := by rw [cell_of_row _ _ _ _ _ _ h]; rfl
theorem StCell.most {w : World} {b : Nat} {s : ByteArray} {vb vo : Value} {most : Nat} {x : St} (h : StCell w b s vb vo most x) : w.cell? ⟨b, 4, none⟩ = some (.int .i64 (most : Int)) := by rw [cell_of_row _ _ _ _ _ _ h]; rfl
theorem StCell.code {w : World} {b : Nat} {s : ByteArray} {vb vo : Value} {most : Nat} {x : St} (h : StCell w b s vb vo most x) : w.cell? ⟨b, 5, none⟩ = some (.int .i64 x.code) := by rw [cell_of_row _ _ _ _ _ _ h]; rfl
theorem StCell.free {w : World} {b : Nat} {s : ByteArray} {vb vo : Value} {most : Nat} {x : St} (h : StCell w b s vb vo most x) (j : Nat) : w.frozen? ⟨b, j, none⟩ = false := frozen_of_row _ _ _ _ _ h
theorem StCell.lt {w : World} {b : Nat} {s : ByteArray} {vb vo : Value} {most : Nat} {x : St} (h : StCell w b s vb vo most x) : b < w.heap.size := by
  rcases Nat.lt_or_ge b w.heap.size with h' | h'
  · exact h'
  · unfold StCell at h; rw [Array.getElem?_eq_none h'] at h; cases h
theorem StCell.later {w w' : World} {b : Nat} {s : ByteArray} {vb vo : Value} {most : Nat} {x : St} (h : StCell w b s vb vo most x) (hb : Below w.heap.size w w') : StCell w' b s vb vo most x := (hb.block b h.lt).trans h
theorem StCell.putAt {w : World} {b : Nat} {s : ByteArray} {vb vo : Value} {most : Nat} {x : St} (h : StCell w b s vb vo most x) (a : Nat) : StCell (w.setCell ⟨b, 2, none⟩ (.int .i64 (a : Int))) b s vb vo most ⟨a, x.out, x.code⟩ := heap_setCell_same _ _ 2 _ _ _ h
theorem StCell.putCode {w : World} {b : Nat} {s : ByteArray} {vb vo : Value} {most : Nat} {x : St} (h : StCell w b s vb vo most x) (e : Int) : StCell (w.setCell ⟨b, 5, none⟩ (.int .i64 e)) b s vb vo most ⟨x.at', x.out, e⟩ := heap_setCell_same _ _ 5 _ _ _ h
theorem StCell.putOut {w : World} {b : Nat} {s : ByteArray} {vb vo : Value} {most : Nat} {x : St} (h : StCell w b s vb vo most x) (v : Value) (o : List UInt8) : StCell (w.setCell ⟨b, 3, none⟩ v) b s vb v most ⟨x.at', o, x.code⟩ := heap_setCell_same _ _ 3 _ _ _ h
theorem stV_one {s : ByteArray} {vb vo : Value} {most : Nat} {x : St} (hb : vb.oneCell' = true) (ho : vo.oneCell' = true) : (stV s vb vo most x).all (·.oneCell') = true := by
  have h : (stV s vb vo most x).toList.all (·.oneCell') = true := by
    show (_ && (vb.oneCell' && (_ && (vo.oneCell' && _)))) = true
    rw [hb, ho]; rfl
  simpa using h
theorem StCell.load {ops : Array Oper} {rest : List Oper} {o : Oper} {a : Act} {w : World} {Q : Exit → Act → World → Prop} (hgd : o.guard = none) (x : Operand) (ho : o.op = .load 114 x)
    (b : Nat) (s : ByteArray) (vb vo : Value) (most : Nat) (y : St) (hx : a.eval x = .pointer (some ⟨b, 0, none⟩)) (hg : StCell w b s vb vo most y) (h : wpList Tryz.prog ops Q rest (a.put o.dst (.agg (stV s vb vo most y))) w) : wpList Tryz.prog ops Q (o :: rest) a w :=
  wpList_load_row hgd _ x ho b hx _ _ _ _ hg Tryz.underlying114 rfl info_st h
theorem StCell.store {ops : Array Oper} {rest : List Oper} {o : Oper} {a : Act} {w : World} {Q : Exit → Act → World → Prop} (hgd : o.guard = none) (hdst : o.dst = none) (x y : Operand) (ho : o.op = .store 114 x y)
    (b : Nat) (s s' : ByteArray) (vb vb' vo vo' : Value) (most most' : Nat) (z z' : St) (hb1 : vb.oneCell' = true) (ho1 : vo.oneCell' = true) (hx : a.eval x = .pointer (some ⟨b, 0, none⟩)) (hy : a.eval y = .agg (stV s vb vo most z)) (hg : StCell w b s' vb' vo' most' z') (B : Nat) (w0 : World) (hb : Below B w0 w) (hB : B ≤ b)
    (h : ∀ w', Hid (StCell w' b s vb vo most z) → Hid (Below B w0 w') → Hid (∀ k, k ≠ b → w'.heap[k]? = w.heap[k]?) → wpList Tryz.prog ops Q rest a w') : wpList Tryz.prog ops Q (o :: rest) a w := by
  refine wpList_plain hgd fun K hK => ?_
  refine wp_store_row _ x y ho b (stV s vb vo most z) hx hy _ (stV s' vb' vo' most' z') hg info_st rfl (stV_one hb1 ho1) (hK _ _ ?_)
  have hr := h _ (Lib.hid (setRow_heap _ _ _ _ _ _ hg)) (Lib.hid (hb.trans ⟨rfl, rfl, rfl, by simp, fun k hk => setRow_other _ _ _ _ (by omega)⟩)) (Lib.hid fun k hk => setRow_other _ _ _ _ hk)
  rw [hdst]
  exact hr
theorem results_st {fn : Func} {p : Tmp} (h : fn.results = #[.cell p 114]) (tmps : Array Value) (w : World) (b : Nat) (s : ByteArray) (vb vo : Value) (most : Nat) (x : St) (hp : tmps.getD p undef = .pointer (some ⟨b, 0, none⟩)) (hg : StCell w b s vb vo most x) :
    (results fn tmps).run Tryz.prog w = .ok (.agg (stV s vb vo most x)) w :=
  results_cell_row h tmps w b _ _ _ _ hp hg Tryz.underlying114 rfl info_st
def boxes (w : World) (s : ByteArray) (vb vo : Value) (most : Nat) (x : St) : World := (w.alloc (.cells (stV s vb vo most x) 114)).alloc (.cells #[.string ⟨#[]⟩, .slice none 0 0, .int .i64 0, .slice none 0 0, .int .i64 0, .int .i64 0] 114)
theorem boxes_one (w : World) (s : ByteArray) (vb vo : Value) (most : Nat) (x : St) : StCell (boxes w s vb vo most x) w.heap.size s vb vo most x := heap_alloc2_old w _ _
theorem boxes_two (w : World) (s : ByteArray) (vb vo : Value) (most : Nat) (x : St) : StCell (boxes w s vb vo most x) (w.heap.size + 1) ⟨#[]⟩ (.slice none 0 0) (.slice none 0 0) 0 ⟨0, [], 0⟩ := heap_alloc2_new w _ _
theorem boxes_below (w : World) (s : ByteArray) (vb vo : Value) (most : Nat) (x : St) : Below w.heap.size w (boxes w s vb vo most x) := ((Below.refl _ w).alloc (Nat.le_refl _) _).alloc (by simp) _
theorem boxes_is (w : World) (s : ByteArray) (vb vo : Value) (most : Nat) (x : St) : ∃ W, boxes w s vb vo most x = W ∧ Hid (StCell W w.heap.size s vb vo most x) ∧ Hid (StCell W (w.heap.size + 1) ⟨#[]⟩ (.slice none 0 0) (.slice none 0 0) 0 ⟨0, [], 0⟩) ∧ Hid (Below w.heap.size w W) :=
  ⟨_, rfl, Lib.hid (boxes_one w s vb vo most x), Lib.hid (boxes_two w s vb vo most x), Lib.hid (boxes_below w s vb vo most x)⟩
theorem StCell.other {w : World} {b : Nat} {s : ByteArray} {vb vo : Value} {most : Nat} {x : St} (h : StCell w b s vb vo most x) {a : Addr} (v : Value) (hne : b ≠ a.block) : StCell (w.setCell a v) b s vb vo most x := (heap_setCell_other _ _ _ _ hne).trans h
set_option maxHeartbeats 1000000 in
theorem rFail_any (s : ByteArray) (vb vo : Value) (most : Nat) (x : St) (c : Bool) (e : Int) (w : World) (hb1 : vb.oneCell' = true) (ho1 : vo.oneCell' = true) :
    Calls Tryz.prog 97 #[.agg (stV s vb vo most x), .bool c, .int .i64 e] w fun en w' => en = .returned (.agg (stV s vb vo most (failS x c e))) ∧ Below w.heap.size w w' := by
  obtain ⟨W, hW, H1, H2, HB⟩ := boxes_is w s vb vo most x
  unfold boxes at hW
  have k5 := H1.out.code
  have f5 := H1.out.free 5
  have H1c := Lib.hid (H1.out.putCode e)
  have H2c := Lib.hid (H2.out.other (a := ⟨w.heap.size, 5, none⟩) (.int .i64 e) (by simp))
  have hcase : (c = true ∧ x.code = 0) ∨ (failS x c e = x ∧ (c = false ∨ (c = true ∧ (x.code == 0) = false))) := by
    cases c
    · exact .inr ⟨failS_no, .inl rfl⟩
    · by_cases h : x.code = 0
      · exact .inl ⟨rfl, h⟩
      · exact .inr ⟨failS_bad h, .inr ⟨rfl, by simpa using h⟩⟩
  rcases hcase with ⟨rfl, h0⟩ | ⟨hr, hc⟩
  · have Hr : Hid (failS x true e = ⟨x.at', x.out, e⟩) := Lib.hid (failS_yes h0)
    rw [h0] at k5
    clear h0
    go_enter Tryz.func97, Tryz.ntmps97
    go_wp2_with (with_reducible first
      | refine StCell.load rfl (.tmp 3) rfl w.heap.size _ _ _ _ _ rfl H1c.out ?_
      | (refine StCell.store rfl rfl (.tmp 6) (.tmp 15) rfl (w.heap.size + 1) _ _ _ _ _ _ _ _ _ _ hb1 ho1 rfl rfl H2c.out w.heap.size w (HB.out.setCell (Nat.le_refl _) _) (by omega) ?_; intro w2 Hs Hb2 _))
    refine bodyPost_ret (results_st rfl _ _ (w.heap.size + 1) _ _ _ _ _ rfl Hs.out) rfl ⟨?_, Hb2.out⟩
    rw [Hr.out]
  · have Hr := Lib.hid hr
    clear hr
    rcases hc with rfl | ⟨rfl, hc⟩
    all_goals
      go_enter Tryz.func97, Tryz.ntmps97
      go_wp2_with (with_reducible first
        | refine StCell.load rfl (.tmp 3) rfl w.heap.size _ _ _ _ _ rfl H1.out ?_
        | (refine StCell.store rfl rfl (.tmp 6) (.tmp 15) rfl (w.heap.size + 1) _ _ _ _ _ _ _ _ _ _ hb1 ho1 rfl rfl H2.out w.heap.size w HB.out (by omega) ?_; intro w2 Hs Hb2 _))
      refine bodyPost_ret (results_st rfl _ _ (w.heap.size + 1) _ _ _ _ _ rfl Hs.out) rfl ⟨?_, Hb2.out⟩
      rw [Hr.out]
theorem load_st {w : World} {b : Nat} {s : ByteArray} {vb vo : Value} {most : Nat} {x : St} (hg : StCell w b s vb vo most x) : (loadVar 114 ⟨b, 0, none⟩).run Tryz.prog w = .ok (.agg (stV s vb vo most x)) w :=
  run_loadVar_row w b _ _ _ _ _ hg Tryz.underlying114 rfl info_st
theorem results_bits (tmps : Array Value) (w : World) (b : Nat) (s : ByteArray) (vb vo : Value) (most : Nat) (x : St) (n : Int) (hp : tmps.getD 4 undef = .pointer (some ⟨b, 0, none⟩)) (he : tmps.getD 5 undef = .int .i64 n) (hg : StCell w b s vb vo most x) :
    (results Tryz.f96 tmps).run Tryz.prog w = .ok (.tuple #[.agg (stV s vb vo most x), .int .i64 n]) w := by
  have hp' : tmps[4]?.getD undef = .pointer (some ⟨b, 0, none⟩) := by simpa using hp
  have he' : tmps[5]?.getD undef = .int .i64 n := by simpa using he
  simp [results, Tryz.results96, hp', he', asAddr, load_st hg]
theorem results_sym (tmps : Array Value) (w : World) (b : Nat) (s : ByteArray) (vb vo : Value) (most : Nat) (x : St) (n : Int) (hp : tmps.getD 6 undef = .pointer (some ⟨b, 0, none⟩)) (he : tmps.getD 7 undef = .int .i64 n) (hg : StCell w b s vb vo most x) :
    (results Tryz.f124 tmps).run Tryz.prog w = .ok (.tuple #[.agg (stV s vb vo most x), .int .i64 n]) w := by
  have hp' : tmps[6]?.getD undef = .pointer (some ⟨b, 0, none⟩) := by simpa using hp
  have he' : tmps[7]?.getD undef = .int .i64 n := by simpa using he
  simp [results, Tryz.results124, hp', he', asAddr, load_st hg]
set_option maxHeartbeats 1000000 in
theorem rBitsS_any (s : ByteArray) (vb vo : Value) (most : Nat) (x : St) (k : Nat) (w : World) (hb1 : vb.oneCell' = true) (ho1 : vo.oneCell' = true) (hk : k ≤ 16) (hp : x.at' ≤ 8 * s.size) (hs : s.size ≤ 1000000) :
    Calls Tryz.prog 96 #[.agg (stV s vb vo most x), .int .i64 (k : Int)] w fun en w' => en = .returned (.tuple #[.agg (stV s vb vo most (bitsS s.data.toList x k).1), .int .i64 ((bitsS s.data.toList x k).2 : Int)]) ∧ Below w.heap.size w w' := by
  obtain ⟨W, hW, H1, H2, HB⟩ := boxes_is w s vb vo most x
  unfold boxes at hW
  have k0 := H1.out.text
  have k2 := H1.out.at'
  have k5 := H1.out.code
  by_cases h0 : x.code = 0
  · obtain ⟨n, tt, e, hg⟩ : ∃ n tt e, getB s.data.toList x.at' (k : Int) = (n, tt, e) := ⟨_, _, _, rfl⟩
    have hn : (n.toNat : Int) = n := by
      have h1 : 0 ≤ n := by
        by_cases h : x.at' + k ≤ 8 * s.data.toList.length
        · rw [getB_ok hk h] at hg
          have := (Prod.mk.inj hg).1
          omega
        · rw [getB_short hk (by omega)] at hg
          have := (Prod.mk.inj hg).1
          omega
      omega
    have hr : bitsS s.data.toList x k = (⟨tt, x.out, e⟩, n.toNat) := by unfold bitsS; rw [if_neg (by simp [h0]), hg]
    have Hget := Lib.hid (fun W => rGetB_is s x.at' (k : Int) W hp hs (by omega) (by omega) hg)
    rw [h0] at k5
    rw [hr]
    have Hn := Lib.hid hn
    clear hg h0 hr hn
    go_enter Tryz.func96, Tryz.ntmps96
    go_wp2_with fail
    refine (Hget.out _).mono ?_
    rintro en w1 ⟨rfl, q, hq⟩
    have hb : Below W.heap.size W w1 := by rw [← hq]; exact below_drewN (Below.refl _ _) q
    have K1 := Lib.hid (H1.out.later hb)
    have K2 := Lib.hid (H2.out.later hb)
    have Hb1 := Lib.hid (HB.out.trans (hb.mono HB.out.size))
    have hz1 := K1.out.free 2
    have hz2 := K1.out.free 5
    have j2 := K1.out.at'
    have j5 := K1.out.code
    have L1 := Lib.hid ((K1.out.putAt tt).putCode e)
    have L2 := Lib.hid ((K2.out.other (a := ⟨w.heap.size, 2, none⟩) (.int .i64 (tt : Int)) (by simp)).other (a := ⟨w.heap.size, 5, none⟩) (.int .i64 e) (by simp))
    have Lb : Hid (Below w.heap.size w ((w1.setCell ⟨w.heap.size, 2, none⟩ (.int .i64 (tt : Int))).setCell ⟨w.heap.size, 5, none⟩ (.int .i64 e))) := Lib.hid ((Hb1.out.setCell (by simp) _).setCell (by simp) _)
    clear hb hq
    go_wp2_with (with_reducible first
      | refine StCell.load rfl (.tmp 2) rfl w.heap.size _ _ _ _ _ rfl L1.out ?_
      | (refine StCell.store rfl rfl (.tmp 4) (.tmp 27) rfl (w.heap.size + 1) _ _ _ _ _ _ _ _ _ _ hb1 ho1 rfl rfl L2.out w.heap.size w Lb.out (by omega) ?_; intro w2 Hs Hb2 _))
    refine bodyPost_ret (results_bits _ _ (w.heap.size + 1) _ _ _ _ _ n rfl rfl Hs.out) rfl ⟨?_, Hb2.out⟩
    rw [Hn.out]
  · have hz : (x.code != 0) = true := by simpa using h0
    rw [bitsS_bad h0]
    clear h0
    go_enter Tryz.func96, Tryz.ntmps96
    go_wp2_with (with_reducible first
      | refine StCell.load rfl (.tmp 2) rfl w.heap.size _ _ _ _ _ rfl H1.out ?_
      | (refine StCell.store rfl rfl (.tmp 4) (.tmp 12) rfl (w.heap.size + 1) _ _ _ _ _ _ _ _ _ _ hb1 ho1 rfl rfl H2.out w.heap.size w HB.out (by omega) ?_; intro w2 Hs Hb2 _))
    exact bodyPost_ret (results_bits _ _ (w.heap.size + 1) _ _ _ _ _ 0 rfl rfl Hs.out) rfl ⟨rfl, Hb2.out⟩
theorem readC_nonneg (ls : List Int) (cs : List Nat) : ∀ (k n code : Nat) (r : List Nat), 0 ≤ (readC ls cs k n code r).1
  | 0, n, code, r => by rw [readC_end]; exact Int.le_refl _
  | _ + 1, _, _, [] => by rw [readC_short]; exact Int.le_refl _
  | k + 1, n, code, b :: r => by
    by_cases h : 0 ≤ findC ls cs (n + 1) (2 * code + b) 0
    · rw [readC_hit h]; exact h
    · rw [readC_miss h]; exact readC_nonneg ls cs k (n + 1) (2 * code + b) r
theorem foldl_nat (ns : List Nat) : ∀ m : Nat, (intsOf ns).foldl max (m : Int) = ((ns.foldl max m : Nat) : Int) := by
  induction ns with
  | nil => intro m; rfl
  | cons n r ih =>
    intro m
    show (intsOf r).foldl max (max (m : Int) (n : Int)) = _
    rw [show max (m : Int) (n : Int) = ((max m n : Nat) : Int) by omega, ih]; rfl
theorem longN_is (ns : List Nat) : longZ (intsOf ns) = (longN ns : Int) := foldl_nat ns 0
theorem foldl_le {ns : List Nat} {b : Nat} (h : ∀ n ∈ ns, n ≤ b) : ∀ m, m ≤ b → ns.foldl max m ≤ b := by
  induction ns with
  | nil => intro m hm; exact hm
  | cons n r ih =>
    intro m hm
    exact ih (fun x hx => h x (by simp [hx])) (max m n) (by have := h n (by simp); omega)
theorem longN_le {ns : List Nat} (h : ∀ n ∈ ns, n ≤ 15) : longN ns ≤ 15 := foldl_le h 0 (by omega)
theorem intsOf_length (ns : List Nat) : (intsOf ns).length = ns.length := by simp [intsOf]
set_option maxHeartbeats 1000000 in
theorem rSymS_any (s : ByteArray) (pb : Option Addr) (cb : Nat) (vo : Value) (most : Nat) (x : St) (p1 p2 : Option Addr) (c1 c2 n1 n2 nb : Nat) (ns : List Nat) (w : World) (ho1 : vo.oneCell' = true) (hp : x.at' ≤ 8 * s.size) (hs : s.size ≤ 100000)
    (hl : ns.length ≤ 1000) (h15 : ∀ n ∈ ns, n ≤ 15) (hn1 : n1 = ns.length) (hn2 : n2 = ns.length) (hnb : nb = 8 * s.size) (hq1 : Nums w p1 (intsOf ns)) (hq2 : Nums w p2 (asZ (codesN ns))) (hq3 : Nums w pb (asZ (bitsOf s.data.toList))) :
    Calls Tryz.prog 124 #[.agg (stV s (.slice pb nb cb) vo most x), .slice p1 n1 c1, .slice p2 n2 c2] w fun en w' => en = .returned (.tuple #[.agg (stV s (.slice pb nb cb) vo most (symS s.data.toList x ns).1), .int .i64 ((symS s.data.toList x ns).2 : Int)]) ∧ Below w.heap.size w w' := by
  subst hn1 hn2 hnb
  obtain ⟨vb, hvb⟩ : ∃ vb, Value.slice pb (8 * s.size) cb = vb := ⟨_, rfl⟩
  have hb1 : vb.oneCell' = true := by rw [← hvb]; rfl
  rw [hvb]
  obtain ⟨W, hW, H1, H2, HB⟩ := boxes_is w s vb vo most x
  unfold boxes at hW
  have k1 := H1.out.bits
  have k2 := H1.out.at'
  have k5 := H1.out.code
  rw [← hvb] at k1
  clear hvb
  by_cases h0 : x.code = 0
  · obtain ⟨sy, m, e, hr⟩ : ∃ sy m e, readC (intsOf ns) (codesN ns) (longN ns) 0 0 ((bitsOf s.data.toList).drop x.at') = (sy, m, e) := ⟨_, _, _, rfl⟩
    have hsy : (sy.toNat : Int) = sy := by
      have := readC_nonneg (intsOf ns) (codesN ns) (longN ns) 0 0 ((bitsOf s.data.toList).drop x.at')
      rw [hr] at this
      simp only at this; omega
    have hrs : symS s.data.toList x ns = (⟨x.at' + m, x.out, e⟩, sy.toNat) := by unfold symS; rw [if_neg (by simp [h0]), hr]
    have hbl : (bitsOf s.data.toList).length = 8 * s.size := by rw [bitsOf_length, size_data]
    have Hread := Lib.hid (rRead_is p1 p2 pb c1 c2 cb (intsOf ns) (codesN ns) (bitsOf s.data.toList) x.at' (longN ns) W (by rw [intsOf_length]; omega) (by rw [codesN_length]; omega) (by omega) (longN_is ns) (longN_le h15) (bitsOf_two _) (by omega) (hq1.later HB.out) (hq2.later HB.out) (hq3.later HB.out) hr)
    rw [intsOf_length, codesN_length, hbl] at Hread
    rw [h0] at k5
    rw [hrs]
    have Hsy := Lib.hid hsy
    have hz1 := H1.out.free 2
    have hz2 := H1.out.free 5
    have L1 := Lib.hid ((H1.out.putAt (x.at' + m)).putCode e)
    have L2 := Lib.hid ((H2.out.other (a := ⟨w.heap.size, 2, none⟩) (.int .i64 ((x.at' + m : Nat) : Int)) (by simp)).other (a := ⟨w.heap.size, 5, none⟩) (.int .i64 e) (by simp))
    have Lb : Hid (Below w.heap.size w ((W.setCell ⟨w.heap.size, 2, none⟩ (.int .i64 ((x.at' + m : Nat) : Int))).setCell ⟨w.heap.size, 5, none⟩ (.int .i64 e))) := Lib.hid ((HB.out.setCell (by simp) _).setCell (by simp) _)
    obtain ⟨tt, htt⟩ : ∃ tt, x.at' + m = tt := ⟨_, rfl⟩
    rw [htt] at L1 L2 Lb Hread
    rw [htt]
    clear hr h0 hrs hsy hbl htt
    go_enter Tryz.func124, Tryz.ntmps124
    go_wp2_with fail
    refine Hread.out.mono ?_
    rintro en w1 ⟨rfl, rfl⟩
    go_wp2_with (with_reducible first
      | refine StCell.load rfl (.tmp 3) rfl w.heap.size _ _ _ _ _ rfl L1.out ?_
      | (refine StCell.store rfl rfl (.tmp 6) (.tmp 30) rfl (w.heap.size + 1) _ _ _ _ _ _ _ _ _ _ hb1 ho1 rfl rfl L2.out w.heap.size w Lb.out (by omega) ?_; intro w2 Hs Hb2 _))
    refine bodyPost_ret (results_sym _ _ (w.heap.size + 1) _ _ _ _ _ sy rfl rfl Hs.out) rfl ⟨?_, Hb2.out⟩
    rw [Hsy.out]
  · have hz : (x.code != 0) = true := by simpa using h0
    rw [symS_bad h0]
    clear h0
    go_enter Tryz.func124, Tryz.ntmps124
    go_wp2_with (with_reducible first
      | refine StCell.load rfl (.tmp 3) rfl w.heap.size _ _ _ _ _ rfl H1.out ?_
      | (refine StCell.store rfl rfl (.tmp 6) (.tmp 14) rfl (w.heap.size + 1) _ _ _ _ _ _ _ _ _ _ hb1 ho1 rfl rfl H2.out w.heap.size w HB.out (by omega) ?_; intro w2 Hs Hb2 _))
    exact bodyPost_ret (results_sym _ _ (w.heap.size + 1) _ _ _ _ _ 0 rfl rfl Hs.out) rfl ⟨rfl, Hb2.out⟩
end
end Go.Proofs.YtnelbahohkjcnaaGreatDoor
/-
  The contract of the document's copied.
-/
namespace Go.Proofs.YtnelbahohkjcnaaGreatDoor
section
open Go.RowKit
theorem bitsS_facts {l : List UInt8} {x : St} {k : Nat} (hk : k ≤ 16) (hx : x.at' ≤ 8 * l.length) : (bitsS l x k).1.at' ≤ 8 * l.length ∧ (bitsS l x k).1.out = x.out ∧ (bitsS l x k).2 < 65536 := by
  by_cases h0 : x.code = 0
  · rcases bitsS_ok (l := l) h0 hk with ⟨n, h1, h2⟩ | ⟨_, h2, h3, h4⟩
    · obtain ⟨g1, g2, _⟩ := bitsP_ok h1
      rw [h2]
      refine ⟨g1, rfl, ?_⟩
      have h5 := numB_lt (((bitsOf l).drop x.at').take k) fun b hb => bitsOf_two l b (List.mem_of_mem_drop (List.mem_of_mem_take hb))
      have h6 : (((bitsOf l).drop x.at').take k).length ≤ k := by rw [List.length_take]; omega
      have h7 : (2 : Nat) ^ (((bitsOf l).drop x.at').take k).length ≤ 2 ^ 16 := Nat.pow_le_pow_right (by omega) (by omega)
      rw [g2]; omega
    · refine ⟨by rw [h3]; exact hx, h4, ?_⟩
      unfold bitsS
      rw [if_neg (by simp [h0])]
      by_cases hle : x.at' + k ≤ 8 * l.length
      · have := getB_ok (l := l) (pos := x.at') hk hle
        unfold bitsS at h2
        rw [if_neg (by simp [h0]), this] at h2
        cases h2
      · rw [getB_short hk (by omega)]; show (0 : Int).toNat < 65536; decide
  · rw [bitsS_bad h0]
    exact ⟨hx, rfl, by omega⟩
theorem symS_facts {l : List UInt8} {x : St} {ns : List Nat} (hx : x.at' ≤ 8 * l.length) : (symS l x ns).1.at' ≤ 8 * l.length ∧ (symS l x ns).1.out = x.out := by
  by_cases h0 : x.code = 0
  · unfold symS
    rw [if_neg (by simp [h0])]
    have := readC_le (intsOf ns) (codesN ns) (longN ns) 0 0 ((bitsOf l).drop x.at')
    rw [List.length_drop, bitsOf_length] at this
    exact ⟨by show x.at' + _ ≤ _; omega, rfl⟩
  · rw [symS_bad h0]; exact ⟨hx, rfl⟩
theorem failS_facts (x : St) (c : Bool) (e : Int) : (failS x c e).at' = x.at' ∧ (failS x c e).out = x.out := by
  unfold failS; split <;> exact ⟨rfl, rfl⟩
theorem failS_zero {x : St} {c : Bool} {e : Int} (he : e ≠ 0) (h : (failS x c e).code = 0) : c = false ∧ x.code = 0 ∧ failS x c e = x := by
  unfold failS at h ⊢
  split at h
  · exact absurd h he
  · rename_i hc
    rw [if_neg hc]
    refine ⟨?_, h, rfl⟩
    cases c
    · rfl
    · exact absurd ⟨rfl, h⟩ hc
def Work (w0 W : World) (F : List Nat) (s : ByteArray) (vb vo : Value) (most : Nat) (y : St) : Prop :=
  StCell W w0.heap.size s vb vo most y ∧ StCell W (w0.heap.size + 1) ⟨#[]⟩ (.slice none 0 0) (.slice none 0 0) 0 ⟨0, [], 0⟩ ∧ Row8 W vo y.out ∧ Touches F vo.ownBlock.toList w0 W ∧ ∀ k, vo.ownBlock = some k → k ≠ w0.heap.size ∧ k ≠ w0.heap.size + 1
theorem Work.begun {w : World} {s : ByteArray} {vb vo : Value} {most : Nat} {x : St} (h : Row8 w vo x.out) : Work w (boxes w s vb vo most x) vo.ownBlock.toList s vb vo most x := by
  have hb := boxes_below w s vb vo most x
  refine ⟨boxes_one .., boxes_two .., h.move fun k hk => hb.block k (h.lt k hk), Touches.of_below hb, fun k hk => ?_⟩
  have := h.lt k hk
  omega
theorem Work.call {w0 W w1 : World} {F : List Nat} {s : ByteArray} {vb vo : Value} {most : Nat} {y : St} (h : Work w0 W F s vb vo most y) (hb : Below W.heap.size W w1) : Work w0 w1 F s vb vo most y :=
  ⟨h.1.later hb, h.2.1.later hb, h.2.2.1.move fun k hk => hb.block k (h.2.2.1.lt k hk), h.2.2.2.1.trans (Touches.of_below hb), h.2.2.2.2⟩
theorem Work.store {w0 W w1 : World} {F : List Nat} {s : ByteArray} {vb vo : Value} {most : Nat} {y z : St} (h : Work w0 W F s vb vo most y) (hz : z.out = y.out) (h1 : StCell w1 w0.heap.size s vb vo most z) (hb : Below w0.heap.size W w1) (ho : ∀ k, k ≠ w0.heap.size → w1.heap[k]? = W.heap[k]?) : Work w0 w1 F s vb vo most z := by
  refine ⟨h1, (ho _ (by omega)).trans h.2.1, ?_, ?_, h.2.2.2.2⟩
  · rw [hz]; exact h.2.2.1.move fun k hk => ho k (h.2.2.2.2 k hk).1
  · exact ⟨hb.os.trans h.2.2.2.1.1, hb.tape.trans h.2.2.2.1.2.1, hb.output.trans h.2.2.2.1.2.2.1, Nat.le_trans h.2.2.2.1.size hb.size, fun k hk hF => (hb.block k hk).trans (h.2.2.2.1.2.2.2.2.1 k hk hF), h.2.2.2.1.2.2.2.2.2⟩
def Handed10 (w : World) (F : List Nat) (s : ByteArray) (vb : Value) (most : Nat) (y : St) (en : Ending) (w' : World) : Prop :=
  ∃ vo, en = .returned (.agg (stV s vb vo most y)) ∧ vo.oneCell' = true ∧ Row8 w' vo y.out ∧ Touches F vo.ownBlock.toList w w'
theorem Work.done {w0 W w1 : World} {F : List Nat} {s : ByteArray} {vb vo : Value} {most : Nat} {y : St} (h : Work w0 W F s vb vo most y) (ho1 : vo.oneCell' = true) (hb : Below w0.heap.size W w1) (ho : ∀ k, k ≠ w0.heap.size + 1 → w1.heap[k]? = W.heap[k]?) : Handed10 w0 F s vb most y (.returned (.agg (stV s vb vo most y))) w1 := by
  refine ⟨vo, rfl, ho1, h.2.2.1.move fun k hk => ho k (h.2.2.2.2 k hk).2, ?_⟩
  exact ⟨hb.os.trans h.2.2.2.1.1, hb.tape.trans h.2.2.2.1.2.1, hb.output.trans h.2.2.2.1.2.2.1, Nat.le_trans h.2.2.2.1.size hb.size, fun k hk hF => (hb.block k hk).trans (h.2.2.2.1.2.2.2.2.1 k hk hF), h.2.2.2.1.2.2.2.2.2⟩
theorem Row8.bytes {w : World} {v : Value} {l : List UInt8} (h : Row8 w v l) (h0 : 0 < l.length) : ∃ g cap, v = .slice (some ⟨g, 0, none⟩) l.length cap ∧ g < w.heap.size ∧ ∀ j c, l[j]? = some c → w.cell? ⟨g, j, none⟩ = some (.int .u8 (c.toNat : Int)) := by
  have h' := h
  rcases h.2 with ⟨_, h2⟩ | ⟨g, cap, cur, rfl, _⟩
  · omega
  · refine ⟨g, cap, rfl, (World.ownsRow.lt h' g rfl).2, fun j c hj => ?_⟩
    obtain ⟨h1, h2⟩ := List.getElem?_eq_some_iff.1 hj
    have := World.ownsRow.cells h' (g := g) rfl j _ (cellsB_at h1)
    have e : (⟨g, 0, none⟩ : Addr).add j = ⟨g, j, none⟩ := by unfold Addr.add; split <;> simp_all
    rw [e, h2] at this
    exact this
theorem cells_new1_y (W : World) {g : Nat} (hg : W.heap.size = g) (c : UInt8) (z : Int) (hz : z = (c.toNat : Int)) : ∀ j (h : j < [c].length), (W.alloc (.cells #[.int .u8 z] 5)).cell? ((⟨g, 0, none⟩ : Addr).add j) = some (.int .u8 ([c][j].toNat : Int)) := by
  subst hg; subst hz
  intro j h
  simp at h
  subst h
  rw [show (⟨W.heap.size, 0, none⟩ : Addr).add 0 = ⟨W.heap.size, 0, none⟩ from rfl, World.cell?_alloc_new]
  rfl
theorem Work.out3 {w0 W w1 : World} {F : List Nat} {s : ByteArray} {vb vo : Value} {most : Nat} {y : St} {o : Obj} (h : Work w0 W F s vb vo most y) (hg : (W.alloc o).grownBy w1 vo.ownBlock) : StCell w1 w0.heap.size s vb vo most y ∧ StCell w1 (w0.heap.size + 1) ⟨#[]⟩ (.slice none 0 0) (.slice none 0 0) 0 ⟨0, [], 0⟩ := by
  have hsz : (W.alloc o).heap.size = W.heap.size + 1 := by simp
  have e : ∀ k, k < W.heap.size → (∀ j, vo.ownBlock = some j → j ≠ k) → w1.heap[k]? = W.heap[k]? := fun k hk hn => by
    rw [hg.block k (by omega) (fun e => hn k e.symm rfl)]
    exact Below.heap_alloc _ _ _ hk
  exact ⟨(e _ h.1.lt fun j hj => (h.2.2.2.2 j hj).1).trans h.1, (e _ h.2.1.lt fun j hj => (h.2.2.2.2 j hj).2).trans h.2.1⟩
theorem Work.cell3 {w0 W w1 : World} {F : List Nat} {s : ByteArray} {vb vo : Value} {most : Nat} {y : St} {o : Obj} (h : Work w0 W F s vb vo most y) (hg : (W.alloc o).grownBy w1 vo.ownBlock) : w1.cell? ⟨w0.heap.size, 3, none⟩ = some vo := (h.out3 hg).1.out
theorem Work.free3 {w0 W w1 : World} {F : List Nat} {s : ByteArray} {vb vo : Value} {most : Nat} {y : St} {o : Obj} (h : Work w0 W F s vb vo most y) (hg : (W.alloc o).grownBy w1 vo.ownBlock) : w1.frozen? ⟨w0.heap.size, 3, none⟩ = false := (h.out3 hg).1.free 3
theorem Work.append {w0 W w1 : World} {F : List Nat} {s : ByteArray} {vb vo v' : Value} {most a : Nat} {out : List UInt8} {e : Int} {c : List UInt8} {o : Obj} (h : Work w0 W F s vb vo most ⟨a, out, e⟩) (hr : Row8 w1 v' (out ++ c)) (hg : (W.alloc o).grownBy w1 vo.ownBlock) (hv : ∀ k, v'.ownBlock = some k → vo.ownBlock = some k ∨ k = (W.alloc o).heap.size) :
    Work w0 (w1.setCell ⟨w0.heap.size, 3, none⟩ v') F s vb v' most ⟨a, out ++ c, e⟩ := by
  have hsz : (W.alloc o).heap.size = W.heap.size + 1 := by simp
  obtain ⟨s1, s2⟩ := h.out3 hg
  have l1 := h.1.lt
  have l2 := h.2.1.lt
  have hne : ∀ k, v'.ownBlock = some k → k ≠ w0.heap.size ∧ k ≠ w0.heap.size + 1 := fun k hk => by
    rcases hv k hk with h1 | h1
    · exact h.2.2.2.2 k h1
    · omega
  refine ⟨s1.putOut v' (out ++ c), (heap_setCell_other _ _ _ _ (by simp)).trans s2, hr.move fun k hk => heap_setCell_other _ ⟨w0.heap.size, 3, none⟩ k _ (hne k hk).1, ?_, hne⟩
  have h1 := (h.2.2.2.1.alloc o).grown (F'' := v'.ownBlock.toList) hg (fun k hk => by simp [hk]) (fun k hk => by
    rcases hv k (by simpa using hk) with e | e
    · exact .inl (by simp [e])
    · exact .inr (by omega))
  exact ⟨h1.1, h1.2.1, h1.2.2.1, by have := h1.size; simp [World.setCell]; exact this, fun k hk hF => (heap_setCell_other _ ⟨w0.heap.size, 3, none⟩ k _ (by simp; omega)).trans (h1.2.2.2.2.1 k hk hF), h1.2.2.2.2.2⟩
theorem distN_pos : ∀ d, 0 < distN d
  | 0 => by decide
  | d + 1 => by rw [distN]; exact Nat.add_pos_left (distN_pos d) _
set_option maxRecDepth 100000 in
set_option maxHeartbeats 4000000 in
theorem rCopied_any (s : ByteArray) (pb : Option Addr) (cb : Nat) (vo : Value) (most k : Nat) (x : St) (p1 p2 : Option Addr) (c1 c2 n1 n2 nb : Nat) (ns : List Nat) (w : World) (ho1 : vo.oneCell' = true) (hp : x.at' ≤ 8 * s.size) (hs : s.size ≤ 100000)
    (hk : k ≤ 28) (hol : x.out.length ≤ 1000000) (hrow : Row8 w vo x.out)
    (hl : ns.length ≤ 1000) (h15 : ∀ n ∈ ns, n ≤ 15) (hn1 : n1 = ns.length) (hn2 : n2 = ns.length) (hnb : nb = 8 * s.size) (hq1 : Nums w p1 (intsOf ns)) (hq2 : Nums w p2 (asZ (codesN ns))) (hq3 : Nums w pb (asZ (bitsOf s.data.toList))) :
    Calls Tryz.prog 125 #[.agg (stV s (.slice pb nb cb) vo most x), .int .i64 (k : Int), .slice p1 n1 c1, .slice p2 n2 c2] w (Handed10 w vo.ownBlock.toList s (.slice pb nb cb) most (copiedS s.data.toList ns most k x)) := by
  have hsz : s.data.toList.length = s.size := by rw [← size_data]
  have hsym : ∀ (y : St) (W : World), y.at' ≤ 8 * s.size → Below w.heap.size w W → _ := fun y W hy hb => rSymS_any s pb cb vo most y p1 p2 c1 c2 n1 n2 nb ns W ho1 hy hs hl h15 hn1 hn2 hnb (hq1.later hb) (hq2.later hb) (hq3.later hb)
  have Hsym := Lib.hid hsym
  have Hsz := Lib.hid hsz
  obtain ⟨vb, hvb⟩ : ∃ vb, Value.slice pb nb cb = vb := ⟨_, rfl⟩
  have hb1 : vb.oneCell' = true := by rw [← hvb]; rfl
  rw [hvb] at Hsym
  rw [hvb]
  have HWk := Lib.hid (Work.begun (s := s) (vb := vb) (most := most) hrow)
  obtain ⟨W, hW, H1, H2, HB⟩ := boxes_is w s vb vo most x
  rw [hW] at HWk
  unfold boxes at hW
  clear hsym hsz hvb hrow hq1 hq2 hq3 hn1 hn2 hnb h15 hl
  obtain ⟨wd, hwd⟩ : ∃ wd, (if k = 28 then 0 else extraN k 8 4) = wd := ⟨_, rfl⟩
  have hwd16 : wd ≤ 16 := by rw [← hwd]; exact extra_wide hk
  obtain ⟨ex, hex⟩ : ∃ ex, extraN k 8 4 = ex := ⟨_, rfl⟩
  have Hex := Lib.hid (fun W => rExtra_any k 8 4 W (by omega) (by omega) (by omega) (by omega))
  rw [hex] at Hex
  obtain ⟨Post, hPost⟩ : ∃ Post, Handed10 w vo.ownBlock.toList s vb most (copiedS s.data.toList ns most k x) = Post := ⟨_, rfl⟩
  rw [hPost]
  have HPost := Lib.hid hPost
  clear hPost
  go_enter Tryz.func125, Tryz.ntmps125
  go_wp2_with fail
  refine (Hex.out _).mono ?_
  rintro e w1 ⟨rfl, rfl⟩
  go_upto_if 18 with fail
  go_cut [9] (fun s9 wx => s9 = .int .i64 (wd : Int) ∧ W = wx)
  case first =>
    by_cases h28 : k = 28
    · have hkz : ((k : Int) == 28) = true := by rw [h28]; rfl
      have hw0 : wd = 0 := by rw [← hwd, if_pos h28]
      subst hw0
      clear hwd hex Hex hwd16 h28 hW
      go_wp2_with fail
      go_meet
      exact ⟨rfl, rfl⟩
    · have hkz : ((k : Int) == 28) = false := by rw [beq_eq_false_iff_ne]; omega
      have hw0 : wd = ex := by rw [← hwd, if_neg h28, hex]
      subst hw0
      clear hwd hex Hex hwd16 h28 hW
      go_wp2_with fail
      go_meet
      exact ⟨rfl, rfl⟩
  case rest =>
    obtain ⟨rfl, rfl⟩ := hcut
    clear hW hex Hex
    obtain ⟨xa, na, ha⟩ : ∃ xa na, bitsS s.data.toList x wd = (xa, na) := ⟨_, _, rfl⟩
    have fa := bitsS_facts (l := s.data.toList) (x := x) hwd16 (by rw [Hsz.out]; exact hp)
    rw [ha, Hsz.out] at fa
    simp only at fa
    obtain ⟨fa1, fa2, fa3⟩ := fa
    have Hba := Lib.hid (rBitsS_any s vb vo most x wd W hb1 ho1 hwd16 hp (by omega))
    rw [ha] at Hba
    have C0 := Lib.hid HWk.out.1
    go_wp2_with (with_reducible first
      | refine StCell.load rfl (.tmp 4) rfl w.heap.size _ _ _ _ _ rfl C0.out ?_)
    refine Hba.out.mono ?_
    rintro e w2 ⟨rfl, hb⟩
    have HW2 := Lib.hid (HWk.out.call hb)
    have C2 := Lib.hid HW2.out.1
    have B2 : Hid (Below w.heap.size w w2) := Lib.hid (HB.out.trans (hb.mono HB.out.size))
    clear hb
    have HL := Lib.hid (fun W => rLength_any k W hk)
    obtain ⟨ln, hln⟩ : ∃ ln, lengthN k = ln := ⟨_, rfl⟩
    have hln2 : ln ≤ 1000 := by rw [← hln]; exact lengthN_le hk
    rw [hln] at HL
    go_wp2_with (with_reducible first
      | (refine StCell.store rfl rfl (.tmp 4) (.tmp 23) rfl w.heap.size _ _ _ _ _ _ _ _ _ _ hb1 ho1 rfl rfl C2.out w.heap.size w2 (Below.refl _ _) (Nat.le_refl _) ?_; intro w3 Hs3 Hb3 Ho3))
    have HW3 := Lib.hid (HW2.out.store fa2 Hs3.out Hb3.out Ho3.out)
    have B3 : Hid (Below w.heap.size w w3) := Lib.hid (B2.out.trans Hb3.out)
    refine (HL.out _).mono ?_
    rintro e w4 ⟨rfl, rfl⟩
    obtain ⟨xb, d, hxb⟩ : ∃ xb d, symS s.data.toList xa ns = (xb, d) := ⟨_, _, rfl⟩
    have fb := symS_facts (l := s.data.toList) (x := xa) (ns := ns) (by rw [Hsz.out]; exact fa1)
    rw [hxb, Hsz.out] at fb
    obtain ⟨fb1, fb2⟩ := fb
    simp only at fb1 fb2
    have Hsy := Lib.hid (Hsym.out xa w3 fa1 B3.out)
    rw [hxb] at Hsy
    have C3 := Lib.hid HW3.out.1
    clear HL
    go_wp2_with (with_reducible first
      | refine StCell.load rfl (.tmp 4) rfl w.heap.size _ _ _ _ _ rfl C3.out ?_)
    refine Hsy.out.mono ?_
    rintro e w5 ⟨rfl, hb⟩
    have HW5 := Lib.hid (HW3.out.call hb)
    have B5 : Hid (Below w.heap.size w w5) := Lib.hid (B3.out.trans (hb.mono B3.out.size))
    have C5 := Lib.hid HW5.out.1
    clear hb Hsy
    obtain ⟨bd, hbd⟩ : ∃ bd, decide (29 < d) = bd := ⟨_, rfl⟩
    have hbz : decide (29 < (d : Int)) = bd := by rw [← hbd, decide_eq_decide]; omega
    have Hf := Lib.hid (fun W => rFail_any s vb vo most xb bd 4 W hb1 ho1)
    obtain ⟨xc, hxc⟩ : ∃ xc, failS xb bd 4 = xc := ⟨_, rfl⟩
    rw [hxc] at Hf
    have fc := failS_facts xb bd 4
    rw [hxc] at fc
    go_wp2_with (with_reducible first
      | (refine StCell.store rfl rfl (.tmp 4) (.tmp 34) rfl w.heap.size _ _ _ _ _ _ _ _ _ _ hb1 ho1 rfl rfl C5.out w.heap.size w5 (Below.refl _ _) (Nat.le_refl _) ?_; intro w6 Hs6 Hb6 Ho6)
      | refine StCell.load rfl (.tmp 4) rfl w.heap.size _ _ _ _ _ rfl Hs6.out ?_)
    have HW6 := Lib.hid (HW5.out.store fb2 Hs6.out Hb6.out Ho6.out)
    have B6 : Hid (Below w.heap.size w w6) := Lib.hid (B5.out.trans Hb6.out)
    refine (Hf.out _).mono ?_
    rintro e w7 ⟨rfl, hb⟩
    have HW7 := Lib.hid (HW6.out.call hb)
    have B7 : Hid (Below w.heap.size w w7) := Lib.hid (B6.out.trans (hb.mono B6.out.size))
    have C7 := Lib.hid HW7.out.1
    clear hb Hf
    go_upto_region 8 with (with_reducible first
      | (refine StCell.store rfl rfl (.tmp 4) (.tmp 39) rfl w.heap.size _ _ _ _ _ _ _ _ _ _ hb1 ho1 rfl rfl C7.out w.heap.size w7 (Below.refl _ _) (Nat.le_refl _) ?_; intro w8 Hs8 Hb8 Ho8))
    have HW8 := Lib.hid (HW7.out.store fc.2 Hs8.out Hb8.out Ho8.out)
    have B8 : Hid (Below w.heap.size w w8) := Lib.hid (B7.out.trans Hb8.out)
    have c85 := Hs8.out.code
    have hpart : copiedS s.data.toList ns most k x = if xc.code ≠ 0 then xc else
        copyS (failS (failS (bitsS s.data.toList xc (extraN d 4 2)).1 (decide ((bitsS s.data.toList xc (extraN d 4 2)).1.out.length < distN d + (bitsS s.data.toList xc (extraN d 4 2)).2)) 3) (decide (most < (failS (bitsS s.data.toList xc (extraN d 4 2)).1 (decide ((bitsS s.data.toList xc (extraN d 4 2)).1.out.length < distN d + (bitsS s.data.toList xc (extraN d 4 2)).2)) 3).out.length + (ln + na))) 7) (distN d + (bitsS s.data.toList xc (extraN d 4 2)).2) (ln + na) := by
      unfold copiedS
      simp only
      rw [hwd, ha]
      simp only
      rw [hxb]
      simp only
      rw [hbd, hxc, hln]
    by_cases hc0 : xc.code = 0
    · rw [if_neg (by simp [hc0])] at hpart
      have hcz : (xc.code != 0) = false := by simpa using hc0
      have hd29 : d ≤ 29 := by
        have h1 := failS_zero (x := xb) (c := bd) (e := 4) (by decide) (by rw [hxc]; exact hc0)
        rw [← hbd] at h1
        have := of_decide_eq_false h1.1
        omega
      obtain ⟨ed, hed⟩ : ∃ ed, extraN d 4 2 = ed := ⟨_, rfl⟩
      have hed16 : ed ≤ 16 := by rw [← hed]; have := extra_dist hd29; omega
      rw [hed] at hpart
      obtain ⟨xd, nd, hxd⟩ : ∃ xd nd, bitsS s.data.toList xc ed = (xd, nd) := ⟨_, _, rfl⟩
      have fd := bitsS_facts (l := s.data.toList) (x := xc) hed16 (by rw [Hsz.out, fc.1]; exact fb1)
      rw [hxd, Hsz.out] at fd
      simp only at fd
      obtain ⟨fd1, fd2, fd3⟩ := fd
      rw [hxd] at hpart
      simp only at hpart
      have Hpart := Lib.hid hpart
      have Hex2 := Lib.hid (fun W => rExtra_any d 4 2 W (by omega) (by omega) (by omega) (by omega))
      rw [hed] at Hex2
      have HWd : Hid (Work w w8.drew vo.ownBlock.toList s vb vo most xc) := Lib.hid (HW8.out.call (Below.refl _ _).drew)
      have Bd : Hid (Below w.heap.size w w8.drew) := Lib.hid B8.out.drew
      have C8 : Hid (StCell w8.drew w.heap.size s vb vo most xc) := Lib.hid HWd.out.1
      have Hbd := Lib.hid (rBitsS_any s vb vo most xc ed w8.drew hb1 ho1 hed16 (by rw [fc.1]; exact fb1) (by omega))
      rw [hxd] at Hbd
      obtain ⟨wd8, hwd8⟩ : ∃ wd8, w8.drew = wd8 := ⟨_, rfl⟩
      rw [hwd8] at HWd Bd C8 Hbd
      clear hpart hc0 hwd ha hxb hbd hxc hln hed hxd
      go_upto_region 10 with fail
      go_cut [10] (fun s10 wx => s10 = .int .i64 (nd : Int) ∧ Aside (Work w wx vo.ownBlock.toList s vb vo most xd) ∧ Aside (Below w.heap.size w wx))
      case first =>
        clear hcz c85
        refine wp_region_held_drew (S := fun _ => True) (by kernel_rfl) trivial ?_
        rw [hwd8]
        clear hwd8
        intro _
        refine wpAnyH_take (i := 1) (v := .int .i64 (d : Int)) rfl (by kernel_rfl) (by kernel_rfl) (by kernel_rfl) (fun _ _ _ h => h) (Or.inl ⟨by rfl, fun w hw => by go_simp⟩) trivial ?_
        try simp only [Act.put, List.setIfInBounds_toArray, List.set_cons_zero, List.set_cons_succ, List.getElem_toArray, List.getElem_cons_zero, List.getElem_cons_succ]
        refine wpAnyH_ready (rs := [0, 2]) (by kernel_rfl) (by simp) ?_
        refine AllReadyH.cons rfl (fun K hK => ?_) (AllReadyH.cons rfl (fun K hK => ?_) AllReadyH.nil)
        · simp only [List.getElem_toArray, List.getElem_cons_zero]
          rw [if_pos (by rfl)]
          refine wp_load_row _ (.tmp 4) rfl w.heap.size rfl _ _ _ _ C8.out Tryz.underlying114 rfl info_st ?_
          refine hK.out _ _ trivial ?_
          clear hK
          intro _
          try simp only [Act.put, List.setIfInBounds_toArray, List.set_cons_zero, List.set_cons_succ]
          refine wpAnyH_ready (rs := [2]) (by kernel_rfl) (by simp) ?_
          refine AllReadyH.cons rfl (fun K hK => ?_) AllReadyH.nil
          simp only [List.getElem_toArray, List.getElem_cons_zero, List.getElem_cons_succ]
          go_simp
          go_at_call 90
          refine (Hex2.out _).mono ?_
          rintro e wx ⟨rfl, rfl⟩
          refine hK.out _ _ trivial ?_
          clear hK
          intro _
          try simp only [Act.put, List.setIfInBounds_toArray, List.set_cons_zero, List.set_cons_succ, List.getElem_toArray, List.getElem_cons_zero, List.getElem_cons_succ]
          refine wpAnyH_ready (rs := [3]) (by kernel_rfl) (by simp) ?_
          refine AllReadyH.cons rfl (fun K hK => ?_) AllReadyH.nil
          simp only [List.getElem_toArray, List.getElem_cons_zero, List.getElem_cons_succ]
          go_simp
          go_at_call 96
          refine Hbd.out.mono ?_
          rintro e w9 ⟨rfl, hb⟩
          have HW9 := Lib.hid (HWd.out.call hb)
          have B9 : Hid (Below w.heap.size w w9) := Lib.hid (Bd.out.trans (hb.mono Bd.out.size))
          clear hb
          refine hK.out _ _ trivial ?_
          clear hK
          intro _
          try simp only []
          refine wpAnyH_take (i := 4) (v := .tuple #[.agg (stV s vb vo most xd), .int .i64 (nd : Int)]) rfl (by kernel_rfl) (by kernel_rfl) (by kernel_rfl) (fun _ _ _ h => h) (Or.inl ⟨by rfl, fun w hw => by go_simp⟩) trivial ?_
          try simp only [Act.put, List.setIfInBounds_toArray, List.set_cons_zero, List.set_cons_succ, List.getElem_toArray, List.getElem_cons_zero, List.getElem_cons_succ]
          refine wpAnyH_take (i := 5) (v := .agg (stV s vb vo most xd)) rfl (by kernel_rfl) (by kernel_rfl) (by kernel_rfl) (fun _ _ _ h => h) (Or.inl ⟨by rfl, fun w hw => by go_simp⟩) trivial ?_
          try simp only [Act.put, List.setIfInBounds_toArray, List.set_cons_zero, List.set_cons_succ, List.getElem_toArray, List.getElem_cons_zero, List.getElem_cons_succ]
          refine wpAnyH_take (i := 6) (v := .int .i64 (nd : Int)) rfl (by kernel_rfl) (by kernel_rfl) (by kernel_rfl) (fun _ _ _ h => h) (Or.inl ⟨by rfl, fun w hw => by go_simp⟩) trivial ?_
          try simp only [Act.put, List.setIfInBounds_toArray, List.set_cons_zero, List.set_cons_succ, List.getElem_toArray, List.getElem_cons_zero, List.getElem_cons_succ]
          refine wpAnyH_ready (rs := [7]) (by kernel_rfl) (by simp) ?_
          refine AllReadyH.cons rfl (fun K hK => ?_) AllReadyH.nil
          simp only [List.getElem_toArray, List.getElem_cons_zero, List.getElem_cons_succ]
          rw [if_pos (by rfl)]
          refine wp_store_row _ (.tmp 4) (.tmp 49) rfl w.heap.size (stV s vb vo most xd) rfl rfl _ _ HW9.out.1 info_st rfl (stV_one hb1 ho1) ?_
          have Hs10 : Hid (StCell (w9.setRow w.heap.size (stV s vb vo most xd)) w.heap.size s vb vo most xd) := Lib.hid (setRow_heap _ _ _ _ _ _ HW9.out.1)
          have Hb10 : Hid (Below w.heap.size w9 (w9.setRow w.heap.size (stV s vb vo most xd))) := Lib.hid ⟨rfl, rfl, rfl, by simp, fun k hk => setRow_other _ _ _ _ (by omega)⟩
          have Ho10 : Hid (∀ k, k ≠ w.heap.size → (w9.setRow w.heap.size (stV s vb vo most xd)).heap[k]? = w9.heap[k]?) := Lib.hid fun k hk => setRow_other _ _ _ _ hk
          obtain ⟨w10, hw10⟩ : ∃ w10, w9.setRow w.heap.size (stV s vb vo most xd) = w10 := ⟨_, rfl⟩
          rw [hw10] at Hs10 Hb10 Ho10
          rw [hw10]
          refine hK.out _ _ trivial ?_
          clear hK hw10
          intro _
          try simp only [Act.put]
          refine wpAnyH_take (i := 8) (v := .int .i64 (nd : Int)) rfl (by kernel_rfl) (by kernel_rfl) (by kernel_rfl) (fun _ _ _ h => h) (Or.inl ⟨by rfl, fun w hw => by go_simp⟩) trivial ?_
          try simp only [Act.put, List.setIfInBounds_toArray, List.set_cons_zero, List.set_cons_succ, List.getElem_toArray, List.getElem_cons_zero, List.getElem_cons_succ]
          refine wpAnyH_done (by kernel_rfl) ?_ _
          go_wp2_with fail
          go_meet
          exact ⟨rfl, HW9.out.store fd2 Hs10.out Hb10.out Ho10.out, B9.out.trans Hb10.out⟩

        · simp only [List.getElem_toArray, List.getElem_cons_zero, List.getElem_cons_succ]
          go_simp
          go_at_call 90
          refine (Hex2.out _).mono ?_
          rintro e wx ⟨rfl, rfl⟩
          refine hK.out _ _ trivial ?_
          clear hK
          intro _
          try simp only [Act.put, List.setIfInBounds_toArray, List.set_cons_zero, List.set_cons_succ, List.getElem_toArray, List.getElem_cons_zero, List.getElem_cons_succ]
          refine wpAnyH_ready (rs := [0]) (by kernel_rfl) (by simp) ?_
          refine AllReadyH.cons rfl (fun K hK => ?_) AllReadyH.nil
          simp only [List.getElem_toArray, List.getElem_cons_zero]
          rw [if_pos (by rfl)]
          refine wp_load_row _ (.tmp 4) rfl w.heap.size rfl _ _ _ _ C8.out Tryz.underlying114 rfl info_st ?_
          refine hK.out _ _ trivial ?_
          clear hK
          intro _
          try simp only [Act.put, List.setIfInBounds_toArray, List.set_cons_zero, List.set_cons_succ]
          refine wpAnyH_ready (rs := [3]) (by kernel_rfl) (by simp) ?_
          refine AllReadyH.cons rfl (fun K hK => ?_) AllReadyH.nil
          simp only [List.getElem_toArray, List.getElem_cons_zero, List.getElem_cons_succ]
          go_simp
          go_at_call 96
          refine Hbd.out.mono ?_
          rintro e w9 ⟨rfl, hb⟩
          have HW9 := Lib.hid (HWd.out.call hb)
          have B9 : Hid (Below w.heap.size w w9) := Lib.hid (Bd.out.trans (hb.mono Bd.out.size))
          clear hb
          refine hK.out _ _ trivial ?_
          clear hK
          intro _
          try simp only []
          refine wpAnyH_take (i := 4) (v := .tuple #[.agg (stV s vb vo most xd), .int .i64 (nd : Int)]) rfl (by kernel_rfl) (by kernel_rfl) (by kernel_rfl) (fun _ _ _ h => h) (Or.inl ⟨by rfl, fun w hw => by go_simp⟩) trivial ?_
          try simp only [Act.put, List.setIfInBounds_toArray, List.set_cons_zero, List.set_cons_succ, List.getElem_toArray, List.getElem_cons_zero, List.getElem_cons_succ]
          refine wpAnyH_take (i := 5) (v := .agg (stV s vb vo most xd)) rfl (by kernel_rfl) (by kernel_rfl) (by kernel_rfl) (fun _ _ _ h => h) (Or.inl ⟨by rfl, fun w hw => by go_simp⟩) trivial ?_
          try simp only [Act.put, List.setIfInBounds_toArray, List.set_cons_zero, List.set_cons_succ, List.getElem_toArray, List.getElem_cons_zero, List.getElem_cons_succ]
          refine wpAnyH_take (i := 6) (v := .int .i64 (nd : Int)) rfl (by kernel_rfl) (by kernel_rfl) (by kernel_rfl) (fun _ _ _ h => h) (Or.inl ⟨by rfl, fun w hw => by go_simp⟩) trivial ?_
          try simp only [Act.put, List.setIfInBounds_toArray, List.set_cons_zero, List.set_cons_succ, List.getElem_toArray, List.getElem_cons_zero, List.getElem_cons_succ]
          refine wpAnyH_ready (rs := [7]) (by kernel_rfl) (by simp) ?_
          refine AllReadyH.cons rfl (fun K hK => ?_) AllReadyH.nil
          simp only [List.getElem_toArray, List.getElem_cons_zero, List.getElem_cons_succ]
          rw [if_pos (by rfl)]
          refine wp_store_row _ (.tmp 4) (.tmp 49) rfl w.heap.size (stV s vb vo most xd) rfl rfl _ _ HW9.out.1 info_st rfl (stV_one hb1 ho1) ?_
          have Hs10 : Hid (StCell (w9.setRow w.heap.size (stV s vb vo most xd)) w.heap.size s vb vo most xd) := Lib.hid (setRow_heap _ _ _ _ _ _ HW9.out.1)
          have Hb10 : Hid (Below w.heap.size w9 (w9.setRow w.heap.size (stV s vb vo most xd))) := Lib.hid ⟨rfl, rfl, rfl, by simp, fun k hk => setRow_other _ _ _ _ (by omega)⟩
          have Ho10 : Hid (∀ k, k ≠ w.heap.size → (w9.setRow w.heap.size (stV s vb vo most xd)).heap[k]? = w9.heap[k]?) := Lib.hid fun k hk => setRow_other _ _ _ _ hk
          obtain ⟨w10, hw10⟩ : ∃ w10, w9.setRow w.heap.size (stV s vb vo most xd) = w10 := ⟨_, rfl⟩
          rw [hw10] at Hs10 Hb10 Ho10
          rw [hw10]
          refine hK.out _ _ trivial ?_
          clear hK hw10
          intro _
          try simp only [Act.put]
          refine wpAnyH_take (i := 8) (v := .int .i64 (nd : Int)) rfl (by kernel_rfl) (by kernel_rfl) (by kernel_rfl) (fun _ _ _ h => h) (Or.inl ⟨by rfl, fun w hw => by go_simp⟩) trivial ?_
          try simp only [Act.put, List.setIfInBounds_toArray, List.set_cons_zero, List.set_cons_succ, List.getElem_toArray, List.getElem_cons_zero, List.getElem_cons_succ]
          refine wpAnyH_done (by kernel_rfl) ?_ _
          go_wp2_with fail
          go_meet
          exact ⟨rfl, HW9.out.store fd2 Hs10.out Hb10.out Ho10.out, B9.out.trans Hb10.out⟩
      case rest =>
        obtain ⟨rfl, HW10, B10⟩ := hcut
        have HDi := Lib.hid (fun W => rDistance_any d W hd29)
        obtain ⟨dn, hdn⟩ : ∃ dn, distN d = dn := ⟨_, rfl⟩
        have hdn2 : dn ≤ 40000 := by rw [← hdn]; exact distN_le (by omega)
        have hdn1 : 0 < dn := by rw [← hdn]; exact distN_pos d
        have Hdn := Lib.hid hdn
        rw [hdn] at HDi
        clear hdn
        obtain ⟨ad, cap, hvo, hvn⟩ : ∃ ad cap, vo = .slice ad xd.out.length cap ∧ True := by
          obtain ⟨ad, cap, h⟩ := HW10.out.2.2.1.form
          exact ⟨ad, cap, h, trivial⟩
        have hxo : xd.out.length ≤ 1000000 := by rw [fd2, fc.2, fb2, fa2]; exact hol
        obtain ⟨fr, hfr⟩ : ∃ fr, dn + nd = fr := ⟨_, rfl⟩
        have hfz : (dn : Int) + (nd : Int) = (fr : Int) := by omega
        have hfr2 : fr ≤ 200000 := by omega
        have hfr1 : 0 < fr := by omega
        obtain ⟨n, hn⟩ : ∃ n, ln + na = n := ⟨_, rfl⟩
        have hnz : (ln : Int) + (na : Int) = (n : Int) := by omega
        have hn2 : n ≤ 100000 := by omega
        obtain ⟨bf, hbf⟩ : ∃ bf, decide (xd.out.length < fr) = bf := ⟨_, rfl⟩
        obtain ⟨ol, hdl⟩ : ∃ ol, xd.out.length = ol := ⟨_, rfl⟩
        have hbfn : decide (ol < fr) = bf := by rw [← hdl]; exact hbf
        have hbfz : decide ((ol : Int) < (fr : Int)) = bf := by rw [← hbfn, decide_eq_decide]; omega
        obtain ⟨xe, hxe⟩ : ∃ xe, failS xd bf 3 = xe := ⟨_, rfl⟩
        have fe := failS_facts xd bf 3
        rw [hxe] at fe
        have Hfe := Lib.hid (fun W => rFail_any s vb vo most xd bf 3 W hb1 ho1)
        rw [hxe] at Hfe
        obtain ⟨bm, hbm⟩ : ∃ bm, decide (most < xe.out.length + n) = bm := ⟨_, rfl⟩
        have hbmz : decide ((most : Int) < (ol : Int) + (n : Int)) = bm := by rw [← hbm, decide_eq_decide, fe.2, hdl]; omega
        obtain ⟨xf, hxf⟩ : ∃ xf, failS xe bm 7 = xf := ⟨_, rfl⟩
        have ff := failS_facts xe bm 7
        rw [hxf] at ff
        have Hff := Lib.hid (fun W => rFail_any s vb vo most xe bm 7 W hb1 ho1)
        rw [hxf] at Hff
        have Hcopy : Hid (copiedS s.data.toList ns most k x = copyS xf fr n) := Lib.hid (by rw [Hpart.out, Hdn.out, hfr, hbf, hxe, hn, hbm, hxf])
        have Hfar : Hid (xf.code = 0 → fr ≤ xf.out.length) := Lib.hid fun h => by
          have h1 := failS_zero (x := xe) (c := bm) (e := 7) (by decide) (by rw [hxf]; exact h)
          have h2 := failS_zero (x := xd) (c := bf) (e := 3) (by decide) (by rw [hxe]; exact h1.2.1)
          rw [ff.2, fe.2]
          rw [← hbf] at h2
          have := of_decide_eq_false h2.1
          omega
        have C10 := Lib.hid HW10.out.1
        have Hvo : Hid (vo = .slice ad ol cap) := Lib.hid (by rw [hvo, hdl])
        have o10 : wc.cell? ⟨w.heap.size, 3, none⟩ = some (.slice ad ol cap) := by rw [C10.out.out, Hvo.out]
        have m10 := C10.out.most
        have Ffe := Lib.hid fe
        have Fff := Lib.hid ff
        have Hdl := Lib.hid hdl
        rw [hdl] at hxo
        clear hvo hvn hbf hxe hbm hxf hfr hn hdl fd1 fd2 fc fb1 fb2 fa1 fa2 fe ff hd29 hk hol hp
        go_wp2_with fail
        refine (HDi.out _).mono ?_
        rintro e w11 ⟨rfl, rfl⟩
        go_wp2_with (with_reducible first
          | refine StCell.load rfl (.tmp 4) rfl w.heap.size _ _ _ _ _ rfl C10.out ?_)
        refine (Hfe.out _).mono ?_
        rintro e w12 ⟨rfl, hb⟩
        have HW12 := Lib.hid (HW10.out.call hb)
        have C12 := Lib.hid HW12.out.1
        clear hb
        go_wp2_with (with_reducible first
          | (refine StCell.store rfl rfl (.tmp 4) (.tmp 61) rfl w.heap.size _ _ _ _ _ _ _ _ _ _ hb1 ho1 rfl rfl C12.out w.heap.size w12 (Below.refl _ _) (Nat.le_refl _) ?_; intro w13 Hs13 Hb13 Ho13; have o13 : w13.cell? ⟨w.heap.size, 3, none⟩ = some (.slice ad ol cap) := (by rw [Hs13.out.out, Hvo.out]); have m13 := Hs13.out.most)
          | refine StCell.load rfl (.tmp 4) rfl w.heap.size _ _ _ _ _ rfl Hs13.out ?_)
        have HW13 := Lib.hid (HW12.out.store Ffe.out.2 Hs13.out Hb13.out Ho13.out)
        refine (Hff.out _).mono ?_
        rintro e w14 ⟨rfl, hb⟩
        have HW14 := Lib.hid (HW13.out.call hb)
        have C14 := Lib.hid HW14.out.1
        clear hb o10 m10 o13 m13
        go_wp2_with (with_reducible first
          | (refine StCell.store rfl rfl (.tmp 4) (.tmp 71) rfl w.heap.size _ _ _ _ _ _ _ _ _ _ hb1 ho1 rfl rfl C14.out w.heap.size w14 (Below.refl _ _) (Nat.le_refl _) ?_; intro w15 Hs15 Hb15 Ho15))
        have HW15 := Lib.hid (HW14.out.store Fff.out.2 Hs15.out Hb15.out Ho15.out)
        by_cases hxf0 : xf.code = 0
        · have hfar := Hfar.out hxf0
          have Hend : Hid (copyS xf fr n = ⟨xf.at', copyB fr n xf.out, 0⟩) := Lib.hid (by unfold copyS; rw [if_pos hxf0])
          have hxfl : xf.out.length = ol := by rw [Fff.out.2, Ffe.out.2, Hdl.out]
          have Hstart : Hid (Work w w15 vo.ownBlock.toList s vb vo most ⟨xf.at', xf.out, 0⟩) := Lib.hid (by
            have : xf = ⟨xf.at', xf.out, 0⟩ := by rw [← hxf0]
            rw [← this]; exact HW15.out)
          clear hxf0
          go_loopg [14] n (fun g s14 wx => ∃ (j : Nat) (v : Value) (o : List UInt8), j + g = n ∧ s14 = .int .i64 (j : Int) ∧ o.length = ol + j ∧ Aside (Work w wx vo.ownBlock.toList s vb v most ⟨xf.at', o, 0⟩ ∧ v.oneCell' = true ∧ copyB fr g o = copyB fr n xf.out))
          case atStart => exact ⟨0, vo, xf.out, by omega, rfl, by omega, Hstart.out, ho1, rfl⟩
          case round =>
            obtain ⟨j, v, o, hjg, rfl, hol, HI⟩ := hrel
            have k5 := HI.out.1.1.code
            cases gk with
            | zero =>
              obtain rfl : j = n := by omega
              have Ho : Hid (o = copyB fr j xf.out) := Lib.hid HI.out.2.2
              have I1 := Lib.hid HI.out.1.1
              have I2 := Lib.hid HI.out.1.2.1
              have hv1 := HI.out.2.1
              go_wp2_with (with_reducible first
                | refine StCell.load rfl (.tmp 4) rfl w.heap.size _ _ _ _ _ rfl I1.out ?_
                | (refine StCell.store rfl rfl (.tmp 8) (.tmp 96) rfl (w.heap.size + 1) _ _ _ _ _ _ _ _ _ _ hb1 hv1 rfl rfl I2.out w.heap.size wr (Below.refl _ _) (by omega) ?_; intro w16 Hs16 Hb16 Ho16))
              exact bodyPost_ret (results_st rfl _ _ (w.heap.size + 1) _ _ _ _ _ rfl Hs16.out) rfl (by
                rw [← HPost.out, Hcopy.out, Hend.out, ← Ho.out]; exact HI.out.1.done hv1 Hb16.out Ho16.out)
            | succ g =>
              have hjz : (j : Int) < (n : Int) := by omega
              have hfo : fr ≤ o.length := by omega
              obtain ⟨g8, cap8, hv8, hg8, hc8⟩ := HI.out.1.2.2.1.bytes (show 0 < o.length by omega)
              obtain ⟨y, hy⟩ : ∃ y, o[o.length - fr]? = some y := ⟨_, List.getElem?_eq_getElem (by omega)⟩
              have hcy := hc8 _ _ hy
              obtain ⟨q, hq⟩ : ∃ q, o.length = q := ⟨_, rfl⟩
              have Hq := Lib.hid hq
              have hqn : q = ol + j := by omega
              have Hqn := Lib.hid hqn
              have Hcopy2 : Hid (copyB fr g (o ++ [y]) = copyB fr n xf.out) := Lib.hid (by
                have := HI.out.2.2
                rw [copyB, hy] at this; exact this)
              have c3 := HI.out.1.1.out
              rw [hq] at hv8 hcy hy hfo
              rw [hv8] at c3
              have hne8 : g8 ≠ w.heap.size := (HI.out.1.2.2.2.2 g8 (by rw [hv8]; rfl)).1
              have hlt := HI.out.1.1.lt
              have c3a : ∀ u, (wr.drew.alloc u).cell? ⟨w.heap.size, 3, none⟩ = some (.slice (some ⟨g8, 0, none⟩) q cap8) := fun u => (World.cell?_of_block (w := wr.drew) (Below.heap_alloc _ u _ hlt)).trans c3
              have hcya : ∀ u, (wr.drew.alloc u).cell? ⟨g8, q - fr, none⟩ = some (.int .u8 (y.toNat : Int)) := fun u => (World.cell?_of_block (w := wr.drew) (Below.heap_alloc _ u _ hg8)).trans hcy
              obtain ⟨ix, hix⟩ : ∃ ix, q - fr = ix := ⟨_, rfl⟩
              rw [hix] at hcy hcya hy
              have hixz : (q : Int) - (fr : Int) = (ix : Int) := by omega
              have hix2 : (ix : Int) < (q : Int) := by omega
              have hix0 : (0 : Int) ≤ (ix : Int) := by omega
              have hlen8 : o.length + 1 ≤ 140737488355328 := by omega
              have hlen9 : q ≤ 1000000000 := by omega
              have hixw : IntKind.i64.wrap (ix : Int) = (ix : Int) := IntWalk.i64_in _ (by omega)
              have HI8 : Hid (Work w wr.drew vo.ownBlock.toList s vb v most ⟨xf.at', o, 0⟩) := Lib.hid (HI.out.1.call (Below.refl _ _).drew)
              have hv8' := hv8
              subst hv8'
              clear hc8 hy hix hfo hq hol hqn
              go_wp2_with fail
              go_region_law (refine step_append_row8 rfl (.tmp 83) (.tmp 93) rfl _ o rfl (HI8.out.2.2.1.move fun k hk => Below.heap_alloc _ _ _ (HI8.out.2.2.1.lt k hk)) _ _ y rfl (cells_new1_y _ rfl _ _ rfl) hlen8 _ rfl ?_; intro v9 w9 Hr9 Hg9 Hv9 hf9; obtain ⟨g9, cap9, rfl⟩ := hf9; have HW9 := Lib.hid (HI8.out.append Hr9.out Hg9.out Hv9.out); have c39 := HI8.out.cell3 Hg9.out; have f39 := HI8.out.free3 Hg9.out)
              all_goals
                go_wp2_with fail
                go_roundg g
                case measure => omega
                case rel => exact ⟨j + 1, _, o ++ [y], by omega, by go_num, by rw [List.length_append, Hq.out, Hqn.out]; rfl, HW9.out, rfl, Hcopy2.out⟩
        · have hz : (xf.code == 0) = false := by simpa using hxf0
          have Hend : Hid (copyS xf fr n = xf) := Lib.hid (by unfold copyS; rw [if_neg hxf0])
          have k5 := HW15.out.1.code
          have I1 := Lib.hid HW15.out.1
          have I2 := Lib.hid HW15.out.2.1
          clear hxf0
          go_loopg [14] 0 (fun g s14 wx => s14 = .int .i64 0 ∧ w15 = wx)
          case atStart => exact ⟨rfl, rfl⟩
          case round =>
            obtain ⟨rfl, rfl⟩ := hrel
            by_cases hn0 : (0 : Int) < (n : Int)
            all_goals
              go_wp2_with (with_reducible first
                | refine StCell.load rfl (.tmp 4) rfl w.heap.size _ _ _ _ _ rfl I1.out ?_
                | (refine StCell.store rfl rfl (.tmp 8) (.tmp 96) rfl (w.heap.size + 1) _ _ _ _ _ _ _ _ _ _ hb1 ho1 rfl rfl I2.out w.heap.size w15 (Below.refl _ _) (by omega) ?_; intro w16 Hs16 Hb16 Ho16))
              exact bodyPost_ret (results_st rfl _ _ (w.heap.size + 1) _ _ _ _ _ rfl Hs16.out) rfl (by
                rw [← HPost.out, Hcopy.out, Hend.out]; exact HW15.out.done ho1 Hb16.out Ho16.out)
    · have hcz : (xc.code != 0) = true := by simpa using hc0
      rw [if_pos hc0] at hpart
      have Hpart := Lib.hid hpart
      have D8 := Lib.hid HW8.out.2.1
      clear hpart hc0 hwd ha hxb hbd hxc hln
      go_wp2_with (with_reducible first
        | refine StCell.load rfl (.tmp 4) rfl w.heap.size _ _ _ _ _ rfl Hs8.out ?_
        | (refine StCell.store rfl rfl (.tmp 8) (.tmp 43) rfl (w.heap.size + 1) _ _ _ _ _ _ _ _ _ _ hb1 ho1 rfl rfl D8.out w.heap.size w8 (Below.refl _ _) (by omega) ?_; intro w9 Hs9 Hb9 Ho9))
      exact bodyPost_ret (results_st rfl _ _ (w.heap.size + 1) _ _ _ _ _ rfl Hs9.out) rfl (by rw [← HPost.out, Hpart.out]; exact HW8.out.done ho1 Hb9.out Ho9.out)
end
end Go.Proofs.YtnelbahohkjcnaaGreatDoor
/-
  A text is put behind a row that an object owns.
-/
namespace Go.Proofs.YtnelbahohkjcnaaGreatDoor
section
open Go.RowKit
theorem strCells_row (s : ByteArray) : Lib.strCells s = cellsB s.data.toList := rfl
theorem run_append_text (w : World) (ty : TypeId) (v : Value) (l : List UInt8) (hown : Row8 w v l) (s : ByteArray) (hlen : l.length + s.size ≤ 140737488355328) :
    ∃ v' w', (Builtin.append_ #[57, 9] ty #[v, .string s]).run Tryz.prog w = .ok v' w' ∧ Row8 w' v' (l ++ s.data.toList) ∧ w.grownBy w' v.ownBlock ∧ ∀ k, v'.ownBlock = some k → v.ownBlock = some k ∨ w.heap.size ≤ k := by
  obtain ⟨i0, hi, hz0, hz1, hz2⟩ := info_parts info8
  have low : ∀ (B : Nat) (w' : World) (v' : Value), w'.ownsRow B 5 1 v' (l.length + s.size) (cellsB l ++ Lib.strCells s) → Row8 w' v' (l ++ s.data.toList) := fun B w' v' h => by
    rw [strCells_row, ← cellsB_append, show l.length + s.size = (l ++ s.data.toList).length by rw [List.length_append, ← size_data]] at h
    refine ⟨h.1, ?_⟩
    rcases h.2 with h2 | ⟨g, c, cur, hv, hB, hg, hr⟩
    · exact .inl h2
    · exact .inr ⟨g, c, cur, hv, Nat.zero_le _, hg, hr⟩
  have h' := hown
  rcases hown.2 with ⟨rfl, h0⟩ | ⟨g, cap, cur, rfl, _, hg, hnc, hcm, hcs, _⟩
  · obtain rfl : l = [] := List.eq_nil_of_length_eq_zero h0
    obtain ⟨v', w', hr, h2, h3, _⟩ := Lib.run_append_own_string (P := Tryz.prog) w w.heap.size 57 9 ty 5 i0 Tryz.underlying57 Tryz.underlying9 hi hz0 hz1 hz2 (.slice none 0 0) 0 [] (World.ownsRow_nil _ _ _ _) s (by unfold maxLen; simp at hlen; omega) (by simpa using hlen) (Nat.le_refl _)
    exact ⟨v', w', hr, low _ _ _ h2, h3, fun k hk => .inr (World.ownsRow.lt h2 k hk).1⟩
  · obtain ⟨v', w', hr, h2, h3, _⟩ := Lib.run_append_own_string (P := Tryz.prog) w 0 57 9 ty 5 i0 Tryz.underlying57 Tryz.underlying9 hi hz0 hz1 hz2 _ _ _ h' s (by unfold maxLen; omega) hlen (Nat.zero_le _)
    refine ⟨v', w', hr, low _ _ _ h2, h3, ?_⟩
    by_cases hroom : l.length + s.size ≤ cap
    · have hr2 := Lib.run_append_room_string (P := Tryz.prog) w 57 9 ty 5 i0 Tryz.underlying57 Tryz.underlying9 hi hz1 g l.length cap cur hg s hroom (by omega)
      rw [hr] at hr2
      injection hr2 with e1 e2
      intro k hk
      rw [e1] at hk
      exact .inl hk
    · have hr2 := Lib.run_append_grow_string (P := Tryz.prog) w 57 9 ty 5 i0 (.int .u8 0) Tryz.underlying57 Tryz.underlying9 hi hz0 ⟨g, 0, none⟩ l.length cap (cellsB l) (by rw [hz1, cellsB_length, Nat.mul_one]) (h'.cells (g := g) rfl) s (by omega) (by omega) (by rw [hz2]; exact growslice_fits (by omega) (by omega))
      rw [hr] at hr2
      injection hr2 with e1 e2
      intro k hk
      rw [e1] at hk
      have := Option.some.inj hk
      exact .inr (by simp at this; omega)
theorem wpList_append_text {ops : Array Oper} {rest : List Oper} {o : Oper} {a : Act} {w : World} {Q : Exit → Act → World → Prop} (hgd : o.guard = none) (sl x : Operand)
    (ho : o.op = .call { callee := .builtin .append, args := #[sl, x], argTypes := #[57, 9] })
    (v : Value) (l : List UInt8) (hs : a.eval sl = v) (hown : Row8 w v l) (s : ByteArray) (hx : a.eval x = .string s) (hlen : l.length + s.size ≤ 140737488355328)
    (h : ∀ v' w', Hid (Row8 w' v' (l ++ s.data.toList)) → Hid (w.grownBy w' v.ownBlock) → Hid (∀ k, v'.ownBlock = some k → v.ownBlock = some k ∨ w.heap.size ≤ k) → wpList Tryz.prog ops Q rest (a.put o.dst v') w') : wpList Tryz.prog ops Q (o :: rest) a w := by
  refine wpList_plain hgd fun K hK => ?_
  obtain ⟨v', w', hr, h2, h3, h4⟩ := run_append_text w o.type v l hown s hlen
  unfold Oper.wp execOp
  simp only [ho, resolve, invoke, builtin, Sem.run_bind, Sem.run_pure, Result.andThen_ok, List.map_toArray, List.map_cons, List.map_nil, hs, hx, hr]
  exact hK _ _ (h v' w' (Lib.hid h2) (Lib.hid h3) (Lib.hid h4))
theorem Work.text {w0 W w1 : World} {F : List Nat} {s : ByteArray} {vb vo v' : Value} {most a : Nat} {out c : List UInt8} {e : Int} (h : Work w0 W F s vb vo most ⟨a, out, e⟩) (hr : Row8 w1 v' (out ++ c)) (hg : W.grownBy w1 vo.ownBlock) (hv : ∀ k, v'.ownBlock = some k → vo.ownBlock = some k ∨ W.heap.size ≤ k) :
    StCell w1 w0.heap.size s vb vo most ⟨a, out, e⟩ ∧ Work w0 (w1.setCell ⟨w0.heap.size, 3, none⟩ v') F s vb v' most ⟨a, out ++ c, e⟩ := by
  have e' : ∀ k, k < W.heap.size → (∀ j, vo.ownBlock = some j → j ≠ k) → w1.heap[k]? = W.heap[k]? := fun k hk hn => hg.block k hk (fun e => hn k e.symm rfl)
  have s1 : StCell w1 w0.heap.size s vb vo most ⟨a, out, e⟩ := (e' _ h.1.lt fun j hj => (h.2.2.2.2 j hj).1).trans h.1
  have s2 : StCell w1 (w0.heap.size + 1) ⟨#[]⟩ (.slice none 0 0) (.slice none 0 0) 0 ⟨0, [], 0⟩ := (e' _ h.2.1.lt fun j hj => (h.2.2.2.2 j hj).2).trans h.2.1
  have l1 := h.1.lt
  have l2 := h.2.1.lt
  have hne : ∀ k, v'.ownBlock = some k → k ≠ w0.heap.size ∧ k ≠ w0.heap.size + 1 := fun k hk => by
    rcases hv k hk with h1 | h1
    · exact h.2.2.2.2 k h1
    · omega
  refine ⟨s1, s1.putOut v' (out ++ c), (heap_setCell_other _ _ _ _ (by simp)).trans s2, hr.move fun k hk => heap_setCell_other _ ⟨w0.heap.size, 3, none⟩ k _ (hne k hk).1, ?_, hne⟩
  have h1 := h.2.2.2.1.grown (F'' := v'.ownBlock.toList) hg (fun k hk => by simp [hk]) (fun k hk => by
    rcases hv k (by simpa using hk) with e | e
    · exact .inl (by simp [e])
    · exact .inr (by omega))
  exact ⟨h1.1, h1.2.1, h1.2.2.1, by have := h1.size; simp [World.setCell]; exact this, fun k hk hF => (heap_setCell_other _ ⟨w0.heap.size, 3, none⟩ k _ (by simp; omega)).trans (h1.2.2.2.2.1 k hk hF), h1.2.2.2.2.2⟩
def storedS (l : List UInt8) (M : Nat) (x : St) : St :=
  let a := bitsS l ⟨wholeN x.at', x.out, x.code⟩ 16
  let b := bitsS l a.1 16
  let c := failS b.1 (decide (a.2 + b.2 ≠ 65535)) 4
  if c.code ≠ 0 then c else
  let t := bytesB l c.at' (a.2 : Int)
  failS ⟨t.2.1, c.out ++ t.1, t.2.2⟩ (decide (M < c.out.length + t.1.length)) 7
theorem whole_whole (p : Nat) : wholeN (wholeN p + 32) = wholeN p + 32 ∧ ∃ q, wholeN p + 32 = 8 * q := ⟨by unfold wholeN; omega, wholeN p / 8 + 4, by unfold wholeN; omega⟩
theorem storedS_tells {l : List UInt8} {M : Nat} {x : St} (hx : x.code = 0) : Tells (storedS l M x) (storedP M x.out l x.at') := by
  unfold storedP storedS
  simp only
  rw [pbind_of (show alignP l x.at' = .ok ((), wholeN x.at') from rfl)]
  rcases bitsS_ok (l := l) (x := ⟨wholeN x.at', x.out, x.code⟩) (w := 16) hx (by omega) with ⟨n, h1, h2⟩ | ⟨h1, h2, _, _⟩
  · rw [pbind_of h1, h2]
    simp only
    rcases bitsS_ok (l := l) (x := ⟨wholeN x.at' + 16, x.out, 0⟩) (w := 16) rfl (by omega) with ⟨m, g1, g2⟩ | ⟨g1, g2, _, _⟩
    · rw [pbind_of g1, g2]
      simp only
      by_cases hf : n + m ≠ 65535
      · rw [decide_eq_true hf, pbind_err pfail_true, failS_yes rfl]
        exact ⟨rfl, by decide⟩
      · rw [decide_eq_false hf, pbind_of pfail_false, failS_no]
        simp only [ne_eq, not_true, if_false]
        obtain ⟨w1, q, w2⟩ := whole_whole x.at'
        have hat : wholeN x.at' + 16 + 16 = 8 * q := by omega
        have hw : wholeN (8 * q) = 8 * q := by unfold wholeN; omega
        rw [hat]
        by_cases hb : 8 * q + 8 * n ≤ 8 * l.length
        · have hbb : bytesB l (8 * q) (n : Int) = ((l.drop q).take n, 8 * (q + n), 0) := by
            unfold bytesB
            rw [if_neg (by omega), hw, if_neg (by omega), Int.toNat_natCast, show 8 * q / 8 = q by omega]
          have hbp : bytesP n l (8 * q) = .ok ((l.drop q).take n, 8 * q + 8 * n) := by unfold bytesP; rw [if_pos hb, bytesP_whole]
          rw [pbind_of hbp, hbb]
          simp only
          by_cases hM : M < x.out.length + ((l.drop q).take n).length
          · rw [decide_eq_true hM, pbind_err pfail_true, failS_yes rfl]
            exact ⟨rfl, by decide⟩
          · rw [decide_eq_false hM, pbind_of pfail_false, failS_no]
            exact ⟨rfl, rfl, by show 8 * (q + n) = _; omega⟩
        · have hbb : bytesB l (8 * q) (n : Int) = ([], 8 * q, 5) := by
            unfold bytesB
            rw [if_neg (by omega), hw, if_pos (by omega)]
          have hbp : bytesP n l (8 * q) = .error 5 := by unfold bytesP; rw [if_neg hb]
          rw [pbind_err hbp, hbb, failS_bad (show (5 : Int) ≠ 0 by decide)]
          exact ⟨rfl, by decide⟩
    · rw [pbind_err g1]
      have hne : (bitsS l ⟨wholeN x.at' + 16, x.out, 0⟩ 16).1.code ≠ 0 := by rw [g2]; decide
      rw [failS_bad hne, if_pos hne]
      exact ⟨g2, by decide⟩
  · rw [pbind_err h1]
    have hne : (bitsS l ⟨wholeN x.at', x.out, x.code⟩ 16).1.code ≠ 0 := by rw [h2]; decide
    rw [bitsS_bad hne]
    simp only
    rw [failS_bad hne, if_pos hne]
    exact ⟨h2, by decide⟩
end
end Go.Proofs.YtnelbahohkjcnaaGreatDoor
/-
  The contract of the document's stored.
-/
namespace Go.Proofs.YtnelbahohkjcnaaGreatDoor
section
open Go.RowKit
theorem Work.done2 {w0 W w1 : World} {F : List Nat} {s : ByteArray} {vb vo : Value} {most : Nat} {y z : St} (h : Work w0 W F s vb vo most y) (hz : z.out = y.out) (ho1 : vo.oneCell' = true) (hb : Below w0.heap.size W w1) (ho : ∀ k, k ≠ w0.heap.size + 1 → w1.heap[k]? = W.heap[k]?) : Handed10 w0 F s vb most z (.returned (.agg (stV s vb vo most z))) w1 := by
  refine ⟨vo, rfl, ho1, ?_, ?_⟩
  · rw [hz]; exact h.2.2.1.move fun k hk => ho k (h.2.2.2.2 k hk).2
  · exact ⟨hb.os.trans h.2.2.2.1.1, hb.tape.trans h.2.2.2.1.2.1, hb.output.trans h.2.2.2.1.2.2.1, Nat.le_trans h.2.2.2.1.size hb.size, fun k hk hF => (hb.block k hk).trans (h.2.2.2.1.2.2.2.2.1 k hk hF), h.2.2.2.1.2.2.2.2.2⟩
set_option maxRecDepth 100000 in
set_option maxHeartbeats 2000000 in
theorem rStored_any (s : ByteArray) (vb vo : Value) (most : Nat) (x : St) (w : World) (hb1 : vb.oneCell' = true) (ho1 : vo.oneCell' = true) (hp : x.at' ≤ 8 * s.size) (hs : s.size ≤ 100000) (hol : x.out.length ≤ 1000000) (hrow : Row8 w vo x.out) :
    Calls Tryz.prog 98 #[.agg (stV s vb vo most x)] w (Handed10 w vo.ownBlock.toList s vb most (storedS s.data.toList most x)) := by
  have hsz : s.data.toList.length = s.size := by rw [← size_data]
  have Hsz := Lib.hid hsz
  have HWk := Lib.hid (Work.begun (s := s) (vb := vb) (most := most) hrow)
  obtain ⟨W, hW, H1, H2, HB⟩ := boxes_is w s vb vo most x
  rw [hW] at HWk
  unfold boxes at hW
  obtain ⟨pw, hpw⟩ : ∃ pw, wholeN x.at' = pw := ⟨_, rfl⟩
  have hpw8 : pw ≤ 8 * s.size := by rw [← hpw]; unfold wholeN; omega
  have HWh := Lib.hid (fun W => rWhole_any x.at' W (by omega))
  rw [hpw] at HWh
  obtain ⟨Post, hPost⟩ : ∃ Post, Handed10 w vo.ownBlock.toList s vb most (storedS s.data.toList most x) = Post := ⟨_, rfl⟩
  rw [hPost]
  have HPost := Lib.hid hPost
  obtain ⟨x0, hx0⟩ : ∃ x0 : St, (⟨pw, x.out, x.code⟩ : St) = x0 := ⟨_, rfl⟩
  have hx0a : x0.at' = pw ∧ x0.out = x.out := by rw [← hx0]; exact ⟨rfl, rfl⟩
  obtain ⟨xa, na, ha⟩ : ∃ xa na, bitsS s.data.toList x0 16 = (xa, na) := ⟨_, _, rfl⟩
  have fa := bitsS_facts (l := s.data.toList) (x := x0) (k := 16) (by omega) (by rw [Hsz.out, hx0a.1]; exact hpw8)
  rw [ha, Hsz.out] at fa
  obtain ⟨fa1, fa2, fa3⟩ := fa
  simp only at fa1 fa2 fa3
  obtain ⟨xb, nb, hb⟩ : ∃ xb nb, bitsS s.data.toList xa 16 = (xb, nb) := ⟨_, _, rfl⟩
  have fb := bitsS_facts (l := s.data.toList) (x := xa) (k := 16) (by omega) (by rw [Hsz.out]; exact fa1)
  rw [hb, Hsz.out] at fb
  obtain ⟨fb1, fb2, fb3⟩ := fb
  simp only at fb1 fb2 fb3
  obtain ⟨bd, hbd⟩ : ∃ bd, decide (na + nb ≠ 65535) = bd := ⟨_, rfl⟩
  have hbz : (((na : Int) + (nb : Int)) != 65535) = bd := by
    rw [← hbd]
    by_cases h : na + nb = 65535
    · rw [decide_eq_false (by omega), bne_eq_false_iff_eq]; omega
    · rw [decide_eq_true (by omega), bne_iff_ne]; omega
  obtain ⟨xc, hxc⟩ : ∃ xc, failS xb bd 4 = xc := ⟨_, rfl⟩
  have fc := failS_facts xb bd 4
  rw [hxc] at fc
  have Hba := Lib.hid (fun W => rBitsS_any s vb vo most x0 16 W hb1 ho1 (by omega) (by rw [hx0a.1]; exact hpw8) (by omega))
  have Hbb := Lib.hid (fun W => rBitsS_any s vb vo most xa 16 W hb1 ho1 (by omega) fa1 (by omega))
  have Hf := Lib.hid (fun W => rFail_any s vb vo most xb bd 4 W hb1 ho1)
  rw [ha] at Hba
  rw [hb] at Hbb
  rw [hxc] at Hf
  have hpart : storedS s.data.toList most x = if xc.code ≠ 0 then xc else
      failS ⟨(bytesB s.data.toList xc.at' (na : Int)).2.1, xc.out ++ (bytesB s.data.toList xc.at' (na : Int)).1, (bytesB s.data.toList xc.at' (na : Int)).2.2⟩ (decide (most < xc.out.length + (bytesB s.data.toList xc.at' (na : Int)).1.length)) 7 := by
    unfold storedS
    simp only
    rw [hpw, hx0, ha]
    simp only
    rw [hb]
    simp only
    rw [hbd, hxc]
  have k2 := H1.out.at'
  have f2 := H1.out.free 2
  have C0 : Hid (StCell (W.setCell ⟨w.heap.size, 2, none⟩ (.int .i64 (pw : Int))) w.heap.size s vb vo most x0) := Lib.hid (by rw [← hx0]; exact H1.out.putAt pw)
  have HW0 : Hid (Work w (W.setCell ⟨w.heap.size, 2, none⟩ (.int .i64 (pw : Int))) vo.ownBlock.toList s vb vo most x0) := Lib.hid (HWk.out.store hx0a.2 C0.out ((Below.refl _ _).setCell (by simp) _) (fun k hk => heap_setCell_other _ ⟨w.heap.size, 2, none⟩ k _ hk))
  have Hpart := Lib.hid hpart
  have Fc := Lib.hid fc
  have F2 := Lib.hid (show x0.out = x.out ∧ xa.out = x0.out ∧ xb.out = xa.out from ⟨hx0a.2, fa2, fb2⟩)
  clear hsz hPost hpw hx0 hx0a ha hb hbd hxc fa2 fb2 fc hpart hrow hp
  go_enter Tryz.func98, Tryz.ntmps98
  go_wp2_with fail
  refine (HWh.out _).mono ?_
  rintro e w1 ⟨rfl, rfl⟩
  go_wp2_with (with_reducible first
    | refine StCell.load rfl (.tmp 1) rfl w.heap.size _ _ _ _ _ rfl C0.out ?_)
  refine (Hba.out _).mono ?_
  rintro e w2 ⟨rfl, hbw⟩
  have HW2 := Lib.hid (HW0.out.call hbw)
  have C2 := Lib.hid HW2.out.1
  clear hbw
  go_wp2_with (with_reducible first
    | (refine StCell.store rfl rfl (.tmp 1) (.tmp 15) rfl w.heap.size _ _ _ _ _ _ _ _ _ _ hb1 ho1 rfl rfl C2.out w.heap.size w2 (Below.refl _ _) (Nat.le_refl _) ?_; intro w3 Hs3 Hb3 Ho3)
    | refine StCell.load rfl (.tmp 1) rfl w.heap.size _ _ _ _ _ rfl Hs3.out ?_)
  refine (Hbb.out _).mono ?_
  rintro e w4 ⟨rfl, hbw⟩
  have HW3 := Lib.hid (HW2.out.store F2.out.2.1 Hs3.out Hb3.out Ho3.out)
  have HW4 := Lib.hid (HW3.out.call hbw)
  have C4 := Lib.hid HW4.out.1
  clear hbw
  go_wp2_with (with_reducible first
    | (refine StCell.store rfl rfl (.tmp 1) (.tmp 20) rfl w.heap.size _ _ _ _ _ _ _ _ _ _ hb1 ho1 rfl rfl C4.out w.heap.size w4 (Below.refl _ _) (Nat.le_refl _) ?_; intro w5 Hs5 Hb5 Ho5)
    | refine StCell.load rfl (.tmp 1) rfl w.heap.size _ _ _ _ _ rfl Hs5.out ?_)
  refine (Hf.out _).mono ?_
  rintro e w6 ⟨rfl, hbw⟩
  have HW5 := Lib.hid (HW4.out.store F2.out.2.2 Hs5.out Hb5.out Ho5.out)
  have HW6 := Lib.hid (HW5.out.call hbw)
  have C6 := Lib.hid HW6.out.1
  clear hbw
  go_upto_region 5 with (with_reducible first
    | (refine StCell.store rfl rfl (.tmp 1) (.tmp 27) rfl w.heap.size _ _ _ _ _ _ _ _ _ _ hb1 ho1 rfl rfl C6.out w.heap.size w6 (Below.refl _ _) (Nat.le_refl _) ?_; intro w7 Hs7 Hb7 Ho7))
  have HW7 := Lib.hid (HW6.out.store Fc.out.2 Hs7.out Hb7.out Ho7.out)
  have C7 := Lib.hid HW7.out.1
  have D7 := Lib.hid HW7.out.2.1
  have k5 := C7.out.code
  by_cases hc0 : xc.code = 0
  · have hcz : (xc.code != 0) = false := by simpa using hc0
    have hxo : xc.out = x.out := by rw [Fc.out.2, F2.out.2.2, F2.out.2.1, F2.out.1]
    have hcat : xc.at' ≤ 8 * s.size := by rw [Fc.out.1]; exact fb1
    obtain ⟨u, tt, e0, hB⟩ : ∃ (u : ByteArray) (tt : Nat) (e0 : Int), bytesB s.data.toList xc.at' (na : Int) = (u.data.toList, tt, e0) := ⟨bytes (bytesB s.data.toList xc.at' (na : Int)).1, _, _, by rw [bytes_data]⟩
    have hu : u.size ≤ s.size := by
      have h1 := congrArg (fun z => z.1.length) hB
      simp only at h1
      have h3 : u.data.toList.length = u.size := by rw [← size_data]
      rw [← h3, ← h1]
      have h2 := Hsz.out
      unfold bytesB
      split
      · exact Nat.zero_le _
      · split
        · exact Nat.zero_le _
        · rw [List.length_take, List.length_drop]; omega
    have Hg := Lib.hid (fun W => rBytesB_is s xc.at' (na : Int) W hcat (by omega) (by omega) (by omega) hB)
    have Hr : Hid (storedS s.data.toList most x = failS ⟨tt, xc.out ++ u.data.toList, e0⟩ (decide (most < (xc.out ++ u.data.toList).length)) 7) := Lib.hid (by
      rw [Hpart.out, if_neg (by simp [hc0]), hB, List.length_append])
    have hlen : xc.out.length + u.size ≤ 140737488355328 := by rw [hxo]; omega
    have k0 := C7.out.text
    have k2' := C7.out.at'
    have f2' := C7.out.free 2
    have f5' := C7.out.free 5
    have C9 := Lib.hid ((C7.out.putAt tt).putCode e0)
    have B9 : Hid (Below w.heap.size w7 ((w7.setCell ⟨w.heap.size, 2, none⟩ (.int .i64 (tt : Int))).setCell ⟨w.heap.size, 5, none⟩ (.int .i64 e0))) := Lib.hid (((Below.refl _ _).setCell (by simp) _).setCell (by simp) _)
    have HW9 : Hid (Work w ((w7.setCell ⟨w.heap.size, 2, none⟩ (.int .i64 (tt : Int))).setCell ⟨w.heap.size, 5, none⟩ (.int .i64 e0)) vo.ownBlock.toList s vb vo most ⟨tt, xc.out, e0⟩) := Lib.hid (HW7.out.store rfl C9.out B9.out (fun k hk => (heap_setCell_other _ ⟨w.heap.size, 5, none⟩ k _ hk).trans (heap_setCell_other _ ⟨w.heap.size, 2, none⟩ k _ hk)))
    clear hc0 hB hxo Hbb Hba Hf HWh k2 f2 hcat
    go_wp2_with fail
    refine (Hg.out _).mono ?_
    rintro e w8 ⟨rfl, rfl⟩
    go_upto_region 9 with fail
    obtain ⟨W9, hW9⟩ : ∃ W9, ((w7.setCell ⟨w.heap.size, 2, none⟩ (.int .i64 (tt : Int))).setCell ⟨w.heap.size, 5, none⟩ (.int .i64 e0)) = W9 := ⟨_, rfl⟩
    rw [hW9] at C9 HW9 B9
    rw [hW9]
    have k3 := C9.out.out
    clear k5 k0 k2' f2' f5' Hg hW9
    obtain ⟨b, hbn⟩ : ∃ b, decide (most < (xc.out ++ u.data.toList).length) = b := ⟨_, rfl⟩
    have hbz : decide ((most : Int) < (((xc.out ++ u.data.toList).length : Nat) : Int)) = b := by rw [← hbn, decide_eq_decide]; omega
    rw [hbn] at Hr
    obtain ⟨ln, hln⟩ : ∃ ln, (xc.out ++ u.data.toList).length = ln := ⟨_, rfl⟩
    have hbz' : decide (most < (xc.out ++ u.data.toList).length) = b := hbn
    rw [hln] at hbz hbz'
    clear hbn
    have R9 := Lib.hid HW9.out.2.2.1
    go_upto_region 10 with (with_reducible first
      | (refine wpList_append_text rfl (.tmp 47) (.tmp 48) rfl vo xc.out rfl R9.out u rfl hlen ?_; intro v' w10 hr hg hv; have hf := hr.out.form; rw [hln] at hf; obtain ⟨ad, cap, rfl⟩ := hf; have HT := Lib.hid (Work.text HW9.out hr.out hg.out hv.out); have f3 := HT.out.1.free 3; have k39 := HT.out.1.out))
    have HW11 := Lib.hid HT.out.2
    clear k3 f3 k39
    obtain ⟨W11, hW11⟩ : ∃ W11, (w10.setCell ⟨w.heap.size, 3, none⟩ (.slice ad ln cap)) = W11 := ⟨_, rfl⟩
    rw [hW11] at HW11
    rw [hW11]
    have C11 := Lib.hid HW11.out.1
    have k3 := C11.out.out
    have k4 := C11.out.most
    have Hf := Lib.hid (fun W => rFail_any s vb (.slice ad ln cap) most ⟨tt, xc.out ++ u.data.toList, e0⟩ b 7 W hb1 rfl)
    obtain ⟨xe, hxe⟩ : ∃ xe, failS ⟨tt, xc.out ++ u.data.toList, e0⟩ b 7 = xe := ⟨_, rfl⟩
    have fe := failS_facts ⟨tt, xc.out ++ u.data.toList, e0⟩ b 7
    rw [hxe] at Hf Hr fe
    have Fe := Lib.hid fe
    clear hW11 hxe fe
    go_wp2_with (with_reducible first
      | refine StCell.load rfl (.tmp 1) rfl w.heap.size _ _ _ _ _ rfl C11.out ?_)
    refine (Hf.out _).mono ?_
    rintro e w12 ⟨rfl, hbw⟩
    have HW12 := Lib.hid (HW11.out.call hbw)
    have D12 := Lib.hid HW12.out.2.1
    clear hbw
    go_wp2_with (with_reducible first
      | (refine StCell.store rfl rfl (.tmp 2) (.tmp 58) rfl (w.heap.size + 1) _ _ _ _ _ _ _ _ _ _ hb1 rfl rfl rfl D12.out w.heap.size w12 (Below.refl _ _) (by omega) ?_; intro w13 Hs13 Hb13 Ho13))
    exact bodyPost_ret (results_st rfl _ _ (w.heap.size + 1) _ _ _ _ _ rfl Hs13.out) rfl (by rw [← HPost.out, Hr.out]; exact HW12.out.done2 Fe.out.2 rfl Hb13.out Ho13.out)
  · have hcz : (xc.code != 0) = true := by simpa using hc0
    have Hr : Hid (storedS s.data.toList most x = xc) := Lib.hid (by rw [Hpart.out, if_pos hc0])
    clear hc0 Hbb Hba Hf HWh
    go_wp2_with (with_reducible first
      | refine StCell.load rfl (.tmp 1) rfl w.heap.size _ _ _ _ _ rfl C7.out ?_
      | (refine StCell.store rfl rfl (.tmp 2) (.tmp 31) rfl (w.heap.size + 1) _ _ _ _ _ _ _ _ _ _ hb1 ho1 rfl rfl D7.out w.heap.size w7 (Below.refl _ _) (by omega) ?_; intro w9 Hs9 Hb9 Ho9))
    exact bodyPost_ret (results_st rfl _ _ (w.heap.size + 1) _ _ _ _ _ rfl Hs9.out) rfl (by rw [← HPost.out, Hr.out]; exact HW7.out.done ho1 Hb9.out Ho9.out)
end
end Go.Proofs.YtnelbahohkjcnaaGreatDoor
/-
  The contracts of the document's lengths of fixed codes, of their order, and of what distances may be.
-/
namespace Go.Proofs.YtnelbahohkjcnaaGreatDoor
section
open Go.RowKit
theorem fixed_at : ∀ k : Fin 288, fixedLit[k.val]? = some (if k.val < 144 then 8 else if k.val < 256 then 9 else if k.val < 280 then 7 else 8) := by decide +kernel
theorem fixed_take {k : Nat} (h : k < 288) : fixedLit.take (k + 1) = fixedLit.take k ++ [if k < 144 then 8 else if k < 256 then 9 else if k < 280 then 7 else 8] := by
  rw [List.take_add_one, fixed_at ⟨k, h⟩]; rfl
theorem dist_at : ∀ k : Fin 32, fixedDist[k.val]? = some 5 := by decide +kernel
theorem dist_take {k : Nat} (h : k < 32) : fixedDist.take (k + 1) = fixedDist.take k ++ [5] := by
  rw [List.take_add_one, dist_at ⟨k, h⟩]; rfl
theorem fixedLit_length : fixedLit.length = 288 := by decide +kernel
theorem fixedDist_length : fixedDist.length = 32 := by decide +kernel
theorem BitsAt.nums {w : World} {g : Nat} {row : List Nat} (h : BitsAt w g row) : Nums w (some ⟨g, 0, none⟩) (asZ row) := by
  refine .inr ⟨g, 0, rfl, fun i hi => ?_⟩
  have hi' : i < row.length := by rwa [asZ_length] at hi
  rw [Nat.zero_add, h.2 i hi', asZ_getD row hi']
def Rows2 (w : World) (r1 r2 : List Nat) (en : Ending) (w' : World) : Prop :=
  ∃ g1 c1 g2 c2, en = .returned (.tuple #[.slice (some ⟨g1, 0, none⟩) r1.length c1, .slice (some ⟨g2, 0, none⟩) r2.length c2]) ∧ BitsAt w' g1 r1 ∧ BitsAt w' g2 r2 ∧ Below w.heap.size w w' ∧ w.heap.size ≤ g1 ∧ w.heap.size ≤ g2
theorem Own64.rows2 {w w' : World} {v1 v2 : Value} {r1 r2 : List Nat} {B : Nat} (h1 : Own64 w' w.heap.size v1 (asZ r1)) (h2 : Own64 w' B v2 (asZ r2)) (hB : w.heap.size ≤ B) (hb : Below w.heap.size w w') : Rows2 w r1 r2 (.returned (.tuple #[v1, v2])) w' := by
  obtain ⟨g1, c1, rfl, hB1, hr1⟩ := h1.bits
  obtain ⟨g2, c2, rfl, hB2, hr2⟩ := h2.bits
  exact ⟨g1, c1, g2, c2, rfl, hr1, hr2, hb, hB1, Nat.le_trans hB hB2⟩
set_option maxHeartbeats 1000000 in
theorem rFixed_any (w : World) : Calls Tryz.prog 82 #[] w (Rows2 w fixedLit fixedDist) := by
  go_enter Tryz.func82, Tryz.ntmps82
  go_wp2_with fail
  go_loopg [2, 3, 4] 288 (fun g s2 s3 s4 wx => ∃ k : Nat, k + g = 288 ∧ s3 = .int .i64 k ∧ Aside (Own64 wx w.heap.size s2 (asZ (fixedLit.take k))) ∧ Below w.heap.size w wx)
  case atStart => exact ⟨0, by omega, rfl, Own64.made w 0 #[] (Nat.le_refl _) (by decide) rfl, (Below.refl _ w).alloc (Nat.le_refl _) _⟩
  case round =>
    obtain ⟨k, hkg, rfl, HO, hb⟩ := hrel
    have Hb := Lib.hid hb
    clear hb
    cases gk with
    | zero =>
      obtain rfl : k = 288 := by omega
      rw [List.take_of_length_le (show fixedLit.length ≤ 288 by rw [fixedLit_length]; exact Nat.le_refl _)] at HO
      clear hkg
      obtain ⟨W1, rfl⟩ : ∃ W1, W1 = wr := ⟨_, rfl⟩
      go_wp2_with fail
      go_loopg [5, 6] 32 (fun g s5 s6 wx => ∃ k : Nat, k + g = 32 ∧ s6 = .int .i64 k ∧ Aside (Own64 wx W1.heap.size s5 (asZ (fixedDist.take k))) ∧ Below W1.heap.size W1 wx)
      case atStart => exact ⟨0, by omega, rfl, Own64.made W1 0 #[] (Nat.le_refl _) (by decide) rfl, (Below.refl _ W1).alloc (Nat.le_refl _) _⟩
      case round =>
        obtain ⟨k, hkg, rfl, HO5, hb5⟩ := hrel
        have Hb5 := Lib.hid hb5
        clear hb5
        cases gk with
        | zero =>
          obtain rfl : k = 32 := by omega
          rw [List.take_of_length_le (show fixedDist.length ≤ 32 by rw [fixedDist_length]; exact Nat.le_refl _)] at HO5
          go_wp2_with fail
          refine bodyPost_ret (by simp [results, Tryz.results82, go_sem]; rfl) rfl ?_
          exact Own64.rows2 (HO.out.later Hb5.out) HO5.out Hb.out.size (Hb.out.trans (Hb5.out.mono Hb.out.size))
        | succ g =>
          have hkz : (k : Int) < 32 := by omega
          have Hn := Lib.hid (dist_take (k := k) (by omega))
          have hlen : Hid ((asZ (fixedDist.take k)).length ≤ 32) := Lib.hid (by rw [asZ_length, List.length_take]; omega)
          go_wp2_with (at_builtin; refine wpList_append64 rfl (.tmp 33) (.tmp 34) rfl W1.heap.size _ (asZ (fixedDist.take k)) rfl (HO5.out.alloc _) ⟨wr.heap.size, 0, none⟩ 1 [5] rfl (cells_newZ _ _) (by simp) (by simp; have := hlen.out; omega) W1 (Hb5.out.alloc Hb5.out.size _) (by have := Hb5.out.size; simp; omega) ?_; intro v3 w3 Ho3 Hb3 _)
          go_roundg g
          case measure => omega
          case rel => exact ⟨k + 1, by omega, by go_num, by show Own64 _ _ _ _; rw [Hn.out, asZ_snoc]; exact Ho3.out, Hb3.out⟩
    | succ g =>
      have hkz : (k : Int) < 288 := by omega
      have Hn := Lib.hid (fixed_take (k := k) (by omega))
      have hlen : Hid ((asZ (fixedLit.take k)).length ≤ 288) := Lib.hid (by rw [asZ_length, List.length_take]; omega)
      have hcase : k < 144 ∨ (144 ≤ k ∧ k < 256) ∨ (256 ≤ k ∧ k < 280) ∨ 280 ≤ k := by omega
      rcases hcase with h | ⟨h, h'⟩ | ⟨h, h'⟩ | h
      · have hr : Hid (fixedLit.take (k + 1) = fixedLit.take k ++ [8]) := Lib.hid (by rw [Hn.out, if_pos h])
        have h1 : ¬ (144 : Int) ≤ (k : Int) := by omega
        have h2 : ¬ (256 : Int) ≤ (k : Int) := by omega
        clear h Hn
        go_wp2_with (at_builtin; refine wpList_append64 rfl (.tmp 24) (.tmp 26) rfl w.heap.size _ (asZ (fixedLit.take k)) rfl (HO.out.alloc _) ⟨wr.heap.size, 0, none⟩ 1 [8] rfl (cells_newZ _ _) (by simp) (by simp; have := hlen.out; omega) w (Hb.out.alloc Hb.out.size _) (by have := Hb.out.size; simp; omega) ?_; intro v3 w3 Ho3 Hb3 _)
        go_roundg g
        case measure => omega
        case rel => exact ⟨k + 1, by omega, by go_num, by show Own64 _ _ _ _; rw [hr.out, asZ_snoc]; exact Ho3.out, Hb3.out⟩
      · have hr : Hid (fixedLit.take (k + 1) = fixedLit.take k ++ [9]) := Lib.hid (by rw [Hn.out, if_neg (by omega), if_pos h'])
        have h1 : (144 : Int) ≤ (k : Int) := by omega
        have h2 : ¬ (256 : Int) ≤ (k : Int) := by omega
        have h3 : (k : Int) < 256 := by omega
        clear h h' Hn
        go_wp2_with (at_builtin; refine wpList_append64 rfl (.tmp 24) (.tmp 26) rfl w.heap.size _ (asZ (fixedLit.take k)) rfl (HO.out.alloc _) ⟨wr.heap.size, 0, none⟩ 1 [9] rfl (cells_newZ _ _) (by simp) (by simp; have := hlen.out; omega) w (Hb.out.alloc Hb.out.size _) (by have := Hb.out.size; simp; omega) ?_; intro v3 w3 Ho3 Hb3 _)
        go_roundg g
        case measure => omega
        case rel => exact ⟨k + 1, by omega, by go_num, by show Own64 _ _ _ _; rw [hr.out, asZ_snoc]; exact Ho3.out, Hb3.out⟩
      · have hr : Hid (fixedLit.take (k + 1) = fixedLit.take k ++ [7]) := Lib.hid (by rw [Hn.out, if_neg (by omega), if_neg (by omega), if_pos h'])
        have h1 : (144 : Int) ≤ (k : Int) := by omega
        have h2 : (256 : Int) ≤ (k : Int) := by omega
        have h3 : ¬ (k : Int) < 256 := by omega
        have h4 : (k : Int) < 280 := by omega
        clear h h' Hn
        go_wp2_with (at_builtin; refine wpList_append64 rfl (.tmp 24) (.tmp 26) rfl w.heap.size _ (asZ (fixedLit.take k)) rfl (HO.out.alloc _) ⟨wr.heap.size, 0, none⟩ 1 [7] rfl (cells_newZ _ _) (by simp) (by simp; have := hlen.out; omega) w (Hb.out.alloc Hb.out.size _) (by have := Hb.out.size; simp; omega) ?_; intro v3 w3 Ho3 Hb3 _)
        go_roundg g
        case measure => omega
        case rel => exact ⟨k + 1, by omega, by go_num, by show Own64 _ _ _ _; rw [hr.out, asZ_snoc]; exact Ho3.out, Hb3.out⟩
      · have hr : Hid (fixedLit.take (k + 1) = fixedLit.take k ++ [8]) := Lib.hid (by rw [Hn.out, if_neg (by omega), if_neg (by omega), if_neg (by omega)])
        have h1 : (144 : Int) ≤ (k : Int) := by omega
        have h2 : (256 : Int) ≤ (k : Int) := by omega
        have h3 : ¬ (k : Int) < 256 := by omega
        have h4 : ¬ (k : Int) < 280 := by omega
        clear h Hn
        go_wp2_with (at_builtin; refine wpList_append64 rfl (.tmp 24) (.tmp 26) rfl w.heap.size _ (asZ (fixedLit.take k)) rfl (HO.out.alloc _) ⟨wr.heap.size, 0, none⟩ 1 [8] rfl (cells_newZ _ _) (by simp) (by simp; have := hlen.out; omega) w (Hb.out.alloc Hb.out.size _) (by have := Hb.out.size; simp; omega) ?_; intro v3 w3 Ho3 Hb3 _)
        go_roundg g
        case measure => omega
        case rel => exact ⟨k + 1, by omega, by go_num, by show Own64 _ _ _ _; rw [hr.out, asZ_snoc]; exact Ho3.out, Hb3.out⟩
set_option maxHeartbeats 1000000 in
theorem rOrder_any (w : World) : Calls Tryz.prog 155 #[] w (RowNew w orderL) := by
  go_enter Tryz.func155, Tryz.ntmps155
  go_wp2_with fail
  go_ret
  refine ⟨w.heap.size, 19, rfl, ⟨by simp, fun j hj => ?_⟩, (Below.refl _ w).alloc (Nat.le_refl _) _, Nat.le_refl _⟩
  have hj' : j < 19 := hj
  rw [World.cell?_alloc_new]
  have hc : j = 0 ∨ j = 1 ∨ j = 2 ∨ j = 3 ∨ j = 4 ∨ j = 5 ∨ j = 6 ∨ j = 7 ∨ j = 8 ∨ j = 9 ∨ j = 10 ∨ j = 11 ∨ j = 12 ∨ j = 13 ∨ j = 14 ∨ j = 15 ∨ j = 16 ∨ j = 17 ∨ j = 18 := by omega
  rcases hc with rfl | rfl | rfl | rfl | rfl | rfl | rfl | rfl | rfl | rfl | rfl | rfl | rfl | rfl | rfl | rfl | rfl | rfl | rfl <;> rfl
set_option maxHeartbeats 1000000 in
theorem rFar_any (p : Option Addr) (cap n : Nat) (ns : List Nat) (w : World) (hz : ns.length ≤ 1000) (h15 : ∀ k ∈ ns, k ≤ 15) (hn : n = ns.length) (hp : Nums w p (intsOf ns)) :
    Calls Tryz.prog 129 #[.slice p n cap] w fun e w' => e = .returned (.bool (farB ns)) ∧ w = w' := by
  have hc := rCheck_any p cap (intsOf ns) w (by rw [intsOf_length]; omega) hp
  rw [intsOf_length, ← hn] at hc
  have Hc := Lib.hid hc
  obtain ⟨c, hcv⟩ : ∃ c, checkZ (intsOf ns) = c := ⟨_, rfl⟩
  rw [hcv] at Hc
  have Hp := Lib.hid hp
  have Hn := Lib.hid hn
  have H15 := Lib.hid h15
  have hr : farB ns = (c == 0 || c == 12 || (c == 5 && ns.sum == 1)) := by unfold farB; rw [hcv]
  clear hc hcv hp hn h15
  have hcase : (c = 0 ∨ c = 12) ∨ (c = 5 ∨ (c ≠ 0 ∧ c ≠ 12 ∧ c ≠ 5)) := by omega
  rcases hcase with hcase | hcase
  · rcases hcase with rfl | rfl
    all_goals
      have Hr : Hid (farB ns = true) := Lib.hid (by rw [hr]; rfl)
      clear hr
      go_enter Tryz.func129, Tryz.ntmps129
      go_wp2_with fail
      refine Hc.out.mono ?_
      rintro e w1 ⟨rfl, rfl⟩
      go_wp2_with fail
      go_ret
      exact ⟨by rw [Hr.out]; rfl, rfl⟩
  · have hcase : c = 5 ∨ ((c == 0) = false ∧ (c == 12) = false ∧ (c == 5) = false) := by
      rcases hcase with rfl | ⟨h0, h1, h2⟩
      · exact .inl rfl
      · exact .inr ⟨by simpa using h0, by simpa using h1, by simpa using h2⟩
    rcases hcase with rfl | ⟨z0, z12, z5⟩
    all_goals
      have Hr := Lib.hid hr
      clear hr
      go_enter Tryz.func129, Tryz.ntmps129
      go_wp2_with fail
      refine Hc.out.mono ?_
      rintro e w1 ⟨rfl, rfl⟩
      go_wp2_with fail
      go_loopg [4, 5] n (fun g s4 s5 wx => ∃ k z : Nat, k + g = n ∧ s5 = .int .i64 k ∧ s4 = .int .i64 z ∧ Aside (z = (ns.take k).sum) ∧ z ≤ 15 * k ∧ w = wx)
      case atStart => exact ⟨0, 0, by omega, rfl, rfl, rfl, by omega, rfl⟩
      case round =>
        obtain ⟨k, z, hkg, rfl, rfl, HZ, hz15, rfl⟩ := hrel
        have hn1000 : n ≤ 1000 := by rw [Hn.out]; exact hz
        cases gk with
        | zero =>
          obtain rfl : k = n := by omega
          obtain ⟨b, hb⟩ : ∃ b, (ns.sum == 1) = b := ⟨_, rfl⟩
          have hzs : Hid (z = ns.sum) := Lib.hid (by rw [HZ.out, List.take_of_length_le (by rw [Hn.out]; exact Nat.le_refl _)])
          have hbz : ((z : Int) == 1) = b := by
            rw [hzs.out, ← hb]
            by_cases h : ns.sum = 1
            · rw [h]; rfl
            · rw [beq_eq_false_iff_ne.2 h, beq_eq_false_iff_ne]; omega
          have Hb := Lib.hid hb
          clear hb
          go_wp2_with fail
          go_ret
          refine ⟨ret_bool ?_, rfl⟩
          rw [Hr.out, Hb.out]
          first
            | (rw [z0, z12, z5]; rfl)
            | (cases b <;> rfl)
        | succ g =>
          have hk : k < ns.length := by rw [← Hn.out]; omega
          have hkz : (k : Int) < (n : Int) := by omega
          obtain ⟨b, off, rfl, hc⟩ := Hp.out.at k (by rw [intsOf_length]; exact hk)
          have hv : (intsOf ns)[k]?.getD 0 = ((ns[k] : Nat) : Int) := asZ_getD ns hk
          obtain ⟨v, hvv⟩ : ∃ v, ns[k] = v := ⟨_, rfl⟩
          rw [hv, hvv] at hc
          have hv15 : v ≤ 15 := by rw [← hvv]; exact H15.out _ (List.getElem_mem hk)
          have Hnx : Hid (z + v = (ns.take (k + 1)).sum) := Lib.hid (by rw [List.take_add_one, List.getElem?_eq_getElem hk, hvv, HZ.out]; simp)
          clear hv hvv hk
          go_wp2_with fail
          go_roundg g
          case measure => omega
          case rel => exact ⟨k + 1, z + v, by omega, by go_num, by go_num, Hnx.out, by omega, rfl⟩
end
end Go.Proofs.YtnelbahohkjcnaaGreatDoor
