/-
  VLow, VShort, VSize, VFew: texts merged.
-/
import Derived.Test.YtejgcnmbngdkiaaGreatDoorNMem
/-
  The document's answers on how many, how deep, how long: Few.
-/
namespace Go.Proofs.YtejgcnmbngdkiaaGreatDoor
section
open Go.RowKit
set_option maxRecDepth 100000

set_option maxHeartbeats 4000000 in
theorem low_any (v : Val) : ∀ (x : Hv) (w : World) (S : Nat → Prop) (m : Int), Rd w S x v → (∀ k, S k → k < w.heap.size) → -1000 ≤ m → m ≤ 1000 →
    Calls Tryz.prog 14 #[.agg x.arr, .int .i64 m] w fun e w' => e = .returned (.bool (lowV v m)) ∧ Below w.heap.size w w' := by
  induction v using Val.ind with
  | h v ihl ihd =>
    intro x w S m hR hS hm1 hm2
    obtain ⟨hsc, hL, hD⟩ := rd_iff.1 hR
    clear hsc
    obtain ⟨k, n, g, s, ⟨lp, ll, lc⟩, ⟨dp, dl, dc⟩⟩ := x
    clear hR
    rw [lowV_eq]
    by_cases hm : m < 0
    · rw [decide_eq_true hm]
      show Calls Tryz.prog 14 #[.agg #[.int .i64 k, .int .i64 n, .int .i64 g, .string s, .slice lp ll lc, .slice dp dl dc], .int .i64 m] w _
      go_enter Tryz.func14, Tryz.ntmps14
      go_wp2
      go_ret
      exact ⟨rfl, (Below.refl _ w).alloc (Nat.le_refl _) _⟩
    · rw [decide_eq_false hm, Bool.not_false, Bool.true_and]
      obtain ⟨w1, hw1⟩ : ∃ w1, w.alloc (.cells #[.int .i64 k, .int .i64 n, .int .i64 g, .string s, .slice lp ll lc, .slice dp dl dc] 25) = w1 := ⟨_, rfl⟩
      have hb1 : Below w.heap.size w w1 := by rw [← hw1]; exact (Below.refl _ w).alloc (Nat.le_refl _) _
      have hc4 : w1.cell? ⟨w.heap.size, 4, none⟩ = some (.slice lp ll lc) := by rw [← hw1]; simp
      have hc5 : w1.cell? ⟨w.heap.size, 5, none⟩ = some (.slice dp dl dc) := by rw [← hw1]; simp
      have hlt : w.heap.size < w1.heap.size := by rw [← hw1]; simp
      have hL1 := hL.later (below_old hS hb1)
      have hD1 := hD.later (below_old hS hb1)
      have hS1 := old_later hS hb1
      show Calls Tryz.prog 14 #[.agg #[.int .i64 k, .int .i64 n, .int .i64 g, .string s, .slice lp ll lc, .slice dp dl dc], .int .i64 m] w _
      go_enter Tryz.func14, Tryz.ntmps14
      go_wp2
      clear hw1
      have HB0 : Aside (Below w1.heap.size w1 w1) := Below.refl _ _
      have Hb1 := Lib.hid hb1
      have HL1 := Lib.hid hL1
      have HD1 := Lib.hid hD1
      have HS1 := Lib.hid hS1
      have Hihl := Lib.hid ihl
      have Hihd := Lib.hid ihd
      obtain ⟨hll, hlm⟩ := hL.len_le
      obtain ⟨hdl, hdm⟩ := hD.len_le
      dsimp only at hll hlm hdl hdm
      unfold maxLen at hlm hdm
      have Hll := Lib.hid hll
      have Hdl := Lib.hid hdl
      clear hb1 hL1 hD1 hL hD hS hS1 ihl ihd hll hdl
      go_loopg [5] ll (fun f s5 wr => ∃ i : Nat, s5 = .int .i64 i ∧ i ≤ ll ∧ ll ≤ f + i ∧ Aside (lowL (v.l.drop i) (m - 1) = lowL v.l (m - 1)) ∧ Aside (Below w1.heap.size w1 wr))
      case atStart => exact ⟨0, rfl, Nat.zero_le _, Nat.le_refl _, rfl, HB0⟩
      case round =>
        obtain ⟨i, rfl, hi, hf, HI, HB⟩ := hrel
        have c4 := (HB.out.cell (p := ⟨w.heap.size, 4, none⟩) hlt).trans hc4
        have c5 := (HB.out.cell (p := ⟨w.heap.size, 5, none⟩) hlt).trans hc5
        by_cases hil : i < ll
        · obtain ⟨lb, lo, ⟨yk, yn, yg, ys, ⟨ylp, yll, ylc⟩, ⟨ydp, ydl, ydc⟩⟩, hiv, h3, h4, h5, h6⟩ := (HL1.out.later (below_old HS1.out HB.out)).at hil
          subst h3
          obtain ⟨e0, e1, e2, e3, e4, e5⟩ := h5
          dsimp only at e0 e1 e2 e3 e4 e5
          have hc := Lib.hid (Hihl.out _ (List.getElem_mem hiv) _ wr S (m - 1) h6 (old_later HS1.out HB.out) (by omega) (by omega))
          have Hst : Hid (lowL (v.l.drop i) (m - 1) = (lowV v.l[i] (m - 1) && lowL (v.l.drop (i + 1)) (m - 1))) := Lib.hid (by rw [drop_cons hiv, lowL])
          obtain ⟨r, hr⟩ : ∃ r, lowV v.l[i] (m - 1) = r := ⟨_, rfl⟩
          rw [hr] at hc Hst
          clear hr h4 h6
          go_wp2_with fail
          refine hc.out.mono ?_
          rintro e w2 ⟨rfl, hb⟩
          have HB2 : Aside (Below w1.heap.size w1 w2) := HB.out.trans (hb.mono HB.out.size)
          clear hb hc HB e0 e1 e2 e3 e4 e5 c4 c5
          cases r with
          | false =>
            go_wp2
            go_ret
            refine ⟨?_, (Hb1.out).trans (HB2.out.mono Hb1.out.size)⟩
            rw [← HI.out, Hst.out]; rfl
          | true =>
            go_wp2
            go_roundg (ll - (i + 1))
            case measure => omega
            case rel => exact ⟨i + 1, by go_num, by omega, by omega, (show Aside _ from (by show _ = _; rw [← HI.out, Hst.out]; rfl)), HB2⟩
        · have hlT : Hid (lowL v.l (m - 1) = true) := Lib.hid (by rw [← HI.out, List.drop_eq_nil_of_le (by have := Hll.out; omega)]; rfl)
          have HB3 : Aside (Below w1.heap.size w1 wr) := HB
          clear HI
          go_wp2
          go_loopg [6] dl (fun f s6 wr => ∃ i : Nat, s6 = .int .i64 i ∧ i ≤ dl ∧ dl ≤ f + i ∧ Aside (lowD (v.d.drop i) (m - 1) = lowD v.d (m - 1)) ∧ Aside (Below w1.heap.size w1 wr))
          case atStart => exact ⟨0, rfl, Nat.zero_le _, Nat.le_refl _, rfl, HB3⟩
          case round =>
            clear c4 c5 HB HB3
            obtain ⟨j, rfl, hj, hfj, HI, HB⟩ := hrel
            have c5 := (HB.out.cell (p := ⟨w.heap.size, 5, none⟩) hlt).trans hc5
            by_cases hjl : j < dl
            · obtain ⟨lb, lo, ⟨yy, ⟨yk, yn, yg, ys, ⟨ylp, yll, ylc⟩, ⟨ydp, ydl, ydc⟩⟩⟩, hiv, h3, h4, ⟨e0, h5⟩, hky, h6⟩ := (HD1.out.later (below_old HS1.out HB.out)).at hjl
              subst h3
              obtain ⟨e1, e2, e3, e4, e5, e6⟩ := h5
              dsimp only at e0 e1 e2 e3 e4 e5 e6 h6
              have hc := Lib.hid (Hihd.out _ (List.getElem_mem hiv) _ wr S (m - 1) h6 (old_later HS1.out HB.out) (by omega) (by omega))
              have Hst : Hid (lowD (v.d.drop j) (m - 1) = (lowV (v.d[j]).2 (m - 1) && lowD (v.d.drop (j + 1)) (m - 1))) := Lib.hid (by rw [drop_cons hiv]; rfl)
              obtain ⟨r, hr⟩ : ∃ r, lowV (v.d[j]).2 (m - 1) = r := ⟨_, rfl⟩
              rw [hr] at hc Hst
              clear hr h4 h6 hky
              go_wp2_with fail
              refine hc.out.mono ?_
              rintro e w2 ⟨rfl, hb⟩
              have HB2 : Aside (Below w1.heap.size w1 w2) := HB.out.trans (hb.mono HB.out.size)
              clear hb hc HB e0 e1 e2 e3 e4 e5 e6 c5
              cases r with
              | false =>
                go_wp2
                go_ret
                refine ⟨?_, (Hb1.out).trans (HB2.out.mono Hb1.out.size)⟩
                rw [← HI.out, Hst.out, Bool.false_and, Bool.and_false]
                rfl
              | true =>
                go_wp2
                go_roundg (dl - (j + 1))
                case measure => omega
                case rel => exact ⟨j + 1, by go_num, by omega, by omega, (show Aside _ from (by show _ = _; rw [← HI.out, Hst.out]; rfl)), HB2⟩
            · have hdT : Hid (lowD v.d (m - 1) = true) := Lib.hid (by rw [← HI.out, List.drop_eq_nil_of_le (by have := Hdl.out; omega)]; rfl)
              clear HI
              go_wp2
              go_ret
              exact ⟨by rw [hlT.out, hdT.out]; rfl, (Hb1.out).trans (HB.out.mono Hb1.out.size)⟩
end
end Go.Proofs.YtejgcnmbngdkiaaGreatDoor
/-
  The document's answer: are all texts no longer than that?
-/
namespace Go.Proofs.YtejgcnmbngdkiaaGreatDoor
section
open Go.RowKit
set_option maxRecDepth 100000

set_option maxHeartbeats 4000000 in
theorem short_any (v : Val) : ∀ (x : Hv) (w : World) (S : Nat → Prop) (m : Nat), Rd w S x v → (∀ k, S k → k < w.heap.size) → m ≤ 100000 →
    Calls Tryz.prog 15 #[.agg x.arr, .int .i64 (m : Int)] w fun e w' => e = .returned (.bool (shortV v m)) ∧ Below w.heap.size w w' := by
  induction v using Val.ind with
  | h v ihl ihd =>
    intro x w S m hR hS hm1
    obtain ⟨hsc, hL, hD⟩ := rd_iff.1 hR
    obtain ⟨_, _, _, hs⟩ := hsc
    obtain ⟨k, n, g, s, ⟨lp, ll, lc⟩, ⟨dp, dl, dc⟩⟩ := x
    clear hR
    rw [shortV_eq]
    replace hs : s = v.s := hs
    subst hs
    by_cases hm : ¬ v.s.size ≤ m
    · rw [decide_eq_false hm]
      have hm' : (m : Int) < (v.s.size : Int) := by omega
      show Calls Tryz.prog 15 #[.agg #[.int .i64 k, .int .i64 n, .int .i64 g, .string v.s, .slice lp ll lc, .slice dp dl dc], .int .i64 (m : Int)] w _
      go_enter Tryz.func15, Tryz.ntmps15
      go_wp2
      go_ret
      exact ⟨rfl, (Below.refl _ w).alloc (Nat.le_refl _) _⟩
    · have hm' : ¬ (m : Int) < (v.s.size : Int) := by omega
      rw [decide_eq_true (by omega), Bool.true_and]
      obtain ⟨w1, hw1⟩ : ∃ w1, w.alloc (.cells #[.int .i64 k, .int .i64 n, .int .i64 g, .string v.s, .slice lp ll lc, .slice dp dl dc] 25) = w1 := ⟨_, rfl⟩
      have hb1 : Below w.heap.size w w1 := by rw [← hw1]; exact (Below.refl _ w).alloc (Nat.le_refl _) _
      have hc3 : w1.cell? ⟨w.heap.size, 3, none⟩ = some (.string v.s) := by rw [← hw1]; simp
      have hc4 : w1.cell? ⟨w.heap.size, 4, none⟩ = some (.slice lp ll lc) := by rw [← hw1]; simp
      have hc5 : w1.cell? ⟨w.heap.size, 5, none⟩ = some (.slice dp dl dc) := by rw [← hw1]; simp
      have hlt : w.heap.size < w1.heap.size := by rw [← hw1]; simp
      have hL1 := hL.later (below_old hS hb1)
      have hD1 := hD.later (below_old hS hb1)
      have hS1 := old_later hS hb1
      show Calls Tryz.prog 15 #[.agg #[.int .i64 k, .int .i64 n, .int .i64 g, .string v.s, .slice lp ll lc, .slice dp dl dc], .int .i64 (m : Int)] w _
      go_enter Tryz.func15, Tryz.ntmps15
      go_wp2
      clear hw1 hm hm'
      have HB0 : Aside (Below w1.heap.size w1 w1) := Below.refl _ _
      have Hb1 := Lib.hid hb1
      have HL1 := Lib.hid hL1
      have HD1 := Lib.hid hD1
      have HS1 := Lib.hid hS1
      have Hihl := Lib.hid ihl
      have Hihd := Lib.hid ihd
      obtain ⟨hll, hlm⟩ := hL.len_le
      obtain ⟨hdl, hdm⟩ := hD.len_le
      dsimp only at hll hlm hdl hdm
      unfold maxLen at hlm hdm
      have Hll := Lib.hid hll
      have Hdl := Lib.hid hdl
      clear hb1 hL1 hD1 hL hD hS hS1 ihl ihd hll hdl
      go_loopg [5] ll (fun f s5 wr => ∃ i : Nat, s5 = .int .i64 i ∧ i ≤ ll ∧ ll ≤ f + i ∧ Aside (shortL (v.l.drop i) m = shortL v.l m) ∧ Aside (Below w1.heap.size w1 wr))
      case atStart => exact ⟨0, rfl, Nat.zero_le _, Nat.le_refl _, rfl, HB0⟩
      case round =>
        obtain ⟨i, rfl, hi, hf, HI, HB⟩ := hrel
        have c4 := (HB.out.cell (p := ⟨w.heap.size, 4, none⟩) hlt).trans hc4
        have c5 := (HB.out.cell (p := ⟨w.heap.size, 5, none⟩) hlt).trans hc5
        by_cases hil : i < ll
        · obtain ⟨lb, lo, ⟨yk, yn, yg, ys, ⟨ylp, yll, ylc⟩, ⟨ydp, ydl, ydc⟩⟩, hiv, h3, h4, h5, h6⟩ := (HL1.out.later (below_old HS1.out HB.out)).at hil
          subst h3
          obtain ⟨e0, e1, e2, e3, e4, e5⟩ := h5
          dsimp only at e0 e1 e2 e3 e4 e5
          have hc := Lib.hid (Hihl.out _ (List.getElem_mem hiv) _ wr S m h6 (old_later HS1.out HB.out) (by omega))
          have Hst : Hid (shortL (v.l.drop i) m = (shortV v.l[i] m && shortL (v.l.drop (i + 1)) m)) := Lib.hid (by rw [drop_cons hiv, shortL])
          obtain ⟨r, hr⟩ : ∃ r, shortV v.l[i] m = r := ⟨_, rfl⟩
          rw [hr] at hc Hst
          clear hr h4 h6
          go_wp2_with fail
          refine hc.out.mono ?_
          rintro e w2 ⟨rfl, hb⟩
          have HB2 : Aside (Below w1.heap.size w1 w2) := HB.out.trans (hb.mono HB.out.size)
          clear hb hc HB e0 e1 e2 e3 e4 e5 c4 c5
          cases r with
          | false =>
            go_wp2
            go_ret
            refine ⟨?_, (Hb1.out).trans (HB2.out.mono Hb1.out.size)⟩
            rw [← HI.out, Hst.out]; rfl
          | true =>
            go_wp2
            go_roundg (ll - (i + 1))
            case measure => omega
            case rel => exact ⟨i + 1, by go_num, by omega, by omega, (show Aside _ from (by show _ = _; rw [← HI.out, Hst.out]; rfl)), HB2⟩
        · have hlT : Hid (shortL v.l m = true) := Lib.hid (by rw [← HI.out, List.drop_eq_nil_of_le (by have := Hll.out; omega)]; rfl)
          have HB3 : Aside (Below w1.heap.size w1 wr) := HB
          clear HI
          go_wp2
          go_loopg [6] dl (fun f s6 wr => ∃ i : Nat, s6 = .int .i64 i ∧ i ≤ dl ∧ dl ≤ f + i ∧ Aside (shortD (v.d.drop i) m = shortD v.d m) ∧ Aside (Below w1.heap.size w1 wr))
          case atStart => exact ⟨0, rfl, Nat.zero_le _, Nat.le_refl _, rfl, HB3⟩
          case round =>
            clear c4 c5 HB HB3
            obtain ⟨j, rfl, hj, hfj, HI, HB⟩ := hrel
            have c5 := (HB.out.cell (p := ⟨w.heap.size, 5, none⟩) hlt).trans hc5
            by_cases hjl : j < dl
            · obtain ⟨lb, lo, ⟨yy, ⟨yk, yn, yg, ys, ⟨ylp, yll, ylc⟩, ⟨ydp, ydl, ydc⟩⟩⟩, hiv, h3, h4, ⟨e0, h5⟩, hky, h6⟩ := (HD1.out.later (below_old HS1.out HB.out)).at hjl
              subst h3
              obtain ⟨e1, e2, e3, e4, e5, e6⟩ := h5
              dsimp only at e0 e1 e2 e3 e4 e5 e6 h6
              have Hst : Hid (shortD (v.d.drop j) m = ((decide (yy.size ≤ m) && shortV (v.d[j]).2 m) && shortD (v.d.drop (j + 1)) m)) := Lib.hid (by rw [drop_cons hiv, show yy = (v.d[j]).1 from hky]; rfl)
              by_cases hky2 : yy.size ≤ m
              · have hc := Lib.hid (Hihd.out _ (List.getElem_mem hiv) _ wr S m h6 (old_later HS1.out HB.out) (by omega))
                have hkb : decide ((m : Int) < (yy.size : Int)) = false := decide_eq_false (by omega)
                have hkb2 : ¬ (m : Int) < (yy.size : Int) := by omega
                rw [decide_eq_true hky2, Bool.true_and] at Hst
                obtain ⟨r, hr⟩ : ∃ r, shortV (v.d[j]).2 m = r := ⟨_, rfl⟩
                rw [hr] at hc Hst
                clear hr h4 h6 hky hky2
                go_wp2_with fail
                refine hc.out.mono ?_
                rintro e w2 ⟨rfl, hb⟩
                have HB2 : Aside (Below w1.heap.size w1 w2) := HB.out.trans (hb.mono HB.out.size)
                clear hb hc HB e0 e1 e2 e3 e4 e5 e6 c5
                cases r with
                | false =>
                  go_wp2
                  go_ret
                  refine ⟨?_, (Hb1.out).trans (HB2.out.mono Hb1.out.size)⟩
                  rw [← HI.out, Hst.out, Bool.false_and, Bool.and_false]
                  rfl
                | true =>
                  go_wp2
                  go_roundg (dl - (j + 1))
                  case measure => omega
                  case rel => exact ⟨j + 1, by go_num, by omega, by omega, (show Aside _ from (by show _ = _; rw [← HI.out, Hst.out]; rfl)), HB2⟩
              · have hkb : decide ((m : Int) < (yy.size : Int)) = true := decide_eq_true (by omega)
                have hkb2 : (m : Int) < (yy.size : Int) := by omega
                rw [decide_eq_false hky2, Bool.false_and, Bool.false_and] at Hst
                clear h4 h6 hky hky2
                go_wp2
                go_ret
                refine ⟨?_, (Hb1.out).trans (HB.out.mono Hb1.out.size)⟩
                rw [← HI.out, Hst.out, Bool.and_false]
                rfl
            · have hdT : Hid (shortD v.d m = true) := Lib.hid (by rw [← HI.out, List.drop_eq_nil_of_le (by have := Hdl.out; omega)]; rfl)
              clear HI
              go_wp2
              go_ret
              exact ⟨by rw [hlT.out, hdT.out]; rfl, (Hb1.out).trans (HB.out.mono Hb1.out.size)⟩
end
end Go.Proofs.YtejgcnmbngdkiaaGreatDoor
/-
  The document's answer: how many values a value is, as far as so many.
-/
namespace Go.Proofs.YtejgcnmbngdkiaaGreatDoor
section
open Go.RowKit
set_option maxRecDepth 100000

set_option maxHeartbeats 4000000 in
theorem size_any (v : Val) : ∀ (x : Hv) (w : World) (S : Nat → Prop) (m : Nat), Rd w S x v → (∀ k, S k → k < w.heap.size) → 1 ≤ m → m ≤ 4611686018427387904 →
    Calls Tryz.prog 13 #[.agg x.arr, .int .i64 (m : Int)] w fun e w' => e = .returned (.int .i64 (cutN (sizeV v) m : Nat)) ∧ Below w.heap.size w w' := by
  induction v using Val.ind with
  | h v ihl ihd =>
    intro x w S m hR hS hm1 hm2
    obtain ⟨hsc, hL, hD⟩ := rd_iff.1 hR
    clear hsc
    obtain ⟨k, n, g, s, ⟨lp, ll, lc⟩, ⟨dp, dl, dc⟩⟩ := x
    clear hR
    have hT : cutN (sizeV v) m = min (1 + sizeL v.l + sizeD v.d) m := by rw [sizeV_eq]; unfold cutN; omega
    rw [hT]
    clear hT
    obtain ⟨w1, hw1⟩ : ∃ w1, w.alloc (.cells #[.int .i64 k, .int .i64 n, .int .i64 g, .string s, .slice lp ll lc, .slice dp dl dc] 25) = w1 := ⟨_, rfl⟩
    have hb1 : Below w.heap.size w w1 := by rw [← hw1]; exact (Below.refl _ w).alloc (Nat.le_refl _) _
    have hc4 : w1.cell? ⟨w.heap.size, 4, none⟩ = some (.slice lp ll lc) := by rw [← hw1]; simp
    have hc5 : w1.cell? ⟨w.heap.size, 5, none⟩ = some (.slice dp dl dc) := by rw [← hw1]; simp
    have hlt : w.heap.size < w1.heap.size := by rw [← hw1]; simp
    have hL1 := hL.later (below_old hS hb1)
    have hD1 := hD.later (below_old hS hb1)
    have hS1 := old_later hS hb1
    show Calls Tryz.prog 13 #[.agg #[.int .i64 k, .int .i64 n, .int .i64 g, .string s, .slice lp ll lc, .slice dp dl dc], .int .i64 (m : Int)] w _
    go_enter Tryz.func13, Tryz.ntmps13
    go_wp2
    clear hw1
    have HB0 : Aside (Below w1.heap.size w1 w1) := Below.refl _ _
    have Hb1 := Lib.hid hb1
    have HL1 := Lib.hid hL1
    have HD1 := Lib.hid hD1
    have HS1 := Lib.hid hS1
    have Hihl := Lib.hid ihl
    have Hihd := Lib.hid ihd
    obtain ⟨hll, hlm⟩ := hL.len_le
    obtain ⟨hdl, hdm⟩ := hD.len_le
    dsimp only at hll hlm hdl hdm
    unfold maxLen at hlm hdm
    have Hll := Lib.hid hll
    have Hdl := Lib.hid hdl
    clear hb1 hL1 hD1 hL hD hS hS1 ihl ihd hll hdl
    go_loopg [5, 6] ll (fun f s5 s6 wr => ∃ i q : Nat, s6 = .int .i64 i ∧ s5 = .int .i64 q ∧ i ≤ ll ∧ ll ≤ f + i ∧ 1 ≤ q ∧ q ≤ m ∧ Aside (min (q + sizeL (v.l.drop i)) m = min (1 + sizeL v.l) m) ∧ Aside (Below w1.heap.size w1 wr))
    case atStart => exact ⟨0, 1, rfl, rfl, Nat.zero_le _, Nat.le_refl _, Nat.le_refl _, hm1, rfl, HB0⟩
    case round =>
      obtain ⟨i, q, rfl, rfl, hi, hf, hq1, hq2, HI, HB⟩ := hrel
      have c4 := (HB.out.cell (p := ⟨w.heap.size, 4, none⟩) hlt).trans hc4
      have c5 := (HB.out.cell (p := ⟨w.heap.size, 5, none⟩) hlt).trans hc5
      by_cases hgo : i < ll ∧ q < m
      · obtain ⟨hil, hqm⟩ := hgo
        obtain ⟨lb, lo, ⟨yk, yn, yg, ys, ⟨ylp, yll, ylc⟩, ⟨ydp, ydl, ydc⟩⟩, hiv, h3, h4, h5, h6⟩ := (HL1.out.later (below_old HS1.out HB.out)).at hil
        subst h3
        obtain ⟨e0, e1, e2, e3, e4, e5⟩ := h5
        dsimp only at e0 e1 e2 e3 e4 e5
        have hc := Lib.hid (Hihl.out _ (List.getElem_mem hiv) _ wr S (m - q) h6 (old_later HS1.out HB.out) (by omega) (by omega))
        have hmq : ((m - q : Nat) : Int) = (m : Int) - (q : Int) := by omega
        rw [hmq] at hc
        have Hst : Hid (sizeL (v.l.drop i) = sizeV v.l[i] + sizeL (v.l.drop (i + 1))) := Lib.hid (by rw [drop_cons hiv, sizeL])
        obtain ⟨r, hr⟩ : ∃ r, cutN (sizeV v.l[i]) (m - q) = r := ⟨_, rfl⟩
        have hr1 : 1 ≤ r ∧ q + r ≤ m := by have := sizeV_pos v.l[i]; rw [← hr]; unfold cutN; omega
        have Hr := Lib.hid hr
        rw [hr] at hc
        clear hr h4 h6 hmq
        go_wp2_with fail
        refine hc.out.mono ?_
        rintro e w2 ⟨rfl, hb⟩
        have HB2 : Aside (Below w1.heap.size w1 w2) := HB.out.trans (hb.mono HB.out.size)
        clear hb hc HB e0 e1 e2 e3 e4 e5 c4 c5
        go_wp2
        go_roundg (ll - (i + 1))
        case measure => omega
        case rel =>
          refine ⟨i + 1, q + r, by go_num, by go_num, by omega, by omega, by omega, by omega, (show Aside _ from ?_), HB2⟩
          show _ = _
          have h1 := HI.out
          have h2 := Hst.out
          have h3 := Hr.out
          unfold cutN at h3
          omega
      · have hend : Hid (q = min (1 + sizeL v.l) m) := Lib.hid (by
          have h1 := HI.out
          rcases Nat.lt_or_ge q m with h2 | h2
          · rw [List.drop_eq_nil_of_le (by have := Hll.out; omega), sizeL] at h1; omega
          · omega)
        have HB3 : Aside (Below w1.heap.size w1 wr) := HB
        clear HI
        have hcs : (i < ll ∧ decide (q < m) = false) ∨ decide (i < ll) = false := by
          rcases Nat.lt_or_ge i ll with h2 | h2
          · exact .inl ⟨h2, decide_eq_false (by omega)⟩
          · exact .inr (decide_eq_false (by omega))
        clear hgo hf
        rcases hcs with ⟨hil, hdq⟩ | hdq
        all_goals (
          go_wp2
          clear hdq
          go_loopg [5, 7] dl (fun f s5 s7 wr => ∃ j p : Nat, s7 = .int .i64 j ∧ s5 = .int .i64 p ∧ j ≤ dl ∧ dl ≤ f + j ∧ 1 ≤ p ∧ p ≤ m ∧ Aside (min (p + sizeD (v.d.drop j)) m = min (1 + sizeL v.l + sizeD v.d) m) ∧ Aside (Below w1.heap.size w1 wr))
          case atStart => exact ⟨0, q, rfl, rfl, Nat.zero_le _, Nat.le_refl _, hq1, hq2, (show Aside _ from (by show _ = _; have := hend.out; rw [List.drop_zero]; omega)), HB3⟩
          case round =>
            clear c4 c5 HB HB3 hend hq1 hq2
            obtain ⟨j, t, rfl, rfl, hj, hfj, hq1, hq2, HI, HB⟩ := hrel
            have c5 := (HB.out.cell (p := ⟨w.heap.size, 5, none⟩) hlt).trans hc5
            by_cases hgo : j < dl ∧ t < m
            · obtain ⟨hjl, hqm⟩ := hgo
              obtain ⟨lb, lo, ⟨yy, ⟨yk, yn, yg, ys, ⟨ylp, yll, ylc⟩, ⟨ydp, ydl, ydc⟩⟩⟩, hiv, h3, h4, ⟨e0, h5⟩, hky, h6⟩ := (HD1.out.later (below_old HS1.out HB.out)).at hjl
              subst h3
              obtain ⟨e1, e2, e3, e4, e5, e6⟩ := h5
              dsimp only at e0 e1 e2 e3 e4 e5 e6 h6
              have hc := Lib.hid (Hihd.out _ (List.getElem_mem hiv) _ wr S (m - t) h6 (old_later HS1.out HB.out) (by omega) (by omega))
              have hmq : ((m - t : Nat) : Int) = (m : Int) - (t : Int) := by omega
              rw [hmq] at hc
              have Hst : Hid (sizeD (v.d.drop j) = sizeV (v.d[j]).2 + sizeD (v.d.drop (j + 1))) := Lib.hid (by rw [drop_cons hiv]; rfl)
              obtain ⟨r, hr⟩ : ∃ r, cutN (sizeV (v.d[j]).2) (m - t) = r := ⟨_, rfl⟩
              have hr1 : 1 ≤ r ∧ t + r ≤ m := by have := sizeV_pos (v.d[j]).2; rw [← hr]; unfold cutN; omega
              have Hr := Lib.hid hr
              rw [hr] at hc
              clear hr h4 h6 hmq hky
              go_wp2_with fail
              refine hc.out.mono ?_
              rintro e w2 ⟨rfl, hb⟩
              have HB2 : Aside (Below w1.heap.size w1 w2) := HB.out.trans (hb.mono HB.out.size)
              clear hb hc HB e0 e1 e2 e3 e4 e5 e6 c5
              go_wp2
              go_roundg (dl - (j + 1))
              case measure => omega
              case rel =>
                refine ⟨j + 1, t + r, by go_num, by go_num, by omega, by omega, by omega, by omega, (show Aside _ from ?_), HB2⟩
                show _ = _
                have h1 := HI.out
                have h2 := Hst.out
                have h3 := Hr.out
                unfold cutN at h3
                omega
            · have hend : Hid (t = min (1 + sizeL v.l + sizeD v.d) m) := Lib.hid (by
                have h1 := HI.out
                rcases Nat.lt_or_ge t m with h2 | h2
                · rw [List.drop_eq_nil_of_le (by have := Hdl.out; omega), sizeD] at h1; omega
                · omega)
              clear HI
              have hgo1 : ¬ ((j : Int) < (dl : Int) ∧ (t : Int) < (m : Int)) := by omega
              clear hgo hfj
              go_wp2
              all_goals (go_ret; exact ⟨by rw [← hend.out]; rfl, (Hb1.out).trans (HB.out.mono Hb1.out.size)⟩))
end
end Go.Proofs.YtejgcnmbngdkiaaGreatDoor
/-
  The document's answer: has a value few values, none too deep, with short texts?
-/
namespace Go.Proofs.YtejgcnmbngdkiaaGreatDoor
section
open Go.RowKit
set_option maxRecDepth 100000
attribute [local go_sem] undef

set_option maxHeartbeats 4000000 in
theorem few_any (v : Val) (x : Hv) (w : World) (S : Nat → Prop) (m : Nat) (hR : Rd w S x v) (hS : ∀ k, S k → k < w.heap.size) (hm : m ≤ 100000) :
    Calls Tryz.prog 5 #[.agg x.arr, .int .i64 (m : Int)] w fun e w' => e = .returned (.bool (fewV v m)) ∧ Below w.heap.size w w' := by
  obtain ⟨k, n, g, s, ⟨lp, ll, lc⟩, ⟨dp, dl, dc⟩⟩ := x
  have hsize := fun (W : World) (hb : Below w.heap.size w W) => size_any v ⟨k, n, g, s, ⟨lp, ll, lc⟩, ⟨dp, dl, dc⟩⟩ W S (m + 1) (hR.later (below_old hS hb)) (old_later hS hb) (by omega) (by omega)
  have hlow := fun (W : World) (hb : Below w.heap.size w W) => low_any v ⟨k, n, g, s, ⟨lp, ll, lc⟩, ⟨dp, dl, dc⟩⟩ W S 200 (hR.later (below_old hS hb)) (old_later hS hb) (by omega) (by omega)
  have hsh := fun (W : World) (hb : Below w.heap.size w W) => short_any v ⟨k, n, g, s, ⟨lp, ll, lc⟩, ⟨dp, dl, dc⟩⟩ W S 3000 (hR.later (below_old hS hb)) (old_later hS hb) (by omega)
  obtain ⟨r, hr⟩ : ∃ r, fewV v m = r := ⟨_, rfl⟩
  have hval : (decide (sizeV v ≤ m) && (lowV v 200 && shortV v 3000)) = r := hr
  rw [hr]
  obtain ⟨q, hq⟩ : ∃ q, cutN (sizeV v) (m + 1) = q := ⟨_, rfl⟩
  have hqm : decide (sizeV v ≤ m) = decide (q ≤ m) := by rw [decide_eq_decide, ← hq]; unfold cutN; have := sizeV_pos v; omega
  have hm1 : ((m + 1 : Nat) : Int) = (m : Int) + 1 := by omega
  simp only [hq, hm1] at hsize
  rw [hqm] at hval
  obtain ⟨b2, hb2⟩ : ∃ b2, lowV v 200 = b2 := ⟨_, rfl⟩
  obtain ⟨b3, hb3⟩ : ∃ b3, shortV v 3000 = b3 := ⟨_, rfl⟩
  simp only [hb2] at hlow
  simp only [hb3] at hsh
  rw [hb2, hb3] at hval
  have Hsize := Lib.hid hsize
  have Hlow := Lib.hid hlow
  have Hsh := Lib.hid hsh
  obtain ⟨w1, hw1⟩ : ∃ w1, w.alloc (.cells #[.int .i64 k, .int .i64 n, .int .i64 g, .string s, .slice lp ll lc, .slice dp dl dc] 25) = w1 := ⟨_, rfl⟩
  have hbw : Below w.heap.size w w1 := by rw [← hw1]; exact (Below.refl _ _).alloc (Nat.le_refl _) _
  have hlt : w.heap.size < w1.heap.size := by rw [← hw1]; simp
  have hc : HvAt w1 w.heap.size 0 ⟨k, n, g, s, ⟨lp, ll, lc⟩, ⟨dp, dl, dc⟩⟩ := by rw [← hw1]; exact ⟨by simp, by simp, by simp, by simp, by simp, by simp⟩
  have Hbw := Lib.hid hbw
  have HcB := Lib.hid hc
  have Hw1 := Lib.hid hw1
  clear hsize hlow hsh hr hq hqm hm1 hb2 hb3 hR hS hbw hw1 hc
  show Calls Tryz.prog 5 #[.agg #[.int .i64 k, .int .i64 n, .int .i64 g, .string s, .slice lp ll lc, .slice dp dl dc], .int .i64 (m : Int)] w _
  by_cases h1 : q ≤ m
  · have h1z : (q : Int) ≤ (m : Int) := by omega
    cases b2 with
    | true =>
      obtain rfl : b3 = r := by rw [← hval, decide_eq_true h1]; rfl
      clear hval
      go_enter Tryz.func5, Tryz.ntmps5
      go_wp2_with fail
      rw [Hw1.out]
      refine (Hsize.out _ Hbw.out).mono ?_
      rintro e w2 ⟨rfl, hb⟩
      have Hb2 := Lib.hid (Hbw.out.trans (hb.mono Hbw.out.size))
      obtain ⟨c0, c1, c2, c3, c4, c5⟩ := HcB.out.same (hb.block _ hlt)
      have HcC := Lib.hid (HcB.out.same (hb.block _ hlt))
      have hl2 : w.heap.size < w2.heap.size := Nat.lt_of_lt_of_le hlt hb.size
      dsimp only at c0 c1 c2 c3 c4 c5
      clear hb
      go_wp2_with fail
      refine (Hlow.out _ Hb2.out).mono ?_
      rintro e w3 ⟨rfl, hb⟩
      have Hb3 := Lib.hid (Hb2.out.trans (hb.mono Hb2.out.size))
      clear c0 c1 c2 c3 c4 c5
      obtain ⟨c0, c1, c2, c3, c4, c5⟩ := HcC.out.same (hb.block _ hl2)
      dsimp only at c0 c1 c2 c3 c4 c5
      clear hb
      go_wp2_with fail
      refine (Hsh.out _ Hb3.out).mono ?_
      rintro e w4 ⟨rfl, hb⟩
      have Hb4 := Lib.hid (Hb3.out.trans (hb.mono Hb3.out.size))
      clear hb
      go_wp2
      go_ret
      exact ⟨rfl, Hb4.out⟩
    | false =>
      obtain rfl : r = false := by rw [← hval, Bool.false_and, Bool.and_false]
      clear hval
      go_enter Tryz.func5, Tryz.ntmps5
      go_wp2_with fail
      rw [Hw1.out]
      refine (Hsize.out _ Hbw.out).mono ?_
      rintro e w2 ⟨rfl, hb⟩
      have Hb2 := Lib.hid (Hbw.out.trans (hb.mono Hbw.out.size))
      obtain ⟨c0, c1, c2, c3, c4, c5⟩ := HcB.out.same (hb.block _ hlt)
      have HcC := Lib.hid (HcB.out.same (hb.block _ hlt))
      have hl2 : w.heap.size < w2.heap.size := Nat.lt_of_lt_of_le hlt hb.size
      dsimp only at c0 c1 c2 c3 c4 c5
      clear hb
      go_wp2_with fail
      refine (Hlow.out _ Hb2.out).mono ?_
      rintro e w3 ⟨rfl, hb⟩
      have Hb3 := Lib.hid (Hb2.out.trans (hb.mono Hb2.out.size))
      clear c0 c1 c2 c3 c4 c5
      obtain ⟨c0, c1, c2, c3, c4, c5⟩ := HcC.out.same (hb.block _ hl2)
      dsimp only at c0 c1 c2 c3 c4 c5
      clear hb
      go_wp2
      go_ret
      exact ⟨rfl, Hb3.out⟩
  · have h1z : ¬ (q : Int) ≤ (m : Int) := by omega
    obtain rfl : r = false := by rw [← hval, decide_eq_false h1]; rfl
    clear hval
    go_enter Tryz.func5, Tryz.ntmps5
    go_wp2_with fail
    rw [Hw1.out]
    refine (Hsize.out _ Hbw.out).mono ?_
    rintro e w2 ⟨rfl, hb⟩
    have Hb2 := Lib.hid (Hbw.out.trans (hb.mono Hbw.out.size))
    obtain ⟨c0, c1, c2, c3, c4, c5⟩ := HcB.out.same (hb.block _ hlt)
    have HcC := Lib.hid (HcB.out.same (hb.block _ hlt))
    have hl2 : w.heap.size < w2.heap.size := Nat.lt_of_lt_of_le hlt hb.size
    dsimp only at c0 c1 c2 c3 c4 c5
    clear hb
    go_wp2
    go_ret
    exact ⟨rfl, Hb2.out⟩
end
end Go.Proofs.YtejgcnmbngdkiaaGreatDoor
