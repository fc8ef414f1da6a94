/-
  The fourth law: what any value names, in order, and whether it names any object.
-/
import Derived.Test.YtlmgjhidmipadaaHLow
import Derived.Test.YtlmgjhidmipadaaVRLinks
import Derived.Test.YtlmgjhidmipadaaVPLinksRow
import Derived.Test.YtlmgjhidmipadaaVVal
namespace Go.Proofs.Ytlmgjhidmipadaa
open Go.RowKit
set_option maxRecDepth 100000

set_option maxHeartbeats 4000000 in
theorem links_law (hval : ValuesC) (v : Val) (r : Int × Int) (x : Hv) (w : World) (S : Nat → Prop) (hR : Rd w S x v) (hS : ∀ k, S k → k < w.heap.size) :
    Calls Try.prog 6 #[.agg x.arr, .agg (refA r)] w fun e w' => e = .returned (.bool true) ∧ Below w.heap.size w w' := by
  obtain ⟨xk, xn, xg, xs, ⟨lp, ll, lc⟩, ⟨dp, dl, dc⟩⟩ := x
  obtain ⟨rn, rg⟩ := r
  have Hval := Lib.hid hval
  obtain ⟨wa, hwa⟩ : ∃ wa, w.alloc (.cells #[.int .i64 xk, .int .i64 xn, .int .i64 xg, .string xs, .slice lp ll lc, .slice dp dl dc] 25) = wa := ⟨_, rfl⟩
  obtain ⟨w1, hw1⟩ : ∃ w1, wa.alloc (.cells #[.int .i64 rn, .int .i64 rg] 40) = w1 := ⟨_, rfl⟩
  have hsa : wa.heap.size = w.heap.size + 1 := by rw [← hwa]; simp
  have hs1 : w1.heap.size = w.heap.size + 1 + 1 := by rw [← hw1]; simp [hsa]
  have hba : Below w.heap.size w wa := by rw [← hwa]; exact (Below.refl _ w).alloc (Nat.le_refl _) _
  have hbb : Below wa.heap.size wa w1 := by rw [← hw1]; exact (Below.refl _ wa).alloc (Nat.le_refl _) _
  have hb1 : Below w.heap.size w w1 := hba.trans (hbb.mono (by omega))
  have hv1 : VCell w1 w.heap.size ⟨xk, xn, xg, xs, ⟨lp, ll, lc⟩, ⟨dp, dl, dc⟩⟩ := (show VCell wa w.heap.size ⟨xk, xn, xg, xs, ⟨lp, ll, lc⟩, ⟨dp, dl, dc⟩⟩ by rw [← hwa]; exact heap_alloc_new w _).later hbb (by omega)
  have hv2 : w1.heap[w.heap.size + 1]? = some (.cells #[.int .i64 rn, .int .i64 rg] 40) := by rw [← hsa, ← hw1]; exact World.alloc_heap_new wa _
  have hat : ∀ W, Below w1.heap.size w1 W → Rd W S ⟨xk, xn, xg, xs, ⟨lp, ll, lc⟩, ⟨dp, dl, dc⟩⟩ v ∧ (∀ k, S k → k < W.heap.size) ∧ w.heap.size + 1 < W.heap.size ∧ W.cell? ⟨w.heap.size, 0, none⟩ = some (.int .i64 xk) ∧ W.cell? ⟨w.heap.size, 1, none⟩ = some (.int .i64 xn) ∧ W.cell? ⟨w.heap.size, 2, none⟩ = some (.int .i64 xg) ∧ W.cell? ⟨w.heap.size, 3, none⟩ = some (.string xs) ∧ W.cell? ⟨w.heap.size, 4, none⟩ = some (.slice lp ll lc) ∧ W.cell? ⟨w.heap.size, 5, none⟩ = some (.slice dp dl dc) ∧ W.cell? ⟨w.heap.size + 1, 0, none⟩ = some (.int .i64 rn) ∧ W.cell? ⟨w.heap.size + 1, 1, none⟩ = some (.int .i64 rg) := fun W hb => by
    obtain ⟨a0, a1, a2, a3, a4, a5⟩ := (hv1.later hb (by omega)).at
    simp only [Nat.zero_add] at a0 a1 a2 a3 a4 a5
    obtain ⟨b0, b1⟩ := two_cells ((hb.block (w.heap.size + 1) (by omega)).trans hv2)
    exact ⟨(hR.later (below_old hS hb1)).later (below_old (old_later hS hb1) hb), old_later (old_later hS hb1) hb, by have := hb.size; omega, a0, a1, a2, a3, a4, a5, b0, b1⟩
  have HAt := Lib.hid hat
  have Hb1 := Lib.hid hb1
  have Hwa := Lib.hid hwa
  have Hw1 := Lib.hid hw1
  clear hval hR hS hb1 hwa hw1 hv1 hv2 hba hbb hsa hs1 hat
  show Calls Try.prog 6 #[.agg #[.int .i64 xk, .int .i64 xn, .int .i64 xg, .string xs, .slice lp ll lc, .slice dp dl dc], .agg #[.int .i64 rn, .int .i64 rg]] w _
  go_enter Try.func6, Try.ntmps6
  go_wp2_with fail
  rw [Hwa.out, Hw1.out]
  refine (Hval.out _).mono ?_
  rintro e w2 ⟨rfl, hb2⟩
  have B2 := Lib.hid hb2
  obtain ⟨-, -, -, a0, a1, a2, a3, a4, a5, b0, b1⟩ := HAt.out _ hb2
  clear hb2
  go_wp2_with fail
  refine (few_any v ⟨xk, xn, xg, xs, ⟨lp, ll, lc⟩, ⟨dp, dl, dc⟩⟩ w2 S 500 (HAt.out _ B2.out).1 (HAt.out _ B2.out).2.1 (by omega)).mono ?_
  rintro e w3 ⟨rfl, hb3⟩
  have B3 := Lib.hid (B2.out.trans (hb3.mono B2.out.size))
  obtain ⟨-, -, -, c0, c1, c2, c3, c4, c5, d0, d1⟩ := HAt.out _ B3.out
  clear hb3 a0 a1 a2 a3 a4 a5 b0 b1
  obtain ⟨t, ht⟩ : ∃ t, fewV v 500 = t := ⟨_, rfl⟩
  rw [ht]
  cases t
  · clear ht
    go_wp2
    go_ret
    exact ⟨rfl, Hb1.out.trans (B3.out.mono Hb1.out.size)⟩
  · have hfit : Fit v 4000 := (few_fit ht).mono (by omega)
    have Hfit := Lib.hid hfit
    have hfn := func_nil
    clear ht hfit
    go_wp2_with fail
    refine (plinks_maker v ⟨xk, xn, xg, xs, ⟨lp, ll, lc⟩, ⟨dp, dl, dc⟩⟩ w3 S (HAt.out _ B3.out).1 (HAt.out _ B3.out).2.1 Hfit.out).mono ?_
    rintro e w4 ⟨rfl, hb4, -⟩
    have B4 := Lib.hid (B3.out.trans (hb4.mono B3.out.size))
    obtain ⟨-, -, -, a0, a1, a2, a3, a4, a5, b0, b1⟩ := HAt.out _ B4.out
    clear hb4 c0 c1 c2 c3 c4 c5 d0 d1
    go_wp2_with fail
    refine (links_any v ⟨xk, xn, xg, xs, ⟨lp, ll, lc⟩, ⟨dp, dl, dc⟩⟩ w4 S (HAt.out _ B4.out).1 (HAt.out _ B4.out).2.1 Hfit.out).mono ?_
    rintro e w5 ⟨p1, q1, rfl, hO1, hb5⟩
    have B5 := Lib.hid (B4.out.trans (hb5.mono B4.out.size))
    have O1 := Lib.hid hO1
    obtain ⟨-, -, -, c0, c1, c2, c3, c4, c5, d0, d1⟩ := HAt.out _ B5.out
    clear hb5 hO1 a0 a1 a2 a3 a4 a5 b0 b1
    go_wp2_with fail
    refine (rlinks_any v ⟨xk, xn, xg, xs, ⟨lp, ll, lc⟩, ⟨dp, dl, dc⟩⟩ w5 S (HAt.out _ B5.out).1 (HAt.out _ B5.out).2.1 Hfit.out).mono ?_
    rintro e w6 ⟨p2, q2, rfl, hO2, hb6⟩
    have B6 := Lib.hid (B5.out.trans (hb6.mono B5.out.size))
    have O1' := Lib.hid (O1.out.later hb6)
    have O2 := Lib.hid hO2
    have HH := Lib.hid (fun (r : Int × Int) W (hb : Below w6.heap.size w6 W) => pholds_any v ⟨xk, xn, xg, xs, ⟨lp, ll, lc⟩, ⟨dp, dl, dc⟩⟩ r W S (HAt.out _ (B6.out.trans (hb.mono B6.out.size))).1 (HAt.out _ (B6.out.trans (hb.mono B6.out.size))).2.1 Hfit.out)
    have HA6 := Lib.hid (fun W (hb : Below w6.heap.size w6 W) => (HAt.out _ (B6.out.trans (hb.mono B6.out.size))).2.2)
    have Hend := Lib.hid (fun W (hb : Below w6.heap.size w6 W) => Hb1.out.trans ((B6.out.trans (hb.mono B6.out.size)).mono Hb1.out.size))
    have hb0 : Aside (Below w6.heap.size w6 w6) := Below.refl _ _
    have hLn : (linksV (plainV v)).length ≤ 4000 := by have h2 := links_le (plainV v); have h5 := plain_size v; have h6 := Hfit.out.1; omega
    obtain ⟨L, hL⟩ : ∃ L, linksV (plainV v) = L := ⟨_, rfl⟩
    rw [hL] at O1' O2 HH hLn ⊢
    have hmx : Try.prog.follows .mixedOrders = true := by kernel_rfl
    clear hb6 hO2 c0 c1 c2 c3 c4 c5 d0 d1 hL O1 hfn HAt Hval Hfit Hb1 Hwa Hw1 B2 B3 B4 B5 B6
    go_wp2_with fail
    go_loopg [7, 8] L.length (fun gg s7 s8 wy => ∃ i : Nat, i + gg = L.length ∧ s7 = .bool (decide ((rn, rg) ∈ L.take i)) ∧ s8 = .int .i64 i ∧ Aside (Below w6.heap.size w6 wy))
    case atStart => exact ⟨0, by omega, by simp, rfl, hb0⟩
    case round =>
      obtain ⟨i, hi, rfl, rfl, hbl⟩ := hrel
      have Hbl := Lib.hid hbl.out
      clear hbl
      cases gk with
      | zero =>
        obtain rfl : i = L.length := by omega
        rw [List.take_length]
        have hz : ¬ ((L.length : Int) < (L.length : Int)) := by omega
        obtain ⟨-, a0, a1, a2, a3, a4, a5, b0, b1⟩ := HA6.out _ Hbl.out
        have hh := Lib.hid (HH.out (rn, rg) _ Hbl.out)
        obtain ⟨t, ht⟩ : ∃ t, decide ((rn, rg) ∈ L) = t := ⟨_, rfl⟩
        rw [ht] at hh ⊢
        clear ht
        go_wp2_with fail
        refine hh.out.mono ?_
        rintro e w7 ⟨rfl, hb7⟩
        have B7 := Lib.hid (Hbl.out.trans (hb7.mono Hbl.out.size))
        clear hb7 a0 a1 a2 a3 a4 a5 b0 b1
        cases t
        · go_wp2
          go_ret
          exact ⟨rfl, Hend.out _ B7.out⟩
        · go_wp2
          go_ret
          exact ⟨rfl, Hend.out _ B7.out⟩
      | succ gg =>
        have him : i < L.length := by omega
        have hz : ((i : Int) < (L.length : Int)) := by omega
        have hz0 : (0 : Int) ≤ (i : Int) := by omega
        obtain ⟨g1, rfl, hB1, hr1⟩ := (O1'.out.later Hbl.out).at him
        obtain ⟨g2, rfl, hB2, hr2⟩ := (O2.out.later Hbl.out).at him
        have hlt1 := (O1'.out.lt _ rfl).2
        have hlt2 := (O2.out.lt _ rfl).2
        have htk : L.take (i + 1) = L.take i ++ [L[i]] := by rw [List.take_append_getElem]
        have hmem : L[i] ∈ L := List.getElem_mem him
        obtain ⟨⟨an, ag⟩, hx⟩ : ∃ y, L[i] = y := ⟨_, rfl⟩
        rw [hx] at hr1 hr2 htk hmem
        have Hh := Lib.hid (fun W (hb : Below w6.heap.size w6 W) => (HH.out (an, ag) W hb).mono (fun e w' h => (⟨by rw [h.1, decide_eq_true hmem], h.2⟩ : e = .returned (.bool true) ∧ Below W.heap.size W w')))
        obtain ⟨hs, a0, a1, a2, a3, a4, a5, b0, b1⟩ := HA6.out _ Hbl.out
        obtain ⟨e0, e1⟩ := hr1
        obtain ⟨f0, f1⟩ := hr2
        dsimp only at e0 e1 f0 f1 hlt1 hlt2
        have hl0 : w.heap.size < wr.heap.size := by omega
        have hl1 : g1 < wr.heap.size := Nat.lt_of_lt_of_le hlt1 Hbl.out.size
        have hl2 : g2 < wr.heap.size := Nat.lt_of_lt_of_le hlt2 Hbl.out.size
        have h12 : ∀ W, Below wr.heap.size wr W → W.cell? ⟨w.heap.size, 0, none⟩ = some (.int .i64 xk) ∧ W.cell? ⟨w.heap.size, 1, none⟩ = some (.int .i64 xn) ∧ W.cell? ⟨w.heap.size, 2, none⟩ = some (.int .i64 xg) ∧ W.cell? ⟨w.heap.size, 3, none⟩ = some (.string xs) ∧ W.cell? ⟨w.heap.size, 4, none⟩ = some (.slice lp ll lc) ∧ W.cell? ⟨w.heap.size, 5, none⟩ = some (.slice dp dl dc) ∧ W.cell? ⟨w.heap.size + 1, 0, none⟩ = some (.int .i64 rn) ∧ W.cell? ⟨w.heap.size + 1, 1, none⟩ = some (.int .i64 rg) ∧ W.cell? ⟨g1, i * 2, none⟩ = some (.int .i64 an) ∧ W.cell? ⟨g1, i * 2 + 1, none⟩ = some (.int .i64 ag) ∧ W.cell? ⟨g2, i * 2, none⟩ = some (.int .i64 an) ∧ W.cell? ⟨g2, i * 2 + 1, none⟩ = some (.int .i64 ag) := fun W hb => ⟨(hb.cell hl0).trans a0, (hb.cell hl0).trans a1, (hb.cell hl0).trans a2, (hb.cell hl0).trans a3, (hb.cell hl0).trans a4, (hb.cell hl0).trans a5, (hb.cell hs).trans b0, (hb.cell hs).trans b1, (hb.cell hl1).trans e0, (hb.cell hl1).trans e1, (hb.cell hl2).trans f0, (hb.cell hl2).trans f1⟩
        have H12 := Lib.hid h12
        clear h12
        have G0 := far_cell a0 hl0
        have G1 := far_cell a1 hl0
        have G2 := far_cell a2 hl0
        have G3 := far_cell a3 hl0
        have G4 := far_cell a4 hl0
        have G5 := far_cell a5 hl0
        have G6 := far_cell b0 hs
        have G7 := far_cell b1 hs
        have G8 := far_cell e0 hl1
        have G9 := far_cell e1 hl1
        have G10 := far_cell f0 hl2
        have G11 := far_cell f1 hl2
        have Htk := Lib.hid htk
        clear hx hmem htk a0 a1 a2 a3 a4 a5 b0 b1 e0 e1 f0 f1 hB1 hB2
        obtain ⟨t, ht⟩ : ∃ t, decide ((rn, rg) ∈ L.take i) = t := ⟨_, rfl⟩
        rw [ht]
        have Hht := Lib.hid ht
        clear ht
        have hcs : ∀ c : Bool, (decide ((rn, rg) ∈ L.take (i + 1)) = c) = ((t || decide (rn = an ∧ rg = ag)) = c) := fun c => by rw [Htk.out, ← Hht.out]; congr 1; simp [List.mem_append]
        have Hcs := Lib.hid hcs
        clear hcs
        cases t
        · by_cases he : an = rn
          · subst he
            by_cases hf : ag = rg
            · subst hf
              go_wp2_with fail
              refine wp_region_far hmx (by kernel_rfl) ?_
              repeat (quiet_step (fail))
              refine wpQuiet_nil ?_
              intro _ hw'
              obtain ⟨pq, hw''⟩ := hw'
              subst hw''
              obtain ⟨wy, hwy⟩ : ∃ wy, far wr pq = wy := ⟨_, rfl⟩
              have hby : Below wr.heap.size wr wy := hwy ▸ far_below wr pq
              rw [hwy]
              have Hby := Lib.hid hby
              obtain ⟨e0, e1, e2, e3, e4, e5, e6, e7, e8, e9, e10, e11⟩ := H12.out wy hby
              have z0 := Nat.lt_of_lt_of_le hl0 hby.size
              have z1 := Nat.lt_of_lt_of_le hs hby.size
              have z2 := Nat.lt_of_lt_of_le hl1 hby.size
              have z3 := Nat.lt_of_lt_of_le hl2 hby.size
              clear hby hwy G0 G1 G2 G3 G4 G5 G6 G7 G8 G9 G10 G11
              go_wp2_with fail
              have G0 := far_cell e0 z0
              have G1 := far_cell e1 z0
              have G2 := far_cell e2 z0
              have G3 := far_cell e3 z0
              have G4 := far_cell e4 z0
              have G5 := far_cell e5 z0
              have G6 := far_cell e6 z1
              have G7 := far_cell e7 z1
              have G8 := far_cell e8 z2
              have G9 := far_cell e9 z2
              have G10 := far_cell e10 z3
              have G11 := far_cell e11 z3
              have hhq := Lib.hid (fun q => Calls.far_of (Hh.out (far wy q) (Hbl.out.trans ((Hby.out.trans ((far_below wy q).mono Hby.out.size)).mono Hbl.out.size))))
              dsimp only [Hv.arr, refA] at hhq
              clear e0 e1 e2 e3 e4 e5 e6 e7 e8 e9 e10 e11 z0 z1 z2 z3
              refine wp_region_far hmx (by kernel_rfl) ?_
              repeat (quiet_step (first | (go_at_call 28; exact hhq.out _)))
              refine wpQuiet_nil ?_
              intro _ hw'
              obtain ⟨pq2, hw''⟩ := hw'
              subst hw''
              have hbe : Aside (Below w6.heap.size w6 (far wy pq2)) := Hbl.out.trans ((Hby.out.trans ((far_below wy pq2).mono Hby.out.size)).mono Hbl.out.size)
              clear G0 G1 G2 G3 G4 G5 G6 G7 G8 G9 G10 G11
              go_wp2
              go_roundg gg
              case measure => omega
              case rel => exact ⟨i + 1, by omega, congrArg Value.bool (((Hcs.out true).mpr (by simp)).symm), by go_num, hbe⟩
            · go_wp2_with fail
              refine wp_region_far hmx (by kernel_rfl) ?_
              repeat (quiet_step (fail))
              refine wpQuiet_nil ?_
              intro _ hw'
              obtain ⟨pq, hw''⟩ := hw'
              subst hw''
              obtain ⟨wy, hwy⟩ : ∃ wy, far wr pq = wy := ⟨_, rfl⟩
              have hby : Below wr.heap.size wr wy := hwy ▸ far_below wr pq
              rw [hwy]
              have Hby := Lib.hid hby
              obtain ⟨e0, e1, e2, e3, e4, e5, e6, e7, e8, e9, e10, e11⟩ := H12.out wy hby
              have z0 := Nat.lt_of_lt_of_le hl0 hby.size
              have z1 := Nat.lt_of_lt_of_le hs hby.size
              have z2 := Nat.lt_of_lt_of_le hl1 hby.size
              have z3 := Nat.lt_of_lt_of_le hl2 hby.size
              clear hby hwy G0 G1 G2 G3 G4 G5 G6 G7 G8 G9 G10 G11
              go_wp2_with fail
              have G0 := far_cell e0 z0
              have G1 := far_cell e1 z0
              have G2 := far_cell e2 z0
              have G3 := far_cell e3 z0
              have G4 := far_cell e4 z0
              have G5 := far_cell e5 z0
              have G6 := far_cell e6 z1
              have G7 := far_cell e7 z1
              have G8 := far_cell e8 z2
              have G9 := far_cell e9 z2
              have G10 := far_cell e10 z3
              have G11 := far_cell e11 z3
              have hhq := Lib.hid (fun q => Calls.far_of (Hh.out (far wy q) (Hbl.out.trans ((Hby.out.trans ((far_below wy q).mono Hby.out.size)).mono Hbl.out.size))))
              dsimp only [Hv.arr, refA] at hhq
              clear e0 e1 e2 e3 e4 e5 e6 e7 e8 e9 e10 e11 z0 z1 z2 z3
              refine wp_region_far hmx (by kernel_rfl) ?_
              repeat (quiet_step (first | (go_at_call 28; exact hhq.out _)))
              refine wpQuiet_nil ?_
              intro _ hw'
              obtain ⟨pq2, hw''⟩ := hw'
              subst hw''
              have hbe : Aside (Below w6.heap.size w6 (far wy pq2)) := Hbl.out.trans ((Hby.out.trans ((far_below wy pq2).mono Hby.out.size)).mono Hbl.out.size)
              clear G0 G1 G2 G3 G4 G5 G6 G7 G8 G9 G10 G11
              go_wp2
              go_roundg gg
              case measure => omega
              case rel => exact ⟨i + 1, by omega, congrArg Value.bool (((Hcs.out false).mpr (by simp; exact fun h => hf h.symm)).symm), by go_num, hbe⟩
          · go_wp2_with fail
            refine wp_region_far hmx (by kernel_rfl) ?_
            repeat (quiet_step (fail))
            refine wpQuiet_nil ?_
            intro _ hw'
            obtain ⟨pq, hw''⟩ := hw'
            subst hw''
            obtain ⟨wy, hwy⟩ : ∃ wy, far wr pq = wy := ⟨_, rfl⟩
            have hby : Below wr.heap.size wr wy := hwy ▸ far_below wr pq
            rw [hwy]
            have Hby := Lib.hid hby
            obtain ⟨e0, e1, e2, e3, e4, e5, e6, e7, e8, e9, e10, e11⟩ := H12.out wy hby
            have z0 := Nat.lt_of_lt_of_le hl0 hby.size
            have z1 := Nat.lt_of_lt_of_le hs hby.size
            have z2 := Nat.lt_of_lt_of_le hl1 hby.size
            have z3 := Nat.lt_of_lt_of_le hl2 hby.size
            clear hby hwy G0 G1 G2 G3 G4 G5 G6 G7 G8 G9 G10 G11
            go_wp2_with fail
            have G0 := far_cell e0 z0
            have G1 := far_cell e1 z0
            have G2 := far_cell e2 z0
            have G3 := far_cell e3 z0
            have G4 := far_cell e4 z0
            have G5 := far_cell e5 z0
            have G6 := far_cell e6 z1
            have G7 := far_cell e7 z1
            have G8 := far_cell e8 z2
            have G9 := far_cell e9 z2
            have G10 := far_cell e10 z3
            have G11 := far_cell e11 z3
            have hhq := Lib.hid (fun q => Calls.far_of (Hh.out (far wy q) (Hbl.out.trans ((Hby.out.trans ((far_below wy q).mono Hby.out.size)).mono Hbl.out.size))))
            dsimp only [Hv.arr, refA] at hhq
            clear e0 e1 e2 e3 e4 e5 e6 e7 e8 e9 e10 e11 z0 z1 z2 z3
            refine wp_region_far hmx (by kernel_rfl) ?_
            repeat (quiet_step (first | (go_at_call 28; exact hhq.out _)))
            refine wpQuiet_nil ?_
            intro _ hw'
            obtain ⟨pq2, hw''⟩ := hw'
            subst hw''
            have hbe : Aside (Below w6.heap.size w6 (far wy pq2)) := Hbl.out.trans ((Hby.out.trans ((far_below wy pq2).mono Hby.out.size)).mono Hbl.out.size)
            clear G0 G1 G2 G3 G4 G5 G6 G7 G8 G9 G10 G11
            go_wp2
            go_roundg gg
            case measure => omega
            case rel => exact ⟨i + 1, by omega, congrArg Value.bool (((Hcs.out false).mpr (by simp; exact fun h => absurd h.symm he)).symm), by go_num, hbe⟩
        · go_wp2_with fail
          refine wp_region_far hmx (by kernel_rfl) ?_
          repeat (quiet_step (fail))
          refine wpQuiet_nil ?_
          intro _ hw'
          obtain ⟨pq, hw''⟩ := hw'
          subst hw''
          obtain ⟨wy, hwy⟩ : ∃ wy, far wr pq = wy := ⟨_, rfl⟩
          have hby : Below wr.heap.size wr wy := hwy ▸ far_below wr pq
          rw [hwy]
          have Hby := Lib.hid hby
          obtain ⟨e0, e1, e2, e3, e4, e5, e6, e7, e8, e9, e10, e11⟩ := H12.out wy hby
          have z0 := Nat.lt_of_lt_of_le hl0 hby.size
          have z1 := Nat.lt_of_lt_of_le hs hby.size
          have z2 := Nat.lt_of_lt_of_le hl1 hby.size
          have z3 := Nat.lt_of_lt_of_le hl2 hby.size
          clear hby hwy G0 G1 G2 G3 G4 G5 G6 G7 G8 G9 G10 G11
          go_wp2_with fail
          have G0 := far_cell e0 z0
          have G1 := far_cell e1 z0
          have G2 := far_cell e2 z0
          have G3 := far_cell e3 z0
          have G4 := far_cell e4 z0
          have G5 := far_cell e5 z0
          have G6 := far_cell e6 z1
          have G7 := far_cell e7 z1
          have G8 := far_cell e8 z2
          have G9 := far_cell e9 z2
          have G10 := far_cell e10 z3
          have G11 := far_cell e11 z3
          have hhq := Lib.hid (fun q => Calls.far_of (Hh.out (far wy q) (Hbl.out.trans ((Hby.out.trans ((far_below wy q).mono Hby.out.size)).mono Hbl.out.size))))
          dsimp only [Hv.arr, refA] at hhq
          clear e0 e1 e2 e3 e4 e5 e6 e7 e8 e9 e10 e11 z0 z1 z2 z3
          refine wp_region_far hmx (by kernel_rfl) ?_
          repeat (quiet_step (first | (go_at_call 28; exact hhq.out _)))
          refine wpQuiet_nil ?_
          intro _ hw'
          obtain ⟨pq2, hw''⟩ := hw'
          subst hw''
          have hbe : Aside (Below w6.heap.size w6 (far wy pq2)) := Hbl.out.trans ((Hby.out.trans ((far_below wy pq2).mono Hby.out.size)).mono Hbl.out.size)
          clear G0 G1 G2 G3 G4 G5 G6 G7 G8 G9 G10 G11
          go_wp2
          go_roundg gg
          case measure => omega
          case rel => exact ⟨i + 1, by omega, congrArg Value.bool (((Hcs.out true).mpr rfl).symm), by go_num, hbe⟩
end Go.Proofs.Ytlmgjhidmipadaa
