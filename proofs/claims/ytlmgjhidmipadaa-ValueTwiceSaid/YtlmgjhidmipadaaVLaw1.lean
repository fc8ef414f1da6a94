/-
  The first law: what is wrong with any value, and how deep and how many it is.
-/
import Derived.Test.YtlmgjhidmipadaaHLow
import Derived.Test.YtlmgjhidmipadaaVRSame
import Derived.Test.YtlmgjhidmipadaaVPCheck
import Derived.Test.YtlmgjhidmipadaaVRDepth
import Derived.Test.YtlmgjhidmipadaaHIt
namespace Go.Proofs.Ytlmgjhidmipadaa
open Go.RowKit
set_option maxRecDepth 100000

def ValuesC : Prop := ∀ w : World, Calls Try.prog 9 #[] w fun e w' => e = .returned (.bool true) ∧ Below w.heap.size w w'

set_option maxHeartbeats 4000000 in
theorem checks_law (hval : ValuesC) (v : Val) (st : Bool) (x : Hv) (w : World) (S : Nat → Prop) (hR : Rd w S x v) (hS : ∀ k, S k → k < w.heap.size) :
    Calls Try.prog 3 #[.agg x.arr, .bool st] w fun e w' => e = .returned (.bool true) ∧ Below w.heap.size w w' := by
  obtain ⟨xk, xn, xg, xs, ⟨lp, ll, lc⟩, ⟨dp, dl, dc⟩⟩ := x
  have Hval := Lib.hid hval
  obtain ⟨w1, hw1⟩ : ∃ w1, w.alloc (.cells #[.int .i64 xk, .int .i64 xn, .int .i64 xg, .string xs, .slice lp ll lc, .slice dp dl dc] 25) = w1 := ⟨_, rfl⟩
  have hb1 : Below w.heap.size w w1 := by rw [← hw1]; exact (Below.refl _ w).alloc (Nat.le_refl _) _
  have hs1 : w1.heap.size = w.heap.size + 1 := by rw [← hw1]; simp
  have hv1 : VCell w1 w.heap.size ⟨xk, xn, xg, xs, ⟨lp, ll, lc⟩, ⟨dp, dl, dc⟩⟩ := by rw [← hw1]; exact heap_alloc_new w _
  have HR := Lib.hid (hR.later (below_old hS hb1))
  have HS := Lib.hid (old_later hS hb1)
  have Hb1 := Lib.hid hb1
  have Hw1 := Lib.hid hw1
  have Hv1 := Lib.hid hv1
  clear hval hR hS hb1 hw1 hv1
  show Calls Try.prog 3 #[.agg #[.int .i64 xk, .int .i64 xn, .int .i64 xg, .string xs, .slice lp ll lc, .slice dp dl dc], .bool st] w _
  go_enter Try.func3, Try.ntmps3
  go_wp2_with fail
  rw [Hw1.out]
  refine (few_any v ⟨xk, xn, xg, xs, ⟨lp, ll, lc⟩, ⟨dp, dl, dc⟩⟩ w1 S 2000 HR.out HS.out (by omega)).mono ?_
  rintro e w2 ⟨rfl, hb2⟩
  have Hb2 := Lib.hid hb2
  clear hb2
  obtain ⟨t, ht⟩ : ∃ t, fewV v 2000 = t := ⟨_, rfl⟩
  rw [ht]
  cases t
  · clear ht
    go_wp2_with fail
    refine (Hval.out _).mono ?_
    rintro e w3 ⟨rfl, hb3⟩
    have Hb3 := Lib.hid hb3
    clear hb3
    go_wp2
    go_ret
    exact ⟨rfl, Hb1.out.trans ((Hb2.out.trans (Hb3.out.mono Hb2.out.size)).mono Hb1.out.size)⟩
  · have hfit : Fit v 4000 := (few_fit ht).mono (by omega)
    have hR2 := HR.out.later (below_old HS.out Hb2.out)
    have hS2 := old_later HS.out Hb2.out
    have hv2 := Hv1.out.later Hb2.out (by omega)
    obtain ⟨c0, c1, c2, c3, c4, c5⟩ := hv2.at
    simp only [Nat.zero_add] at c0 c1 c2 c3 c4 c5
    have hlt : w.heap.size < w2.heap.size := by have := Hb2.out.size; omega
    have hRq := fun q => hR2.later (below_old hS2 (far_below w2 q))
    have hSq := fun q => old_later hS2 (far_below w2 q)
    have H1 := Lib.hid (fun q => Calls.far_of (pCheck_any v st _ (far w2 q) S (hRq q) (hSq q) hfit))
    have H2 := Lib.hid (fun q => Calls.far_of (rCheck_any v st _ (far w2 q) S (hRq q) (hSq q) hfit))
    have H3 := Lib.hid (fun q => Calls.far_of (pdepth_any v _ (far w2 q) S (hRq q) (hSq q) hfit))
    have H4 := Lib.hid (fun q => Calls.far_of (rdepth_any v _ (far w2 q) S (hRq q) (hSq q) (by have := hfit.1; omega)))
    have H5 := Lib.hid (fun q => Calls.far_of (psize_any v _ (far w2 q) S (hRq q) (hSq q) hfit))
    have H6 := Lib.hid (fun q => Calls.far_of (rSize_any v _ (far w2 q) S (hRq q) (hSq q) (by have := hfit.1; omega)))
    have H7 := Lib.hid (fun q => Calls.far_of (Hval.out (far w2 q)))
    have hmx : Try.prog.follows .mixedOrders = true := by kernel_rfl
    have g0 := far_cell c0 hlt
    have g1 := far_cell c1 hlt
    have g2 := far_cell c2 hlt
    have g3 := far_cell c3 hlt
    have g4 := far_cell c4 hlt
    have g5 := far_cell c5 hlt
    dsimp only [Hv.arr] at H1 H2 H3 H4 H5 H6
    clear c0 c1 c2 c3 c4 c5 hR2 hS2 hv2 hRq hSq hfit ht
    go_wp2_with fail
    refine wp_region_far hmx (by kernel_rfl) ?_
    repeat (quiet_step (first
      | (go_at_call 10; exact H1.out _)
      | (go_at_call 11; exact H2.out _)
      | (go_at_call 12; exact H3.out _)
      | (go_at_call 13; exact H4.out _)
      | (go_at_call 14; exact H5.out _)
      | (go_at_call 15; exact H6.out _)
      | (go_at_call 9; exact H7.out _)))
    refine wpQuiet_nil ?_
    intro _ hw'
    obtain ⟨pq, hw''⟩ := hw'
    subst hw''
    go_wp2
    go_ret
    exact ⟨rfl, Hb1.out.trans ((Hb2.out.trans ((far_below w2 pq).mono Hb2.out.size)).mono Hb1.out.size)⟩
end Go.Proofs.Ytlmgjhidmipadaa
