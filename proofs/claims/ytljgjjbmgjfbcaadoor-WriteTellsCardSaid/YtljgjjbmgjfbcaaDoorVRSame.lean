/-
  The document's answers: Check, Size, Same.
-/
import Derived.Test.YtljgjjbmgjfbcaaDoorVRCheck
import Derived.Test.YtljgjjbmgjfbcaaDoorMRPl
import Derived.Test.YtljgjjbmgjfbcaaDoorVREqual
import Derived.Test.YtljgjjbmgjfbcaaDoorMLow
namespace Go.Proofs.YtljgjjbmgjfbcaaDoor
open Go.RowKit
set_option maxRecDepth 100000

set_option maxHeartbeats 4000000 in
theorem rCheck_any (v : Val) (st : Bool) (x : Hv) (w : World) (S : Nat → Prop) (hR : Rd w S x v) (hS : ∀ k, S k → k < w.heap.size) (hfit : Fit v 4000) :
    Calls Tryd.prog 23 #[.agg x.arr, .bool st] w fun e w' => e = .returned (.int .i64 (checkV v st 0)) ∧ Below w.heap.size w w' := by
  obtain ⟨k, n, g, s, ⟨lp, ll, lc⟩, ⟨dp, dl, dc⟩⟩ := x
  obtain ⟨w1, hw1⟩ : ∃ w1, w.alloc (.cells #[.int .i64 k, .int .i64 n, .int .i64 g, .string s, .slice lp ll lc, .slice dp dl dc] 25) = w1 := ⟨_, rfl⟩
  have Hv1 : Hid (VCell w1 w.heap.size ⟨k, n, g, s, ⟨lp, ll, lc⟩, ⟨dp, dl, dc⟩⟩) := Lib.hid (by rw [← hw1]; exact heap_alloc_new w _)
  have hb1 : Below w.heap.size w w1 := by rw [← hw1]; exact (Below.refl _ w).alloc (Nat.le_refl _) _
  have Hc := Lib.hid (rcheck_any v st 0 _ w1 S (hR.later (below_old hS hb1)) (old_later hS hb1) hfit (Int.le_refl _) (by have := hfit.1; omega))
  have Hb1 := Lib.hid hb1
  have Hw1 := Lib.hid hw1
  clear hw1 hb1 hR hS hfit
  show Calls Tryd.prog 23 #[.agg #[.int .i64 k, .int .i64 n, .int .i64 g, .string s, .slice lp ll lc, .slice dp dl dc], .bool st] w _
  go_enter Tryd.func23, Tryd.ntmps23
  iterate 20 go_step
  rw [Hw1.out]
  go_wp2_with (first | (refine VCell.load rfl (.tmp 2) rfl w.heap.size _ rfl Hv1.out ?_) | (go_at_call 42; refine Hc.out.mono ?_; rintro e w2 ⟨rfl, hb⟩; have Hb2 := Lib.hid hb; clear hb))
  go_ret
  exact ⟨rfl, Hb1.out.trans (Hb2.out.mono Hb1.out.size)⟩

end Go.Proofs.YtljgjjbmgjfbcaaDoor
