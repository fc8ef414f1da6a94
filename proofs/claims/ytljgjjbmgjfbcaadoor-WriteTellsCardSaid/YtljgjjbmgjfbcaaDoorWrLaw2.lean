/-
  The law on how any value is written, or why not.
-/
import Derived.Test.YtljgjjbmgjfbcaaDoorWrEx
import Derived.Test.YtljgjjbmgjfbcaaDoorWrRText
import Derived.Test.YtljgjjbmgjfbcaaDoorMLow
namespace Go.Proofs.YtljgjjbmgjfbcaaDoor
open Go.RowKit
set_option maxRecDepth 100000

set_option maxHeartbeats 4000000 in
theorem tells_law (v : Val) (x : Hv) (w : World) (S : Nat → Prop) (hlaid : Laid w) (hR : Rd w S x v) (hS : ∀ k, S k → k < w.heap.size) :
    Calls Tryd.prog 3 #[.agg x.arr] w fun e w' => e = .returned (.bool true) ∧ Below w.heap.size w w' := by
  obtain ⟨xk, xn, xg, xs, ⟨lp, ll, lc⟩, ⟨dp, dl, dc⟩⟩ := x
  have Hval := Lib.hid (fun W (hb : Below w.heap.size w W) => written_any W (hlaid.later hb))
  obtain ⟨w1, hw1⟩ : ∃ w1, w.alloc (.cells #[.int .i64 xk, .int .i64 xn, .int .i64 xg, .string xs, .slice lp ll lc, .slice dp dl dc] 25) = w1 := ⟨_, rfl⟩
  have hb1 : Below w.heap.size w w1 := by rw [← hw1]; exact (Below.refl _ w).alloc (Nat.le_refl _) _
  have hz1 : w.heap.size < w1.heap.size := by rw [← hw1]; simp
  have hv1 : VCell w1 w.heap.size ⟨xk, xn, xg, xs, ⟨lp, ll, lc⟩, ⟨dp, dl, dc⟩⟩ := by rw [← hw1]; exact heap_alloc_new w _
  have HR := Lib.hid (hR.later (below_old hS hb1))
  have HS := Lib.hid (old_later hS hb1)
  have Hlaid := Lib.hid (hlaid.later hb1)
  have Hb1 := Lib.hid hb1
  have Hw1 := Lib.hid hw1
  have Hv1 := Lib.hid hv1
  clear hlaid hR hS hb1 hw1 hv1
  show Calls Tryd.prog 3 #[.agg #[.int .i64 xk, .int .i64 xn, .int .i64 xg, .string xs, .slice lp ll lc, .slice dp dl dc]] w _
  go_enter Tryd.func3, Tryd.ntmps3
  go_wp2_with fail
  rw [Hw1.out]
  refine (few_any v ⟨xk, xn, xg, xs, ⟨lp, ll, lc⟩, ⟨dp, dl, dc⟩⟩ w1 S 500 HR.out HS.out (by omega)).mono ?_
  rintro e w2 ⟨rfl, hb2⟩
  have Hb2 := Lib.hid (Hb1.out.trans (hb2.mono Hb1.out.size))
  have HR2 := Lib.hid (HR.out.later (below_old HS.out hb2))
  have HS2 := Lib.hid (old_later HS.out hb2)
  have Hl2 := Lib.hid (Hlaid.out.later hb2)
  have Hv2 := Lib.hid (Hv1.out.later hb2 hz1)
  have hz2 : w.heap.size < w2.heap.size := Nat.lt_of_lt_of_le hz1 hb2.size
  clear hb2
  obtain ⟨t, ht⟩ : ∃ t, fewV v 500 = t := ⟨_, rfl⟩
  rw [ht]
  cases t
  · clear ht
    go_wp2_with (go_at_call 7; refine (Hval.out _ Hb2.out).mono ?_; rintro e w3 ⟨rfl, hb⟩; have HB3 := Lib.hid (Hb2.out.trans (hb.mono Hb2.out.size)); clear hb)
    go_ret
    exact ⟨rfl, HB3.out⟩
  · have hfit : Fit v 4000 := (few_fit ht).mono (by omega)
    have h1 := wtext_is v ⟨xk, xn, xg, xs, ⟨lp, ll, lc⟩, ⟨dp, dl, dc⟩⟩ w2 S Hl2.out HR2.out HS2.out hfit
    have h2 := fun W (hb : Below w2.heap.size w2 W) => rtext_is v ⟨xk, xn, xg, xs, ⟨lp, ll, lc⟩, ⟨dp, dl, dc⟩⟩ W S (HR2.out.later (below_old HS2.out hb)) (old_later HS2.out hb) hfit
    dsimp only [Hv.arr] at h1 h2
    obtain ⟨u, hu⟩ : ∃ u, bytes (writeW v).1 = u := ⟨_, rfl⟩
    obtain ⟨c, hc⟩ : ∃ c, (writeW v).2 = c := ⟨_, rfl⟩
    simp only [hu, hc] at h1 h2
    have H1 := Lib.hid h1
    have H2 := Lib.hid h2
    clear h1 h2 hu hc ht hfit
    go_wp2_with (first
      | (refine VCell.load rfl (.tmp 1) rfl w.heap.size _ rfl Hv2.out ?_)
      | (go_at_call 8; refine H1.out.mono ?_; rintro e w3 ⟨rfl, hb⟩; have Hx3 := Lib.hid hb; have Hv3 := Lib.hid (Hv2.out.later hb hz2); have HB3 := Lib.hid (Hb2.out.trans (hb.mono Hb2.out.size)); clear hb)
      | (refine VCell.load rfl (.tmp 1) rfl w.heap.size _ rfl Hv3.out ?_)
      | (go_at_call 9; refine (H2.out _ Hx3.out).mono ?_; rintro e w4 ⟨rfl, hb⟩; have HB4 := Lib.hid (HB3.out.trans (hb.mono HB3.out.size)); clear hb)
      | (go_at_call 7; refine (Hval.out _ HB4.out).mono ?_; rintro e w5 ⟨rfl, hb⟩; have HB5 := Lib.hid (HB4.out.trans (hb.mono HB4.out.size)); clear hb))
    go_ret
    exact ⟨rfl, HB5.out⟩
end Go.Proofs.YtljgjjbmgjfbcaaDoor
