/-
  The document's Text.
-/
import Derived.Test.YtljgjjbmgjfbcaaDoorWrRVal
import Derived.Test.YtljgjjbmgjfbcaaDoorWrText
import Derived.Test.YtljgjjbmgjfbcaaDoorVRSame
namespace Go.Proofs.YtljgjjbmgjfbcaaDoor
open Go.RowKit
set_option maxRecDepth 100000

set_option maxHeartbeats 4000000 in
theorem rtext_is (v : Val) (x : Hv) (w : World) (S : Nat → Prop) (hR : Rd w S x v) (hS : ∀ k, S k → k < w.heap.size) (hfit : Fit v 4000) :
    Calls Tryd.prog 9 #[.agg x.arr] w fun e w' => e = .returned (.tuple #[.string (bytes (writeW v).1), .int .i64 (writeW v).2]) ∧ Below w.heap.size w w' := by
  obtain ⟨xk, xn, xg, xs, ⟨lp, ll, lc⟩, ⟨dp, dl, dc⟩⟩ := x
  obtain ⟨w1, hw1⟩ : ∃ w1, w.alloc (.cells #[.int .i64 xk, .int .i64 xn, .int .i64 xg, .string xs, .slice lp ll lc, .slice dp dl dc] 25) = w1 := ⟨_, rfl⟩
  have hb1 : Below w.heap.size w w1 := by rw [← hw1]; exact (Below.refl _ w).alloc (Nat.le_refl _) _
  have hv1 : VCell w1 w.heap.size ⟨xk, xn, xg, xs, ⟨lp, ll, lc⟩, ⟨dp, dl, dc⟩⟩ := by rw [← hw1]; exact heap_alloc_new w _
  have hz1 : w.heap.size < w1.heap.size := by rw [← hw1]; simp
  have hR1 := hR.later (below_old hS hb1)
  have hS1 := old_later hS hb1
  have hc := rCheck_any v false ⟨xk, xn, xg, xs, ⟨lp, ll, lc⟩, ⟨dp, dl, dc⟩⟩ w1 S hR1 hS1 hfit
  dsimp only [Hv.arr] at hc
  obtain ⟨c, hce⟩ : ∃ c, checkV v false 0 = c := ⟨_, rfl⟩
  rw [hce] at hc
  have Hc := Lib.hid hc
  have Hw1 := Lib.hid hw1
  have Hv1 := Lib.hid hv1
  have Hb1 := Lib.hid hb1
  show Calls Tryd.prog 9 #[.agg #[.int .i64 xk, .int .i64 xn, .int .i64 xg, .string xs, .slice lp ll lc, .slice dp dl dc]] w _
  by_cases h0 : c = 0
  · subst h0
    have hw := writeW_ok hce
    rw [hw]
    dsimp only
    obtain ⟨t, ht⟩ : ∃ t, textV (plainV v) = t := ⟨_, rfl⟩
    rw [ht]
    have hP := fun W (hb : Below w1.heap.size w1 W) => rplain_any v ⟨xk, xn, xg, xs, ⟨lp, ll, lc⟩, ⟨dp, dl, dc⟩⟩ W S (hR1.later (below_old hS1 hb)) (old_later hS1 hb) hfit
    dsimp only [Hv.arr] at hP
    have HP := Lib.hid hP
    have hq := fun (y : Hv) (w3 : World) (S3 : Nat → Prop) (hRy : Rd w3 S3 y (plainV v)) =>
      rval_any (plainV v) y w3 (fun k => S3 k ∧ k < w3.heap.size) hRy.bound (fun k hk => hk.2) (ok_plain hce) (plain_fit hfit)
    rw [ht] at hq
    have Hq := Lib.hid hq
    clear hc hce hw1 hv1 hR hS hfit hw hP hq hb1 hR1 hS1 ht
    go_enter Tryd.func9, Tryd.ntmps9
    iterate 18 go_step
    rw [Hw1.out]
    go_wp2_with (first
      | (refine VCell.load rfl (.tmp 1) rfl w.heap.size _ rfl Hv1.out ?_)
      | (go_at_call 23; refine Hc.out.mono ?_; rintro e w2 ⟨rfl, h2⟩; have Hb2 := Lib.hid h2; have Hv2 := Lib.hid (Hv1.out.later h2 hz1); clear h2)
      | (refine VCell.load rfl (.tmp 1) rfl w.heap.size _ rfl Hv2.out ?_)
      | (go_at_call 25; refine (HP.out _ Hb2.out).mono ?_; rintro e w3 ⟨⟨yk, yn, yg, ys, ⟨ylp, yll, ylc⟩, ⟨ydp, ydl, ydc⟩⟩, he, hy, hb3⟩; replace he : e = .returned (.agg #[.int .i64 yk, .int .i64 yn, .int .i64 yg, .string ys, .slice ylp yll ylc, .slice ydp ydl ydc]) := he; subst he; have HQ := Lib.hid (Hq.out _ w3 _ hy); have Hb3 := Lib.hid (Hb2.out.trans (hb3.mono Hb2.out.size)); clear hy hb3)
      | (go_at_call 24; refine HQ.out.mono ?_; rintro e w4 ⟨rfl, hb⟩; have Hb4 := Lib.hid (Hb3.out.trans (hb.mono Hb3.out.size)); clear hb))
    exact bodyPost_ret (v := .tuple #[.string (bytes t), .int .i64 0]) (by simp [results, Tryd.results9, go_sem]) rfl ⟨rfl, Hb1.out.trans (Hb4.out.mono Hb1.out.size)⟩
  · have hw := writeW_bad (v := v) (by rw [hce]; exact h0)
    rw [hw, hce]
    have h1 : (c != 0) = true := by simpa using h0
    clear hc hce hw1 hv1 hR hS hfit hw hb1 hR1 hS1 h0
    go_enter Tryd.func9, Tryd.ntmps9
    iterate 18 go_step
    rw [Hw1.out]
    go_wp2_with (first
      | (refine VCell.load rfl (.tmp 1) rfl w.heap.size _ rfl Hv1.out ?_)
      | (go_at_call 23; refine Hc.out.mono ?_; rintro e w2 ⟨rfl, h2⟩; have Hb2 := Lib.hid h2; clear h2))
    go_ret2
    exact ⟨rfl, Hb1.out.trans (Hb2.out.mono Hb1.out.size)⟩
end Go.Proofs.YtljgjjbmgjfbcaaDoor
