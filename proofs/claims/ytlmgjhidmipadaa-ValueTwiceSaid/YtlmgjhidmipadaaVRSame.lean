/-
  The document's answers: Check, Size, Same.
-/
import Derived.Test.YtlmgjhidmipadaaVRCheck
import Derived.Test.YtlmgjhidmipadaaHRPl
import Derived.Test.YtlmgjhidmipadaaVREqual
import Derived.Test.YtlmgjhidmipadaaHLow
namespace Go.Proofs.Ytlmgjhidmipadaa
open Go.RowKit
set_option maxRecDepth 100000

set_option maxHeartbeats 4000000 in
theorem rCheck_any (v : Val) (st : Bool) (x : Hv) (w : World) (S : Nat → Prop) (hR : Rd w S x v) (hS : ∀ k, S k → k < w.heap.size) (hfit : Fit v 4000) :
    Calls Try.prog 11 #[.agg x.arr, .bool st] w fun e w' => e = .returned (.int .i64 (checkV v st 0)) ∧ Below w.heap.size w w' := by
  obtain ⟨k, n, g, s, ⟨lp, ll, lc⟩, ⟨dp, dl, dc⟩⟩ := x
  obtain ⟨w1, hw1⟩ : ∃ w1, w.alloc (.cells #[.int .i64 k, .int .i64 n, .int .i64 g, .string s, .slice lp ll lc, .slice dp dl dc] 25) = w1 := ⟨_, rfl⟩
  have Hv1 : Hid (VCell w1 w.heap.size ⟨k, n, g, s, ⟨lp, ll, lc⟩, ⟨dp, dl, dc⟩⟩) := Lib.hid (by rw [← hw1]; exact heap_alloc_new w _)
  have hb1 : Below w.heap.size w w1 := by rw [← hw1]; exact (Below.refl _ w).alloc (Nat.le_refl _) _
  have Hc := Lib.hid (rcheck_any v st 0 _ w1 S (hR.later (below_old hS hb1)) (old_later hS hb1) hfit (Int.le_refl _) (by have := hfit.1; omega))
  have Hb1 := Lib.hid hb1
  have Hw1 := Lib.hid hw1
  clear hw1 hb1 hR hS hfit
  show Calls Try.prog 11 #[.agg #[.int .i64 k, .int .i64 n, .int .i64 g, .string s, .slice lp ll lc, .slice dp dl dc], .bool st] w _
  go_enter Try.func11, Try.ntmps11
  iterate 20 go_step
  rw [Hw1.out]
  go_wp2_with (first | (refine VCell.load rfl (.tmp 2) rfl w.heap.size _ rfl Hv1.out ?_) | (go_at_call 33; refine Hc.out.mono ?_; rintro e w2 ⟨rfl, hb⟩; have Hb2 := Lib.hid hb; clear hb))
  go_ret
  exact ⟨rfl, Hb1.out.trans (Hb2.out.mono Hb1.out.size)⟩

set_option maxHeartbeats 4000000 in
theorem rSize_any (v : Val) (x : Hv) (w : World) (S : Nat → Prop) (hR : Rd w S x v) (hS : ∀ k, S k → k < w.heap.size) (hsz : sizeV v ≤ 100000) :
    Calls Try.prog 15 #[.agg x.arr] w fun e w' => e = .returned (.int .i64 (sizeV v : Nat)) ∧ Below w.heap.size w w' := by
  obtain ⟨k, n, g, s, ⟨lp, ll, lc⟩, ⟨dp, dl, dc⟩⟩ := x
  obtain ⟨w1, hw1⟩ : ∃ w1, w.alloc (.cells #[.int .i64 k, .int .i64 n, .int .i64 g, .string s, .slice lp ll lc, .slice dp dl dc] 25) = w1 := ⟨_, rfl⟩
  have Hv1 : Hid (VCell w1 w.heap.size ⟨k, n, g, s, ⟨lp, ll, lc⟩, ⟨dp, dl, dc⟩⟩) := Lib.hid (by rw [← hw1]; exact heap_alloc_new w _)
  have hb1 : Below w.heap.size w w1 := by rw [← hw1]; exact (Below.refl _ w).alloc (Nat.le_refl _) _
  have hc := size_any v _ w1 S 4611686018427387904 (hR.later (below_old hS hb1)) (old_later hS hb1) (by omega) (by omega)
  have e : cutN (sizeV v) 4611686018427387904 = sizeV v := by unfold cutN; omega
  rw [e] at hc
  have Hc := Lib.hid hc
  have Hb1 := Lib.hid hb1
  have Hw1 := Lib.hid hw1
  clear hw1 hb1 hR hS hsz hc e
  show Calls Try.prog 15 #[.agg #[.int .i64 k, .int .i64 n, .int .i64 g, .string s, .slice lp ll lc, .slice dp dl dc]] w _
  go_enter Try.func15, Try.ntmps15
  iterate 12 go_step
  rw [Hw1.out]
  go_wp2_with (first | (refine VCell.load rfl (.tmp 1) rfl w.heap.size _ rfl Hv1.out ?_) | (go_at_call 29; refine Hc.out.mono ?_; rintro e w2 ⟨rfl, hb⟩; have Hb2 := Lib.hid hb; clear hb))
  go_ret
  exact ⟨rfl, Hb1.out.trans (Hb2.out.mono Hb1.out.size)⟩

set_option maxHeartbeats 4000000 in
theorem rSame_any (v v' : Val) (x x' : Hv) (w : World) (S : Nat → Prop) (hR : Rd w S x v) (hR' : Rd w S x' v') (hS : ∀ k, S k → k < w.heap.size) (hfit : Fit v 4000) (hfit' : Fit v' 4000) :
    Calls Try.prog 20 #[.agg x.arr, .agg x'.arr] w fun e w' => e = .returned (.bool (equalV (plainV v) (plainV v'))) ∧ Below w.heap.size w w' := by
  obtain ⟨k, n, g, s, ⟨lp, ll, lc⟩, ⟨dp, dl, dc⟩⟩ := x
  obtain ⟨k', n', g', s', ⟨lp', ll', lc'⟩, ⟨dp', dl', dc'⟩⟩ := x'
  obtain ⟨w1, hw1⟩ : ∃ w1, w.alloc (.cells #[.int .i64 k, .int .i64 n, .int .i64 g, .string s, .slice lp ll lc, .slice dp dl dc] 25) = w1 := ⟨_, rfl⟩
  obtain ⟨w2, hw2⟩ : ∃ w2, w1.alloc (.cells #[.int .i64 k', .int .i64 n', .int .i64 g', .string s', .slice lp' ll' lc', .slice dp' dl' dc'] 25) = w2 := ⟨_, rfl⟩
  have hs1 : w1.heap.size = w.heap.size + 1 := by rw [← hw1]; simp
  have hs2 : w2.heap.size = w.heap.size + 1 + 1 := by rw [← hw2]; simp [hs1]
  have hb1 : Below w.heap.size w w1 := by rw [← hw1]; exact (Below.refl _ w).alloc (Nat.le_refl _) _
  have hb2 : Below w1.heap.size w1 w2 := by rw [← hw2]; exact (Below.refl _ w1).alloc (Nat.le_refl _) _
  have hb : Below w.heap.size w w2 := hb1.trans (hb2.mono (by omega))
  have hv1 : VCell w2 w.heap.size ⟨k, n, g, s, ⟨lp, ll, lc⟩, ⟨dp, dl, dc⟩⟩ := (show VCell w1 w.heap.size ⟨k, n, g, s, ⟨lp, ll, lc⟩, ⟨dp, dl, dc⟩⟩ by rw [← hw1]; exact heap_alloc_new w _).later hb2 (by omega)
  have hv2 : VCell w2 (w.heap.size + 1) ⟨k', n', g', s', ⟨lp', ll', lc'⟩, ⟨dp', dl', dc'⟩⟩ := by rw [← hs1, ← hw2]; exact heap_alloc_new w1 _
  have HR := Lib.hid (hR.later (below_old hS hb))
  have HR' := Lib.hid (hR'.later (below_old hS hb))
  have HS := Lib.hid (old_later hS hb)
  have Hb := Lib.hid hb
  have Hv1 := Lib.hid hv1
  have Hv2 := Lib.hid hv2
  have Hw1 := Lib.hid hw1
  have Hw2 := Lib.hid hw2
  have Hs2 := Lib.hid hs2
  have Hfit := Lib.hid hfit
  have Hfit' := Lib.hid hfit'
  clear hw1 hw2 hs1 hs2 hb1 hb2 hb hv1 hv2 hR hR' hS hfit hfit'
  show Calls Try.prog 20 #[.agg #[.int .i64 k, .int .i64 n, .int .i64 g, .string s, .slice lp ll lc, .slice dp dl dc], .agg #[.int .i64 k', .int .i64 n', .int .i64 g', .string s', .slice lp' ll' lc', .slice dp' dl' dc']] w _
  go_enter Try.func20, Try.ntmps20
  go_wp2_with fail
  rw [Hw1.out, Hw2.out]
  obtain ⟨c0, c1, c2, c3, c4, c5⟩ := Hv1.out.at
  obtain ⟨d0, d1, d2, d3, d4, d5⟩ := Hv2.out.at
  dsimp only [Nat.zero_add] at c0 c1 c2 c3 c4 c5 d0 d1 d2 d3 d4 d5
  go_region_with (first
    | (go_at_call_of 18 (Value.agg #[.int .i64 k, .int .i64 n, .int .i64 g, .string s, .slice lp ll lc, .slice dp dl dc])
       refine (rplain_any v ⟨k, n, g, s, ⟨lp, ll, lc⟩, ⟨dp, dl, dc⟩⟩ w2.drew S (HR.out.later (fun _ _ => rfl)) HS.out Hfit.out).mono ?_
       rintro e w3 ⟨⟨yk, yn, yg, ys, ⟨ylp, yll, ylc⟩, ⟨ydp, ydl, ydc⟩⟩, he, hy, hb3⟩
       replace he : e = .returned (.agg #[.int .i64 yk, .int .i64 yn, .int .i64 yg, .string ys, .slice ylp yll ylc, .slice ydp ydl ydc]) := he
       subst he
       have hb4 : Below w2.heap.size w2 w3 := ⟨hb3.os, hb3.tape, hb3.output, hb3.size, hb3.block⟩
       have HV3 := Lib.hid (Hv2.out.later hb4 (by rw [Hs2.out]; omega))
       have HY : Hid (Rd w3 (fun k => w2.heap.size ≤ k) ⟨yk, yn, yg, ys, ⟨ylp, yll, ylc⟩, ⟨ydp, ydl, ydc⟩⟩ (plainV v)) := Lib.hid hy
       have Hb3 := Lib.hid hb4
       have HR3 := Lib.hid (HR'.out.later (below_old HS.out hb4))
       have HS3 := Lib.hid (old_later HS.out hb4)
       clear hb3 hb4 hy
       obtain ⟨f0, f1, f2, f3, f4, f5⟩ := HV3.out.at
       dsimp only [Nat.zero_add] at f0 f1 f2 f3 f4 f5)
    | (go_at_call_of 18 (Value.agg #[.int .i64 k', .int .i64 n', .int .i64 g', .string s', .slice lp' ll' lc', .slice dp' dl' dc'])
       refine (rplain_any v' ⟨k', n', g', s', ⟨lp', ll', lc'⟩, ⟨dp', dl', dc'⟩⟩ _ S HR3.out HS3.out Hfit'.out).mono ?_
       rintro e w4 ⟨⟨zk, zn, zg, zs, ⟨zlp, zll, zlc⟩, ⟨zdp, zdl, zdc⟩⟩, he, hy, hb3⟩
       replace he : e = .returned (.agg #[.int .i64 zk, .int .i64 zn, .int .i64 zg, .string zs, .slice zlp zll zlc, .slice zdp zdl zdc]) := he
       subst he
       have HZ : Hid (Rd w4 (fun k => w3.heap.size ≤ k) ⟨zk, zn, zg, zs, ⟨zlp, zll, zlc⟩, ⟨zdp, zdl, zdc⟩⟩ (plainV v')) := Lib.hid hy
       have Hb4 : Hid (Below w3.heap.size w3 w4) := Lib.hid hb3
       clear hb3 hy)
    | (go_at_call 16
       refine (requal_any (plainV v) (plainV v') ⟨yk, yn, yg, ys, ⟨ylp, yll, ylc⟩, ⟨ydp, ydl, ydc⟩⟩ ⟨zk, zn, zg, zs, ⟨zlp, zll, zlc⟩, ⟨zdp, zdl, zdc⟩⟩ w4 (fun k => k < w4.heap.size) ((HY.out.bound.later (fun k hk => Hb4.out.block k hk.2)).mono (fun k hk => Nat.lt_of_lt_of_le hk.2 Hb4.out.size)) (HZ.out.bound.mono (fun k hk => hk.2)) (fun _ h => h)).mono ?_
       rintro e w5 ⟨rfl, hb5⟩
       have Hb5 := Lib.hid hb5
       clear hb5))
  all_goals go_wp2
  all_goals go_ret
  all_goals exact ⟨rfl, Hb.out.trans ((Hb3.out.trans ((Hb4.out.trans (Hb5.out.mono Hb4.out.size)).mono Hb3.out.size)).mono Hb.out.size)⟩
end Go.Proofs.Ytlmgjhidmipadaa
