/-
  The second law: what any value is, plainly, and whether two are alike.
-/
import Derived.Test.YtlmgjhidmipadaaHLow
import Derived.Test.YtlmgjhidmipadaaVRSame
import Derived.Test.YtlmgjhidmipadaaHEq
import Derived.Test.YtlmgjhidmipadaaVLaw1
namespace Go.Proofs.Ytlmgjhidmipadaa
open Go.RowKit
set_option maxRecDepth 100000

set_option maxHeartbeats 4000000 in
theorem plains_law (hval : ValuesC) (v u : Val) (x z : Hv) (w : World) (S : Nat → Prop) (hR : Rd w S x v) (hRu : Rd w S z u) (hS : ∀ k, S k → k < w.heap.size) :
    Calls Try.prog 4 #[.agg x.arr, .agg z.arr] w fun e w' => e = .returned (.bool true) ∧ Below w.heap.size w w' := by
  obtain ⟨xk, xn, xg, xs, ⟨lp, ll, lc⟩, ⟨dp, dl, dc⟩⟩ := x
  obtain ⟨zk, zn, zg, zs, ⟨zlp, zll, zlc⟩, ⟨zdp, zdl, zdc⟩⟩ := z
  have Hval := Lib.hid hval
  obtain ⟨wa, hwa⟩ : ∃ wa, w.alloc (.cells #[.int .i64 xk, .int .i64 xn, .int .i64 xg, .string xs, .slice lp ll lc, .slice dp dl dc] 25) = wa := ⟨_, rfl⟩
  obtain ⟨w1, hw1⟩ : ∃ w1, wa.alloc (.cells #[.int .i64 zk, .int .i64 zn, .int .i64 zg, .string zs, .slice zlp zll zlc, .slice zdp zdl zdc] 25) = w1 := ⟨_, rfl⟩
  have hsa : wa.heap.size = w.heap.size + 1 := by rw [← hwa]; simp
  have hs1 : w1.heap.size = w.heap.size + 1 + 1 := by rw [← hw1]; simp [hsa]
  have hba : Below w.heap.size w wa := by rw [← hwa]; exact (Below.refl _ w).alloc (Nat.le_refl _) _
  have hbb : Below wa.heap.size wa w1 := by rw [← hw1]; exact (Below.refl _ wa).alloc (Nat.le_refl _) _
  have hb1 : Below w.heap.size w w1 := hba.trans (hbb.mono (by omega))
  have hv1 : VCell w1 w.heap.size ⟨xk, xn, xg, xs, ⟨lp, ll, lc⟩, ⟨dp, dl, dc⟩⟩ := (show VCell wa w.heap.size ⟨xk, xn, xg, xs, ⟨lp, ll, lc⟩, ⟨dp, dl, dc⟩⟩ by rw [← hwa]; exact heap_alloc_new w _).later hbb (by omega)
  have hv2 : VCell w1 (w.heap.size + 1) ⟨zk, zn, zg, zs, ⟨zlp, zll, zlc⟩, ⟨zdp, zdl, zdc⟩⟩ := by rw [← hsa, ← hw1]; exact heap_alloc_new wa _
  have HR := Lib.hid (hR.later (below_old hS hb1))
  have HRu := Lib.hid (hRu.later (below_old hS hb1))
  have HS := Lib.hid (old_later hS hb1)
  have Hb1 := Lib.hid hb1
  have Hwa := Lib.hid hwa
  have Hw1 := Lib.hid hw1
  have Hv1 := Lib.hid hv1
  have Hv2 := Lib.hid hv2
  obtain ⟨c0, c1, c2, c3, c4, c5⟩ := hv1.at
  obtain ⟨d0, d1, d2, d3, d4, d5⟩ := hv2.at
  simp only [Nat.zero_add] at c0 c1 c2 c3 c4 c5 d0 d1 d2 d3 d4 d5
  clear hval hR hRu hS hb1 hwa hw1 hv1 hv2 hba hbb hsa
  show Calls Try.prog 4 #[.agg #[.int .i64 xk, .int .i64 xn, .int .i64 xg, .string xs, .slice lp ll lc, .slice dp dl dc], .agg #[.int .i64 zk, .int .i64 zn, .int .i64 zg, .string zs, .slice zlp zll zlc, .slice zdp zdl zdc]] w _
  go_enter Try.func4, Try.ntmps4
  go_wp2_with fail
  rw [Hwa.out, Hw1.out]
  refine (few_any v ⟨xk, xn, xg, xs, ⟨lp, ll, lc⟩, ⟨dp, dl, dc⟩⟩ w1 S 500 HR.out HS.out (by omega)).mono ?_
  rintro e w2 ⟨rfl, hb2⟩
  have Hb2 := Lib.hid hb2
  have HR2 := Lib.hid (HR.out.later (below_old HS.out hb2))
  have HRu2 := Lib.hid (HRu.out.later (below_old HS.out hb2))
  have HS2 := Lib.hid (old_later HS.out hb2)
  have hv1 := Hv1.out.later hb2 (by omega)
  have hv2 := Hv2.out.later hb2 (by omega)
  have Hvv1 := Lib.hid hv1
  have Hvv2 := Lib.hid hv2
  obtain ⟨e0, e1, e2, e3, e4, e5⟩ := hv2.at
  simp only [Nat.zero_add] at e0 e1 e2 e3 e4 e5
  have hs2 : w.heap.size + 1 < w2.heap.size := by have := hb2.size; omega
  have Hend : Hid (∀ W, Below w2.heap.size w2 W → Below w.heap.size w W) := Lib.hid (fun W h => Hb1.out.trans ((hb2.trans (h.mono hb2.size)).mono Hb1.out.size))
  clear hb2 hv1 hv2 c0 c1 c2 c3 c4 c5 d0 d1 d2 d3 d4 d5
  obtain ⟨t, ht⟩ : ∃ t, fewV v 500 = t := ⟨_, rfl⟩
  rw [ht]
  cases t
  · clear ht e0 e1 e2 e3 e4 e5
    go_wp2_with fail
    refine (Hval.out _).mono ?_
    rintro e w3 ⟨rfl, hb3⟩
    have Hb3 := Lib.hid hb3
    clear hb3
    go_wp2
    go_ret
    exact ⟨rfl, Hend.out _ Hb3.out⟩
  · have hfit : Fit v 4000 := (few_fit ht).mono (by omega)
    have Hfit := Lib.hid hfit
    clear hfit ht
    go_wp2_with fail
    refine (few_any u ⟨zk, zn, zg, zs, ⟨zlp, zll, zlc⟩, ⟨zdp, zdl, zdc⟩⟩ w2 S 500 HRu2.out HS2.out (by omega)).mono ?_
    rintro e w3 ⟨rfl, hb3⟩
    have Hb3 := Lib.hid hb3
    clear e0 e1 e2 e3 e4 e5
    obtain ⟨t, ht⟩ : ∃ t, fewV u 500 = t := ⟨_, rfl⟩
    rw [ht]
    cases t
    · clear ht hb3
      go_wp2_with fail
      refine (Hval.out _).mono ?_
      rintro e w4 ⟨rfl, hb4⟩
      have Hb4 := Lib.hid hb4
      clear hb4
      go_wp2
      go_ret
      exact ⟨rfl, Hend.out _ (Hb3.out.trans (Hb4.out.mono Hb3.out.size))⟩
    · have hfitu : Fit u 4000 := (few_fit ht).mono (by omega)
      have hfit := Hfit.out
      have hRv := HR2.out.later (below_old HS2.out hb3)
      have hRu := HRu2.out.later (below_old HS2.out hb3)
      have hS3 := old_later HS2.out hb3
      have hw1 := Hvv1.out.later hb3 (by omega)
      have hw2 := Hvv2.out.later hb3 (by omega)
      have hs3 : w.heap.size + 1 < w3.heap.size := by have := hb3.size; omega
      have hkeep : ∀ w' : World, Below w3.heap.size w3 w' → w'.cell? ⟨w.heap.size, 0, none⟩ = some (.int .i64 xk) ∧ w'.cell? ⟨w.heap.size, 1, none⟩ = some (.int .i64 xn) ∧ w'.cell? ⟨w.heap.size, 2, none⟩ = some (.int .i64 xg) ∧ w'.cell? ⟨w.heap.size, 3, none⟩ = some (.string xs) ∧ w'.cell? ⟨w.heap.size, 4, none⟩ = some (.slice lp ll lc) ∧ w'.cell? ⟨w.heap.size, 5, none⟩ = some (.slice dp dl dc) ∧ w'.cell? ⟨w.heap.size + 1, 0, none⟩ = some (.int .i64 zk) ∧ w'.cell? ⟨w.heap.size + 1, 1, none⟩ = some (.int .i64 zn) ∧ w'.cell? ⟨w.heap.size + 1, 2, none⟩ = some (.int .i64 zg) ∧ w'.cell? ⟨w.heap.size + 1, 3, none⟩ = some (.string zs) ∧ w'.cell? ⟨w.heap.size + 1, 4, none⟩ = some (.slice zlp zll zlc) ∧ w'.cell? ⟨w.heap.size + 1, 5, none⟩ = some (.slice zdp zdl zdc) := fun w' hb => by
        obtain ⟨a0, a1, a2, a3, a4, a5⟩ := (hw1.later hb (by omega)).at
        obtain ⟨b0, b1, b2, b3, b4, b5⟩ := (hw2.later hb (by omega)).at
        exact ⟨a0, a1, a2, a3, a4, a5, b0, b1, b2, b3, b4, b5⟩
      have Hkeep := Lib.hid hkeep
      have HP := Lib.hid (fun W (hb : Below w3.heap.size w3 W) => pplain_any v ⟨xk, xn, xg, xs, ⟨lp, ll, lc⟩, ⟨dp, dl, dc⟩⟩ W S (hRv.later (below_old hS3 hb)) (old_later hS3 hb) hfit)
      have HQ := Lib.hid (fun W (hb : Below w3.heap.size w3 W) => rplain_any v ⟨xk, xn, xg, xs, ⟨lp, ll, lc⟩, ⟨dp, dl, dc⟩⟩ W S (hRv.later (below_old hS3 hb)) (old_later hS3 hb) hfit)
      have HSm := Lib.hid (fun W (hb : Below w3.heap.size w3 W) => pSame_any v u ⟨xk, xn, xg, xs, ⟨lp, ll, lc⟩, ⟨dp, dl, dc⟩⟩ ⟨zk, zn, zg, zs, ⟨zlp, zll, zlc⟩, ⟨zdp, zdl, zdc⟩⟩ W S (hRv.later (below_old hS3 hb)) (hRu.later (below_old hS3 hb)) (old_later hS3 hb) hfit hfitu)
      have HRs := Lib.hid (fun W (hb : Below w3.heap.size w3 W) => rSame_any v u ⟨xk, xn, xg, xs, ⟨lp, ll, lc⟩, ⟨dp, dl, dc⟩⟩ ⟨zk, zn, zg, zs, ⟨zlp, zll, zlc⟩, ⟨zdp, zdl, zdc⟩⟩ W S (hRv.later (below_old hS3 hb)) (hRu.later (below_old hS3 hb)) (old_later hS3 hb) hfit hfitu)
      have HSv := Lib.hid (fun W (hb : Below w3.heap.size w3 W) => pSame_any v v ⟨xk, xn, xg, xs, ⟨lp, ll, lc⟩, ⟨dp, dl, dc⟩⟩ ⟨xk, xn, xg, xs, ⟨lp, ll, lc⟩, ⟨dp, dl, dc⟩⟩ W S (hRv.later (below_old hS3 hb)) (hRv.later (below_old hS3 hb)) (old_later hS3 hb) hfit hfit)
      dsimp only [Hv.arr] at HP HQ HSm HRs HSv
      have hmx : Try.prog.follows .mixedOrders = true := by kernel_rfl
      clear hfitu hfit hRv hRu hS3 hw1 hw2 hkeep hb3 ht
      go_wp2_with fail
      go_region_held3 (fun w' => w'.cell? ⟨w.heap.size, 0, none⟩ = some (.int .i64 xk) ∧ w'.cell? ⟨w.heap.size, 1, none⟩ = some (.int .i64 xn) ∧ w'.cell? ⟨w.heap.size, 2, none⟩ = some (.int .i64 xg) ∧ w'.cell? ⟨w.heap.size, 3, none⟩ = some (.string xs) ∧ w'.cell? ⟨w.heap.size, 4, none⟩ = some (.slice lp ll lc) ∧ w'.cell? ⟨w.heap.size, 5, none⟩ = some (.slice dp dl dc) ∧ w'.cell? ⟨w.heap.size + 1, 0, none⟩ = some (.int .i64 zk) ∧ w'.cell? ⟨w.heap.size + 1, 1, none⟩ = some (.int .i64 zn) ∧ w'.cell? ⟨w.heap.size + 1, 2, none⟩ = some (.int .i64 zg) ∧ w'.cell? ⟨w.heap.size + 1, 3, none⟩ = some (.string zs) ∧ w'.cell? ⟨w.heap.size + 1, 4, none⟩ = some (.slice zlp zll zlc) ∧ w'.cell? ⟨w.heap.size + 1, 5, none⟩ = some (.slice zdp zdl zdc))
        (first | exact Hkeep.out _ B10.out | exact Hkeep.out _ B9.out | exact Hkeep.out _ B8.out | exact Hkeep.out _ B7.out | exact Hkeep.out _ B6.out | exact Hkeep.out _ B5.out | exact Hkeep.out _ B4.out | exact Hkeep.out _ (below_drewN (Below.refl _ w3) 1) | go_keep)
        (first
          | (go_simp; go_at_call 17; refine (HP.out _ (below_drewN (Below.refl _ w3) 1)).mono ?_; rintro e w4 ⟨⟨ak, an, ag, ast, ⟨alp, all, alc⟩, ⟨adp, adl, adc⟩⟩, he, hy, hb⟩; replace he : e = .returned (.agg #[.int .i64 ak, .int .i64 an, .int .i64 ag, .string ast, .slice alp all alc, .slice adp adl adc]) := he; subst he; have HA := Lib.hid hy; have B4 : Hid (Below w3.heap.size w3 w4) := Lib.hid (below_of_drewN (n := 1) hb); clear hy hb)
          | (go_simp; go_at_call 18; refine (HQ.out w4 B4.out).mono ?_; rintro e w5 ⟨⟨bk, bn, bg, bst, ⟨blp, bll, blc⟩, ⟨bdp, bdl, bdc⟩⟩, he, hy, hb⟩; replace he : e = .returned (.agg #[.int .i64 bk, .int .i64 bn, .int .i64 bg, .string bst, .slice blp bll blc, .slice bdp bdl bdc]) := he; subst he; have HB := Lib.hid hy; have H45 := Lib.hid hb; have B5 := Lib.hid (B4.out.trans (hb.mono B4.out.size)); clear hy hb)
          | (go_simp; go_at_call 16; refine (requal_any (plainV v) (plainV v) ⟨ak, an, ag, ast, ⟨alp, all, alc⟩, ⟨adp, adl, adc⟩⟩ ⟨bk, bn, bg, bst, ⟨blp, bll, blc⟩, ⟨bdp, bdl, bdc⟩⟩ w5 (fun k => k < w5.heap.size) ((HA.out.carry H45.out).mono (fun k hk => hk.2)) (HB.out.bound.mono (fun k hk => hk.2)) (fun _ h => h)).mono ?_; rw [equalV_refl]; rintro e w6 ⟨rfl, hb⟩; have B6 := Lib.hid (B5.out.trans (hb.mono B5.out.size)); clear hb)
          | (go_simp; go_at_call 19; with_reducible refine (HSm.out w6 B6.out).mono ?_; rintro e w7 ⟨rfl, hb⟩; have B7 := Lib.hid (B6.out.trans (hb.mono B6.out.size)); clear hb)
          | (go_simp; go_at_call 20; refine (HRs.out w7 B7.out).mono ?_; rintro e w8 ⟨rfl, hb⟩; have B8 := Lib.hid (B7.out.trans (hb.mono B7.out.size)); clear hb)
          | (go_simp; go_at_call 19; refine (HSv.out w8 B8.out).mono ?_; rw [equalV_refl]; rintro e w9 ⟨rfl, hb⟩; have B9 := Lib.hid (B8.out.trans (hb.mono B8.out.size)); clear hb)
          | (go_simp; go_at_call 9; refine (Hval.out w9).mono ?_; rintro e w10 ⟨rfl, hb⟩; have B10 := Lib.hid (B9.out.trans (hb.mono B9.out.size)); clear hb))
      go_wp2
      go_ret
      exact ⟨rfl, Hend.out _ (Hb3.out.trans (B10.out.mono Hb3.out.size))⟩
end Go.Proofs.Ytlmgjhidmipadaa
