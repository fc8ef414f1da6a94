/-
  The third law: what stands under any key of any value, and what it is with another one there.
-/
import Derived.Test.YtlmgjhidmipadaaHLow
import Derived.Test.YtlmgjhidmipadaaVRGet
import Derived.Test.YtlmgjhidmipadaaVRWith
import Derived.Test.YtlmgjhidmipadaaVPGet
import Derived.Test.YtlmgjhidmipadaaVPWith
import Derived.Test.YtlmgjhidmipadaaVLaw1
namespace Go.Proofs.Ytlmgjhidmipadaa
open Go.RowKit
set_option maxRecDepth 100000

set_option maxHeartbeats 4000000 in
theorem gets_law (hval : ValuesC) (v u : Val) (key : ByteArray) (x z : Hv) (w : World) (S : Nat → Prop) (hR : Rd w S x v) (hRu : Rd w S z u) (hS : ∀ k, S k → k < w.heap.size) :
    Calls Try.prog 5 #[.agg x.arr, .string key, .agg z.arr] w fun e w' => e = .returned (.bool true) ∧ Below w.heap.size w w' := by
  obtain ⟨xk, xn, xg, xs, ⟨lp, ll, lc⟩, ⟨dp, dl, dc⟩⟩ := x
  obtain ⟨zk, zn, zg, zs, ⟨zlp, zll, zlc⟩, ⟨zdp, zdl, zdc⟩⟩ := z
  have Hval := Lib.hid hval
  obtain ⟨wa, hwa⟩ : ∃ wa, w.alloc (.cells #[.int .i64 xk, .int .i64 xn, .int .i64 xg, .string xs, .slice lp ll lc, .slice dp dl dc] 25) = wa := ⟨_, rfl⟩
  obtain ⟨w1, hw1⟩ : ∃ w1, wa.alloc (.cells #[.int .i64 zk, .int .i64 zn, .int .i64 zg, .string zs, .slice zlp zll zlc, .slice zdp zdl zdc] 25) = w1 := ⟨_, rfl⟩
  have hsa : wa.heap.size = w.heap.size + 1 := by rw [← hwa]; simp
  have hs1 : w1.heap.size = w.heap.size + 1 + 1 := by rw [← hw1]; simp [hsa]
  have hba : Below w.heap.size w wa := by rw [← hwa]; exact (Below.refl _ w).alloc (Nat.le_refl _) _
  have hbb : Below wa.heap.size wa w1 := by rw [← hw1]; exact (Below.refl _ wa).alloc (Nat.le_refl _) _
  have hb1 : Below w.heap.size w w1 := hba.trans (hbb.mono (by omega))
  have hv1 : VCell w1 w.heap.size ⟨xk, xn, xg, xs, ⟨lp, ll, lc⟩, ⟨dp, dl, dc⟩⟩ := (show VCell wa w.heap.size ⟨xk, xn, xg, xs, ⟨lp, ll, lc⟩, ⟨dp, dl, dc⟩⟩ by rw [← hwa]; exact heap_alloc_new w _).later hbb (by omega)
  have hv2 : VCell w1 (w.heap.size + 1) ⟨zk, zn, zg, zs, ⟨zlp, zll, zlc⟩, ⟨zdp, zdl, zdc⟩⟩ := by rw [← hsa, ← hw1]; exact heap_alloc_new wa _
  have HR := Lib.hid (hR.later (below_old hS hb1))
  have HRu := Lib.hid (hRu.later (below_old hS hb1))
  have HS := Lib.hid (old_later hS hb1)
  have Hb1 := Lib.hid hb1
  have Hwa := Lib.hid hwa
  have Hw1 := Lib.hid hw1
  have Hv1 := Lib.hid hv1
  have Hv2 := Lib.hid hv2
  obtain ⟨c0, c1, c2, c3, c4, c5⟩ := hv1.at
  obtain ⟨d0, d1, d2, d3, d4, d5⟩ := hv2.at
  simp only [Nat.zero_add] at c0 c1 c2 c3 c4 c5 d0 d1 d2 d3 d4 d5
  clear hval hR hRu hS hb1 hwa hw1 hv1 hv2 hba hbb hsa
  show Calls Try.prog 5 #[.agg #[.int .i64 xk, .int .i64 xn, .int .i64 xg, .string xs, .slice lp ll lc, .slice dp dl dc], .string key, .agg #[.int .i64 zk, .int .i64 zn, .int .i64 zg, .string zs, .slice zlp zll zlc, .slice zdp zdl zdc]] w _
  go_enter Try.func5, Try.ntmps5
  go_wp2_with fail
  rw [Hwa.out, Hw1.out]
  refine (few_any v ⟨xk, xn, xg, xs, ⟨lp, ll, lc⟩, ⟨dp, dl, dc⟩⟩ w1 S 500 HR.out HS.out (by omega)).mono ?_
  rintro e w2 ⟨rfl, hb2⟩
  have Hb2 := Lib.hid hb2
  have HR2 := Lib.hid (HR.out.later (below_old HS.out hb2))
  have HRu2 := Lib.hid (HRu.out.later (below_old HS.out hb2))
  have HS2 := Lib.hid (old_later HS.out hb2)
  have hv1 := Hv1.out.later hb2 (by omega)
  have hv2 := Hv2.out.later hb2 (by omega)
  have Hvv1 := Lib.hid hv1
  have Hvv2 := Lib.hid hv2
  obtain ⟨e0, e1, e2, e3, e4, e5⟩ := hv2.at
  simp only [Nat.zero_add] at e0 e1 e2 e3 e4 e5
  have hs2 : w.heap.size + 1 < w2.heap.size := by have := hb2.size; omega
  have Hend : Hid (∀ W, Below w2.heap.size w2 W → Below w.heap.size w W) := Lib.hid (fun W h => Hb1.out.trans ((hb2.trans (h.mono hb2.size)).mono Hb1.out.size))
  clear hb2 hv1 hv2 c0 c1 c2 c3 c4 c5 d0 d1 d2 d3 d4 d5
  obtain ⟨t, ht⟩ : ∃ t, fewV v 500 = t := ⟨_, rfl⟩
  rw [ht]
  cases t
  · clear ht e0 e1 e2 e3 e4 e5
    go_wp2_with fail
    refine (Hval.out _).mono ?_
    rintro e w3 ⟨rfl, hb3⟩
    have Hb3 := Lib.hid hb3
    clear hb3
    go_wp2
    go_ret
    exact ⟨rfl, Hend.out _ Hb3.out⟩
  · have hfit : Fit v 500 := few_fit ht
    have Hfit := Lib.hid hfit
    clear hfit ht
    go_wp2_with fail
    refine (few_any u ⟨zk, zn, zg, zs, ⟨zlp, zll, zlc⟩, ⟨zdp, zdl, zdc⟩⟩ w2 S 500 HRu2.out HS2.out (by omega)).mono ?_
    rintro e w3 ⟨rfl, hb3⟩
    have Hb3 := Lib.hid hb3
    clear e0 e1 e2 e3 e4 e5
    obtain ⟨t, ht⟩ : ∃ t, fewV u 500 = t := ⟨_, rfl⟩
    rw [ht]
    cases t
    · clear ht hb3
      go_wp2_with fail
      refine (Hval.out _).mono ?_
      rintro e w4 ⟨rfl, hb4⟩
      have Hb4 := Lib.hid hb4
      clear hb4
      go_wp2
      go_ret
      exact ⟨rfl, Hend.out _ (Hb3.out.trans (Hb4.out.mono Hb3.out.size))⟩
    · have hfitu : Fit u 500 := few_fit ht
      by_cases hkey : 3000 < key.size
      · have hk2 : (3000 : Int) < (key.size : Int) := by omega
        clear hb3 ht
        go_wp2_with fail
        refine (Hval.out _).mono ?_
        rintro e w4 ⟨rfl, hb4⟩
        have Hb4 := Lib.hid hb4
        clear hb4
        go_wp2
        go_ret
        exact ⟨rfl, Hend.out _ (Hb3.out.trans (Hb4.out.mono Hb3.out.size))⟩
      have hk2 : ¬ (3000 : Int) < (key.size : Int) := by omega
      have hk3 : key.size ≤ 3000 := by omega
      have Hk3 := Lib.hid hk3
      have hfit := Hfit.out
      have hRv := HR2.out.later (below_old HS2.out hb3)
      have hRu := HRu2.out.later (below_old HS2.out hb3)
      have hS3 := old_later HS2.out hb3
      have hw1 := Hvv1.out.later hb3 (by omega)
      have hw2 := Hvv2.out.later hb3 (by omega)
      have hs3 : w.heap.size + 1 < w3.heap.size := by have := hb3.size; omega
      have HG := Lib.hid (fun W (hb : Below w3.heap.size w3 W) => pGet_any v key ⟨xk, xn, xg, xs, ⟨lp, ll, lc⟩, ⟨dp, dl, dc⟩⟩ W S (hRv.later (below_old hS3 hb)) (old_later hS3 hb) (hfit.mono (by omega)))
      have HH := Lib.hid (fun W (hb : Below w3.heap.size w3 W) => rGet_any v key ⟨xk, xn, xg, xs, ⟨lp, ll, lc⟩, ⟨dp, dl, dc⟩⟩ W S (hRv.later (below_old hS3 hb)) (old_later hS3 hb) (hfit.mono (by omega)))
      have HP := Lib.hid (fun W (hb : Below w3.heap.size w3 W) => pWith_any v u key ⟨xk, xn, xg, xs, ⟨lp, ll, lc⟩, ⟨dp, dl, dc⟩⟩ ⟨zk, zn, zg, zs, ⟨zlp, zll, zlc⟩, ⟨zdp, zdl, zdc⟩⟩ W S (hRv.later (below_old hS3 hb)) (hRu.later (below_old hS3 hb)) (old_later hS3 hb) (hfit.mono (by omega)) (hfitu.mono (by omega)) hk3)
      have HQ := Lib.hid (fun W (hb : Below w3.heap.size w3 W) => rWith_any v u key ⟨xk, xn, xg, xs, ⟨lp, ll, lc⟩, ⟨dp, dl, dc⟩⟩ ⟨zk, zn, zg, zs, ⟨zlp, zll, zlc⟩, ⟨zdp, zdl, zdc⟩⟩ W S (hRv.later (below_old hS3 hb)) (hRu.later (below_old hS3 hb)) (old_later hS3 hb) (hfit.mono (by omega)) (hfitu.mono (by omega)) hk3)
      dsimp only [Hv.arr] at HG HH HP HQ
      obtain ⟨a0, a1, a2, a3, a4, a5⟩ := hw1.at
      simp only [Nat.zero_add] at a0 a1 a2 a3 a4 a5
      have Hc1 := Lib.hid hw1
      have Hc2 := Lib.hid hw2
      have hmx : Try.prog.follows .mixedOrders = true := by kernel_rfl
      clear hfitu hfit hRv hRu hS3 hw1 hw2 hb3 ht hkey hk3
      go_wp2_with fail
      refine (HG.out w3 (Below.refl _ _)).mono ?_
      rintro e w4 ⟨⟨yk, yn, yg, yst, ⟨ylp, yll, ylc⟩, ⟨ydp, ydl, ydc⟩⟩, he, hy, hb4⟩
      replace he : e = .returned (.tuple #[.agg #[.int .i64 yk, .int .i64 yn, .int .i64 yg, .string yst, .slice ylp yll ylc, .slice ydp ydl ydc], .bool (getV v key).2]) := he
      subst he
      have HY := Lib.hid hy
      have B4 := Lib.hid hb4
      have hs4 : w.heap.size + 1 < w4.heap.size := by have := hb4.size; omega
      have hb4a : Below w4.heap.size w4 (w4.alloc (.cells #[.int .i64 yk, .int .i64 yn, .int .i64 yg, .string yst, .slice ylp yll ylc, .slice ydp ydl ydc] 25)) := (Below.refl _ w4).alloc (Nat.le_refl _) _
      have b0 := ((Hc1.out.later hb4 (by omega)).later hb4a (by omega)).at
      obtain ⟨b0, b1, b2, b3, b4, b5⟩ := b0
      simp only [Nat.zero_add] at b0 b1 b2 b3 b4 b5
      have HB4a := Lib.hid hb4a
      have hh := HH.out (w4.alloc (.cells #[.int .i64 yk, .int .i64 yn, .int .i64 yg, .string yst, .slice ylp yll ylc, .slice ydp ydl ydc] 25)) (hb4.trans (hb4a.mono hb4.size))
      have Hh := Lib.hid hh
      obtain ⟨bb, hbb⟩ : ∃ bb, (getV v key).2 = bb := ⟨_, rfl⟩
      rw [hbb] at Hh ⊢
      clear a0 a1 a2 a3 a4 a5 hy hb4 hb4a hh hbb
      go_wp2_with fail
      refine Hh.out.mono ?_
      rintro e w5 ⟨⟨qk, qn, qg, qst, ⟨qlp, qll, qlc⟩, ⟨qdp, qdl, qdc⟩⟩, he, hy, hb5⟩
      replace he : e = .returned (.tuple #[.agg #[.int .i64 qk, .int .i64 qn, .int .i64 qg, .string qst, .slice qlp qll qlc, .slice qdp qdl qdc], .bool bb]) := he
      subst he
      have HZ := Lib.hid hy
      have hb45 : Below w4.heap.size w4 w5 := HB4a.out.trans (hb5.mono HB4a.out.size)
      have hs5 : w4.heap.size < w5.heap.size := by have := hb5.size; simp at this; omega
      obtain ⟨w6, hw6⟩ : ∃ w6, w5.alloc (.cells #[.int .i64 qk, .int .i64 qn, .int .i64 qg, .string qst, .slice qlp qll qlc, .slice qdp qdl qdc] 25) = w6 := ⟨_, rfl⟩
      have hb56 : Below w5.heap.size w5 w6 := by rw [← hw6]; exact (Below.refl _ w5).alloc (Nat.le_refl _) _
      have hb46 : Below w4.heap.size w4 w6 := hb45.trans (hb56.mono hb45.size)
      have hb36 : Below w3.heap.size w3 w6 := B4.out.trans (hb46.mono B4.out.size)
      have hvy : VCell w6 w4.heap.size ⟨yk, yn, yg, yst, ⟨ylp, yll, ylc⟩, ⟨ydp, ydl, ydc⟩⟩ := by
        have h1 : VCell (w4.alloc (.cells #[.int .i64 yk, .int .i64 yn, .int .i64 yg, .string yst, .slice ylp yll ylc, .slice ydp ydl ydc] 25)) w4.heap.size ⟨yk, yn, yg, yst, ⟨ylp, yll, ylc⟩, ⟨ydp, ydl, ydc⟩⟩ := heap_alloc_new w4 _
        exact (h1.later hb5 (by simp)).later hb56 hs5
      have hvq : VCell w6 w5.heap.size ⟨qk, qn, qg, qst, ⟨qlp, qll, qlc⟩, ⟨qdp, qdl, qdc⟩⟩ := by rw [← hw6]; exact heap_alloc_new w5 _
      have hs6 : w6.heap.size = w5.heap.size + 1 := by rw [← hw6]; simp
      have hkeep : ∀ w' : World, Below w6.heap.size w6 w' → w'.cell? ⟨w.heap.size, 0, none⟩ = some (.int .i64 xk) ∧ w'.cell? ⟨w.heap.size, 1, none⟩ = some (.int .i64 xn) ∧ w'.cell? ⟨w.heap.size, 2, none⟩ = some (.int .i64 xg) ∧ w'.cell? ⟨w.heap.size, 3, none⟩ = some (.string xs) ∧ w'.cell? ⟨w.heap.size, 4, none⟩ = some (.slice lp ll lc) ∧ w'.cell? ⟨w.heap.size, 5, none⟩ = some (.slice dp dl dc) ∧ w'.cell? ⟨w.heap.size + 1, 0, none⟩ = some (.int .i64 zk) ∧ w'.cell? ⟨w.heap.size + 1, 1, none⟩ = some (.int .i64 zn) ∧ w'.cell? ⟨w.heap.size + 1, 2, none⟩ = some (.int .i64 zg) ∧ w'.cell? ⟨w.heap.size + 1, 3, none⟩ = some (.string zs) ∧ w'.cell? ⟨w.heap.size + 1, 4, none⟩ = some (.slice zlp zll zlc) ∧ w'.cell? ⟨w.heap.size + 1, 5, none⟩ = some (.slice zdp zdl zdc) ∧ w'.cell? ⟨w4.heap.size, 0, none⟩ = some (.int .i64 yk) ∧ w'.cell? ⟨w4.heap.size, 1, none⟩ = some (.int .i64 yn) ∧ w'.cell? ⟨w4.heap.size, 2, none⟩ = some (.int .i64 yg) ∧ w'.cell? ⟨w4.heap.size, 3, none⟩ = some (.string yst) ∧ w'.cell? ⟨w4.heap.size, 4, none⟩ = some (.slice ylp yll ylc) ∧ w'.cell? ⟨w4.heap.size, 5, none⟩ = some (.slice ydp ydl ydc) ∧ w'.cell? ⟨w5.heap.size, 0, none⟩ = some (.int .i64 qk) ∧ w'.cell? ⟨w5.heap.size, 1, none⟩ = some (.int .i64 qn) ∧ w'.cell? ⟨w5.heap.size, 2, none⟩ = some (.int .i64 qg) ∧ w'.cell? ⟨w5.heap.size, 3, none⟩ = some (.string qst) ∧ w'.cell? ⟨w5.heap.size, 4, none⟩ = some (.slice qlp qll qlc) ∧ w'.cell? ⟨w5.heap.size, 5, none⟩ = some (.slice qdp qdl qdc) := fun w' hb => by
        obtain ⟨a0, a1, a2, a3, a4, a5⟩ := ((Hc1.out.later hb36 (by omega)).later hb (by omega)).at
        obtain ⟨b0, b1, b2, b3, b4, b5⟩ := ((Hc2.out.later hb36 (by omega)).later hb (by omega)).at
        obtain ⟨c0, c1, c2, c3, c4, c5⟩ := (hvy.later hb (by omega)).at
        obtain ⟨d0, d1, d2, d3, d4, d5⟩ := (hvq.later hb (by omega)).at
        simp only [Nat.zero_add] at a0 a1 a2 a3 a4 a5 b0 b1 b2 b3 b4 b5 c0 c1 c2 c3 c4 c5 d0 d1 d2 d3 d4 d5
        exact ⟨a0, a1, a2, a3, a4, a5, b0, b1, b2, b3, b4, b5, c0, c1, c2, c3, c4, c5, d0, d1, d2, d3, d4, d5⟩
      have Hkeep := Lib.hid hkeep
      have HE := Lib.hid (requal_any (getV v key).1 (getV v key).1 ⟨yk, yn, yg, yst, ⟨ylp, yll, ylc⟩, ⟨ydp, ydl, ydc⟩⟩ ⟨qk, qn, qg, qst, ⟨qlp, qll, qlc⟩, ⟨qdp, qdl, qdc⟩⟩ w6.drew (fun k => k < w6.heap.size) (((HY.out.carry hb46).mono (fun k hk => hk.2)).later (fun _ _ => rfl)) (((HZ.out.carry hb56).mono (fun k hk => hk.2)).later (fun _ _ => rfl)) (fun _ h => h))
      have B36 := Lib.hid hb36
      have Hw6 := Lib.hid hw6
      have HB36 : Hid (∀ W, Below w6.heap.size w6 W → Below w3.heap.size w3 W) := Lib.hid (fun W h => hb36.trans (h.mono hb36.size))
      dsimp only [Hv.arr] at HE
      clear b0 b1 b2 b3 b4 b5 hy hb5 hb45 hw6 hb56 hb46 hb36 hvy hvq hkeep
      go_wp2_with fail
      rw [Hw6.out]
      go_region_held3 (fun w' => w'.cell? ⟨w.heap.size, 0, none⟩ = some (.int .i64 xk) ∧ w'.cell? ⟨w.heap.size, 1, none⟩ = some (.int .i64 xn) ∧ w'.cell? ⟨w.heap.size, 2, none⟩ = some (.int .i64 xg) ∧ w'.cell? ⟨w.heap.size, 3, none⟩ = some (.string xs) ∧ w'.cell? ⟨w.heap.size, 4, none⟩ = some (.slice lp ll lc) ∧ w'.cell? ⟨w.heap.size, 5, none⟩ = some (.slice dp dl dc) ∧ w'.cell? ⟨w.heap.size + 1, 0, none⟩ = some (.int .i64 zk) ∧ w'.cell? ⟨w.heap.size + 1, 1, none⟩ = some (.int .i64 zn) ∧ w'.cell? ⟨w.heap.size + 1, 2, none⟩ = some (.int .i64 zg) ∧ w'.cell? ⟨w.heap.size + 1, 3, none⟩ = some (.string zs) ∧ w'.cell? ⟨w.heap.size + 1, 4, none⟩ = some (.slice zlp zll zlc) ∧ w'.cell? ⟨w.heap.size + 1, 5, none⟩ = some (.slice zdp zdl zdc) ∧ w'.cell? ⟨w4.heap.size, 0, none⟩ = some (.int .i64 yk) ∧ w'.cell? ⟨w4.heap.size, 1, none⟩ = some (.int .i64 yn) ∧ w'.cell? ⟨w4.heap.size, 2, none⟩ = some (.int .i64 yg) ∧ w'.cell? ⟨w4.heap.size, 3, none⟩ = some (.string yst) ∧ w'.cell? ⟨w4.heap.size, 4, none⟩ = some (.slice ylp yll ylc) ∧ w'.cell? ⟨w4.heap.size, 5, none⟩ = some (.slice ydp ydl ydc) ∧ w'.cell? ⟨w5.heap.size, 0, none⟩ = some (.int .i64 qk) ∧ w'.cell? ⟨w5.heap.size, 1, none⟩ = some (.int .i64 qn) ∧ w'.cell? ⟨w5.heap.size, 2, none⟩ = some (.int .i64 qg) ∧ w'.cell? ⟨w5.heap.size, 3, none⟩ = some (.string qst) ∧ w'.cell? ⟨w5.heap.size, 4, none⟩ = some (.slice qlp qll qlc) ∧ w'.cell? ⟨w5.heap.size, 5, none⟩ = some (.slice qdp qdl qdc))
        (first | exact Hkeep.out _ B11.out | exact Hkeep.out _ B10.out | exact Hkeep.out _ B9.out | exact Hkeep.out _ B8.out | exact Hkeep.out _ B7.out | exact Hkeep.out _ (below_drewN (Below.refl _ w6) 1) | go_keep)
        (first
          | (go_simp; go_at_call 16; (with_reducible refine HE.out.mono ?_); rw [equalV_refl]; rintro e w7 ⟨rfl, hb⟩; have B7 : Hid (Below w6.heap.size w6 w7) := Lib.hid ⟨hb.os, hb.tape, hb.output, hb.size, hb.block⟩; clear hb)
          | (go_simp; go_at_call 23; (with_reducible refine (HP.out w7 (HB36.out _ B7.out)).mono ?_); rintro e w8 ⟨⟨ak, an, ag, ast, ⟨alp, all, alc⟩, ⟨adp, adl, adc⟩⟩, he, hy, hb⟩; replace he : e = .returned (.agg #[.int .i64 ak, .int .i64 an, .int .i64 ag, .string ast, .slice alp all alc, .slice adp adl adc]) := he; subst he; have HA := Lib.hid hy; have B8 := Lib.hid (B7.out.trans (hb.mono B7.out.size)); clear hy hb)
          | (go_simp; go_at_call 24; (with_reducible refine (HQ.out w8 (HB36.out _ B8.out)).mono ?_); rintro e w9 ⟨⟨bk, bn, bg, bst, ⟨blp, bll, blc⟩, ⟨bdp, bdl, bdc⟩⟩, he, hy, hb⟩; replace he : e = .returned (.agg #[.int .i64 bk, .int .i64 bn, .int .i64 bg, .string bst, .slice blp bll blc, .slice bdp bdl bdc]) := he; subst he; have HB := Lib.hid hy; have H89 := Lib.hid hb; have B9 := Lib.hid (B8.out.trans (hb.mono B8.out.size)); clear hy hb)
          | (go_simp; go_at_call 16; refine (requal_any (withV v key u) (withV v key u) ⟨ak, an, ag, ast, ⟨alp, all, alc⟩, ⟨adp, adl, adc⟩⟩ ⟨bk, bn, bg, bst, ⟨blp, bll, blc⟩, ⟨bdp, bdl, bdc⟩⟩ w9 (fun k => k < w9.heap.size) ((HA.out.carry H89.out).mono (fun k hk => hk.2)) (HB.out.bound.mono (fun k hk => hk.2)) (fun _ h => h)).mono ?_; rw [equalV_refl]; rintro e w10 ⟨rfl, hb⟩; have B10 := Lib.hid (B9.out.trans (hb.mono B9.out.size)); clear hb)
          | (go_simp; go_at_call 9; refine (Hval.out w10).mono ?_; rintro e w11 ⟨rfl, hb⟩; have B11 := Lib.hid (B10.out.trans (hb.mono B10.out.size)); clear hb))
      all_goals go_wp2
      all_goals go_ret
      all_goals exact ⟨rfl, Hend.out _ (Hb3.out.trans ((HB36.out _ B11.out).mono Hb3.out.size))⟩
end Go.Proofs.Ytlmgjhidmipadaa
