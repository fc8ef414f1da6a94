/-
  The fifth law: what is plain is plain itself; what is put under a key is got there, and nothing else is turned.
-/
import Derived.Test.YtlmgjhidmipadaaHLow
import Derived.Test.YtlmgjhidmipadaaVPCheck
import Derived.Test.YtlmgjhidmipadaaHEq
import Derived.Test.YtlmgjhidmipadaaVREqual
import Derived.Test.YtlmgjhidmipadaaVPGet
import Derived.Test.YtlmgjhidmipadaaVPWith
import Derived.Deep.DeepCutAuto
import Derived.Deep.CutRange
import Derived.Test.YtlmgjhidmipadaaVLaw1
namespace Go.Proofs.Ytlmgjhidmipadaa
open Go.RowKit
set_option maxRecDepth 100000

set_option maxHeartbeats 4000000 in
theorem twice_law (hval : ValuesC) (v u : Val) (key oth : ByteArray) (x z : Hv) (w : World) (S : Nat → Prop) (hR : Rd w S x v) (hRu : Rd w S z u) (hS : ∀ k, S k → k < w.heap.size) :
    Calls Try.prog 7 #[.agg x.arr, .string key, .string oth, .agg z.arr] w fun e w' => e = .returned (.bool true) ∧ Below w.heap.size w w' := by
  obtain ⟨xk, xn, xg, xs, ⟨lp, ll, lc⟩, ⟨dp, dl, dc⟩⟩ := x
  obtain ⟨zk, zn, zg, zs, ⟨zlp, zll, zlc⟩, ⟨zdp, zdl, zdc⟩⟩ := z
  have Hval := Lib.hid hval
  obtain ⟨wa, hwa⟩ : ∃ wa, w.alloc (.cells #[.int .i64 xk, .int .i64 xn, .int .i64 xg, .string xs, .slice lp ll lc, .slice dp dl dc] 25) = wa := ⟨_, rfl⟩
  obtain ⟨w1, hw1⟩ : ∃ w1, wa.alloc (.cells #[.int .i64 zk, .int .i64 zn, .int .i64 zg, .string zs, .slice zlp zll zlc, .slice zdp zdl zdc] 25) = w1 := ⟨_, rfl⟩
  have hsa : wa.heap.size = w.heap.size + 1 := by rw [← hwa]; simp
  have hs1 : w1.heap.size = w.heap.size + 1 + 1 := by rw [← hw1]; simp [hsa]
  have hba : Below w.heap.size w wa := by rw [← hwa]; exact (Below.refl _ w).alloc (Nat.le_refl _) _
  have hbb : Below wa.heap.size wa w1 := by rw [← hw1]; exact (Below.refl _ wa).alloc (Nat.le_refl _) _
  have hb1 : Below w.heap.size w w1 := hba.trans (hbb.mono (by omega))
  have hv1 : VCell w1 w.heap.size ⟨xk, xn, xg, xs, ⟨lp, ll, lc⟩, ⟨dp, dl, dc⟩⟩ := (show VCell wa w.heap.size ⟨xk, xn, xg, xs, ⟨lp, ll, lc⟩, ⟨dp, dl, dc⟩⟩ by rw [← hwa]; exact heap_alloc_new w _).later hbb (by omega)
  have hv2 : VCell w1 (w.heap.size + 1) ⟨zk, zn, zg, zs, ⟨zlp, zll, zlc⟩, ⟨zdp, zdl, zdc⟩⟩ := by rw [← hsa, ← hw1]; exact heap_alloc_new wa _
  have HR := Lib.hid (hR.later (below_old hS hb1))
  have HRu := Lib.hid (hRu.later (below_old hS hb1))
  have HS := Lib.hid (old_later hS hb1)
  have Hb1 := Lib.hid hb1
  have Hwa := Lib.hid hwa
  have Hw1 := Lib.hid hw1
  have Hv1 := Lib.hid hv1
  have Hv2 := Lib.hid hv2
  obtain ⟨c0, c1, c2, c3, c4, c5⟩ := hv1.at
  obtain ⟨d0, d1, d2, d3, d4, d5⟩ := hv2.at
  simp only [Nat.zero_add] at c0 c1 c2 c3 c4 c5 d0 d1 d2 d3 d4 d5
  clear hval hR hRu hS hb1 hwa hw1 hv1 hv2 hba hbb hsa
  show Calls Try.prog 7 #[.agg #[.int .i64 xk, .int .i64 xn, .int .i64 xg, .string xs, .slice lp ll lc, .slice dp dl dc], .string key, .string oth, .agg #[.int .i64 zk, .int .i64 zn, .int .i64 zg, .string zs, .slice zlp zll zlc, .slice zdp zdl zdc]] w _
  go_enter Try.func7, Try.ntmps7
  go_wp2_with fail
  rw [Hwa.out, Hw1.out]
  refine (few_any v ⟨xk, xn, xg, xs, ⟨lp, ll, lc⟩, ⟨dp, dl, dc⟩⟩ w1 S 500 HR.out HS.out (by omega)).mono ?_
  rintro e w2 ⟨rfl, hb2⟩
  have Hb2 := Lib.hid hb2
  have HR2 := Lib.hid (HR.out.later (below_old HS.out hb2))
  have HRu2 := Lib.hid (HRu.out.later (below_old HS.out hb2))
  have HS2 := Lib.hid (old_later HS.out hb2)
  have hv1 := Hv1.out.later hb2 (by omega)
  have hv2 := Hv2.out.later hb2 (by omega)
  have Hvv1 := Lib.hid hv1
  have Hvv2 := Lib.hid hv2
  obtain ⟨e0, e1, e2, e3, e4, e5⟩ := hv2.at
  simp only [Nat.zero_add] at e0 e1 e2 e3 e4 e5
  have hs2 : w.heap.size + 1 < w2.heap.size := by have := hb2.size; omega
  have Hend : Hid (∀ W, Below w2.heap.size w2 W → Below w.heap.size w W) := Lib.hid (fun W h => Hb1.out.trans ((hb2.trans (h.mono hb2.size)).mono Hb1.out.size))
  clear hb2 hv1 hv2 c0 c1 c2 c3 c4 c5 d0 d1 d2 d3 d4 d5
  obtain ⟨t, ht⟩ : ∃ t, fewV v 500 = t := ⟨_, rfl⟩
  rw [ht]
  cases t
  · clear ht e0 e1 e2 e3 e4 e5
    go_wp2_with fail
    refine (Hval.out _).mono ?_
    rintro e w3 ⟨rfl, hb3⟩
    have Hb3 := Lib.hid hb3
    clear hb3
    go_wp2
    go_ret
    exact ⟨rfl, Hend.out _ Hb3.out⟩
  · have hfit : Fit v 500 := few_fit ht
    have Hfit := Lib.hid hfit
    clear hfit ht
    go_wp2_with fail
    refine (few_any u ⟨zk, zn, zg, zs, ⟨zlp, zll, zlc⟩, ⟨zdp, zdl, zdc⟩⟩ w2 S 500 HRu2.out HS2.out (by omega)).mono ?_
    rintro e w3 ⟨rfl, hb3⟩
    have Hb3 := Lib.hid hb3
    clear e0 e1 e2 e3 e4 e5
    obtain ⟨t, ht⟩ : ∃ t, fewV u 500 = t := ⟨_, rfl⟩
    rw [ht]
    cases t
    · clear ht hb3
      go_wp2_with fail
      refine (Hval.out _).mono ?_
      rintro e w4 ⟨rfl, hb4⟩
      have Hb4 := Lib.hid hb4
      clear hb4
      go_wp2
      go_ret
      exact ⟨rfl, Hend.out _ (Hb3.out.trans (Hb4.out.mono Hb3.out.size))⟩
    · have hfitu : Fit u 500 := few_fit ht
      by_cases hkey : 3000 < key.size
      · have hk2 : (3000 : Int) < (key.size : Int) := by omega
        clear hb3 ht
        go_wp2_with fail
        refine (Hval.out _).mono ?_
        rintro e w4 ⟨rfl, hb4⟩
        have Hb4 := Lib.hid hb4
        clear hb4
        go_wp2
        go_ret
        exact ⟨rfl, Hend.out _ (Hb3.out.trans (Hb4.out.mono Hb3.out.size))⟩
      have hk2 : ¬ (3000 : Int) < (key.size : Int) := by omega
      have hk3 : key.size ≤ 3000 := by omega
      by_cases hoth : 3000 < oth.size
      · have hk4 : (3000 : Int) < (oth.size : Int) := by omega
        clear hb3 ht
        go_wp2_with fail
        refine (Hval.out _).mono ?_
        rintro e w4 ⟨rfl, hb4⟩
        have Hb4 := Lib.hid hb4
        clear hb4
        go_wp2
        go_ret
        exact ⟨rfl, Hend.out _ (Hb3.out.trans (Hb4.out.mono Hb3.out.size))⟩
      have hk4 : ¬ (3000 : Int) < (oth.size : Int) := by omega
      have hfit := Hfit.out
      have hRv := HR2.out.later (below_old HS2.out hb3)
      have hRu := HRu2.out.later (below_old HS2.out hb3)
      have hS3 := old_later HS2.out hb3
      have hw1 := Hvv1.out.later hb3 (by omega)
      have hw2 := Hvv2.out.later hb3 (by omega)
      have hs3 : w.heap.size + 1 < w3.heap.size := by have := hb3.size; omega
      have Hp := Lib.hid (pplain_any v ⟨xk, xn, xg, xs, ⟨lp, ll, lc⟩, ⟨dp, dl, dc⟩⟩ w3 S hRv hS3 (hfit.mono (by omega)))
      have Hfitu := Lib.hid hfitu
      have HRv := Lib.hid hRv
      have HRu3 := Lib.hid hRu
      have HS3 := Lib.hid hS3
      have Hk3 := Lib.hid hk3
      obtain ⟨a0, a1, a2, a3, a4, a5⟩ := hw1.at
      simp only [Nat.zero_add] at a0 a1 a2 a3 a4 a5
      have Hc1 := Lib.hid hw1
      have Hc2 := Lib.hid hw2
      have hmx : Try.prog.follows .mixedOrders = true := by kernel_rfl
      dsimp only [Hv.arr] at Hp
      clear hfitu hfit hRv hRu hS3 hw1 hw2 hb3 ht hkey hk3 hoth
      go_wp2_with fail
      refine Hp.out.mono ?_
      rintro e w4 ⟨⟨yk, yn, yg, yst, ⟨ylp, yll, ylc⟩, ⟨ydp, ydl, ydc⟩⟩, he, hy, hb4⟩
      replace he : e = .returned (.agg #[.int .i64 yk, .int .i64 yn, .int .i64 yg, .string yst, .slice ylp yll ylc, .slice ydp ydl ydc]) := he
      subst he
      obtain ⟨w5, hw5⟩ : ∃ w5, w4.alloc (.cells #[.int .i64 yk, .int .i64 yn, .int .i64 yg, .string yst, .slice ylp yll ylc, .slice ydp ydl ydc] 25) = w5 := ⟨_, rfl⟩
      have hb45 : Below w4.heap.size w4 w5 := by rw [← hw5]; exact (Below.refl _ w4).alloc (Nat.le_refl _) _
      have hb35 : Below w3.heap.size w3 w5 := hb4.trans (hb45.mono hb4.size)
      have hs5 : w5.heap.size = w4.heap.size + 1 := by rw [← hw5]; simp
      have hz4 := hb4.size
      have hvy : VCell w5 w4.heap.size ⟨yk, yn, yg, yst, ⟨ylp, yll, ylc⟩, ⟨ydp, ydl, ydc⟩⟩ := by rw [← hw5]; exact heap_alloc_new w4 _
      have hvx := Hc1.out.later hb35 (by omega)
      have hkeep : ∀ w' : World, Below w5.heap.size w5 w' → w'.cell? ⟨w.heap.size, 0, none⟩ = some (.int .i64 xk) ∧ w'.cell? ⟨w.heap.size, 1, none⟩ = some (.int .i64 xn) ∧ w'.cell? ⟨w.heap.size, 2, none⟩ = some (.int .i64 xg) ∧ w'.cell? ⟨w.heap.size, 3, none⟩ = some (.string xs) ∧ w'.cell? ⟨w.heap.size, 4, none⟩ = some (.slice lp ll lc) ∧ w'.cell? ⟨w.heap.size, 5, none⟩ = some (.slice dp dl dc) ∧ w'.cell? ⟨w4.heap.size, 0, none⟩ = some (.int .i64 yk) ∧ w'.cell? ⟨w4.heap.size, 1, none⟩ = some (.int .i64 yn) ∧ w'.cell? ⟨w4.heap.size, 2, none⟩ = some (.int .i64 yg) ∧ w'.cell? ⟨w4.heap.size, 3, none⟩ = some (.string yst) ∧ w'.cell? ⟨w4.heap.size, 4, none⟩ = some (.slice ylp yll ylc) ∧ w'.cell? ⟨w4.heap.size, 5, none⟩ = some (.slice ydp ydl ydc) := fun w' hb => by
        obtain ⟨a0, a1, a2, a3, a4, a5⟩ := (hvx.later hb (by omega)).at
        obtain ⟨b0, b1, b2, b3, b4, b5⟩ := (hvy.later hb (by omega)).at
        simp only [Nat.zero_add] at a0 a1 a2 a3 a4 a5 b0 b1 b2 b3 b4 b5
        exact ⟨a0, a1, a2, a3, a4, a5, b0, b1, b2, b3, b4, b5⟩
      have wid : ∀ (W w' : World), Below w5.heap.size w5 W → Below W.heap.size W w' → Below w5.heap.size w5 w' := fun _ _ h h2 => h.trans (h2.mono h.size)
      have rY : ∀ W, Below w5.heap.size w5 W → Rd W (fun k => k < w5.heap.size) ⟨yk, yn, yg, yst, ⟨ylp, yll, ylc⟩, ⟨ydp, ydl, ydc⟩⟩ (plainV v) := fun W hb => ((hy.carry hb45).mono (fun k hk => hk.2)).later (fun k hk => hb.block k hk)
      have hS5 : ∀ W, Below w5.heap.size w5 W → ∀ k, k < w5.heap.size → k < W.heap.size := fun W hb k hk => Nat.lt_of_lt_of_le hk hb.size
      have rX : ∀ W, Below w5.heap.size w5 W → Rd W S ⟨xk, xn, xg, xs, ⟨lp, ll, lc⟩, ⟨dp, dl, dc⟩⟩ v := fun W hb => (HRv.out.later (below_old HS3.out hb35)).later (below_old (old_later HS3.out hb35) hb)
      have sX : ∀ W, Below w5.heap.size w5 W → ∀ k, S k → k < W.heap.size := fun W hb => old_later (old_later HS3.out hb35) hb
      have hfit := Hfit.out
      have HP := Lib.hid (fun W (hb : Below w5.heap.size w5 W) => pplain_any (plainV v) ⟨yk, yn, yg, yst, ⟨ylp, yll, ylc⟩, ⟨ydp, ydl, ydc⟩⟩ W _ (rY W hb) (hS5 W hb) (plain_fit (hfit.mono (by omega))))
      have HE := Lib.hid (fun W (hb : Below w5.heap.size w5 W) (q : Hv) (hq : Rd W (fun k => k < W.heap.size) q (plainV (plainV v))) => (requal_any (plainV (plainV v)) (plainV v) q ⟨yk, yn, yg, yst, ⟨ylp, yll, ylc⟩, ⟨ydp, ydl, ydc⟩⟩ W (fun k => k < W.heap.size) hq ((rY W hb).mono (fun k hk => hS5 W hb k hk)) (fun _ h => h)).mono (fun e w' h => (⟨by rw [h.1, plain_plain, equalV_refl], wid _ _ hb h.2⟩ : e = .returned (.bool true) ∧ Below w5.heap.size w5 w')))
      have HC := Lib.hid (fun W (hb : Below w5.heap.size w5 W) => (pCheck_any v true ⟨xk, xn, xg, xs, ⟨lp, ll, lc⟩, ⟨dp, dl, dc⟩⟩ W S (rX W hb) (sX W hb) (hfit.mono (by omega))).mono (fun e w' h => (⟨h.1, wid _ _ hb h.2⟩ : e = .returned (.int .i64 (checkV v true 0)) ∧ Below w5.heap.size w5 w')))
      have HC2 := Lib.hid (fun W (hb : Below w5.heap.size w5 W) (hc : checkV v true 0 = 0) => (pCheck_any (plainV v) true ⟨yk, yn, yg, yst, ⟨ylp, yll, ylc⟩, ⟨ydp, ydl, ydc⟩⟩ W _ (rY W hb) (hS5 W hb) (plain_fit (hfit.mono (by omega)))).mono (fun e w' h => (⟨by rw [h.1, check_plain v true 0 hc], wid _ _ hb h.2⟩ : e = .returned (.int .i64 0) ∧ Below w5.heap.size w5 w')))
      have Hkeep := Lib.hid hkeep
      have Hwid := Lib.hid wid
      have Hw5 := Lib.hid hw5
      have HB35 := Lib.hid hb35
      have HY := Lib.hid rY
      have CX := Lib.hid hvx
      have CZ := Lib.hid (Hc2.out.later hb35 (by omega))
      have CY := Lib.hid hvy
      have RY := Lib.hid (rY w5 (Below.refl _ _))
      have RX := Lib.hid (rX w5 (Below.refl _ _))
      have RU := Lib.hid (HRu3.out.later (below_old HS3.out hb35))
      have SX := Lib.hid (sX w5 (Below.refl _ _))
      dsimp only [Hv.arr] at HP HE HC HC2
      clear a0 a1 a2 a3 a4 a5 hy hb4 hw5 hb45 hvy hvx hkeep wid rY hS5 rX sX hfit hz4 hb35
      obtain ⟨c, hc⟩ : ∃ c, checkV v true 0 = c := ⟨_, rfl⟩
      rw [hc] at HC HC2
      clear hc
      have hb0 : Aside (Below w5.heap.size w5 w5) := Below.refl _ _
      go_upto_region 4 with fail
      rw [Hw5.out]
      go_cut [52] from 38 (fun c52 wx => c52 = .bool false ∧ Aside (Below w5.heap.size w5 wx))
      case first =>
        by_cases hc0 : c = 0
        · subst hc0
          go_region_held3 (fun w' => w'.cell? ⟨w.heap.size, 0, none⟩ = some (.int .i64 xk) ∧ w'.cell? ⟨w.heap.size, 1, none⟩ = some (.int .i64 xn) ∧ w'.cell? ⟨w.heap.size, 2, none⟩ = some (.int .i64 xg) ∧ w'.cell? ⟨w.heap.size, 3, none⟩ = some (.string xs) ∧ w'.cell? ⟨w.heap.size, 4, none⟩ = some (.slice lp ll lc) ∧ w'.cell? ⟨w.heap.size, 5, none⟩ = some (.slice dp dl dc) ∧ w'.cell? ⟨w4.heap.size, 0, none⟩ = some (.int .i64 yk) ∧ w'.cell? ⟨w4.heap.size, 1, none⟩ = some (.int .i64 yn) ∧ w'.cell? ⟨w4.heap.size, 2, none⟩ = some (.int .i64 yg) ∧ w'.cell? ⟨w4.heap.size, 3, none⟩ = some (.string yst) ∧ w'.cell? ⟨w4.heap.size, 4, none⟩ = some (.slice ylp yll ylc) ∧ w'.cell? ⟨w4.heap.size, 5, none⟩ = some (.slice ydp ydl ydc))
            (first | exact Hkeep.out _ B9.out | exact Hkeep.out _ B8.out | exact Hkeep.out _ B7.out | exact Hkeep.out _ B6.out | exact Hkeep.out _ (below_drewN (Below.refl _ w5) 1) | go_keep)
            (first
              | (go_simp; go_at_call 17; (refine (HP.out _ (below_drewN (Below.refl _ w5) 1)).mono ?_); rintro e w6 ⟨⟨qk, qn, qg, qst, ⟨qlp, qll, qlc⟩, ⟨qdp, qdl, qdc⟩⟩, he, hy, hb⟩; replace he : e = .returned (.agg #[.int .i64 qk, .int .i64 qn, .int .i64 qg, .string qst, .slice qlp qll qlc, .slice qdp qdl qdc]) := he; subst he; have HA := Lib.hid hy; have B6 := Lib.hid (Hwid.out _ _ (below_drewN (Below.refl _ w5) 1) hb); clear hy hb)
              | (go_simp; go_at_call 16; have hq := HE.out _ B6.out ⟨qk, qn, qg, qst, ⟨qlp, qll, qlc⟩, ⟨qdp, qdl, qdc⟩⟩ (HA.out.bound.mono (fun k hk => hk.2)); dsimp only at hq; (with_reducible refine hq.mono ?_); rintro e w7 ⟨rfl, hb⟩; have B7 := Lib.hid hb; clear hb hq)
              | (go_simp; go_at_call 10; (with_reducible refine (HC.out _ B7.out).mono ?_); rintro e w8 ⟨rfl, hb⟩; have B8 := Lib.hid hb; clear hb)
              | (go_simp; go_at_call 10; (with_reducible refine (HC2.out _ B8.out trivial).mono ?_); rintro e w9 ⟨rfl, hb⟩; have B9 := Lib.hid hb; clear hb))
          all_goals go_wp2
          all_goals go_meet
          all_goals exact ⟨rfl, B9.out⟩
        · have hc1 : (c == 0) = false := by simpa using hc0
          have hc2 : decide (c = 0) = false := by simpa using hc0
          have Hc0 := Lib.hid hc0
          clear hc0
          obtain ⟨p0, p1, p2, p3, p4, p5, p6, p7, p8, p9, p10, p11⟩ := Hkeep.out _ (Below.refl _ w5)
          go_region_with (first
              | (go_at_call 17; (refine (HP.out _ (below_drewN (Below.refl _ w5) 1)).mono ?_); rintro e w6 ⟨⟨qk, qn, qg, qst, ⟨qlp, qll, qlc⟩, ⟨qdp, qdl, qdc⟩⟩, he, hy, hb⟩; replace he : e = .returned (.agg #[.int .i64 qk, .int .i64 qn, .int .i64 qg, .string qst, .slice qlp qll qlc, .slice qdp qdl qdc]) := he; subst he; have HA := Lib.hid hy; have B6 := Lib.hid (Hwid.out _ _ (below_drewN (Below.refl _ w5) 1) hb); clear hy hb; obtain ⟨q0, q1, q2, q3, q4, q5, q6, q7, q8, q9, q10, q11⟩ := Hkeep.out _ B6.out)
              | (go_at_call 16; have hq := HE.out _ B6.out ⟨qk, qn, qg, qst, ⟨qlp, qll, qlc⟩, ⟨qdp, qdl, qdc⟩⟩ (HA.out.bound.mono (fun k hk => hk.2)); dsimp only at hq; (with_reducible refine hq.mono ?_); rintro e w7 ⟨rfl, hb⟩; have B7 := Lib.hid hb; clear hb hq; obtain ⟨r0, r1, r2, r3, r4, r5, r6, r7, r8, r9, r10, r11⟩ := Hkeep.out _ B7.out)
              | (go_at_call 10; (with_reducible refine (HC.out _ B7.out).mono ?_); rintro e w8 ⟨rfl, hb⟩; have B8 := Lib.hid hb; clear hb; obtain ⟨s0, s1, s2, s3, s4, s5, s6, s7, s8, s9, s10, s11⟩ := Hkeep.out _ B8.out))
          all_goals clear p0 p1 p2 p3 p4 p5 p6 p7 p8 p9 p10 p11 q0 q1 q2 q3 q4 q5 q6 q7 q8 q9 q10 q11 r0 r1 r2 r3 r4 r5 r6 r7 r8 r9 r10 r11 s0 s1 s2 s3 s4 s5 s6 s7 s8 s9 s10 s11
          all_goals go_wp2
          all_goals go_meet
          all_goals exact ⟨rfl, B8.out⟩
      case rest =>
        obtain ⟨rfl, hbc⟩ := hcut
        have BC := Lib.hid hbc.out
        have hkx : xk = v.kind := (rd_iff.1 RX.out).1.1
        have hend : ∀ W, Below wc.heap.size wc W → Below w.heap.size w W := fun W h => Hend.out _ (Hb3.out.trans ((HB35.out.trans ((BC.out.trans (h.mono BC.out.size)).mono HB35.out.size)).mono Hb3.out.size))
        have HEnd := Lib.hid hend
        have DX := Lib.hid (CX.out.later BC.out CX.out.lt)
        have DZ := Lib.hid (CZ.out.later BC.out CZ.out.lt)
        have QX := Lib.hid (RX.out.later (below_old SX.out BC.out))
        have QU := Lib.hid (RU.out.later (below_old SX.out BC.out))
        have QS := Lib.hid (old_later SX.out BC.out)
        have Hkx := Lib.hid hkx
        obtain ⟨a0, a1, a2, a3, a4, a5⟩ := DX.out.at
        obtain ⟨b0, b1, b2, b3, b4, b5⟩ := DZ.out.at
        simp only [Nat.zero_add] at a0 a1 a2 a3 a4 a5 b0 b1 b2 b3 b4 b5
        clear hkx hend hbc hb0 HP HE HC HC2 Hkeep Hwid Hw5 HB35 HY CX CZ CY RY RX RU SX Hb3 Hend Hp HRv HRu3 HS3 Hc1 Hc2 HR2 HRu2 HS2 Hvv1 Hvv2
        by_cases hk6 : xk = 6
        · subst hk6
          have hv6 : v.kind = 6 := Hkx.out.symm
          have hWH := with_fit Hfit.out Hfitu.out Hk3.out
          have HGW := Lib.hid (get_with (k := key) (x := u) hv6)
          have HGO := Lib.hid (fun (h : oth ≠ key) => get_other (k := key) (x := u) hv6 h)
          have HFW := Lib.hid hWH
          clear hv6 hWH Hkx
          go_wp2_with fail
          have hq := pWith_any v u key ⟨6, xn, xg, xs, ⟨lp, ll, lc⟩, ⟨dp, dl, dc⟩⟩ ⟨zk, zn, zg, zs, ⟨zlp, zll, zlc⟩, ⟨zdp, zdl, zdc⟩⟩ wc S QX.out QU.out QS.out (Hfit.out.mono (by omega)) (Hfitu.out.mono (by omega)) Hk3.out
          dsimp only [Hv.arr] at hq
          refine hq.mono ?_
          clear hq
          rintro e w7 ⟨⟨ak, an, ag, ast, ⟨alp, all, alc⟩, ⟨adp, adl, adc⟩⟩, he, hy, hb⟩
          replace he : e = .returned (.agg #[.int .i64 ak, .int .i64 an, .int .i64 ag, .string ast, .slice alp all alc, .slice adp adl adc]) := he
          subst he
          obtain ⟨w8, hw8⟩ : ∃ w8, w7.alloc (.cells #[.int .i64 ak, .int .i64 an, .int .i64 ag, .string ast, .slice alp all alc, .slice adp adl adc] 25) = w8 := ⟨_, rfl⟩
          have hb8 : Below w7.heap.size w7 w8 := by rw [← hw8]; exact (Below.refl _ w7).alloc (Nat.le_refl _) _
          have hbc8 : Below wc.heap.size wc w8 := hb.trans (hb8.mono hb.size)
          have BC8 := Lib.hid hbc8
          have CA := Lib.hid (show VCell w8 w7.heap.size ⟨ak, an, ag, ast, ⟨alp, all, alc⟩, ⟨adp, adl, adc⟩⟩ by rw [← hw8]; exact heap_alloc_new w7 _)
          have RA := Lib.hid ((hy.carry hb8).mono (fun k hk => hk.2))
          have Hw8 := Lib.hid hw8
          clear hb hb8 hbc8 hw8 hy a0 a1 a2 a3 a4 a5 b0 b1 b2 b3 b4 b5
          go_wp2_with fail
          rw [Hw8.out]
          have hq := pGet_any (withV v key u) key ⟨ak, an, ag, ast, ⟨alp, all, alc⟩, ⟨adp, adl, adc⟩⟩ w8 _ RA.out (fun _ h => h) (HFW.out.mono (by omega))
          dsimp only [Hv.arr] at hq
          refine hq.mono ?_
          clear hq
          rintro e w9 ⟨⟨bk, bn, bg, bst, ⟨blp, bll, blc⟩, ⟨bdp, bdl, bdc⟩⟩, he, hy, hb⟩
          replace he : e = .returned (.tuple #[.agg #[.int .i64 bk, .int .i64 bn, .int .i64 bg, .string bst, .slice blp bll blc, .slice bdp bdl bdc], .bool (getV (withV v key u) key).2]) := he
          rw [HGW.out] at he hy
          dsimp only at he hy
          subst he
          have CA9 := Lib.hid (CA.out.later hb CA.out.lt)
          have RA9 := Lib.hid (RA.out.later (below_old (fun _ h => h) hb))
          obtain ⟨wd, hwd⟩ : ∃ wd, w9.alloc (.cells #[.int .i64 bk, .int .i64 bn, .int .i64 bg, .string bst, .slice blp bll blc, .slice bdp bdl bdc] 25) = wd := ⟨_, rfl⟩
          have hbd : Below w9.heap.size w9 wd := by rw [← hwd]; exact (Below.refl _ w9).alloc (Nat.le_refl _) _
          have hbcd : Below w8.heap.size w8 wd := hb.trans (hbd.mono hb.size)
          have B8d := Lib.hid hbcd
          have CB := Lib.hid (show VCell wd w9.heap.size ⟨bk, bn, bg, bst, ⟨blp, bll, blc⟩, ⟨bdp, bdl, bdc⟩⟩ by rw [← hwd]; exact heap_alloc_new w9 _)
          have RB := Lib.hid ((hy.carry hbd).mono (fun k hk => hk.2))
          have CAd := Lib.hid (CA9.out.later hbd CA9.out.lt)
          have RAd := Lib.hid ((RA.out.later (below_old (fun _ h => h) hbcd)).mono (fun k (hk : k < w8.heap.size) => (Nat.lt_of_lt_of_le hk hbcd.size : k < wd.heap.size)))
          have Hwd := Lib.hid hwd
          obtain ⟨a0, a1, a2, a3, a4, a5⟩ := CAd.out.at
          simp only [Nat.zero_add] at a0 a1 a2 a3 a4 a5
          rw [← hwd] at a0 a1 a2 a3 a4 a5
          obtain ⟨ob, hob⟩ : ∃ ob, some0 (plainV u) = ob := ⟨_, rfl⟩
          rw [hob]
          have Hob := Lib.hid hob
          clear hb hbd hbcd hwd hy hob
          go_wp2_with fail
          rw [Hwd.out]
          have hq := pGet_any (withV v key u) oth ⟨ak, an, ag, ast, ⟨alp, all, alc⟩, ⟨adp, adl, adc⟩⟩ wd _ RAd.out (fun _ h => h) (HFW.out.mono (by omega))
          obtain ⟨pc, hpc⟩ : ∃ pc, getV (withV v key u) oth = pc := ⟨_, rfl⟩
          rw [hpc] at hq HGO
          dsimp only [Hv.arr] at hq
          refine hq.mono ?_
          clear hq hpc a0 a1 a2 a3 a4 a5
          rintro e we ⟨⟨ck, cn, cg, cst, ⟨clp, cll, clc⟩, ⟨cdp, cdl, cdc⟩⟩, he, hy, hb⟩
          replace he : e = .returned (.tuple #[.agg #[.int .i64 ck, .int .i64 cn, .int .i64 cg, .string cst, .slice clp cll clc, .slice cdp cdl cdc], .bool pc.2]) := he
          subst he
          obtain ⟨wf, hwf⟩ : ∃ wf, we.alloc (.cells #[.int .i64 ck, .int .i64 cn, .int .i64 cg, .string cst, .slice clp cll clc, .slice cdp cdl cdc] 25) = wf := ⟨_, rfl⟩
          have hbf : Below we.heap.size we wf := by rw [← hwf]; exact (Below.refl _ we).alloc (Nat.le_refl _) _
          have hbdf : Below wd.heap.size wd wf := hb.trans (hbf.mono hb.size)
          have hbcf : Below wc.heap.size wc wf := BC8.out.trans ((B8d.out.trans (hbdf.mono B8d.out.size)).mono BC8.out.size)
          have BCf := Lib.hid hbcf
          have CC := Lib.hid (show VCell wf we.heap.size ⟨ck, cn, cg, cst, ⟨clp, cll, clc⟩, ⟨cdp, cdl, cdc⟩⟩ by rw [← hwf]; exact heap_alloc_new we _)
          have RC := Lib.hid ((hy.carry hbf).mono (fun k hk => hk.2))
          have CBf := Lib.hid (CB.out.later hbdf CB.out.lt)
          have RBf := Lib.hid ((RB.out.later (below_old (fun _ h => h) hbdf)).mono (fun k (hk : k < wd.heap.size) => (Nat.lt_of_lt_of_le hk hbdf.size : k < wf.heap.size)))
          have Hwf := Lib.hid hwf
          obtain ⟨a0, a1, a2, a3, a4, a5⟩ := (DX.out.later hbcf DX.out.lt).at
          simp only [Nat.zero_add] at a0 a1 a2 a3 a4 a5
          rw [← hwf] at a0 a1 a2 a3 a4 a5
          clear hb hbf hbdf hbcf hwf hy
          go_wp2_with fail
          rw [Hwf.out]
          have hq := pGet_any v oth ⟨6, xn, xg, xs, ⟨lp, ll, lc⟩, ⟨dp, dl, dc⟩⟩ wf S (QX.out.later (below_old QS.out BCf.out)) (old_later QS.out BCf.out) (Hfit.out.mono (by omega))
          obtain ⟨pd, hpd⟩ : ∃ pd, getV v oth = pd := ⟨_, rfl⟩
          rw [hpd] at hq HGO
          dsimp only [Hv.arr] at hq
          refine hq.mono ?_
          clear hq hpd a0 a1 a2 a3 a4 a5
          rintro e wg ⟨⟨dk, dn, dg, dst, ⟨dlp, dll, dlc⟩, ⟨ddp, ddl, ddc⟩⟩, he, hy, hb⟩
          replace he : e = .returned (.tuple #[.agg #[.int .i64 dk, .int .i64 dn, .int .i64 dg, .string dst, .slice dlp dll dlc, .slice ddp ddl ddc], .bool pd.2]) := he
          subst he
          obtain ⟨wh, hwh⟩ : ∃ wh, wg.alloc (.cells #[.int .i64 dk, .int .i64 dn, .int .i64 dg, .string dst, .slice dlp dll dlc, .slice ddp ddl ddc] 25) = wh := ⟨_, rfl⟩
          have hbh : Below wg.heap.size wg wh := by rw [← hwh]; exact (Below.refl _ wg).alloc (Nat.le_refl _) _
          have hbfh : Below wf.heap.size wf wh := hb.trans (hbh.mono hb.size)
          have BCh := Lib.hid (BCf.out.trans (hbfh.mono BCf.out.size))
          have CD := Lib.hid (show VCell wh wg.heap.size ⟨dk, dn, dg, dst, ⟨dlp, dll, dlc⟩, ⟨ddp, ddl, ddc⟩⟩ by rw [← hwh]; exact heap_alloc_new wg _)
          have RD := Lib.hid ((hy.carry hbh).mono (fun k hk => hk.2))
          have CCh := Lib.hid (CC.out.later hbfh CC.out.lt)
          have CBh := Lib.hid (CBf.out.later hbfh CBf.out.lt)
          have RCh := Lib.hid ((RC.out.later (below_old (fun _ h => h) hbfh)).mono (fun k (hk : k < wf.heap.size) => (Nat.lt_of_lt_of_le hk hbfh.size : k < wh.heap.size)))
          have RBh := Lib.hid ((RBf.out.later (below_old (fun _ h => h) hbfh)).mono (fun k (hk : k < wf.heap.size) => (Nat.lt_of_lt_of_le hk hbfh.size : k < wh.heap.size)))
          have Hwh := Lib.hid hwh
          clear hb hbh hbfh hwh hy
          have hb0 : Aside (Below wh.heap.size wh wh) := Below.refl _ _
          go_upto_region 12 with fail
          rw [Hwh.out]
          go_cut [92] from 79 (fun c92 wx => c92 = .bool false ∧ Aside (Below wh.heap.size wh wx))
          case first =>
            by_cases hok : oth = key
            · have hok1 : (oth.toList == key.toList) = true := by rw [hok]; simp
              clear hok
              go_wp2_with fail
              go_meet
              exact ⟨rfl, hb0⟩
            · have hok1 : (oth.toList == key.toList) = false := by rw [text_eq]; exact decide_eq_false hok
              have he := HGO.out hok
              subst he
              clear hok
              obtain ⟨pc1, pc2⟩ := pc
              obtain ⟨a0, a1, a2, a3, a4, a5⟩ := CCh.out.at
              obtain ⟨b0, b1, b2, b3, b4, b5⟩ := CD.out.at
              simp only [Nat.zero_add] at a0 a1 a2 a3 a4 a5 b0 b1 b2 b3 b4 b5
              go_wp2_with fail
              have hq := requal_any pc1 pc1 ⟨ck, cn, cg, cst, ⟨clp, cll, clc⟩, ⟨cdp, cdl, cdc⟩⟩ ⟨dk, dn, dg, dst, ⟨dlp, dll, dlc⟩, ⟨ddp, ddl, ddc⟩⟩ wh _ RCh.out RD.out (fun _ h => h)
              rw [equalV_refl] at hq
              dsimp only [Hv.arr] at hq
              refine hq.mono ?_
              rintro e wi ⟨rfl, hb⟩
              have hbi : Aside (Below wh.heap.size wh wi) := hb
              clear hb
              go_wp2
              go_meet
              exact ⟨rfl, hbi⟩
          case rest =>
            obtain ⟨rfl, hbi⟩ := hcut
            have BI := Lib.hid hbi.out
            have hbci := BCh.out.trans (BI.out.mono BCh.out.size)
            have BCi := Lib.hid hbci
            obtain ⟨b0, b1, b2, b3, b4, b5⟩ := (DZ.out.later hbci DZ.out.lt).at
            simp only [Nat.zero_add] at b0 b1 b2 b3 b4 b5
            clear hbi hb0 hbci
            go_wp2_with fail
            have hq := pplain_any u ⟨zk, zn, zg, zs, ⟨zlp, zll, zlc⟩, ⟨zdp, zdl, zdc⟩⟩ _ S (QU.out.later (below_old QS.out BCi.out)) (old_later QS.out BCi.out) (Hfitu.out.mono (by omega))
            dsimp only [Hv.arr] at hq
            refine hq.mono ?_
            clear hq b0 b1 b2 b3 b4 b5
            rintro e wj ⟨⟨ek, en, eg, est, ⟨elp, ell, elc⟩, ⟨edp, edl, edc⟩⟩, he, hy, hb⟩
            replace he : e = .returned (.agg #[.int .i64 ek, .int .i64 en, .int .i64 eg, .string est, .slice elp ell elc, .slice edp edl edc]) := he
            subst he
            have hek : ek = (plainV u).kind := (rd_iff.1 hy).1.1
            have BIj := Lib.hid (BI.out.trans (hb.mono BI.out.size))
            have BCj := Lib.hid (BCi.out.trans (hb.mono BCi.out.size))
            have hob : decide (ek ≠ 0) = ob := by rw [hek]; exact Hob.out
            obtain ⟨b0, b1, b2, b3, b4, b5⟩ := (DZ.out.later BCj.out DZ.out.lt).at
            obtain ⟨a0, a1, a2, a3, a4, a5⟩ := (CBh.out.later BIj.out CBh.out.lt).at
            simp only [Nat.zero_add] at a0 a1 a2 a3 a4 a5 b0 b1 b2 b3 b4 b5
            have hfld : ∀ W, (Instr.field 25 (.agg #[.int .i64 ek, .int .i64 en, .int .i64 eg, .string est, .slice elp ell elc, .slice edp edl edc]) 0).run Try.prog W = .ok (.int .i64 ek) W := fun W => by kernel_rfl
            clear hek hb hy
            by_cases hk0 : ek = 0
            · subst hk0
              obtain rfl : ob = false := by rw [← hob]; rfl
              clear hob
              go_wp2_with fail
              have hq := pSame_any (plainV u) u ⟨bk, bn, bg, bst, ⟨blp, bll, blc⟩, ⟨bdp, bdl, bdc⟩⟩ ⟨zk, zn, zg, zs, ⟨zlp, zll, zlc⟩, ⟨zdp, zdl, zdc⟩⟩ wj _ ((RBh.out.later (below_old (fun _ h => h) BIj.out)).mono (fun k (hk : k < wh.heap.size) => (Nat.lt_of_lt_of_le hk BIj.out.size : k < wj.heap.size))) ((QU.out.later (below_old QS.out BCj.out)).mono (old_later QS.out BCj.out)) (fun _ h => h) (plain_fit (Hfitu.out.mono (by omega))) (Hfitu.out.mono (by omega))
              rw [plain_plain, equalV_refl] at hq
              dsimp only [Hv.arr] at hq
              refine hq.mono ?_
              clear hq a0 a1 a2 a3 a4 a5 b0 b1 b2 b3 b4 b5
              rintro e wk ⟨rfl, hb⟩
              have Bk := Lib.hid (BCj.out.trans (hb.mono BCj.out.size))
              clear hb
              go_wp2_with fail
              refine (Hval.out _).mono ?_
              rintro e wl ⟨rfl, hb⟩
              have Bl := Lib.hid (Bk.out.trans (hb.mono Bk.out.size))
              clear hb
              go_wp2
              go_ret
              exact ⟨rfl, HEnd.out _ Bl.out⟩
            · have hk1 : (ek == 0) = false := by simpa using hk0
              have hk2 : Hid ((ek != 0) = true) := Lib.hid (by simpa using hk0)
              obtain rfl : ob = true := by rw [← hob]; exact decide_eq_true hk0
              clear hob
              go_wp2_with fail
              have hq := pSame_any (plainV u) u ⟨bk, bn, bg, bst, ⟨blp, bll, blc⟩, ⟨bdp, bdl, bdc⟩⟩ ⟨zk, zn, zg, zs, ⟨zlp, zll, zlc⟩, ⟨zdp, zdl, zdc⟩⟩ wj _ ((RBh.out.later (below_old (fun _ h => h) BIj.out)).mono (fun k (hk : k < wh.heap.size) => (Nat.lt_of_lt_of_le hk BIj.out.size : k < wj.heap.size))) ((QU.out.later (below_old QS.out BCj.out)).mono (old_later QS.out BCj.out)) (fun _ h => h) (plain_fit (Hfitu.out.mono (by omega))) (Hfitu.out.mono (by omega))
              rw [plain_plain, equalV_refl] at hq
              dsimp only [Hv.arr] at hq
              refine hq.mono ?_
              clear hq a0 a1 a2 a3 a4 a5 b0 b1 b2 b3 b4 b5
              rintro e wk ⟨rfl, hb⟩
              have Bk := Lib.hid (BCj.out.trans (hb.mono BCj.out.size))
              clear hb
              go_wp2_with fail
              refine (Hval.out _).mono ?_
              rintro e wl ⟨rfl, hb⟩
              have Bl := Lib.hid (Bk.out.trans (hb.mono Bk.out.size))
              clear hb
              go_wp2
              go_ret
              exact ⟨congrArg (fun b => Ending.returned (Value.bool b)) hk2.out, HEnd.out _ Bl.out⟩
        · clear Hkx
          go_wp2_with fail
          refine (Hval.out _).mono ?_
          rintro e wz ⟨rfl, hbz⟩
          have Hbz := Lib.hid hbz
          clear hbz
          go_wp2
          go_ret
          exact ⟨rfl, HEnd.out _ Hbz.out⟩
end Go.Proofs.Ytlmgjhidmipadaa
