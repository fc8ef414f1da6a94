/-
  The program's: what is wrong with a value.
-/
import Derived.Test.YtljgjjbmgjfbcaaDoorMBz
import Derived.Test.YtljgjjbmgjfbcaaDoorVPairsC
namespace Go.Proofs.YtljgjjbmgjfbcaaDoor
open Go.RowKit
set_option maxRecDepth 100000

set_option maxHeartbeats 8000000 in
theorem pcheck_any (v : Val) : PCheckC v := by
  induction v using Val.ind with
  | h v ihl ihd =>
    intro st m x w S hR hS hfit hm1 hm2
    obtain ⟨⟨hk, hn, hg, hs⟩, hL, hD⟩ := rd_iff.1 hR
    obtain ⟨hll, hlm⟩ := hL.len_le
    obtain ⟨hdl, hdm⟩ := hD.len_le
    have hone := fun W => checkAlone_any x v st m W hk hn hg hs hll hdl (by have := hfit.s; unfold maxLen; omega)
    clear hk hn hg hs
    obtain ⟨k, n, g, s, ⟨lp, ll, lc⟩, ⟨dp, dl, dc⟩⟩ := x
    clear hR
    rw [checkV_eq]
    have hfl : ∀ y ∈ v.l, Fit y 4000 ∧ m + 1 + sizeV y ≤ 100000 := fun y hy => ⟨hfit.l hy, by have := sizeV_l hy; omega⟩
    have hfd : ∀ p ∈ v.d, (Fit p.2 4000 ∧ m + 1 + sizeV p.2 ≤ 100000) ∧ p.1.size ≤ 100000 := fun p hp => ⟨⟨(hfit.d hp).1, by have := sizeV_d hp; omega⟩, by have := (hfit.d hp).2; omega⟩
    have Hfl := Lib.hid hfl
    have Hfd := Lib.hid hfd
    have hdl4 : v.d.length ≤ 4000 := by have h1 := sizeD_length v.d; have h2 := hfit.1; rw [sizeV_eq] at h2; omega
    have Hdl4 := Lib.hid hdl4
    clear hdl4
    have hm3 : m ≤ 99999 := by have := sizeV_pos v; omega
    clear hfl hfd hfit hm2
    obtain ⟨o, ho⟩ : ∃ o, oneV v st m = o := ⟨_, rfl⟩
    rw [ho]
    simp only [ho] at hone
    have Hone := Lib.hid hone
    clear ho hone
    obtain ⟨t, ht⟩ : ∃ t, (if o ≠ 0 then o else if checkL v.l (m + 1) ≠ 0 then checkL v.l (m + 1) else checkD v.d [] (m + 1)) = t := ⟨_, rfl⟩
    rw [ht]
    have Ht := Lib.hid ht
    clear ht
    obtain ⟨w1, hw1⟩ : ∃ w1, w.alloc (.cells #[.int .i64 k, .int .i64 n, .int .i64 g, .string s, .slice lp ll lc, .slice dp dl dc] 25) = w1 := ⟨_, rfl⟩
    have hv1 : VCell w1 w.heap.size ⟨k, n, g, s, ⟨lp, ll, lc⟩, ⟨dp, dl, dc⟩⟩ := by rw [← hw1]; exact heap_alloc_new w _
    have hb1 : Below w.heap.size w w1 := by rw [← hw1]; exact (Below.refl _ w).alloc (Nat.le_refl _) _
    have hlt : w.heap.size < w1.heap.size := by rw [← hw1]; simp
    have Hw1 := Lib.hid hw1
    have Hv1 := Lib.hid hv1
    have Hb1 := Lib.hid hb1
    have Hihl := Lib.hid ihl
    have Hihd := Lib.hid ihd
    dsimp only at hll hlm hdl hdm
    unfold maxLen at hlm hdm
    have Hll := Lib.hid hll
    have Hdl := Lib.hid hdl
    have HL := Lib.hid hL
    have HD := Lib.hid hD
    have HS := Lib.hid hS
    clear hw1 hv1 hb1 hL hD hS ihl ihd hll hdl
    by_cases ho : ¬ o = 0
    · have ho2 : (o != 0) = true := by simpa using ho
      show Calls Tryd.prog 33 #[.agg #[.int .i64 k, .int .i64 n, .int .i64 g, .string s, .slice lp ll lc, .slice dp dl dc], .bool st, .int .i64 m] w _
      go_enter Tryd.func33, Tryd.ntmps33
      iterate 20 go_step
      rw [Hw1.out]
      clear Hw1
      go_wp2_with (first | (refine VCell.load rfl (.tmp 3) rfl w.heap.size _ rfl Hv1.out ?_) | (go_at_call 53; refine (Hone.out w1).mono ?_; rintro e w2 ⟨rfl, hb⟩; have Hb2 := Lib.hid hb; clear hb))
      go_ret
      exact ⟨by show Ending.returned (Value.int .i64 o) = _; rw [← Ht.out, if_pos ho], Hb1.out.trans (Hb2.out.mono Hb1.out.size)⟩
    replace ho := Decidable.not_not.1 ho
    subst ho
    have Ht2 : Hid ((if checkL v.l (m + 1) ≠ 0 then checkL v.l (m + 1) else checkD v.d [] (m + 1)) = t) := Lib.hid (by rw [← Ht.out, if_neg (show ¬ ((0 : Int) ≠ 0) from fun h => h rfl)])
    clear Ht
    show Calls Tryd.prog 33 #[.agg #[.int .i64 k, .int .i64 n, .int .i64 g, .string s, .slice lp ll lc, .slice dp dl dc], .bool st, .int .i64 m] w _
    go_enter Tryd.func33, Tryd.ntmps33
    iterate 20 go_step
    rw [Hw1.out]
    clear Hw1
    go_wp2_with (first | (refine VCell.load rfl (.tmp 3) rfl w.heap.size _ rfl Hv1.out ?_) | (go_at_call 53; refine (Hone.out w1).mono ?_; rintro e w2 ⟨rfl, hb⟩; have Hb2 := Lib.hid hb; clear hb; have hc4 : w2.cell? ⟨w.heap.size, 4, none⟩ = some (.slice lp ll lc) := (Hv1.out.later Hb2.out hlt).at.2.2.2.2.1))
    have Hbw2 : Hid (Below w.heap.size w w2) := Lib.hid (Hb1.out.trans (Hb2.out.mono Hb1.out.size))
    have hlt2 : w.heap.size < w2.heap.size := Nat.lt_of_lt_of_le hlt Hb2.out.size
    have HV2 := Lib.hid (Hv1.out.later Hb2.out hlt)
    have HL2 := Lib.hid (HL.out.later (below_old HS.out Hbw2.out))
    have HD2 := Lib.hid (HD.out.later (below_old HS.out Hbw2.out))
    have HS2 := Lib.hid (old_later HS.out Hbw2.out)
    have hc5 : w2.cell? ⟨w.heap.size, 5, none⟩ = some (.slice dp dl dc) := HV2.out.at.2.2.2.2.2
    have HB0 : Aside (Below w2.heap.size w2 w2) := Below.refl _ _
    clear HL HD HS Hv1 hlt Hb2
    go_loopg [21] ll (fun f s21 wr => ∃ i : Nat, s21 = .int .i64 i ∧ i ≤ ll ∧ ll ≤ f + i ∧ Aside (checkL (v.l.drop i) (m + 1) = checkL v.l (m + 1)) ∧ Aside (Below w2.heap.size w2 wr))
    case atStart => exact ⟨0, rfl, Nat.zero_le _, Nat.le_refl _, rfl, HB0⟩
    case round =>
      obtain ⟨i, rfl, hi, hf, HI, HB⟩ := hrel
      have c5 := (HB.out.cell (p := ⟨w.heap.size, 5, none⟩) hlt2).trans hc5
      by_cases hil : i < ll
      · obtain ⟨lb, lo, ⟨yk, yn, yg, ys, ⟨ylp, yll, ylc⟩, ⟨ydp, ydl, ydc⟩⟩, hiv, h3, h4, h5, h6⟩ := (HL2.out.later (below_old HS2.out HB.out)).at hil
        subst h3
        obtain ⟨e0, e1, e2, e3, e4, e5⟩ := h5
        dsimp only at e0 e1 e2 e3 e4 e5
        have hbx : ∀ o : Obj, Below wr.heap.size wr (wr.alloc o) := fun o => (Below.refl _ wr).alloc (Nat.le_refl _) _
        have hc := Lib.hid (fun o => Hihl.out _ (List.getElem_mem hiv) false (m + 1) ⟨yk, yn, yg, ys, ⟨ylp, yll, ylc⟩, ⟨ydp, ydl, ydc⟩⟩ (wr.alloc o) S (h6.later (below_old (old_later HS2.out HB.out) (hbx o))) (old_later (old_later HS2.out HB.out) (hbx o)) (Hfl.out _ (List.getElem_mem hiv)).1 (by omega) (Hfl.out _ (List.getElem_mem hiv)).2)
        have HBX := Lib.hid hbx
        have Hst : Hid (checkL (v.l.drop i) (m + 1) = if checkV v.l[i] false (m + 1) ≠ 0 then checkV v.l[i] false (m + 1) else checkL (v.l.drop (i + 1)) (m + 1)) := Lib.hid (by rw [drop_cons hiv, checkL])
        obtain ⟨r, hr⟩ : ∃ r, checkV v.l[i] false (m + 1) = r := ⟨_, rfl⟩
        simp only [hr] at hc Hst
        clear hr h4 h6 hbx
        go_wp2_with fail
        refine (hc.out _).mono ?_
        rintro e w3 ⟨rfl, hb⟩
        have HB2 : Aside (Below w2.heap.size w2 w3) := (HB.out.trans ((HBX.out _).mono HB.out.size)).trans (hb.mono (Nat.le_trans HB.out.size (HBX.out _).size))
        clear hb hc HB HBX e0 e1 e2 e3 e4 e5 c5
        by_cases hr : ¬ r = 0
        · have hr2 : (r != 0) = true := by simpa using hr
          go_wp2
          go_ret
          refine ⟨?_, (Hbw2.out).trans (HB2.out.mono Hbw2.out.size)⟩
          have e1 : checkL v.l (m + 1) = r := by rw [← HI.out, Hst.out, if_pos hr]
          show Ending.returned (Value.int .i64 r) = _
          rw [← Ht2.out, e1, if_pos hr]
        · replace hr := Decidable.not_not.1 hr
          subst hr
          go_wp2
          go_roundg (ll - (i + 1))
          case measure => omega
          case rel => exact ⟨i + 1, by go_num, by omega, by omega, (show Aside _ from (by show _ = _; rw [← HI.out, Hst.out, if_neg (fun h => h rfl)])), HB2⟩
      · have hlT : Hid (checkL v.l (m + 1) = 0) := Lib.hid (by rw [← HI.out, List.drop_eq_nil_of_le (by have := Hll.out; omega)]; rfl)
        have Ht3 : Hid (checkD v.d [] (m + 1) = t) := Lib.hid (by rw [← Ht2.out, hlT.out, if_neg (fun h => h rfl)])
        have hcp := Lib.hid (cpairs_of v.d Hihd.out (m + 1) Hfd.out Hdl4.out (by omega) ⟨dp, dl, dc⟩ wr S (HD2.out.later (below_old HS2.out HB.out)) (old_later HS2.out HB.out))
        clear HI Ht2 hlT
        go_wp2_with fail
        refine hcp.out.mono ?_
        rintro e w3 ⟨rfl, hb⟩
        have HB2 : Aside (Below w2.heap.size w2 w3) := HB.out.trans (hb.mono HB.out.size)
        clear hb hcp c5
        go_wp2
        go_ret
        exact ⟨by show Ending.returned (Value.int .i64 (checkD v.d [] (m + 1))) = _; rw [Ht3.out], (Hbw2.out).trans (HB2.out.mono Hbw2.out.size)⟩

set_option maxHeartbeats 4000000 in
theorem pCheck_any (v : Val) (st : Bool) (x : Hv) (w : World) (S : Nat → Prop) (hR : Rd w S x v) (hS : ∀ k, S k → k < w.heap.size) (hfit : Fit v 4000) :
    Calls Tryd.prog 14 #[.agg x.arr, .bool st] w fun e w' => e = .returned (.int .i64 (checkV v st 0)) ∧ Below w.heap.size w w' := by
  obtain ⟨k, n, g, s, ⟨lp, ll, lc⟩, ⟨dp, dl, dc⟩⟩ := x
  obtain ⟨w1, hw1⟩ : ∃ w1, w.alloc (.cells #[.int .i64 k, .int .i64 n, .int .i64 g, .string s, .slice lp ll lc, .slice dp dl dc] 25) = w1 := ⟨_, rfl⟩
  have Hv1 : Hid (VCell w1 w.heap.size ⟨k, n, g, s, ⟨lp, ll, lc⟩, ⟨dp, dl, dc⟩⟩) := Lib.hid (by rw [← hw1]; exact heap_alloc_new w _)
  have hb1 : Below w.heap.size w w1 := by rw [← hw1]; exact (Below.refl _ w).alloc (Nat.le_refl _) _
  have Hc := Lib.hid (pcheck_any v st 0 _ w1 S (hR.later (below_old hS hb1)) (old_later hS hb1) hfit (Int.le_refl _) (by have := hfit.1; omega))
  have Hb1 := Lib.hid hb1
  have Hw1 := Lib.hid hw1
  clear hw1 hb1 hR hS hfit
  show Calls Tryd.prog 14 #[.agg #[.int .i64 k, .int .i64 n, .int .i64 g, .string s, .slice lp ll lc, .slice dp dl dc], .bool st] w _
  go_enter Tryd.func14, Tryd.ntmps14
  iterate 20 go_step
  rw [Hw1.out]
  go_wp2_with (first | (refine VCell.load rfl (.tmp 2) rfl w.heap.size _ rfl Hv1.out ?_) | (go_at_call 33; refine Hc.out.mono ?_; rintro e w2 ⟨rfl, hb⟩; have Hb2 := Lib.hid hb; clear hb))
  go_ret
  exact ⟨rfl, Hb1.out.trans (Hb2.out.mono Hb1.out.size)⟩
end Go.Proofs.YtljgjjbmgjfbcaaDoor
