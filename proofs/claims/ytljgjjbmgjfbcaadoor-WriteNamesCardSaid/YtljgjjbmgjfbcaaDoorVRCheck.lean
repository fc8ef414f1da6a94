/-
  The document's answer: what is wrong with a value.
-/
import Derived.Test.YtljgjjbmgjfbcaaDoorMZero
import Derived.Test.YtljgjjbmgjfbcaaDoorMRow
namespace Go.Proofs.YtljgjjbmgjfbcaaDoor
open Go.RowKit
set_option maxRecDepth 100000

set_option maxHeartbeats 8000000 in
theorem rcheck_any (v : Val) : ∀ (st : Bool) (m : Int) (x : Hv) (w : World) (S : Nat → Prop), Rd w S x v → (∀ k, S k → k < w.heap.size) → Fit v 4000 → 0 ≤ m → m + sizeV v ≤ 100000 →
    Calls Tryd.prog 42 #[.agg x.arr, .bool st, .int .i64 m] w fun e w' => e = .returned (.int .i64 (checkV v st m)) ∧ Below w.heap.size w w' := by
  induction v using Val.ind with
  | h v ihl ihd =>
    intro st m x w S hR hS hfit hm1 hm2
    obtain ⟨⟨hk, hn, hg, hs⟩, hL, hD⟩ := rd_iff.1 hR
    obtain ⟨hll, hlm⟩ := hL.len_le
    obtain ⟨hdl, hdm⟩ := hD.len_le
    have hone := fun W => one_any x v st m W hk hn hg hs hll hdl (by have := hfit.s; unfold maxLen; omega)
    clear hk hn hg hs
    obtain ⟨k, n, g, s, ⟨lp, ll, lc⟩, ⟨dp, dl, dc⟩⟩ := x
    clear hR
    rw [checkV_eq]
    have hfl : ∀ y ∈ v.l, Fit y 4000 ∧ m + 1 + sizeV y ≤ 100000 := fun y hy => ⟨hfit.l hy, by have := sizeV_l hy; omega⟩
    have hfd : ∀ p ∈ v.d, (Fit p.2 4000 ∧ m + 1 + sizeV p.2 ≤ 100000) ∧ p.1.size ≤ 100000 := fun p hp => ⟨⟨(hfit.d hp).1, by have := sizeV_d hp; omega⟩, by have := (hfit.d hp).2; omega⟩
    have Hfl := Lib.hid hfl
    have Hfd := Lib.hid hfd
    have hm3 : m ≤ 99999 := by have := sizeV_pos v; omega
    clear hfl hfd hfit hm2
    obtain ⟨o, ho⟩ : ∃ o, oneV v st m = o := ⟨_, rfl⟩
    rw [ho]
    simp only [ho] at hone
    have Hone := Lib.hid hone
    clear ho hone
    obtain ⟨t, ht⟩ : ∃ t, (if o ≠ 0 then o else if checkL v.l (m + 1) ≠ 0 then checkL v.l (m + 1) else checkD v.d [] (m + 1)) = t := ⟨_, rfl⟩
    rw [ht]
    have Ht := Lib.hid ht
    clear ht
    obtain ⟨w1, hw1⟩ : ∃ w1, w.alloc (.cells #[.int .i64 k, .int .i64 n, .int .i64 g, .string s, .slice lp ll lc, .slice dp dl dc] 25) = w1 := ⟨_, rfl⟩
    have hv1 : VCell w1 w.heap.size ⟨k, n, g, s, ⟨lp, ll, lc⟩, ⟨dp, dl, dc⟩⟩ := by rw [← hw1]; exact heap_alloc_new w _
    have hb1 : Below w.heap.size w w1 := by rw [← hw1]; exact (Below.refl _ w).alloc (Nat.le_refl _) _
    have hlt : w.heap.size < w1.heap.size := by rw [← hw1]; simp
    have Hw1 := Lib.hid hw1
    have Hv1 := Lib.hid hv1
    have Hb1 := Lib.hid hb1
    have Hihl := Lib.hid ihl
    have Hihd := Lib.hid ihd
    dsimp only at hll hlm hdl hdm
    unfold maxLen at hlm hdm
    have Hll := Lib.hid hll
    have Hdl := Lib.hid hdl
    have HL := Lib.hid hL
    have HD := Lib.hid hD
    have HS := Lib.hid hS
    clear hw1 hv1 hb1 hL hD hS ihl ihd hll hdl
    by_cases ho : ¬ o = 0
    · have ho2 : (o != 0) = true := by simpa using ho
      show Calls Tryd.prog 42 #[.agg #[.int .i64 k, .int .i64 n, .int .i64 g, .string s, .slice lp ll lc, .slice dp dl dc], .bool st, .int .i64 m] w _
      go_enter Tryd.func42, Tryd.ntmps42
      iterate 20 go_step
      rw [Hw1.out]
      clear Hw1
      go_wp2_with (first | (refine VCell.load rfl (.tmp 3) rfl w.heap.size _ rfl Hv1.out ?_) | (go_at_call 68; refine (Hone.out w1).mono ?_; rintro e w2 ⟨rfl, hb⟩; have Hb2 := Lib.hid hb; clear hb))
      go_ret
      exact ⟨by show Ending.returned (Value.int .i64 o) = _; rw [← Ht.out, if_pos ho], Hb1.out.trans (Hb2.out.mono Hb1.out.size)⟩
    replace ho := Decidable.not_not.1 ho
    subst ho
    have Ht2 : Hid ((if checkL v.l (m + 1) ≠ 0 then checkL v.l (m + 1) else checkD v.d [] (m + 1)) = t) := Lib.hid (by rw [← Ht.out, if_neg (show ¬ ((0 : Int) ≠ 0) from fun h => h rfl)])
    clear Ht
    show Calls Tryd.prog 42 #[.agg #[.int .i64 k, .int .i64 n, .int .i64 g, .string s, .slice lp ll lc, .slice dp dl dc], .bool st, .int .i64 m] w _
    go_enter Tryd.func42, Tryd.ntmps42
    iterate 20 go_step
    rw [Hw1.out]
    clear Hw1
    go_wp2_with (first | (refine VCell.load rfl (.tmp 3) rfl w.heap.size _ rfl Hv1.out ?_) | (go_at_call 68; refine (Hone.out w1).mono ?_; rintro e w2 ⟨rfl, hb⟩; have Hb2 := Lib.hid hb; clear hb))
    have Hbw2 : Hid (Below w.heap.size w w2) := Lib.hid (Hb1.out.trans (Hb2.out.mono Hb1.out.size))
    have hlt2 : w.heap.size < w2.heap.size := Nat.lt_of_lt_of_le hlt Hb2.out.size
    have HV2 := Lib.hid (Hv1.out.later Hb2.out hlt)
    have HL2 := Lib.hid (HL.out.later (below_old HS.out Hbw2.out))
    have HD2 := Lib.hid (HD.out.later (below_old HS.out Hbw2.out))
    have HS2 := Lib.hid (old_later HS.out Hbw2.out)
    have hc4 : w2.cell? ⟨w.heap.size, 4, none⟩ = some (.slice lp ll lc) := HV2.out.at.2.2.2.2.1
    have hc5 : w2.cell? ⟨w.heap.size, 5, none⟩ = some (.slice dp dl dc) := HV2.out.at.2.2.2.2.2
    have HB0 : Aside (Below w2.heap.size w2 w2) := Below.refl _ _
    clear HL HD HS Hv1 hlt Hb2
    go_loopg [8] ll (fun f s8 wr => ∃ i : Nat, s8 = .int .i64 i ∧ i ≤ ll ∧ ll ≤ f + i ∧ Aside (checkL (v.l.drop i) (m + 1) = checkL v.l (m + 1)) ∧ Aside (Below w2.heap.size w2 wr))
    case atStart => exact ⟨0, rfl, Nat.zero_le _, Nat.le_refl _, rfl, HB0⟩
    case round =>
      obtain ⟨i, rfl, hi, hf, HI, HB⟩ := hrel
      have c4 := (HB.out.cell (p := ⟨w.heap.size, 4, none⟩) hlt2).trans hc4
      have c5 := (HB.out.cell (p := ⟨w.heap.size, 5, none⟩) hlt2).trans hc5
      by_cases hil : i < ll
      · obtain ⟨lb, lo, ⟨yk, yn, yg, ys, ⟨ylp, yll, ylc⟩, ⟨ydp, ydl, ydc⟩⟩, hiv, h3, h4, h5, h6⟩ := (HL2.out.later (below_old HS2.out HB.out)).at hil
        subst h3
        obtain ⟨e0, e1, e2, e3, e4, e5⟩ := h5
        dsimp only at e0 e1 e2 e3 e4 e5
        have hc := Lib.hid (Hihl.out _ (List.getElem_mem hiv) false (m + 1) _ wr S h6 (old_later HS2.out HB.out) (Hfl.out _ (List.getElem_mem hiv)).1 (by omega) (Hfl.out _ (List.getElem_mem hiv)).2)
        have Hst : Hid (checkL (v.l.drop i) (m + 1) = if checkV v.l[i] false (m + 1) ≠ 0 then checkV v.l[i] false (m + 1) else checkL (v.l.drop (i + 1)) (m + 1)) := Lib.hid (by rw [drop_cons hiv, checkL])
        obtain ⟨r, hr⟩ : ∃ r, checkV v.l[i] false (m + 1) = r := ⟨_, rfl⟩
        rw [hr] at hc Hst
        clear hr h4 h6
        go_wp2_with fail
        refine hc.out.mono ?_
        rintro e w3 ⟨rfl, hb⟩
        have HB2 : Aside (Below w2.heap.size w2 w3) := HB.out.trans (hb.mono HB.out.size)
        clear hb hc HB e0 e1 e2 e3 e4 e5 c4 c5
        by_cases hr : ¬ r = 0
        · have hr2 : (r != 0) = true := by simpa using hr
          go_wp2
          go_ret
          refine ⟨?_, (Hbw2.out).trans (HB2.out.mono Hbw2.out.size)⟩
          have e1 : checkL v.l (m + 1) = r := by rw [← HI.out, Hst.out, if_pos hr]
          show Ending.returned (Value.int .i64 r) = _
          rw [← Ht2.out, e1, if_pos hr]
        · replace hr := Decidable.not_not.1 hr
          subst hr
          go_wp2
          go_roundg (ll - (i + 1))
          case measure => omega
          case rel => exact ⟨i + 1, by go_num, by omega, by omega, (show Aside _ from (by show _ = _; rw [← HI.out, Hst.out, if_neg (fun h => h rfl)])), HB2⟩
      · have hlT : Hid (checkL v.l (m + 1) = 0) := Lib.hid (by rw [← HI.out, List.drop_eq_nil_of_le (by have := Hll.out; omega)]; rfl)
        have Ht3 : Hid (checkD v.d [] (m + 1) = t) := Lib.hid (by rw [← Ht2.out, hlT.out, if_neg (fun h => h rfl)])
        have HB3 : Aside (Below w2.heap.size w2 wr) := HB
        clear HI Ht2 hlT
        go_wp2
        go_loopg [10] dl (fun f s10 wr => ∃ i : Nat, s10 = .int .i64 i ∧ i ≤ dl ∧ dl ≤ f + i ∧ Aside (checkD (v.d.drop i) ((v.d.take i).map Prod.fst) (m + 1) = t) ∧ Aside (Below w2.heap.size w2 wr))
        case atStart => exact ⟨0, rfl, Nat.zero_le _, Nat.le_refl _, Ht3.out, HB3⟩
        case round =>
          clear c4 c5 HB HB3 Ht3
          obtain ⟨j, rfl, hj, hfj, HI, HB⟩ := hrel
          have c5 := (HB.out.cell (p := ⟨w.heap.size, 5, none⟩) hlt2).trans hc5
          by_cases hjl : j < dl
          · have hjv : j < v.d.length := by have := Hdl.out; omega
            have hkey := Lib.hid (rkey_any v.d ⟨dp, dl, dc⟩ j hjv wr S (HD2.out.later (below_old HS2.out HB.out)) (Hfd.out _ (List.getElem_mem hjv)).2)
            have Hst : Hid (checkD (v.d.drop j) ((v.d.take j).map Prod.fst) (m + 1) = if keyV (v.d[j]).1 ((v.d.take j).map Prod.fst) = true then 11 else if checkV (v.d[j]).2 false (m + 1) ≠ 0 then checkV (v.d[j]).2 false (m + 1) else checkD (v.d.drop (j + 1)) ((v.d.take (j + 1)).map Prod.fst) (m + 1)) := Lib.hid (by
              rw [drop_cons hjv, List.take_add_one, List.getElem?_eq_getElem hjv, Option.toList_some, List.map_append]
              generalize v.d[j] = p
              obtain ⟨a, b⟩ := p
              rw [checkD]; rfl)
            obtain ⟨b, hb⟩ : ∃ b, keyV (v.d[j]).1 ((v.d.take j).map Prod.fst) = b := ⟨_, rfl⟩
            rw [hb] at hkey Hst
            clear hb
            go_wp2_with fail
            refine hkey.out.mono ?_
            rintro e w3 ⟨rfl, hb⟩
            have HB2 : Aside (Below w2.heap.size w2 w3) := HB.out.trans (hb.mono HB.out.size)
            have c5' := (HB2.out.cell (p := ⟨w.heap.size, 5, none⟩) hlt2).trans hc5
            clear hb hkey HB c5
            cases b with
            | true =>
              have hz : ((11 : Int) != 0) = true := rfl
              dsimp only [keyE]
              go_wp2
              go_ret
              refine ⟨?_, (Hbw2.out).trans (HB2.out.mono Hbw2.out.size)⟩
              show Ending.returned (Value.int .i64 11) = _
              rw [← HI.out, Hst.out]; simp
            | false =>
              have hz : ((0 : Int) != 0) = false := rfl
              dsimp only [keyE]
              obtain ⟨lb, lo, ⟨yy, ⟨yk, yn, yg, ys, ⟨ylp, yll, ylc⟩, ⟨ydp, ydl, ydc⟩⟩⟩, hiv, h3, h4, ⟨e0, h5⟩, hky, h6⟩ := (HD2.out.later (below_old HS2.out HB2.out)).at hjl
              subst h3
              obtain ⟨e1, e2, e3, e4, e5, e6⟩ := h5
              dsimp only at e0 e1 e2 e3 e4 e5 e6 h6
              have hc := Lib.hid (Hihd.out _ (List.getElem_mem hjv) false (m + 1) _ w3 S h6 (old_later HS2.out HB2.out) (Hfd.out _ (List.getElem_mem hjv)).1.1 (by omega) (Hfd.out _ (List.getElem_mem hjv)).1.2)
              obtain ⟨r, hr⟩ : ∃ r, checkV (v.d[j]).2 false (m + 1) = r := ⟨_, rfl⟩
              rw [hr] at hc Hst
              clear hr h4 h6 hky
              go_wp2_with fail
              refine hc.out.mono ?_
              rintro e w4 ⟨rfl, hb⟩
              have HB4 : Aside (Below w2.heap.size w2 w4) := HB2.out.trans (hb.mono HB2.out.size)
              clear hb hc HB2 e0 e1 e2 e3 e4 e5 e6 c5'
              by_cases hr : ¬ r = 0
              · have hr2 : (r != 0) = true := by simpa using hr
                go_wp2
                go_ret
                refine ⟨?_, (Hbw2.out).trans (HB4.out.mono Hbw2.out.size)⟩
                show Ending.returned (Value.int .i64 r) = _
                rw [← HI.out, Hst.out, if_neg (by simp), if_pos hr]
              · replace hr := Decidable.not_not.1 hr
                subst hr
                go_wp2
                go_roundg (dl - (j + 1))
                case measure => omega
                case rel => exact ⟨j + 1, by go_num, by omega, by omega, (show Aside _ from (by show _ = _; rw [← HI.out, Hst.out, if_neg (by simp), if_neg (fun h => h rfl)])), HB4⟩
          · have hdT : Hid (t = 0) := Lib.hid (by rw [← HI.out, List.drop_eq_nil_of_le (by have := Hdl.out; omega)]; rfl)
            clear HI
            go_wp2
            go_ret
            exact ⟨by show Ending.returned (Value.int .i64 0) = _; rw [hdT.out], (Hbw2.out).trans (HB.out.mono Hbw2.out.size)⟩
end Go.Proofs.YtljgjjbmgjfbcaaDoor
