/-
  The document's text of a plain value.
-/
import Derived.Test.YtljgjjbmgjfbcaaDoorMRef
import Derived.Test.YtljgjjbmgjfbcaaDoorMZero
import Derived.Test.YtljgjjbmgjfbcaaDoorMPlain
import Derived.Test.YtljgjjbmgjfbcaaDoorDRef
namespace Go.Proofs.YtljgjjbmgjfbcaaDoor
open Go.RowKit
set_option maxRecDepth 100000

def RTextC (v : Val) : Prop := ∀ (x : Hv) (w : World) (S : Nat → Prop), Rd w S x v → (∀ k, S k → k < w.heap.size) → OkV v → Fit v 4000 →
  Calls Tryd.prog 24 #[.agg x.arr] w fun e w' => e = .returned (.string (bytes (textV v))) ∧ Below w.heap.size w w'

set_option maxHeartbeats 8000000 in
theorem rval_any (v : Val) : RTextC v := by
  induction v using Val.ind with
  | h v ihl ihd =>
    intro x w S hR hS hok hfit
    obtain ⟨⟨hxk, hxn, hxg, hxs⟩, hRL, hRD⟩ := rd_iff.1 hR
    obtain ⟨hll, hlm⟩ := hRL.len_le
    obtain ⟨hdl, hdm⟩ := hRD.len_le
    have hkind := hok.kind
    have hT := textV_eq v
    have hsz := hfit.s
    have htl := textV_length v hok hfit
    have hsv := hfit.1
    obtain ⟨xk, xn, xg, xs, ⟨lp, ll, lc⟩, ⟨dp, dl, dc⟩⟩ := x
    dsimp only at hxk hxn hxg hxs hll hdl hlm hdm hRL hRD
    obtain ⟨w1, hw1⟩ : ∃ w1, w.alloc (.cells #[.int .i64 xk, .int .i64 xn, .int .i64 xg, .string xs, .slice lp ll lc, .slice dp dl dc] 25) = w1 := ⟨_, rfl⟩
    have hb1 : Below w.heap.size w w1 := by rw [← hw1]; exact (Below.refl _ w).alloc (Nat.le_refl _) _
    have hz1 : w.heap.size < w1.heap.size := by rw [← hw1]; simp
    have hv1 : VCell w1 w.heap.size ⟨xk, xn, xg, xs, ⟨lp, ll, lc⟩, ⟨dp, dl, dc⟩⟩ := by rw [← hw1]; exact heap_alloc_new w _
    obtain ⟨c0, c1, c2, c3, c4, c5⟩ := hv1.at
    dsimp only at c0 c1 c2 c3 c4 c5
    simp only [Nat.zero_add] at c0 c1 c2 c3 c4 c5
    have hlm2 : ll ≤ 4000 := by have h1 := sizeL_length v.l; rw [sizeV_eq] at hsv; omega
    have hdm2 : dl ≤ 4000 := by have h1 := sizeD_length v.d; rw [sizeV_eq] at hsv; omega
    have Htl : Hid ((textV v).length ≤ 80000000) := Lib.hid (by omega)
    have Hb1 := Lib.hid hb1
    have Hw1 := Lib.hid hw1
    have Hok := Lib.hid hok
    have Hfit := Lib.hid hfit
    have HRL := Lib.hid (hRL.later (below_old hS hb1))
    have HRD := Lib.hid (hRD.later (below_old hS hb1))
    have HS := Lib.hid (old_later hS hb1)
    have Hihl := Lib.hid ihl
    have Hihd := Lib.hid ihd
    have Hll := Lib.hid hll
    have Hdl := Lib.hid hdl
    show Calls Tryd.prog 24 #[.agg #[.int .i64 xk, .int .i64 xn, .int .i64 xg, .string xs, .slice lp ll lc, .slice dp dl dc]] w _
    rw [← hxk] at hkind hT
    rw [← hxn, ← hxg, ← hxs] at hT
    rw [← hxs] at hsz
    have Hxk := Lib.hid hxk
    have Hxn := Lib.hid hxn
    have Hxg := Lib.hid hxg
    have hcs : xk = 0 ∨ xk = 1 ∨ xk = 2 ∨ xk = 3 ∨ xk = 4 ∨ xk = 5 ∨ xk = 6 ∨ xk = 7 := by omega
    clear hw1 hv1 hb1 hR hS hok hfit hRL hRD hxk hxn hxg hxs ihl ihd hkind htl hsv hlm hdm hll hdl
    rcases hcs with rfl | rfl | rfl | rfl | rfl | rfl | rfl | rfl
    · rw [if_pos rfl] at hT
      rw [hT]
      clear hT
      go_enter Tryd.func24, Tryd.ntmps24
      iterate 16 go_step
      rw [Hw1.out]
      go_wp2
      go_ret
      exact ⟨rfl, Hb1.out⟩
    · rw [if_neg (by decide), if_pos rfl] at hT
      have hbl := Hok.out.bool Hxk.out.symm
      rw [← Hxn.out] at hbl
      rw [hT]
      clear hT
      rcases hbl with rfl | rfl
      · go_enter Tryd.func24, Tryd.ntmps24
        iterate 16 go_step
        rw [Hw1.out]
        go_wp2
        go_ret
        exact ⟨rfl, Hb1.out⟩
      · go_enter Tryd.func24, Tryd.ntmps24
        iterate 16 go_step
        rw [Hw1.out]
        go_wp2
        go_ret
        exact ⟨rfl, Hb1.out⟩
    · rw [if_neg (by decide), if_neg (by decide), if_pos rfl] at hT
      have hi := Hok.out.int Hxk.out.symm
      have Hc := Lib.hid (fun W => rPut_any xn W (by rw [Hxn.out]; omega) (by rw [Hxn.out]; omega))
      rw [hT]
      clear hT hi
      go_enter Tryd.func24, Tryd.ntmps24
      iterate 16 go_step
      rw [Hw1.out]
      go_wp2_with (go_at_call 43; refine (Hc.out _).mono ?_; rintro e w4 ⟨rfl, rfl⟩)
      go_ret
      exact ⟨rfl, Hb1.out⟩
    · rw [if_neg (by decide), if_neg (by decide), if_neg (by decide), if_pos rfl] at hT
      have Hc := Lib.hid (rname_is xs w1 (by omega))
      rw [hT]
      clear hT
      go_enter Tryd.func24, Tryd.ntmps24
      iterate 16 go_step
      rw [Hw1.out]
      go_wp2_with (go_at_call 11; refine Hc.out.mono ?_; rintro e w4 ⟨rfl, hb⟩; have Hb4 := Lib.hid (Hb1.out.trans (hb.mono Hb1.out.size)); clear hb)
      go_ret
      exact ⟨rfl, Hb4.out⟩
    · rw [if_neg (by decide), if_neg (by decide), if_neg (by decide), if_neg (by decide), if_pos rfl] at hT
      have Hc := Lib.hid (rbytes_is xs w1 (by omega))
      rw [hT]
      clear hT
      go_enter Tryd.func24, Tryd.ntmps24
      iterate 16 go_step
      rw [Hw1.out]
      go_wp2_with (go_at_call 13; refine Hc.out.mono ?_; rintro e w4 ⟨rfl, hb⟩; have Hb4 := Lib.hid (Hb1.out.trans (hb.mono Hb1.out.size)); clear hb)
      go_ret
      exact ⟨rfl, Hb4.out⟩
    · have hd0 : v.d = [] := Hok.out.noPairs (by rw [← Hxk.out]; decide)
      rw [if_neg (by decide), if_neg (by decide), if_neg (by decide), if_neg (by decide), if_neg (by decide), if_neg (by decide), hd0, prsW] at hT
      have Hr : Hid (textV v = 91 :: (elemsW 0 v.l ++ [93])) := Lib.hid (by rw [hT]; rfl)
      have hel : (elemsW 0 v.l).length ≤ 80000000 := by have := Htl.out; rw [Hr.out, List.length_cons, List.length_append] at this; omega
      have Hel := Lib.hid hel
      have HB0 : Aside (Below w1.heap.size w1 w1) := Below.refl _ _
      clear hT hel hd0
      go_enter Tryd.func24, Tryd.ntmps24
      iterate 16 go_step
      rw [Hw1.out]
      go_wp2_with fail
      go_loopg [3, 4] ll (fun f s3 s4 wr => ∃ (i : Nat) (t : ByteArray), s3 = .string t ∧ s4 = .int .i64 i ∧ i ≤ ll ∧ ll ≤ f + i ∧ Aside (t.data.toList ++ elemsW i (v.l.drop i) = elemsW 0 v.l) ∧ Aside (Below w1.heap.size w1 wr))
      case atStart => exact ⟨0, ⟨#[]⟩, rfl, rfl, Nat.zero_le _, Nat.le_refl _, rfl, HB0⟩
      case round =>
        obtain ⟨i, t, rfl, rfl, hi, hf, HI, HB⟩ := hrel
        have c4' : wr.cell? ⟨w.heap.size, 4, none⟩ = some (.slice lp ll lc) := (HB.out.cell (p := ⟨w.heap.size, 4, none⟩) hz1).trans c4
        have htz : t.size ≤ 80000000 := by
          have h1 := congrArg List.length HI.out
          rw [List.length_append, ← size_data] at h1
          have := Hel.out; omega
        by_cases hil : i < ll
        · obtain ⟨lb, lo, ⟨yk, yn, yg, ys, ⟨ylp, yll, ylc⟩, ⟨ydp, ydl, ydc⟩⟩, hiv, h3, h4, h5, h6⟩ := (HRL.out.later (below_old HS.out HB.out)).at hil
          subst h3
          obtain ⟨e0, e1, e2, e3, e4, e5⟩ := h5
          dsimp only at e0 e1 e2 e3 e4 e5
          have hst : elemsW i (v.l.drop i) = gapW i ++ (textV v.l[i] ++ elemsW (i + 1) (v.l.drop (i + 1))) := by rw [drop_cons hiv, elemsW]
          have hq := Hihl.out _ (List.getElem_mem hiv) ⟨yk, yn, yg, ys, ⟨ylp, yll, ylc⟩, ⟨ydp, ydl, ydc⟩⟩ wr S h6 (old_later HS.out HB.out) (Hok.out.l (List.getElem_mem hiv)) (Hfit.out.l (List.getElem_mem hiv))
          obtain ⟨g, hg⟩ : ∃ g, bytes (textV v.l[i]) = g := ⟨_, rfl⟩
          have hgd : textV v.l[i] = g.data.toList := by rw [← hg, bytes_data]
          rw [hg] at hq
          rw [hgd] at hst
          have hgz : g.size ≤ 80000000 := by
            have h1 := congrArg List.length HI.out
            rw [hst, List.length_append, List.length_append, List.length_append, ← size_data, ← size_data] at h1
            have := Hel.out; omega
          dsimp only [Hv.arr] at hq
          have Hq := Lib.hid hq
          have Hst := Lib.hid hst
          clear hq hst hg hgd h6 h4
          by_cases hi0 : i = 0
          · have hi1 : ¬ (0 : Int) < (i : Int) := by omega
            have Hgap : Hid (gapW i = []) := Lib.hid (by unfold gapW; rw [if_pos hi0])
            clear hi0
            go_wp2_with (go_at_call 24; refine Hq.out.mono ?_; rintro e w4 ⟨rfl, hb⟩; have HB4 : Aside (Below w1.heap.size w1 w4) := HB.out.trans (hb.mono HB.out.size); clear hb)
            go_roundg (ll - (i + 1))
            case measure => omega
            case rel => exact ⟨i + 1, _, rfl, by go_num, by omega, by omega, (show Aside _ from (by show _ = _; rw [← HI.out, Hst.out, app_data, Hgap.out]; simp)), HB4⟩
          · have hi1 : (0 : Int) < (i : Int) := by omega
            have Hgap : Hid (gapW i = [32]) := Lib.hid (by unfold gapW; rw [if_neg hi0])
            clear hi0
            go_wp2_with (go_at_call 24; refine Hq.out.mono ?_; rintro e w4 ⟨rfl, hb⟩; have HB4 : Aside (Below w1.heap.size w1 w4) := HB.out.trans (hb.mono HB.out.size); clear hb)
            go_roundg (ll - (i + 1))
            case measure => omega
            case rel => exact ⟨i + 1, _, rfl, by go_num, by omega, by omega, (show Aside _ from (by show _ = _; rw [← HI.out, Hst.out, app_data, app_data, Hgap.out]; simp)), HB4⟩
        · have Hend : Hid (t.data.toList = elemsW 0 v.l) := Lib.hid (by rw [← HI.out, List.drop_eq_nil_of_le (by have := Hll.out; omega), elemsW, List.append_nil])
          go_wp2_with fail
          go_ret
          exact ⟨ret_str (by rw [Hr.out, app_data, app_data, Hend.out]; simp), Hb1.out.trans (HB.out.mono Hb1.out.size)⟩
    · have hl0 : v.l = [] := Hok.out.noElems (by rw [← Hxk.out]; decide)
      rw [if_neg (by decide), if_neg (by decide), if_neg (by decide), if_neg (by decide), if_neg (by decide), if_neg (by decide), hl0, elemsW] at hT
      have Hr : Hid (textV v = 60 :: 60 :: (prsW 0 v.d ++ [62, 62])) := Lib.hid (by rw [hT]; rfl)
      have hel : (prsW 0 v.d).length ≤ 80000000 := by have := Htl.out; rw [Hr.out, List.length_cons, List.length_cons, List.length_append] at this; omega
      have Hel := Lib.hid hel
      have HB0 : Aside (Below w1.heap.size w1 w1) := Below.refl _ _
      have hmx : Tryd.prog.follows .mixedOrders = true := by kernel_rfl
      clear hT hel hl0
      go_enter Tryd.func24, Tryd.ntmps24
      iterate 16 go_step
      rw [Hw1.out]
      go_wp2_with fail
      go_loopg [5, 6] dl (fun f s5 s6 wr => ∃ (i : Nat) (t : ByteArray), s5 = .string t ∧ s6 = .int .i64 i ∧ i ≤ dl ∧ dl ≤ f + i ∧ Aside (t.data.toList ++ prsW i (v.d.drop i) = prsW 0 v.d) ∧ Aside (Below w1.heap.size w1 wr))
      case atStart => exact ⟨0, ⟨#[]⟩, rfl, rfl, Nat.zero_le _, Nat.le_refl _, rfl, HB0⟩
      case round =>
        obtain ⟨i, t, rfl, rfl, hi, hf, HI, HB⟩ := hrel
        have c5' : wr.cell? ⟨w.heap.size, 5, none⟩ = some (.slice dp dl dc) := (HB.out.cell (p := ⟨w.heap.size, 5, none⟩) hz1).trans c5
        have htz : t.size ≤ 80000000 := by
          have h1 := congrArg List.length HI.out
          rw [List.length_append, ← size_data] at h1
          have := Hel.out; omega
        by_cases hil : i < dl
        · obtain ⟨lb, lo, ⟨kk, ⟨yk, yn, yg, ys, ⟨ylp, yll, ylc⟩, ⟨ydp, ydl, ydc⟩⟩⟩, hiv, h3, h4, ⟨e0, h5⟩, hky, h6⟩ := (HRD.out.later (below_old HS.out HB.out)).at hil
          subst h3
          obtain ⟨e1, e2, e3, e4, e5, e6⟩ := h5
          dsimp only at e0 e1 e2 e3 e4 e5 e6 h6 hky
          have hkz : kk.size ≤ 3000 := by rw [hky]; exact (Hfit.out.d (List.getElem_mem hiv)).2
          have hst : prsW i (v.d.drop i) = gapW i ++ (nameW kk.data.toList ++ (32 :: (textV (v.d[i]).2 ++ prsW (i + 1) (v.d.drop (i + 1))))) := by
            rw [drop_cons hiv, hky]
            generalize v.d[i] = pq
            obtain ⟨a, b'⟩ := pq
            rw [prsW]
          have hq : ∀ q : Far, _ := fun q => Hihd.out _ (List.getElem_mem hiv) ⟨yk, yn, yg, ys, ⟨ylp, yll, ylc⟩, ⟨ydp, ydl, ydc⟩⟩ (far wr q) S (h6.later (below_old (old_later HS.out HB.out) (far_below wr q))) (old_later (old_later HS.out HB.out) (far_below wr q)) (Hok.out.d (List.getElem_mem hiv)) (Hfit.out.d (List.getElem_mem hiv)).1
          have hn := fun q : Far => rname_is kk (far wr q) (by omega)
          obtain ⟨g, hg⟩ : ∃ g, bytes (textV (v.d[i]).2) = g := ⟨_, rfl⟩
          obtain ⟨nm, hnm⟩ : ∃ nm, bytes (nameW kk.data.toList) = nm := ⟨_, rfl⟩
          have hgd : textV (v.d[i]).2 = g.data.toList := by rw [← hg, bytes_data]
          have hnd : nameW kk.data.toList = nm.data.toList := by rw [← hnm, bytes_data]
          simp only [hg] at hq
          simp only [hnm] at hn
          rw [hgd, hnd] at hst
          have hln : t.size + nm.size + 1 + g.size ≤ 80000000 := by
            have h1 := congrArg List.length HI.out
            rw [hst, List.length_append, List.length_append, List.length_append, List.length_cons, List.length_append, ← size_data, ← size_data, ← size_data] at h1
            have := Hel.out; omega
          dsimp only [Hv.arr] at hq
          have Hq := Lib.hid hq
          have Hn := Lib.hid hn
          have Hst := Lib.hid hst
          have hltb : lb < wr.heap.size := Nat.lt_of_lt_of_le (HS.out _ h4) HB.out.size
          have hltw : w.heap.size < wr.heap.size := Nat.lt_of_lt_of_le hz1 HB.out.size
          clear hq hn hst hg hgd hnm hnd h6 h4 hky
          have g0 := far_cell e0 hltb
          have g1 := far_cell e1 hltb
          have g2 := far_cell e2 hltb
          have g3 := far_cell e3 hltb
          have g4 := far_cell e4 hltb
          have g5 := far_cell e5 hltb
          have g6 := far_cell e6 hltb
          have p5 := far_cell c5' hltw
          by_cases hi0 : i = 0
          · have hi1 : ¬ (0 : Int) < (i : Int) := by omega
            have Hgap : Hid (gapW i = []) := Lib.hid (by unfold gapW; rw [if_pos hi0])
            clear hi0
            have q1 : ¬ 9223372036854775807 < t.size + nm.size := by omega
            have q2 : ¬ 9223372036854775807 < t.size + nm.size + 1 := by omega
            have q3 : ¬ 9223372036854775807 < t.size + nm.size + 1 + g.size := by omega
            go_wp2_with fail
            refine wp_region_far hmx (by kernel_rfl) ?_
            repeat (quiet_step (first
              | (go_at_call 11; exact Calls.far_of (Hn.out _))
              | (go_at_call 24; exact Calls.far_of (Hq.out _))))
            refine wpQuiet_nil ?_
            intro _ hw'
            obtain ⟨pq, hw''⟩ := hw'
            subst hw''
            have HB2 : Aside (Below w1.heap.size w1 (far wr pq)) := HB.out.trans ((far_below wr pq).mono HB.out.size)
            clear g0 g1 g2 g3 g4 g5 g6 p5 q1 q2 q3
            go_wp2
            go_roundg (dl - (i + 1))
            case measure => omega
            case rel => exact ⟨i + 1, _, rfl, by go_num, by omega, by omega, (show Aside _ from (by show _ = _; rw [← HI.out, Hst.out, app_data, app_data, app_data, Hgap.out]; simp)), HB2⟩
          · have hi1 : (0 : Int) < (i : Int) := by omega
            have Hgap : Hid (gapW i = [32]) := Lib.hid (by unfold gapW; rw [if_neg hi0])
            have q1 : ¬ 9223372036854775807 < t.size + 1 + nm.size := by omega
            have q2 : ¬ 9223372036854775807 < t.size + 1 + nm.size + 1 := by omega
            have q3 : ¬ 9223372036854775807 < t.size + 1 + nm.size + 1 + g.size := by omega
            clear hi0
            go_wp2_with fail
            refine wp_region_far hmx (by kernel_rfl) ?_
            repeat (quiet_step (first
              | (go_at_call 11; exact Calls.far_of (Hn.out _))
              | (go_at_call 24; exact Calls.far_of (Hq.out _))))
            refine wpQuiet_nil ?_
            intro _ hw'
            obtain ⟨pq, hw''⟩ := hw'
            subst hw''
            have HB2 : Aside (Below w1.heap.size w1 (far wr pq)) := HB.out.trans ((far_below wr pq).mono HB.out.size)
            clear g0 g1 g2 g3 g4 g5 g6 p5 q1 q2 q3
            go_wp2
            go_roundg (dl - (i + 1))
            case measure => omega
            case rel => exact ⟨i + 1, _, rfl, by go_num, by omega, by omega, (show Aside _ from (by show _ = _; rw [← HI.out, Hst.out, app_data, app_data, app_data, app_data, Hgap.out]; simp)), HB2⟩
        · have Hend : Hid (t.data.toList = prsW 0 v.d) := Lib.hid (by rw [← HI.out, List.drop_eq_nil_of_le (by have := Hdl.out; omega), prsW, List.append_nil])
          go_wp2_with fail
          go_ret
          exact ⟨ret_str (by rw [Hr.out, app_data, app_data, Hend.out]; simp), Hb1.out.trans (HB.out.mono Hb1.out.size)⟩
    · rw [if_neg (by decide), if_neg (by decide), if_neg (by decide), if_neg (by decide), if_neg (by decide), if_pos rfl] at hT
      have hi := Hok.out.link Hxk.out.symm
      have hc : ∀ q : Far, Calls Tryd.prog 43 #[.int .i64 xn] (far w1 q) fun e w' => e = .returned (.string (bytes (putL xn))) ∧ Below (far w1 q).heap.size (far w1 q) w' := fun q => (rPut_any xn (far w1 q) (by rw [Hxn.out]; omega) (by rw [Hxn.out]; omega)).mono fun e w' h => ⟨h.1, by rw [← h.2]; exact Below.refl _ _⟩
      have hd : ∀ q : Far, Calls Tryd.prog 43 #[.int .i64 xg] (far w1 q) fun e w' => e = .returned (.string (bytes (putL xg))) ∧ Below (far w1 q).heap.size (far w1 q) w' := fun q => (rPut_any xg (far w1 q) (by rw [Hxg.out]; omega) (by rw [Hxg.out]; omega)).mono fun e w' h => ⟨h.1, by rw [← h.2]; exact Below.refl _ _⟩
      have hz2 := putL_length xn (by rw [Hxn.out]; omega) (by rw [Hxn.out]; omega)
      have hz3 := putL_length xg (by rw [Hxg.out]; omega) (by rw [Hxg.out]; omega)
      obtain ⟨gn, hgn⟩ : ∃ g, bytes (putL xn) = g := ⟨_, rfl⟩
      obtain ⟨gg, hgg⟩ : ∃ g, bytes (putL xg) = g := ⟨_, rfl⟩
      simp only [hgn] at hc
      simp only [hgg] at hd
      have hnz : gn.size ≤ 20 := by rw [← hgn, bytes_size]; exact hz2
      have hgz : gg.size ≤ 20 := by rw [← hgg, bytes_size]; exact hz3
      have Hr : Hid (textV v = gn.data.toList ++ 32 :: (gg.data.toList ++ [32, 82])) := Lib.hid (by rw [hT, ← hgn, ← hgg, bytes_data, bytes_data]; rfl)
      have Hc := Lib.hid hc
      have Hd := Lib.hid hd
      clear hT hi hgn hgg hz2 hz3 hc hd
      go_enter Tryd.func24, Tryd.ntmps24
      iterate 16 go_step
      rw [Hw1.out]
      go_wp2_with fail
      have hmx : Tryd.prog.follows .mixedOrders = true := by kernel_rfl
      have g1 := far_cell c1 hz1
      have g2 := far_cell c2 hz1
      have q1 : ¬ 9223372036854775807 < gn.size + 1 := by omega
      have q2 : ¬ 9223372036854775807 < gn.size + 1 + gg.size := by omega
      have q3 : ¬ 9223372036854775807 < gn.size + 1 + gg.size + 2 := by omega
      clear c0 c1 c2 c3 c4 c5
      refine wp_region_far hmx (by kernel_rfl) ?_
      repeat (quiet_step (first
        | (go_at_call_of 43 (xn : Int); exact Calls.far_of (Hc.out _))
        | (go_at_call_of 43 (xg : Int); exact Calls.far_of (Hd.out _))))
      refine wpQuiet_nil ?_
      intro _ hw'
      obtain ⟨pq, hw''⟩ := hw'
      subst hw''
      go_wp2
      go_ret
      exact ⟨ret_str (by rw [Hr.out]; simp), Hb1.out.trans ((far_below w1 pq).mono Hb1.out.size)⟩
end Go.Proofs.YtljgjjbmgjfbcaaDoor
