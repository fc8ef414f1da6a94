/-
  The document's answer: are two values the same, field by field?
-/
import Derived.Test.YtejgcnmbngdkiaaGreatDoorNRPl
namespace Go.Proofs.YtejgcnmbngdkiaaGreatDoor
open Go.RowKit
set_option maxRecDepth 100000
attribute [local go_sem] Hv.arr

theorem equalL_len : ∀ {l l' : List Val}, equalL l l' = true → l.length = l'.length
  | [], [], _ => rfl
  | _ :: t, _ :: t', h => by rw [equalL, Bool.and_eq_true] at h; rw [List.length_cons, List.length_cons, equalL_len h.2]
  | [], _ :: _, h => by simp [equalL] at h
  | _ :: _, [], h => by simp [equalL] at h
theorem equalD_len : ∀ {l l' : Prs}, equalD l l' = true → l.length = l'.length
  | [], [], _ => rfl
  | (_, _) :: t, (_, _) :: t', h => by rw [equalD, Bool.and_eq_true] at h; rw [List.length_cons, List.length_cons, equalD_len h.2]
  | [], _ :: _, h => by simp [equalD] at h
  | _ :: _, [], h => by simp [equalD] at h

set_option maxHeartbeats 8000000 in
theorem requal_any (v : Val) : ∀ (v' : Val) (x x' : Hv) (w : World) (S : Nat → Prop), Rd w S x v → Rd w S x' v' → (∀ k, S k → k < w.heap.size) →
    Calls Tryz.prog 10 #[.agg x.arr, .agg x'.arr] w fun e w' => e = .returned (.bool (equalV v v')) ∧ Below w.heap.size w w' := by
  induction v using Val.ind with
  | h v ihl ihd =>
    intro v' x x' w S hR hR' hS
    obtain ⟨⟨hk, hn, hg, hs⟩, hL, hD⟩ := rd_iff.1 hR
    obtain ⟨⟨hk', hn', hg', hs'⟩, hL', hD'⟩ := rd_iff.1 hR'
    obtain ⟨k, n, g, s, ⟨lp, ll, lc⟩, ⟨dp, dl, dc⟩⟩ := x
    obtain ⟨k', n', g', s', ⟨lp', ll', lc'⟩, ⟨dp', dl', dc'⟩⟩ := x'
    clear hR hR'
    obtain ⟨r, hr⟩ : ∃ r, equalV v v' = r := ⟨_, rfl⟩
    have hval : (decide (k = k' ∧ n = n' ∧ g = g' ∧ s = s') && (equalL v.l v'.l && equalD v.d v'.d)) = r := by
      rw [← hr]
      cases v; cases v'
      dsimp only [Val.kind_mk, Val.n_mk, Val.g_mk, Val.s_mk, Val.l_mk, Val.d_mk] at *
      subst hk hn hg hs hk' hn' hg' hs'
      rw [equalV]
    rw [hr]
    have Hval := Lib.hid hval
    clear hval hr hk hn hg hs hk' hn' hg' hs'
    obtain ⟨hll, hlm⟩ := hL.len_le
    obtain ⟨hdl, hdm⟩ := hD.len_le
    obtain ⟨hll', hlm'⟩ := hL'.len_le
    obtain ⟨hdl', hdm'⟩ := hD'.len_le
    dsimp only at hll hlm hdl hdm hll' hlm' hdl' hdm'
    unfold maxLen at hlm hdm hlm' hdm'
    have Hll := Lib.hid hll
    have Hdl := Lib.hid hdl
    have Hll' := Lib.hid hll'
    have Hdl' := Lib.hid hdl'
    clear hll hdl hll' hdl'
    show Calls Tryz.prog 10 #[.agg #[.int .i64 k, .int .i64 n, .int .i64 g, .string s, .slice lp ll lc, .slice dp dl dc], .agg #[.int .i64 k', .int .i64 n', .int .i64 g', .string s', .slice lp' ll' lc', .slice dp' dl' dc']] w _
    by_cases hk : ¬ k = k'
    · obtain rfl : r = false := by rw [← Hval.out, decide_eq_false (fun h => hk h.1)]; rfl
      clear Hval
      go_enter Tryz.func10, Tryz.ntmps10
      go_wp2
      go_ret
      exact ⟨rfl, ((Below.refl _ w).alloc (Nat.le_refl _) _).alloc (by simp) _⟩
    replace hk := Decidable.not_not.1 hk
    subst hk
    by_cases hn : ¬ n = n'
    · obtain rfl : r = false := by rw [← Hval.out, decide_eq_false (fun h => hn h.2.1)]; rfl
      clear Hval
      go_enter Tryz.func10, Tryz.ntmps10
      go_wp2
      go_ret
      exact ⟨rfl, ((Below.refl _ w).alloc (Nat.le_refl _) _).alloc (by simp) _⟩
    replace hn := Decidable.not_not.1 hn
    subst hn
    by_cases hg : ¬ g = g'
    · obtain rfl : r = false := by rw [← Hval.out, decide_eq_false (fun h => hg h.2.2.1)]; rfl
      clear Hval
      go_enter Tryz.func10, Tryz.ntmps10
      go_wp2
      go_ret
      exact ⟨rfl, ((Below.refl _ w).alloc (Nat.le_refl _) _).alloc (by simp) _⟩
    replace hg := Decidable.not_not.1 hg
    subst hg
    by_cases hs : ¬ s = s'
    · obtain rfl : r = false := by rw [← Hval.out, decide_eq_false (fun h => hs h.2.2.2)]; rfl
      clear Hval
      have hs2 : ¬ s.toList = s'.toList := by intro e; apply hs; rw [ByteArray.toList_eq, ByteArray.toList_eq] at e; rcases s with ⟨⟨a⟩⟩; rcases s' with ⟨⟨b⟩⟩; simpa using e
      clear hs
      go_enter Tryz.func10, Tryz.ntmps10
      go_wp2
      go_ret
      exact ⟨rfl, ((Below.refl _ w).alloc (Nat.le_refl _) _).alloc (by simp) _⟩
    replace hs := Decidable.not_not.1 hs
    subst hs
    by_cases hl : ¬ ll = ll'
    · have hlf : equalL v.l v'.l = false := by
        cases h : equalL v.l v'.l
        · rfl
        · exact absurd (equalL_len h) (by rw [← Hll.out, ← Hll'.out]; exact hl)
      obtain rfl : r = false := by rw [← Hval.out, hlf, Bool.false_and, Bool.and_false]
      have hl2 : ¬ (ll : Int) = (ll' : Int) := by omega
      clear Hval hlf
      go_enter Tryz.func10, Tryz.ntmps10
      go_wp2
      go_ret
      exact ⟨rfl, ((Below.refl _ w).alloc (Nat.le_refl _) _).alloc (by simp) _⟩
    replace hl := Decidable.not_not.1 hl
    subst hl
    by_cases hd : ¬ dl = dl'
    · have hlf : equalD v.d v'.d = false := by
        cases h : equalD v.d v'.d
        · rfl
        · exact absurd (equalD_len h) (by rw [← Hdl.out, ← Hdl'.out]; exact hd)
      obtain rfl : r = false := by rw [← Hval.out, hlf, Bool.and_false, Bool.and_false]
      have hd2 : ¬ (dl : Int) = (dl' : Int) := by omega
      clear Hval hlf
      go_enter Tryz.func10, Tryz.ntmps10
      go_wp2
      go_ret
      exact ⟨rfl, ((Below.refl _ w).alloc (Nat.le_refl _) _).alloc (by simp) _⟩
    replace hd := Decidable.not_not.1 hd
    subst hd
    have hval2 : Hid ((equalL v.l v'.l && equalD v.d v'.d) = r) := Lib.hid (by have h := Hval.out; rw [decide_eq_true ⟨rfl, rfl, rfl, rfl⟩, Bool.true_and] at h; exact h)
    clear Hval
    obtain ⟨w1, hw1⟩ : ∃ w1, (w.alloc (.cells #[.int .i64 k, .int .i64 n, .int .i64 g, .string s, .slice lp ll lc, .slice dp dl dc] 25)).alloc (.cells #[.int .i64 k, .int .i64 n, .int .i64 g, .string s, .slice lp' ll lc', .slice dp' dl dc'] 25) = w1 := ⟨_, rfl⟩
    have hb1 : Below w.heap.size w w1 := by rw [← hw1]; exact ((Below.refl _ w).alloc (Nat.le_refl _) _).alloc (by simp) _
    have hlt : w.heap.size + 1 < w1.heap.size := by rw [← hw1]; simp
    have hc4 : w1.cell? ⟨w.heap.size, 4, none⟩ = some (.slice lp ll lc) := by rw [← hw1]; simp
    have hc5 : w1.cell? ⟨w.heap.size, 5, none⟩ = some (.slice dp dl dc) := by rw [← hw1]; simp
    have hd4 : w1.cell? ⟨w.heap.size + 1, 4, none⟩ = some (.slice lp' ll lc') := by rw [← hw1]; simp
    have hd5 : w1.cell? ⟨w.heap.size + 1, 5, none⟩ = some (.slice dp' dl dc') := by rw [← hw1]; simp
    have HL1 := Lib.hid (hL.later (below_old hS hb1))
    have HD1 := Lib.hid (hD.later (below_old hS hb1))
    have HL1' := Lib.hid (hL'.later (below_old hS hb1))
    have HD1' := Lib.hid (hD'.later (below_old hS hb1))
    have HS1 := Lib.hid (old_later hS hb1)
    have Hb1 := Lib.hid hb1
    have Hihl := Lib.hid ihl
    have Hihd := Lib.hid ihd
    have HB0 : Aside (Below w1.heap.size w1 w1) := Below.refl _ _
    have Hw1 := Lib.hid hw1
    clear hb1 hL hD hL' hD' hS ihl ihd hw1
    go_enter Tryz.func10, Tryz.ntmps10
    go_wp2
    rw [Hw1.out]
    clear Hw1
    go_loopg [5] ll (fun f s5 wr => ∃ i : Nat, s5 = .int .i64 i ∧ i ≤ ll ∧ ll ≤ f + i ∧ Aside (equalL (v.l.drop i) (v'.l.drop i) = equalL v.l v'.l) ∧ Aside (Below w1.heap.size w1 wr))
    case atStart => exact ⟨0, rfl, Nat.zero_le _, Nat.le_refl _, rfl, HB0⟩
    case round =>
      obtain ⟨i, rfl, hi, hf, HI, HB⟩ := hrel
      have c4 := (HB.out.cell (p := ⟨w.heap.size, 4, none⟩) (Nat.lt_trans (Nat.lt_succ_self _) hlt)).trans hc4
      have q4 := (HB.out.cell (p := ⟨w.heap.size + 1, 4, none⟩) hlt).trans hd4
      have c5 := (HB.out.cell (p := ⟨w.heap.size, 5, none⟩) (Nat.lt_trans (Nat.lt_succ_self _) hlt)).trans hc5
      have q5 := (HB.out.cell (p := ⟨w.heap.size + 1, 5, none⟩) hlt).trans hd5
      by_cases hil : i < ll
      · obtain ⟨lb, lo, ⟨yk, yn, yg, ys, ⟨ylp, yll, ylc⟩, ⟨ydp, ydl, ydc⟩⟩, hiv, h3, h4, h5, h6⟩ := (HL1.out.later (below_old HS1.out HB.out)).at hil
        subst h3
        obtain ⟨lb', lo', ⟨zk, zn, zg, zs, ⟨zlp, zll, zlc⟩, ⟨zdp, zdl, zdc⟩⟩, hiv', h3', h4', h5', h6'⟩ := (HL1'.out.later (below_old HS1.out HB.out)).at hil
        subst h3'
        obtain ⟨e0, e1, e2, e3, e4, e5⟩ := h5
        obtain ⟨f0, f1, f2, f3, f4, f5⟩ := h5'
        dsimp only at e0 e1 e2 e3 e4 e5 f0 f1 f2 f3 f4 f5
        have Hst : Hid (equalL (v.l.drop i) (v'.l.drop i) = (equalV v.l[i] v'.l[i] && equalL (v.l.drop (i + 1)) (v'.l.drop (i + 1)))) := Lib.hid (by rw [drop_cons hiv, drop_cons hiv', equalL])
        have hc : ∀ p : Far, Calls Tryz.prog 10 #[.agg #[.int .i64 yk, .int .i64 yn, .int .i64 yg, .string ys, .slice ylp yll ylc, .slice ydp ydl ydc], .agg #[.int .i64 zk, .int .i64 zn, .int .i64 zg, .string zs, .slice zlp zll zlc, .slice zdp zdl zdc]] (far wr p) fun e w' => e = .returned (.bool (equalV v.l[i] v'.l[i])) ∧ Below (far wr p).heap.size (far wr p) w' := fun p =>
          Hihl.out _ (List.getElem_mem hiv) (v'.l[i]) ⟨yk, yn, yg, ys, ⟨ylp, yll, ylc⟩, ⟨ydp, ydl, ydc⟩⟩ ⟨zk, zn, zg, zs, ⟨zlp, zll, zlc⟩, ⟨zdp, zdl, zdc⟩⟩ (far wr p) S (h6.later (below_old (old_later HS1.out HB.out) (far_below wr p))) (h6'.later (below_old (old_later HS1.out HB.out) (far_below wr p))) (old_later (old_later HS1.out HB.out) (far_below wr p))
        obtain ⟨r1, hr1⟩ : ∃ r1, equalV v.l[i] v'.l[i] = r1 := ⟨_, rfl⟩
        rw [hr1] at Hst
        simp only [hr1] at hc
        have HC := Lib.hid hc
        have hlb := h4
        have hltb : lb < wr.heap.size := Nat.lt_of_lt_of_le (HS1.out _ h4) HB.out.size
        have hltb' : lb' < wr.heap.size := Nat.lt_of_lt_of_le (HS1.out _ h4') HB.out.size
        have hltw : w.heap.size < wr.heap.size := Nat.lt_of_lt_of_le (by omega) HB.out.size
        have hltw1 : w.heap.size + 1 < wr.heap.size := Nat.lt_of_lt_of_le hlt HB.out.size
        clear hr1 h6 h6' hc hlb
        have hmx : Tryz.prog.follows .mixedOrders = true := by kernel_rfl
        go_wp2_with fail
        have g0 := far_cell e0 hltb
        have g1 := far_cell e1 hltb
        have g2 := far_cell e2 hltb
        have g3 := far_cell e3 hltb
        have g4 := far_cell e4 hltb
        have g5 := far_cell e5 hltb
        have m0 := far_cell f0 hltb'
        have m1 := far_cell f1 hltb'
        have m2 := far_cell f2 hltb'
        have m3 := far_cell f3 hltb'
        have m4 := far_cell f4 hltb'
        have m5 := far_cell f5 hltb'
        have p4 := far_cell c4 hltw
        have p4' := far_cell q4 hltw1
        clear e0 e1 e2 e3 e4 e5 f0 f1 f2 f3 f4 f5 c4 q4 c5 q5
        refine wp_region_far hmx (by kernel_rfl) ?_
        repeat (quiet_step (first | (go_at_call 10; exact Calls.far_of (HC.out _))))
        refine wpQuiet_nil ?_
        intro _ hw'
        obtain ⟨pq, hw''⟩ := hw'
        subst hw''
        have HB2 : Aside (Below w1.heap.size w1 (far wr pq)) := HB.out.trans ((far_below wr pq).mono HB.out.size)
        clear HB HC g0 g1 g2 g3 g4 g5 m0 m1 m2 m3 m4 m5 p4 p4'
        cases r1 with
        | false =>
          go_wp2
          go_ret
          exact ⟨by rw [← hval2.out, ← HI.out, Hst.out]; rfl, Hb1.out.trans (HB2.out.mono Hb1.out.size)⟩
        | true =>
          go_wp2
          go_roundg (ll - (i + 1))
          case measure => omega
          case rel => exact ⟨i + 1, by go_num, by omega, by omega, (show Aside _ from (by show _ = _; rw [← HI.out, Hst.out]; rfl)), HB2⟩
      · have hlT : Hid (equalL v.l v'.l = true) := Lib.hid (by rw [← HI.out, List.drop_eq_nil_of_le (by have := Hll.out; omega), List.drop_eq_nil_of_le (by have := Hll'.out; omega)]; rfl)
        have HB3 : Aside (Below w1.heap.size w1 wr) := HB
        clear HI
        go_wp2
        clear c4 q4
        go_loopg [6] dl (fun f s6 wr => ∃ i : Nat, s6 = .int .i64 i ∧ i ≤ dl ∧ dl ≤ f + i ∧ Aside (equalD (v.d.drop i) (v'.d.drop i) = equalD v.d v'.d) ∧ Aside (Below w1.heap.size w1 wr))
        case atStart => exact ⟨0, rfl, Nat.zero_le _, Nat.le_refl _, rfl, HB3⟩
        case round =>
          clear c5 q5 HB HB3
          obtain ⟨j, rfl, hj, hfj, HI, HB⟩ := hrel
          have c5 := (HB.out.cell (p := ⟨w.heap.size, 5, none⟩) (Nat.lt_trans (Nat.lt_succ_self _) hlt)).trans hc5
          have q5 := (HB.out.cell (p := ⟨w.heap.size + 1, 5, none⟩) hlt).trans hd5
          by_cases hjl : j < dl
          · obtain ⟨lb, lo, ⟨yy, ⟨yk, yn, yg, ys, ⟨ylp, yll, ylc⟩, ⟨ydp, ydl, ydc⟩⟩⟩, hiv, h3, h4, ⟨e0, h5⟩, hky, h6⟩ := (HD1.out.later (below_old HS1.out HB.out)).at hjl
            subst h3
            obtain ⟨lb', lo', ⟨zz, ⟨zk, zn, zg, zs, ⟨zlp, zll, zlc⟩, ⟨zdp, zdl, zdc⟩⟩⟩, hiv', h3', h4', ⟨f0, h5'⟩, hkz, h6'⟩ := (HD1'.out.later (below_old HS1.out HB.out)).at hjl
            subst h3'
            obtain ⟨e1, e2, e3, e4, e5, e6⟩ := h5
            obtain ⟨f1, f2, f3, f4, f5, f6⟩ := h5'
            dsimp only at e0 e1 e2 e3 e4 e5 e6 f0 f1 f2 f3 f4 f5 f6 h6 h6' hky hkz
            have Hst : Hid (equalD (v.d.drop j) (v'.d.drop j) = ((decide (yy = zz) && equalV (v.d[j]).2 (v'.d[j]).2) && equalD (v.d.drop (j + 1)) (v'.d.drop (j + 1)))) := Lib.hid (by rw [drop_cons hiv, drop_cons hiv', hky, hkz]; rfl)
            have hc : ∀ p : Far, Calls Tryz.prog 10 #[.agg #[.int .i64 yk, .int .i64 yn, .int .i64 yg, .string ys, .slice ylp yll ylc, .slice ydp ydl ydc], .agg #[.int .i64 zk, .int .i64 zn, .int .i64 zg, .string zs, .slice zlp zll zlc, .slice zdp zdl zdc]] (far wr p) fun e w' => e = .returned (.bool (equalV (v.d[j]).2 (v'.d[j]).2)) ∧ Below (far wr p).heap.size (far wr p) w' := fun p =>
              Hihd.out _ (List.getElem_mem hiv) ((v'.d[j]).2) ⟨yk, yn, yg, ys, ⟨ylp, yll, ylc⟩, ⟨ydp, ydl, ydc⟩⟩ ⟨zk, zn, zg, zs, ⟨zlp, zll, zlc⟩, ⟨zdp, zdl, zdc⟩⟩ (far wr p) S (h6.later (below_old (old_later HS1.out HB.out) (far_below wr p))) (h6'.later (below_old (old_later HS1.out HB.out) (far_below wr p))) (old_later (old_later HS1.out HB.out) (far_below wr p))
            obtain ⟨r1, hr1⟩ : ∃ r1, equalV (v.d[j]).2 (v'.d[j]).2 = r1 := ⟨_, rfl⟩
            rw [hr1] at Hst
            simp only [hr1] at hc
            have HC := Lib.hid hc
            have hltb : lb < wr.heap.size := Nat.lt_of_lt_of_le (HS1.out _ h4) HB.out.size
            have hltb' : lb' < wr.heap.size := Nat.lt_of_lt_of_le (HS1.out _ h4') HB.out.size
            have hltw : w.heap.size < wr.heap.size := Nat.lt_of_lt_of_le (by omega) HB.out.size
            have hltw1 : w.heap.size + 1 < wr.heap.size := Nat.lt_of_lt_of_le hlt HB.out.size
            clear hr1 h6 h6' hc hky hkz
            have hmx : Tryz.prog.follows .mixedOrders = true := by kernel_rfl
            go_wp2_with fail
            by_cases hyz : yy = zz
            · subst hyz
              rw [decide_eq_true rfl, Bool.true_and] at Hst
              have g0 := far_cell e0 hltb
              have g1 := far_cell e1 hltb
              have g2 := far_cell e2 hltb
              have g3 := far_cell e3 hltb
              have g4 := far_cell e4 hltb
              have g5 := far_cell e5 hltb
              have g6 := far_cell e6 hltb
              have m0 := far_cell f0 hltb'
              have m1 := far_cell f1 hltb'
              have m2 := far_cell f2 hltb'
              have m3 := far_cell f3 hltb'
              have m4 := far_cell f4 hltb'
              have m5 := far_cell f5 hltb'
              have m6 := far_cell f6 hltb'
              have p5 := far_cell c5 hltw
              have p5' := far_cell q5 hltw1
              clear e0 e1 e2 e3 e4 e5 e6 f0 f1 f2 f3 f4 f5 f6 c5 q5
              refine wp_region_far hmx (by kernel_rfl) ?_
              repeat (quiet_step (first | (go_at_call 10; exact Calls.far_of (HC.out _))))
              refine wpQuiet_nil ?_
              intro _ hw'
              obtain ⟨pq, hw''⟩ := hw'
              subst hw''
              have HB2 : Aside (Below w1.heap.size w1 (far wr pq)) := HB.out.trans ((far_below wr pq).mono HB.out.size)
              clear HB HC g0 g1 g2 g3 g4 g5 g6 m0 m1 m2 m3 m4 m5 m6 p5 p5'
              cases r1 with
              | false =>
                go_wp2
                go_ret
                exact ⟨by rw [← hval2.out, ← HI.out, Hst.out, hlT.out]; rfl, Hb1.out.trans (HB2.out.mono Hb1.out.size)⟩
              | true =>
                go_wp2
                go_roundg (dl - (j + 1))
                case measure => omega
                case rel => exact ⟨j + 1, by go_num, by omega, by omega, (show Aside _ from (by show _ = _; rw [← HI.out, Hst.out]; rfl)), HB2⟩
            · have hyz1 : ¬ yy.toList = zz.toList := by intro e; apply hyz; rw [ByteArray.toList_eq, ByteArray.toList_eq] at e; rcases yy with ⟨⟨a⟩⟩; rcases zz with ⟨⟨b⟩⟩; simpa using e
              have hyz2 : (yy.toList == zz.toList) = false := by simpa using hyz1
              have hyz3 : decide (yy.toList = zz.toList) = false := decide_eq_false hyz1
              have hyz4 : (yy.toList != zz.toList) = true := by rw [bne, hyz2]; rfl
              rw [decide_eq_false hyz, Bool.false_and, Bool.false_and] at Hst
              clear hyz HC
              go_quiet (fail)
              go_wp2
              go_ret
              exact ⟨by rw [← hval2.out, ← HI.out, Hst.out, hlT.out]; rfl, Hb1.out.trans (below_drewN (HB.out.mono Hb1.out.size) nq)⟩
          · have hdT : Hid (equalD v.d v'.d = true) := Lib.hid (by rw [← HI.out, List.drop_eq_nil_of_le (by have := Hdl.out; omega), List.drop_eq_nil_of_le (by have := Hdl'.out; omega)]; rfl)
            clear HI
            go_wp2
            go_ret
            exact ⟨by rw [← hval2.out, hlT.out, hdT.out]; rfl, Hb1.out.trans (HB.out.mono Hb1.out.size)⟩
end Go.Proofs.YtejgcnmbngdkiaaGreatDoor
