/-
  VPEq, VPSame: texts merged.
-/
import Derived.Test.YtljgjjbmgjfbcaaDoorMZero
import Derived.Test.YtljgjjbmgjfbcaaDoorMRow
import Derived.Test.YtljgjjbmgjfbcaaDoorVREqual
import Derived.Test.YtljgjjbmgjfbcaaDoorVPPlain
/-
  The program's: are values that are plain alike?
-/
namespace Go.Proofs.YtljgjjbmgjfbcaaDoor
section
open Go.RowKit
set_option maxRecDepth 100000
attribute [local go_sem] symV_true

def PEqC (v : Val) : Prop := ∀ (v' : Val) (x x' : Hv) (w : World) (S : Nat → Prop), Rd w S x v → Rd w S x' v' → (∀ k, S k → k < w.heap.size) →
  Calls Tryd.prog 38 #[.agg x.arr, .agg x'.arr] w fun e w' => e = .returned (.bool (equalV v v')) ∧ Below w.heap.size w w'
theorem vtext_eq (a b : ByteArray) : (a.toList == b.toList) = decide (a = b) := by
  rw [Bool.eq_iff_iff, beq_iff_eq, decide_eq_true_eq, ByteArray.toList_eq, ByteArray.toList_eq]
  constructor
  · intro e; rcases a with ⟨⟨a⟩⟩; rcases b with ⟨⟨b⟩⟩; simpa using e
  · intro e; rw [e]
theorem two_below (w : World) (o o' : Obj) : Below w.heap.size w ((w.alloc o).alloc o') := ((Below.refl _ w).alloc (Nat.le_refl _) _).alloc (by simp) _

set_option maxHeartbeats 4000000 in
theorem eqPair_any (u u' : Val) (ih : PEqC u) (x x' : Hp) (w : World) (S : Nat → Prop) (hR : Rd w S x.v u) (hR' : Rd w S x'.v u') (hS : ∀ k, S k → k < w.heap.size) :
    Calls Tryd.prog 64 #[.agg x.arr, .agg x'.arr] w fun e w' => e = .returned (.bool (decide (x.key = x'.key) && equalV u u')) ∧ Below w.heap.size w w' := by
  obtain ⟨yy, ⟨yk, yn, yg, ys, ⟨ylp, yll, ylc⟩, ⟨ydp, ydl, ydc⟩⟩⟩ := x
  obtain ⟨zz, ⟨zk, zn, zg, zs, ⟨zlp, zll, zlc⟩, ⟨zdp, zdl, zdc⟩⟩⟩ := x'
  dsimp only at hR hR' ⊢
  obtain ⟨r0, hr0⟩ : ∃ r, equalV u u' = r := ⟨_, rfl⟩
  have Hc := Lib.hid (fun o o' => ih u' ⟨yk, yn, yg, ys, ⟨ylp, yll, ylc⟩, ⟨ydp, ydl, ydc⟩⟩ ⟨zk, zn, zg, zs, ⟨zlp, zll, zlc⟩, ⟨zdp, zdl, zdc⟩⟩ ((w.alloc o).alloc o') S (hR.later (below_old hS (two_below w o o'))) (hR'.later (below_old hS (two_below w o o'))) (old_later hS (two_below w o o')))
  rw [hr0] at Hc ⊢
  rw [← vtext_eq]
  have HB := Lib.hid (two_below w)
  clear ih hR hR' hS hr0
  show Calls Tryd.prog 64 #[.agg #[.string yy, .int .i64 yk, .int .i64 yn, .int .i64 yg, .string ys, .slice ylp yll ylc, .slice ydp ydl ydc], .agg #[.string zz, .int .i64 zk, .int .i64 zn, .int .i64 zg, .string zs, .slice zlp zll zlc, .slice zdp zdl zdc]] w _
  obtain ⟨bk, hbk⟩ : ∃ b, (yy.toList == zz.toList) = b := ⟨_, rfl⟩
  rw [hbk]
  go_enter Tryd.func64, Tryd.ntmps64
  repeat (first
    | (with_reducible (change wpList _ _ _ _ _ _)
       refine wpList_callBT (v := .bool r0) (a' := ?_) (f := 38) (args := #[.agg #[.int .i64 yk, .int .i64 yn, .int .i64 yg, .string ys, .slice ylp yll ylc, .slice ydp ydl ydc], .agg #[.int .i64 zk, .int .i64 zn, .int .i64 zg, .string zs, .slice zlp zll zlc, .slice zdp zdl zdc]]) rfl rfl rfl (fun hb2 => ?_) (fun _ => Hc.out _ _) ?_ (fun w2 Hb2 => ?_)
       case refine_2 => go_simp
       case refine_3 => (simp only [Act.put, List.setIfInBounds_toArray, List.set_cons_succ, List.set_cons_zero]; try rfl))
    | (with_reducible (change wpList _ _ _ _ _ _)
       refine wpList_pickAndF (A := ?_) rfl rfl rfl rfl rfl rfl rfl (fun r => ?_) (fun r hr => ?_)
       case refine_2 => (simp only [Act.put, List.setIfInBounds_toArray, List.set_cons_succ, List.set_cons_zero]; try rfl))
    | (with_reducible (change wpList _ _ _ _ _ _)
       refine wpList_pickAnd (A := ?_) rfl rfl rfl rfl rfl (fun r => ?_) (fun r hr => ?_)
       case refine_2 => (simp only [Act.put, List.setIfInBounds_toArray, List.set_cons_succ, List.set_cons_zero]; try rfl))
    | (with_reducible (change wpList _ _ _ _ _ _)
       refine wpList_pickOr (A := ?_) rfl rfl rfl rfl rfl (fun r => ?_) (fun r hr => ?_)
       case refine_2 => (simp only [Act.put, List.setIfInBounds_toArray, List.set_cons_succ, List.set_cons_zero]; try rfl))
    | (with_reducible (change wpList _ _ _ _ _ _)
       refine wpList_symT (v := ?_) (a' := ?_) rfl rfl rfl (fun hb2 => ?_) ?_ ?_
       case refine_3 => (go_simp; try rfl)
       case refine_4 => (simp only [Act.put, List.setIfInBounds_toArray, List.set_cons_succ, List.set_cons_zero]; try rfl))
    | (with_reducible (change wpList _ _ _ _ _ _)
       refine wpList_symF (v := ?_) (a' := ?_) rfl rfl rfl (fun hb2 => ?_) ?_ ?_
       case refine_3 => (go_simp; try rfl)
       case refine_4 => (simp only [Act.put, List.setIfInBounds_toArray, List.set_cons_succ, List.set_cons_zero]; try rfl))
    | (with_reducible (change wpList _ _ _ _ _ _)
       refine wpList_symS (v := ?_) (a' := ?_) rfl rfl rfl (fun hb2 hb3 => ?_) ?_ ?_
       case refine_3 => (go_simp; try rfl)
       case refine_4 => (simp only [Act.put, List.setIfInBounds_toArray, List.set_cons_succ, List.set_cons_zero]; try rfl))
    | go_step)
  go_ret
  refine ⟨congrArg (fun b => Ending.returned (Value.bool b)) ?_, (HB.out _ _).trans (Hb2.out.mono (HB.out _ _).size)⟩
  exact hr.out.symm

set_option maxHeartbeats 4000000 in
theorem eqL_of (l : List Val) (ih : ∀ x ∈ l, PEqC x) (l' : List Val) (sl sl' : Sl) (w : World) (S : Nat → Prop) (hL : RdL w S sl l) (hL' : RdL w S sl' l') (hS : ∀ k, S k → k < w.heap.size) :
    Calls Tryd.prog 62 #[.slice sl.p sl.len sl.cap, .slice sl'.p sl'.len sl'.cap, .func (.func 38) #[] #[]] w fun e w' => e = .returned (.bool (equalL l l')) ∧ Below w.heap.size w w' := by
  obtain ⟨lp, ll, lc⟩ := sl
  obtain ⟨lp', ll', lc'⟩ := sl'
  obtain ⟨hll, hlm⟩ := hL.len_le
  obtain ⟨hll', hlm'⟩ := hL'.len_le
  dsimp only at hll hlm hll' hlm'
  unfold maxLen at hlm hlm'
  have Hll := Lib.hid hll
  have Hll' := Lib.hid hll'
  have HL := Lib.hid hL
  have HL' := Lib.hid hL'
  have HS := Lib.hid hS
  have Hih := Lib.hid ih
  have HB0 : Aside (Below w.heap.size w w) := Below.refl _ w
  clear hll hll' hL hL' hS ih
  show Calls Tryd.prog 62 #[.slice lp ll lc, .slice lp' ll' lc', .func (.func 38) #[] #[]] w _
  by_cases hne : ¬ ll = ll'
  · have hf : equalL l l' = false := by
      cases h : equalL l l'
      · rfl
      · exact absurd (equalL_len h) (by rw [← Hll.out, ← Hll'.out]; exact hne)
    have Hf := Lib.hid hf
    have hne2 : ¬ (ll : Int) = (ll' : Int) := by omega
    have hne3 : ((ll : Int) != (ll' : Int)) = true := by simpa using hne2
    clear hf hne
    go_enter Tryd.func62, Tryd.ntmps62
    go_wp2
    go_ret
    exact ⟨by show Ending.returned (Value.bool false) = _; rw [Hf.out], HB0⟩
  replace hne := Decidable.not_not.1 hne
  subst hne
  obtain ⟨t, ht⟩ : ∃ t, equalL l l' = t := ⟨_, rfl⟩
  rw [ht]
  have Ht := Lib.hid ht
  clear ht
  go_enter Tryd.func62, Tryd.ntmps62
  go_wp2
  go_loopg [17] ll (fun f s17 wr => ∃ i : Nat, s17 = .int .i64 i ∧ i ≤ ll ∧ ll ≤ f + i ∧ Aside (equalL (l.drop i) (l'.drop i) = t) ∧ Aside (Below w.heap.size w wr))
  case atStart => exact ⟨0, rfl, Nat.zero_le _, Nat.le_refl _, Ht.out, HB0⟩
  case round =>
    obtain ⟨i, rfl, hi, hf, HI, HB⟩ := hrel
    by_cases hil : i < ll
    · obtain ⟨lb, lo, ⟨yk, yn, yg, ys, ⟨ylp, yll, ylc⟩, ⟨ydp, ydl, ydc⟩⟩, hiv, h3, h4, h5, h6⟩ := (HL.out.later (below_old HS.out HB.out)).at hil
      obtain ⟨lb', lo', ⟨zk, zn, zg, zs, ⟨zlp, zll, zlc⟩, ⟨zdp, zdl, zdc⟩⟩, hiv', h3', h4', h5', h6'⟩ := (HL'.out.later (below_old HS.out HB.out)).at hil
      subst h3
      subst h3'
      obtain ⟨e0, e1, e2, e3, e4, e5⟩ := h5
      obtain ⟨f0, f1, f2, f3, f4, f5⟩ := h5'
      dsimp only at e0 e1 e2 e3 e4 e5 f0 f1 f2 f3 f4 f5
      have hc := Hih.out _ (List.getElem_mem hiv) (l'[i]) ⟨yk, yn, yg, ys, ⟨ylp, yll, ylc⟩, ⟨ydp, ydl, ydc⟩⟩ ⟨zk, zn, zg, zs, ⟨zlp, zll, zlc⟩, ⟨zdp, zdl, zdc⟩⟩ ((wr.alloc (.cells #[.int .i64 yk, .int .i64 yn, .int .i64 yg, .string ys, .slice ylp yll ylc, .slice ydp ydl ydc] 25)).alloc (.cells #[.int .i64 zk, .int .i64 zn, .int .i64 zg, .string zs, .slice zlp zll zlc, .slice zdp zdl zdc] 25)) S (h6.later (below_old (old_later HS.out HB.out) (two_below wr _ _))) (h6'.later (below_old (old_later HS.out HB.out) (two_below wr _ _))) (old_later (old_later HS.out HB.out) (two_below wr _ _))
      have Hst : Hid (equalL (l.drop i) (l'.drop i) = ((equalV l[i] l'[i]) && equalL (l.drop (i + 1)) (l'.drop (i + 1)))) := Lib.hid (by rw [drop_cons hiv, drop_cons hiv', equalL])
      obtain ⟨r, hr⟩ : ∃ r, (equalV l[i] l'[i]) = r := ⟨_, rfl⟩
      rw [hr] at Hst
      try dsimp only at hc
      rw [hr] at hc
      have Hc := Lib.hid hc
      have hb2 := two_below wr (.cells #[.int .i64 yk, .int .i64 yn, .int .i64 yg, .string ys, .slice ylp yll ylc, .slice ydp ydl ydc] 25) (.cells #[.int .i64 zk, .int .i64 zn, .int .i64 zg, .string zs, .slice zlp zll zlc, .slice zdp zdl zdc] 25)
      have HB2 := Lib.hid (HB.out.trans (hb2.mono HB.out.size))
      have hlb : lb < wr.heap.size := old_later HS.out HB.out _ h4
      have hlb' : lb' < wr.heap.size := old_later HS.out HB.out _ h4'
      clear hc hr h4 h4' h6 h6' hb2
      go_wp2_with fail
      refine Hc.out.mono ?_
      rintro e w2 ⟨rfl, hb⟩
      have HB3 : Aside (Below w.heap.size w w2) := HB2.out.trans (hb.mono HB2.out.size)
      clear hb Hc HB HB2 e0 e1 e2 e3 e4 e5 f0 f1 f2 f3 f4 f5
      cases r with
      | false =>
        go_wp2
        go_ret
        exact ⟨by show Ending.returned (Value.bool false) = _; rw [← HI.out, Hst.out]; rfl, HB3⟩
      | true =>
        go_wp2
        go_roundg (ll - (i + 1))
        case measure => omega
        case rel => exact ⟨i + 1, by go_num, by omega, by omega, (show Aside _ from (by show _ = _; rw [← HI.out, Hst.out]; rfl)), HB3⟩
    · have hT : Hid (t = true) := Lib.hid (by rw [← HI.out, List.drop_eq_nil_of_le (by have := Hll.out; omega), List.drop_eq_nil_of_le (by have := Hll'.out; omega)]; rfl)
      clear HI
      go_wp2
      go_ret
      exact ⟨by show Ending.returned (Value.bool true) = _; rw [hT.out], HB⟩

set_option maxHeartbeats 4000000 in
theorem eqD_of (l : Prs) (ih : ∀ p ∈ l, PEqC p.2) (l' : Prs) (sl sl' : Sl) (w : World) (S : Nat → Prop) (hL : RdD w S sl l) (hL' : RdD w S sl' l') (hS : ∀ k, S k → k < w.heap.size) :
    Calls Tryd.prog 63 #[.slice sl.p sl.len sl.cap, .slice sl'.p sl'.len sl'.cap, .func (.func 64) #[] #[]] w fun e w' => e = .returned (.bool (equalD l l')) ∧ Below w.heap.size w w' := by
  obtain ⟨lp, ll, lc⟩ := sl
  obtain ⟨lp', ll', lc'⟩ := sl'
  obtain ⟨hll, hlm⟩ := hL.len_le
  obtain ⟨hll', hlm'⟩ := hL'.len_le
  dsimp only at hll hlm hll' hlm'
  unfold maxLen at hlm hlm'
  have Hll := Lib.hid hll
  have Hll' := Lib.hid hll'
  have HL := Lib.hid hL
  have HL' := Lib.hid hL'
  have HS := Lib.hid hS
  have Hih := Lib.hid ih
  have HB0 : Aside (Below w.heap.size w w) := Below.refl _ w
  clear hll hll' hL hL' hS ih
  show Calls Tryd.prog 63 #[.slice lp ll lc, .slice lp' ll' lc', .func (.func 64) #[] #[]] w _
  by_cases hne : ¬ ll = ll'
  · have hf : equalD l l' = false := by
      cases h : equalD l l'
      · rfl
      · exact absurd (equalD_len h) (by rw [← Hll.out, ← Hll'.out]; exact hne)
    have Hf := Lib.hid hf
    have hne2 : ¬ (ll : Int) = (ll' : Int) := by omega
    have hne3 : ((ll : Int) != (ll' : Int)) = true := by simpa using hne2
    clear hf hne
    go_enter Tryd.func63, Tryd.ntmps63
    go_wp2
    go_ret
    exact ⟨by show Ending.returned (Value.bool false) = _; rw [Hf.out], HB0⟩
  replace hne := Decidable.not_not.1 hne
  subst hne
  obtain ⟨t, ht⟩ : ∃ t, equalD l l' = t := ⟨_, rfl⟩
  rw [ht]
  have Ht := Lib.hid ht
  clear ht
  go_enter Tryd.func63, Tryd.ntmps63
  go_wp2
  go_loopg [17] ll (fun f s17 wr => ∃ i : Nat, s17 = .int .i64 i ∧ i ≤ ll ∧ ll ≤ f + i ∧ Aside (equalD (l.drop i) (l'.drop i) = t) ∧ Aside (Below w.heap.size w wr))
  case atStart => exact ⟨0, rfl, Nat.zero_le _, Nat.le_refl _, Ht.out, HB0⟩
  case round =>
    obtain ⟨i, rfl, hi, hf, HI, HB⟩ := hrel
    by_cases hil : i < ll
    · obtain ⟨lb, lo, ⟨yy, ⟨yk, yn, yg, ys, ⟨ylp, yll, ylc⟩, ⟨ydp, ydl, ydc⟩⟩⟩, hiv, h3, h4, ⟨e0, h5⟩, hky, h6⟩ := (HL.out.later (below_old HS.out HB.out)).at hil
      obtain ⟨lb', lo', ⟨zz, ⟨zk, zn, zg, zs, ⟨zlp, zll, zlc⟩, ⟨zdp, zdl, zdc⟩⟩⟩, hiv', h3', h4', ⟨f0, h5'⟩, hkz, h6'⟩ := (HL'.out.later (below_old HS.out HB.out)).at hil
      subst h3
      subst h3'
      obtain ⟨e1, e2, e3, e4, e5, e6⟩ := h5
      obtain ⟨f1, f2, f3, f4, f5, f6⟩ := h5'
      dsimp only at e0 e1 e2 e3 e4 e5 e6 f0 f1 f2 f3 f4 f5 f6 h6 h6' hky hkz
      have hc := eqPair_any (l[i]).2 (l'[i]).2 (Hih.out _ (List.getElem_mem hiv)) ⟨yy, ⟨yk, yn, yg, ys, ⟨ylp, yll, ylc⟩, ⟨ydp, ydl, ydc⟩⟩⟩ ⟨zz, ⟨zk, zn, zg, zs, ⟨zlp, zll, zlc⟩, ⟨zdp, zdl, zdc⟩⟩⟩ ((wr.alloc (.cells #[.string yy, .int .i64 yk, .int .i64 yn, .int .i64 yg, .string ys, .slice ylp yll ylc, .slice ydp ydl ydc] 41)).alloc (.cells #[.string zz, .int .i64 zk, .int .i64 zn, .int .i64 zg, .string zs, .slice zlp zll zlc, .slice zdp zdl zdc] 41)) S (h6.later (below_old (old_later HS.out HB.out) (two_below wr _ _))) (h6'.later (below_old (old_later HS.out HB.out) (two_below wr _ _))) (old_later (old_later HS.out HB.out) (two_below wr _ _))
      have Hst : Hid (equalD (l.drop i) (l'.drop i) = ((decide (yy = zz) && equalV (l[i]).2 (l'[i]).2) && equalD (l.drop (i + 1)) (l'.drop (i + 1)))) := Lib.hid (by rw [drop_cons hiv, drop_cons hiv', hky, hkz]; rfl)
      obtain ⟨r, hr⟩ : ∃ r, (decide (yy = zz) && equalV (l[i]).2 (l'[i]).2) = r := ⟨_, rfl⟩
      rw [hr] at Hst
      try dsimp only at hc
      rw [hr] at hc
      have Hc := Lib.hid hc
      have hb2 := two_below wr (.cells #[.string yy, .int .i64 yk, .int .i64 yn, .int .i64 yg, .string ys, .slice ylp yll ylc, .slice ydp ydl ydc] 41) (.cells #[.string zz, .int .i64 zk, .int .i64 zn, .int .i64 zg, .string zs, .slice zlp zll zlc, .slice zdp zdl zdc] 41)
      have HB2 := Lib.hid (HB.out.trans (hb2.mono HB.out.size))
      have hlb : lb < wr.heap.size := old_later HS.out HB.out _ h4
      have hlb' : lb' < wr.heap.size := old_later HS.out HB.out _ h4'
      clear hc hr h4 h4' h6 h6' hb2 hky hkz
      go_wp2_with fail
      refine Hc.out.mono ?_
      rintro e w2 ⟨rfl, hb⟩
      have HB3 : Aside (Below w.heap.size w w2) := HB2.out.trans (hb.mono HB2.out.size)
      clear hb Hc HB HB2 e0 e1 e2 e3 e4 e5 e6 f0 f1 f2 f3 f4 f5 f6
      cases r with
      | false =>
        go_wp2
        go_ret
        exact ⟨by show Ending.returned (Value.bool false) = _; rw [← HI.out, Hst.out]; rfl, HB3⟩
      | true =>
        go_wp2
        go_roundg (ll - (i + 1))
        case measure => omega
        case rel => exact ⟨i + 1, by go_num, by omega, by omega, (show Aside _ from (by show _ = _; rw [← HI.out, Hst.out]; rfl)), HB3⟩
    · have hT : Hid (t = true) := Lib.hid (by rw [← HI.out, List.drop_eq_nil_of_le (by have := Hll.out; omega), List.drop_eq_nil_of_le (by have := Hll'.out; omega)]; rfl)
      clear HI
      go_wp2
      go_ret
      exact ⟨by show Ending.returned (Value.bool true) = _; rw [hT.out], HB⟩

set_option maxHeartbeats 8000000 in
theorem pequal_any (v : Val) : PEqC v := by
  induction v using Val.ind with
  | h v ihl ihd =>
    intro v' x x' w S hR hR' hS
    obtain ⟨⟨hk, hn, hg, hs⟩, hL, hD⟩ := rd_iff.1 hR
    obtain ⟨⟨hk', hn', hg', hs'⟩, hL', hD'⟩ := rd_iff.1 hR'
    obtain ⟨k, n, g, s, ⟨lp, ll, lc⟩, ⟨dp, dl, dc⟩⟩ := x
    obtain ⟨k', n', g', s', ⟨lp', ll', lc'⟩, ⟨dp', dl', dc'⟩⟩ := x'
    dsimp only at hk hn hg hs hL hD hk' hn' hg' hs' hL' hD'
    obtain ⟨rl, hrl⟩ : ∃ r, equalL v.l v'.l = r := ⟨_, rfl⟩
    obtain ⟨rd, hrd⟩ : ∃ r, equalD v.d v'.d = r := ⟨_, rfl⟩
    have Hval : Hid (equalV v v' = (decide (k = k' ∧ n = n' ∧ g = g' ∧ s = s') && (rl && rd))) := Lib.hid (by
      rw [← hrl, ← hrd, hk, hn, hg, hs, hk', hn', hg', hs']
      cases v; cases v'
      rw [equalV]
      rfl)
    obtain ⟨w1, hw1⟩ : ∃ w1, w.alloc (.cells #[.int .i64 k, .int .i64 n, .int .i64 g, .string s, .slice lp ll lc, .slice dp dl dc] 25) = w1 := ⟨_, rfl⟩
    obtain ⟨w2, hw2⟩ : ∃ w2, w1.alloc (.cells #[.int .i64 k', .int .i64 n', .int .i64 g', .string s', .slice lp' ll' lc', .slice dp' dl' dc'] 25) = w2 := ⟨_, rfl⟩
    have hs1 : w1.heap.size = w.heap.size + 1 := by rw [← hw1]; simp
    have hs2 : w2.heap.size = w.heap.size + 1 + 1 := by rw [← hw2]; simp [hs1]
    have hb1 : Below w.heap.size w w1 := by rw [← hw1]; exact (Below.refl _ w).alloc (Nat.le_refl _) _
    have hb2 : Below w1.heap.size w1 w2 := by rw [← hw2]; exact (Below.refl _ w1).alloc (Nat.le_refl _) _
    have hb : Below w.heap.size w w2 := hb1.trans (hb2.mono (by omega))
    have hv1 : VCell w2 w.heap.size ⟨k, n, g, s, ⟨lp, ll, lc⟩, ⟨dp, dl, dc⟩⟩ := (show VCell w1 w.heap.size ⟨k, n, g, s, ⟨lp, ll, lc⟩, ⟨dp, dl, dc⟩⟩ by rw [← hw1]; exact heap_alloc_new w _).later hb2 (by omega)
    have hv2 : VCell w2 (w.heap.size + 1) ⟨k', n', g', s', ⟨lp', ll', lc'⟩, ⟨dp', dl', dc'⟩⟩ := by rw [← hs1, ← hw2]; exact heap_alloc_new w1 _
    have HcL := Lib.hid (eqL_of v.l ihl v'.l ⟨lp, ll, lc⟩ ⟨lp', ll', lc'⟩ w2 S (hL.later (below_old hS hb)) (hL'.later (below_old hS hb)) (old_later hS hb))
    rw [hrl] at HcL
    have HD := Lib.hid (hD.later (below_old hS hb))
    have HD' := Lib.hid (hD'.later (below_old hS hb))
    have HS := Lib.hid (old_later hS hb)
    have Hihd := Lib.hid ihd
    have Hb := Lib.hid hb
    have Hv1 := Lib.hid hv1
    have Hv2 := Lib.hid hv2
    have Hw1 := Lib.hid hw1
    have Hw2 := Lib.hid hw2
    have Hrd := Lib.hid hrd
    have Hlt := Lib.hid hv1.lt
    have Hlt2 := Lib.hid hv2.lt
    clear hk hn hg hs hL hD hk' hn' hg' hs' hL' hD' hrl hrd hw1 hw2 hs1 hs2 hb1 hb2 hb hv1 hv2 hR hR' hS ihl ihd
    obtain ⟨bk, hbk⟩ : ∃ b, (k == k') = b := ⟨_, rfl⟩
    obtain ⟨bn, hbn⟩ : ∃ b, (n == n') = b := ⟨_, rfl⟩
    obtain ⟨bg, hbg⟩ : ∃ b, (g == g') = b := ⟨_, rfl⟩
    obtain ⟨bs, hbs⟩ : ∃ b, (s.toList == s'.toList) = b := ⟨_, rfl⟩
    show Calls Tryd.prog 38 #[.agg #[.int .i64 k, .int .i64 n, .int .i64 g, .string s, .slice lp ll lc, .slice dp dl dc], .agg #[.int .i64 k', .int .i64 n', .int .i64 g', .string s', .slice lp' ll' lc', .slice dp' dl' dc']] w _
    go_enter Tryd.func38, Tryd.ntmps38
    iterate 14 go_step
    rw [Hw1.out, Hw2.out]
    obtain ⟨c0, c1, c2, c3, c4, c5⟩ := Hv1.out.at
    obtain ⟨d0, d1, d2, d3, d4, d5⟩ := Hv2.out.at
    simp only [Nat.zero_add] at c0 c1 c2 c3 c4 c5 d0 d1 d2 d3 d4 d5
    repeat (first
      | (with_reducible (change wpList _ _ _ _ _ _)
         refine wpList_callBT (v := .bool rl) (a' := ?_) (f := 62) (args := #[.slice lp ll lc, .slice lp' ll' lc', .func (.func 38) #[] #[]]) rfl rfl rfl (fun hb2 => ?_) (fun _ => HcL.out) ?_ (fun w3 Hb3 => ?_)
         case refine_2 => go_simp
         case refine_3 => (simp only [Act.put, List.setIfInBounds_toArray, List.set_cons_succ, List.set_cons_zero]; try rfl)
         have hx3 := Hv1.out.later Hb3.out Hlt.out
         have hy3 := Hv2.out.later Hb3.out Hlt2.out
         have x5 : w3.cell? ⟨w.heap.size, 5, none⟩ = some (.slice dp dl dc) := hx3.at.2.2.2.2.2
         have y5 : w3.cell? ⟨w.heap.size + 1, 5, none⟩ = some (.slice dp' dl' dc') := hy3.at.2.2.2.2.2
         have HcD := Lib.hid (eqD_of v.d Hihd.out v'.d ⟨dp, dl, dc⟩ ⟨dp', dl', dc'⟩ w3 S (HD.out.later (below_old HS.out Hb3.out)) (HD'.out.later (below_old HS.out Hb3.out)) (old_later HS.out Hb3.out))
         have Hrd2 := Hrd
         rw [Hrd2.out] at HcD
         clear Hrd2 hx3 hy3)
      | (with_reducible (change wpList _ _ _ _ _ _)
         refine wpList_callBT (v := .bool rd) (a' := ?_) (f := 63) (args := #[.slice dp dl dc, .slice dp' dl' dc', .func (.func 64) #[] #[]]) rfl rfl rfl (fun hb2 => ?_) (fun _ => HcD.out) ?_ (fun w4 Hb4 => ?_)
         case refine_2 => go_simp
         case refine_3 => (simp only [Act.put, List.setIfInBounds_toArray, List.set_cons_succ, List.set_cons_zero]; try rfl))
      | (with_reducible (change wpList _ _ _ _ _ _)
         refine wpList_pickAndF (A := ?_) rfl rfl rfl rfl rfl rfl rfl (fun r => ?_) (fun r hr => ?_)
         case refine_2 => (simp only [Act.put, List.setIfInBounds_toArray, List.set_cons_succ, List.set_cons_zero]; try rfl))
      | (with_reducible (change wpList _ _ _ _ _ _)
         refine wpList_pickAnd (A := ?_) rfl rfl rfl rfl rfl (fun r => ?_) (fun r hr => ?_)
         case refine_2 => (simp only [Act.put, List.setIfInBounds_toArray, List.set_cons_succ, List.set_cons_zero]; try rfl))
      | (with_reducible (change wpList _ _ _ _ _ _)
         refine wpList_pickOr (A := ?_) rfl rfl rfl rfl rfl (fun r => ?_) (fun r hr => ?_)
         case refine_2 => (simp only [Act.put, List.setIfInBounds_toArray, List.set_cons_succ, List.set_cons_zero]; try rfl))
      | (with_reducible (change wpList _ _ _ _ _ _)
         refine wpList_symT (v := ?_) (a' := ?_) rfl rfl rfl (fun hb2 => ?_) ?_ ?_
         case refine_3 => (go_simp; try rfl)
         case refine_4 => (simp only [Act.put, List.setIfInBounds_toArray, List.set_cons_succ, List.set_cons_zero]; try rfl))
      | (with_reducible (change wpList _ _ _ _ _ _)
         refine wpList_symF (v := ?_) (a' := ?_) rfl rfl rfl (fun hb2 => ?_) ?_ ?_
         case refine_3 => (go_simp; try rfl)
         case refine_4 => (simp only [Act.put, List.setIfInBounds_toArray, List.set_cons_succ, List.set_cons_zero]; try rfl))
      | (with_reducible (change wpList _ _ _ _ _ _)
         refine wpList_symS (v := ?_) (a' := ?_) rfl rfl rfl (fun hb2 hb3 => ?_) ?_ ?_
         case refine_3 => (go_simp; try rfl)
         case refine_4 => (simp only [Act.put, List.setIfInBounds_toArray, List.set_cons_succ, List.set_cons_zero]; try rfl))
      | go_step)
    go_ret
    refine ⟨congrArg (fun b => Ending.returned (Value.bool b)) ?_, Hb.out.trans ((Hb3.out.trans (Hb4.out.mono Hb3.out.size)).mono Hb.out.size)⟩
    rw [Hval.out]
    clear Hval HcL HcD HD HD' Hihd Hrd
    unfold Hid at *
    subst_vars
    rw [vtext_eq, Bool.eq_iff_iff]
    simp only [Bool.and_eq_true, beq_iff_eq, decide_eq_true_eq, and_assoc]
end
end Go.Proofs.YtljgjjbmgjfbcaaDoor
/-
  The program's: are two values alike?
-/
namespace Go.Proofs.YtljgjjbmgjfbcaaDoor
section
open Go.RowKit
set_option maxRecDepth 100000

set_option maxHeartbeats 4000000 in
theorem pSame_any (v v' : Val) (x x' : Hv) (w : World) (S : Nat → Prop) (hR : Rd w S x v) (hR' : Rd w S x' v') (hS : ∀ k, S k → k < w.heap.size) (hfit : Fit v 4000) (hfit' : Fit v' 4000) :
    Calls Tryd.prog 17 #[.agg x.arr, .agg x'.arr] w fun e w' => e = .returned (.bool (equalV (plainV v) (plainV v'))) ∧ Below w.heap.size w w' := by
  obtain ⟨k, n, g, s, ⟨lp, ll, lc⟩, ⟨dp, dl, dc⟩⟩ := x
  obtain ⟨k', n', g', s', ⟨lp', ll', lc'⟩, ⟨dp', dl', dc'⟩⟩ := x'
  obtain ⟨w1, hw1⟩ : ∃ w1, w.alloc (.cells #[.int .i64 k, .int .i64 n, .int .i64 g, .string s, .slice lp ll lc, .slice dp dl dc] 25) = w1 := ⟨_, rfl⟩
  obtain ⟨w2, hw2⟩ : ∃ w2, w1.alloc (.cells #[.int .i64 k', .int .i64 n', .int .i64 g', .string s', .slice lp' ll' lc', .slice dp' dl' dc'] 25) = w2 := ⟨_, rfl⟩
  have hs1 : w1.heap.size = w.heap.size + 1 := by rw [← hw1]; simp
  have hs2 : w2.heap.size = w.heap.size + 1 + 1 := by rw [← hw2]; simp [hs1]
  have hb1 : Below w.heap.size w w1 := by rw [← hw1]; exact (Below.refl _ w).alloc (Nat.le_refl _) _
  have hb2 : Below w1.heap.size w1 w2 := by rw [← hw2]; exact (Below.refl _ w1).alloc (Nat.le_refl _) _
  have hb : Below w.heap.size w w2 := hb1.trans (hb2.mono (by omega))
  have hv1 : VCell w2 w.heap.size ⟨k, n, g, s, ⟨lp, ll, lc⟩, ⟨dp, dl, dc⟩⟩ := (show VCell w1 w.heap.size ⟨k, n, g, s, ⟨lp, ll, lc⟩, ⟨dp, dl, dc⟩⟩ by rw [← hw1]; exact heap_alloc_new w _).later hb2 (by omega)
  have hv2 : VCell w2 (w.heap.size + 1) ⟨k', n', g', s', ⟨lp', ll', lc'⟩, ⟨dp', dl', dc'⟩⟩ := by rw [← hs1, ← hw2]; exact heap_alloc_new w1 _
  have HR := Lib.hid (hR.later (below_old hS hb))
  have HR' := Lib.hid (hR'.later (below_old hS hb))
  have HS := Lib.hid (old_later hS hb)
  have Hb := Lib.hid hb
  have Hv1 := Lib.hid hv1
  have Hv2 := Lib.hid hv2
  have Hw1 := Lib.hid hw1
  have Hw2 := Lib.hid hw2
  have Hs2 := Lib.hid hs2
  have Hfit := Lib.hid hfit
  have Hfit' := Lib.hid hfit'
  clear hw1 hw2 hs1 hs2 hb1 hb2 hb hv1 hv2 hR hR' hS hfit hfit'
  show Calls Tryd.prog 17 #[.agg #[.int .i64 k, .int .i64 n, .int .i64 g, .string s, .slice lp ll lc, .slice dp dl dc], .agg #[.int .i64 k', .int .i64 n', .int .i64 g', .string s', .slice lp' ll' lc', .slice dp' dl' dc']] w _
  go_enter Tryd.func17, Tryd.ntmps17
  go_wp2_with fail
  rw [Hw1.out, Hw2.out]
  obtain ⟨c0, c1, c2, c3, c4, c5⟩ := Hv1.out.at
  obtain ⟨d0, d1, d2, d3, d4, d5⟩ := Hv2.out.at
  dsimp only [Nat.zero_add] at c0 c1 c2 c3 c4 c5 d0 d1 d2 d3 d4 d5
  go_region_with (first
    | (go_at_call_of 16 (Value.agg #[.int .i64 k, .int .i64 n, .int .i64 g, .string s, .slice lp ll lc, .slice dp dl dc])
       refine (pplain_any v ⟨k, n, g, s, ⟨lp, ll, lc⟩, ⟨dp, dl, dc⟩⟩ w2.drew S (HR.out.later (fun _ _ => rfl)) HS.out Hfit.out).mono ?_
       rintro e w3 ⟨⟨yk, yn, yg, ys, ⟨ylp, yll, ylc⟩, ⟨ydp, ydl, ydc⟩⟩, he, hy, hb3⟩
       replace he : e = .returned (.agg #[.int .i64 yk, .int .i64 yn, .int .i64 yg, .string ys, .slice ylp yll ylc, .slice ydp ydl ydc]) := he
       subst he
       have hb4 : Below w2.heap.size w2 w3 := ⟨hb3.os, hb3.tape, hb3.output, hb3.size, hb3.block⟩
       have HV3 := Lib.hid (Hv2.out.later hb4 (by rw [Hs2.out]; omega))
       have HY : Hid (Rd w3 (fun k => w2.heap.size ≤ k) ⟨yk, yn, yg, ys, ⟨ylp, yll, ylc⟩, ⟨ydp, ydl, ydc⟩⟩ (plainV v)) := Lib.hid hy
       have Hb3 := Lib.hid hb4
       have HR3 := Lib.hid (HR'.out.later (below_old HS.out hb4))
       have HS3 := Lib.hid (old_later HS.out hb4)
       clear hb3 hb4 hy
       obtain ⟨f0, f1, f2, f3, f4, f5⟩ := HV3.out.at
       dsimp only [Nat.zero_add] at f0 f1 f2 f3 f4 f5)
    | (go_at_call_of 16 (Value.agg #[.int .i64 k', .int .i64 n', .int .i64 g', .string s', .slice lp' ll' lc', .slice dp' dl' dc'])
       refine (pplain_any v' ⟨k', n', g', s', ⟨lp', ll', lc'⟩, ⟨dp', dl', dc'⟩⟩ _ S HR3.out HS3.out Hfit'.out).mono ?_
       rintro e w4 ⟨⟨zk, zn, zg, zs, ⟨zlp, zll, zlc⟩, ⟨zdp, zdl, zdc⟩⟩, he, hy, hb3⟩
       replace he : e = .returned (.agg #[.int .i64 zk, .int .i64 zn, .int .i64 zg, .string zs, .slice zlp zll zlc, .slice zdp zdl zdc]) := he
       subst he
       have HZ : Hid (Rd w4 (fun k => w3.heap.size ≤ k) ⟨zk, zn, zg, zs, ⟨zlp, zll, zlc⟩, ⟨zdp, zdl, zdc⟩⟩ (plainV v')) := Lib.hid hy
       have Hb4 : Hid (Below w3.heap.size w3 w4) := Lib.hid hb3
       clear hb3 hy)
    | (go_at_call 38
       refine (pequal_any (plainV v) (plainV v') ⟨yk, yn, yg, ys, ⟨ylp, yll, ylc⟩, ⟨ydp, ydl, ydc⟩⟩ ⟨zk, zn, zg, zs, ⟨zlp, zll, zlc⟩, ⟨zdp, zdl, zdc⟩⟩ w4 (fun k => k < w4.heap.size) ((HY.out.bound.later (fun k hk => Hb4.out.block k hk.2)).mono (fun k hk => Nat.lt_of_lt_of_le hk.2 Hb4.out.size)) (HZ.out.bound.mono (fun k hk => hk.2)) (fun _ h => h)).mono ?_
       rintro e w5 ⟨rfl, hb5⟩
       have Hb5 := Lib.hid hb5
       clear hb5))
  all_goals go_wp2
  all_goals go_ret
  all_goals exact ⟨rfl, Hb.out.trans ((Hb3.out.trans ((Hb4.out.trans (Hb5.out.mono Hb4.out.size)).mono Hb3.out.size)).mono Hb.out.size)⟩
end
end Go.Proofs.YtljgjjbmgjfbcaaDoor
