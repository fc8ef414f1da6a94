/-
  VPairsC, VPCheck: texts merged.
-/
import Derived.Test.YtejgcnmbngdkiaaGreatDoorMZero
import Derived.Test.YtejgcnmbngdkiaaGreatDoorMBz
import Derived.Test.YtejgcnmbngdkiaaGreatDoorNKey
import Derived.Test.YtejgcnmbngdkiaaGreatDoorMRCk
import Derived.Carry
/-
  The program's: what is wrong with pairs.
-/
namespace Go.Proofs.YtejgcnmbngdkiaaGreatDoor
section
open Go.RowKit
set_option maxRecDepth 100000
attribute [local go_sem] symV_true

def PCheckC (v : Val) : Prop := ∀ (st : Bool) (m : Int) (x : Hv) (w : World) (S : Nat → Prop), Rd w S x v → (∀ k, S k → k < w.heap.size) → Fit v 4000 → 0 ≤ m → m + sizeV v ≤ 100000 →
    Calls Tryz.prog 24 #[.agg x.arr, .bool st, .int .i64 m] w fun e w' => e = .returned (.int .i64 (checkV v st m)) ∧ Below w.heap.size w w'
/-- How often a key was met among those. -/
def metF (seen : List ByteArray) (s : ByteArray) : Int := if seen.any (fun x => decide (x = s)) = true then 1 else 0
theorem keyV_met (k : ByteArray) (seen : List ByteArray) : keyV k seen = (decide (127 < k.size) || zeroS k || decide (0 < metF seen k)) := by
  unfold keyV metF
  congr 1
  cases seen.any (fun x => decide (x = k)) <;> rfl
theorem metF_snoc {seen : List ByteArray} {k : ByteArray} (h : metF seen k = 0) : (fun u => if u = k then metF seen k + 1 else metF seen u) = metF (seen ++ [k]) := by
  funext u
  rw [h]
  unfold metF at h ⊢
  rw [List.any_append]
  by_cases e : u = k
  · subst e; simp
  · rw [if_neg e]
    have : ([k].any fun x => decide (x = u)) = false := by simp; exact fun h => e h.symm
    rw [this, Bool.or_false]
theorem below_turned {B : Nat} {w w' w'' : World} {m : Nat} (h : Below B w w') (hg : w'.grownBy w'' (some m)) (hm : B ≤ m) (hB : B ≤ w'.heap.size) : Below B w w'' := h.grown hg hB (fun k e => by injection e with e; omega)

set_option maxHeartbeats 8000000 in
theorem cpairs_of (d : Prs) (ih : ∀ p ∈ d, PCheckC p.2) (m : Int) (hfit : ∀ p ∈ d, (Fit p.2 4000 ∧ m + sizeV p.2 ≤ 100000) ∧ p.1.size ≤ 100000) (hlen : d.length ≤ 4000) (hm : 0 ≤ m) (sl : Sl) (w : World) (S : Nat → Prop) (hD : RdD w S sl d) (hS : ∀ k, S k → k < w.heap.size) :
    Calls Tryz.prog 43 #[.slice sl.p sl.len sl.cap, .int .i64 m] w fun e w' => e = .returned (.int .i64 (checkD d [] m)) ∧ Below w.heap.size w w' := by
  obtain ⟨dp, dl, dc⟩ := sl
  obtain ⟨hdl, hdm⟩ := hD.len_le
  dsimp only at hdl hdm
  unfold maxLen at hdm
  obtain ⟨t, ht⟩ : ∃ t, checkD d [] m = t := ⟨_, rfl⟩
  rw [ht]
  have hdm2 : dl ≤ 4000 := by omega
  have Ht := Lib.hid ht
  have Hdl := Lib.hid hdl
  have HD := Lib.hid hD
  have HS := Lib.hid hS
  have Hih := Lib.hid ih
  have Hfit := Lib.hid hfit
  have HM0 := Lib.hid (MapS.made w)
  have HB0 := Lib.hid ((Below.refl w.heap.size w).alloc (Nat.le_refl _) (.map #[] 0))
  have Hf0 : Hid ((fun _ => (0 : Int)) = metF ((d.take 0).map Prod.fst)) := Lib.hid (by funext s; simp [metF])
  clear ht hdl hD hS ih hfit hlen hdm
  show Calls Tryz.prog 43 #[.slice dp dl dc, .int .i64 m] w _
  go_enter Tryz.func43, Tryz.ntmps43
  have hmm := fun W => @run_makeMap Tryz.prog 96 W
  go_wp2_with fail
  clear hmm
  go_loopg [12] dl (fun f s12 wr => ∃ i : Nat, s12 = .int .i64 i ∧ i ≤ dl ∧ dl ≤ f + i ∧ Aside (checkD (d.drop i) ((d.take i).map Prod.fst) m = t) ∧ Aside (MapS wr w.heap.size i (metF ((d.take i).map Prod.fst))) ∧ Aside (Below w.heap.size w wr))
  case atStart => exact ⟨0, rfl, Nat.zero_le _, Nat.le_refl _, Ht.out, by rw [← Hf0.out]; exact HM0.out, HB0.out⟩
  case round =>
    obtain ⟨i, rfl, hi, hf, HI, HM, HB⟩ := hrel
    by_cases hil : i < dl
    · obtain ⟨lb, lo, ⟨kk, ⟨yk, yn, yg, ys, ⟨ylp, yll, ylc⟩, ⟨ydp, ydl, ydc⟩⟩⟩, hiv, h3, h4, ⟨e0, h5⟩, hky, h6⟩ := (HD.out.later (below_old HS.out HB.out)).at hil
      subst h3
      obtain ⟨e1, e2, e3, e4, e5, e6⟩ := h5
      dsimp only at e0 e1 e2 e3 e4 e5 e6 h6 hky
      have hkz : kk.size ≤ 100000 := by rw [hky]; exact (Hfit.out _ (List.getElem_mem hiv)).2
      have hst : checkD (d.drop i) ((d.take i).map Prod.fst) m = if keyV kk ((d.take i).map Prod.fst) = true then 11 else if checkV (d[i]).2 false m ≠ 0 then checkV (d[i]).2 false m else checkD (d.drop (i + 1)) ((d.take (i + 1)).map Prod.fst) m := by
        rw [drop_cons hiv, List.take_add_one, List.getElem?_eq_getElem hiv, Option.toList_some, List.map_append, hky]
        generalize d[i] = p
        obtain ⟨a, b⟩ := p
        rw [checkD]; rfl
      have htake : (d.take (i + 1)).map Prod.fst = (d.take i).map Prod.fst ++ [kk] := by
        rw [List.take_add_one, List.getElem?_eq_getElem hiv, Option.toList_some, List.map_append, hky]; rfl
      obtain ⟨seen, hseen⟩ : ∃ l, (d.take i).map Prod.fst = l := ⟨_, rfl⟩
      rw [hseen] at hst HI HM htake
      rw [htake] at hst
      obtain ⟨q, hq⟩ : ∃ q, (d[i]).2 = q := ⟨_, rfl⟩
      rw [hq] at hst h6
      have hihq : PCheckC q := hq ▸ Hih.out _ (List.getElem_mem hiv)
      have hfq : Fit q 4000 ∧ m + sizeV q ≤ 100000 := hq ▸ (Hfit.out _ (List.getElem_mem hiv)).1
      have hmet : metF seen kk = 0 ∨ metF seen kk = 1 := by unfold metF; split <;> simp
      have hkv := keyV_met kk seen
      obtain ⟨c, hc⟩ : ∃ c, metF seen kk = c := ⟨_, rfl⟩
      rw [hc] at hmet hkv
      have hmm : w.heap.size < wr.heap.size := HM.out.lt
      obtain ⟨w1, hw1⟩ : ∃ w1, wr.alloc (.cells #[.string kk, .int .i64 yk, .int .i64 yn, .int .i64 yg, .string ys, .slice ylp yll ylc, .slice ydp ydl ydc] 42) = w1 := ⟨_, rfl⟩
      have hM1 : MapS w1 w.heap.size i (metF seen) := by rw [← hw1]; exact HM.out.move (heap_alloc_old _ _ hmm)
      have hB1 : Below w.heap.size w w1 := by rw [← hw1]; exact HB.out.alloc (Nat.le_of_lt hmm) _
      have hP1 : ∀ j, w1.cell? ⟨wr.heap.size, j, none⟩ = (#[.string kk, .int .i64 yk, .int .i64 yn, .int .i64 yg, .string ys, .slice ylp yll ylc, .slice ydp ydl ydc] : Array Value)[j]? := fun j => by rw [← hw1]; exact World.cell?_alloc_new _ _ _ _
      have hlt1 : wr.heap.size < w1.heap.size := by rw [← hw1]; simp
      have hlook1 := hM1.look kk (by unfold maxLen; omega)
      rw [hc] at hlook1
      obtain ⟨w2, hupd, hM2, hg2⟩ := hM1.store (by omega) kk (by unfold maxLen; omega) (c + 1) (by omega)
      have hlook2 := hM2.look kk (by unfold maxLen; omega)
      rw [if_pos rfl] at hlook2
      have hB2 := below_turned hB1 hg2 (Nat.le_refl _) hB1.size
      have hP2 : ∀ j, w2.cell? ⟨wr.heap.size, j, none⟩ = (#[.string kk, .int .i64 yk, .int .i64 yn, .int .i64 yg, .string ys, .slice ylp yll ylc, .slice ydp ydl ydc] : Array Value)[j]? := fun j => (cell_of_block (hg2.block _ hlt1 (by intro e; injection e with e; omega)) j).trans (hP1 j)
      have k0 : w1.cell? ⟨wr.heap.size, 0, none⟩ = some (.string kk) := hP1 0
      have g0 : w2.cell? ⟨wr.heap.size, 0, none⟩ = some (.string kk) := hP2 0
      have g1 : w2.cell? ⟨wr.heap.size, 1, none⟩ = some (.int .i64 yk) := hP2 1
      have g2 : w2.cell? ⟨wr.heap.size, 2, none⟩ = some (.int .i64 yn) := hP2 2
      have g3 : w2.cell? ⟨wr.heap.size, 3, none⟩ = some (.int .i64 yg) := hP2 3
      have g4 : w2.cell? ⟨wr.heap.size, 4, none⟩ = some (.string ys) := hP2 4
      have g5 : w2.cell? ⟨wr.heap.size, 5, none⟩ = some (.slice ylp yll ylc) := hP2 5
      have g6 : w2.cell? ⟨wr.heap.size, 6, none⟩ = some (.slice ydp ydl ydc) := hP2 6
      have hsz2 : wr.heap.size ≤ w2.heap.size := Nat.le_trans (Nat.le_of_lt hlt1) hg2.size
      have hcall := hihq false m ⟨yk, yn, yg, ys, ⟨ylp, yll, ylc⟩, ⟨ydp, ydl, ydc⟩⟩ w2 S (h6.later (fun k hk => by
        have h1 := HS.out k hk
        rw [hB2.block k h1, HB.out.block k h1])) (fun k hk => Nat.lt_of_lt_of_le (HS.out k hk) hB2.size) hfq.1 hm hfq.2
      have HW1 := Lib.hid hw1
      have Hst := Lib.hid hst
      have Hkv := Lib.hid hkv
      have Hcall := Lib.hid hcall
      have HB2 := Lib.hid hB2
      have HM2 := Lib.hid hM2
      have Htake := Lib.hid htake
      have Hseen := Lib.hid hseen
      have Hmet := Lib.hid hmet
      have Hc := Lib.hid hc
      clear hw1 hst hkv hcall hB1 hB2 hM1 hM2 hP1 hP2 htake hseen h4 h6 hky hq hihq hfq hmet hc hg2 HM HB
      have hc0 : 0 ≤ c ∧ c ≤ 1 := by have := Hmet.out; omega
      iterate 40 go_step
      rw [HW1.out]
      repeat (first
        | (with_reducible (change wpList _ _ _ _ _ _)
           refine wpList_callF (v := .bool (zeroS kk)) (a' := ?_) (f := 65) (args := #[.string kk]) rfl rfl rfl (fun hb2 => ?_) (fun _ => hasZero_any kk _) ?_ ?_
           case refine_2 => go_simp
           case refine_3 => (simp only [Act.put, List.setIfInBounds_toArray, List.set_cons_succ, List.set_cons_zero]; try rfl))
        | (with_reducible (change wpList _ _ _ _ _ _)
           refine wpList_pickAndF (A := ?_) rfl rfl rfl rfl rfl rfl rfl (fun r => ?_) (fun r hr => ?_)
           case refine_2 => (simp only [Act.put, List.setIfInBounds_toArray, List.set_cons_succ, List.set_cons_zero]; try rfl))
        | (with_reducible (change wpList _ _ _ _ _ _)
           refine wpList_pickAnd (A := ?_) rfl rfl rfl rfl rfl (fun r => ?_) (fun r hr => ?_)
           case refine_2 => (simp only [Act.put, List.setIfInBounds_toArray, List.set_cons_succ, List.set_cons_zero]; try rfl))
        | (with_reducible (change wpList _ _ _ _ _ _)
           refine wpList_pickOr (A := ?_) rfl rfl rfl rfl rfl (fun r => ?_) (fun r hr => ?_)
           case refine_2 => (simp only [Act.put, List.setIfInBounds_toArray, List.set_cons_succ, List.set_cons_zero]; try rfl))
        | (with_reducible (change wpList _ _ _ _ _ _)
           refine wpList_symT (v := ?_) (a' := ?_) rfl rfl rfl (fun hb2 => ?_) ?_ ?_
           case refine_3 => (go_simp; try rfl)
           case refine_4 => (simp only [Act.put, List.setIfInBounds_toArray, List.set_cons_succ, List.set_cons_zero]; try rfl))
        | (with_reducible (change wpList _ _ _ _ _ _)
           refine wpList_symF (v := ?_) (a' := ?_) rfl rfl rfl (fun hb2 => ?_) ?_ ?_
           case refine_3 => (go_simp; try rfl)
           case refine_4 => (simp only [Act.put, List.setIfInBounds_toArray, List.set_cons_succ, List.set_cons_zero]; try rfl))
        | (with_reducible (change wpList _ _ _ _ _ _)
           refine wpList_symS (v := ?_) (a' := ?_) rfl rfl rfl (fun hb2 hb3 => ?_) ?_ ?_
           case refine_3 => (go_simp; try rfl)
           case refine_4 => (simp only [Act.put, List.setIfInBounds_toArray, List.set_cons_succ, List.set_cons_zero]; try rfl))
        | go_step)
      · rename_i h
        have hP : keyV kk seen = true := by
          rw [Hkv.out]
          revert h
          unfold Hid at *
          subst_vars
          intro h
          simp only [Bool.or_eq_true, decide_eq_true_eq] at h ⊢
          rcases h with (h | h) | h
          · exact .inl (.inl (by omega))
          · exact .inl (.inr h)
          · exact .inr (by omega)
        go_ret
        exact ⟨by show Ending.returned (Value.int .i64 11) = _; rw [← HI.out, Hst.out, if_pos hP], HB2.out⟩
      rename_i h
      have hN : keyV kk seen = false ∧ c = 0 := by
        rw [Hkv.out]
        revert h
        unfold Hid at *
        subst_vars
        intro h
        simp only [Bool.or_eq_false_iff, decide_eq_false_iff_not] at h ⊢
        exact ⟨⟨⟨by omega, h.1.2⟩, by omega⟩, by omega⟩
      have Hst2 : Hid (checkD (d.drop i) seen m = if checkV q false m ≠ 0 then checkV q false m else checkD (d.drop (i + 1)) (seen ++ [kk]) m) := Lib.hid (by rw [Hst.out, hN.1, if_neg (by simp)])
      have HM3 : Hid (MapS w2 w.heap.size (i + 1) (metF (seen ++ [kk]))) := Lib.hid (by
        have h1 := metF_snoc (seen := seen) (k := kk) (by rw [Hc.out]; exact hN.2)
        rw [← h1, Hc.out]; exact HM2.out)
      obtain ⟨r, hr⟩ : ∃ r, checkV q false m = r := ⟨_, rfl⟩
      rw [hr] at Hst2 Hcall
      clear h hr hN Hst HM2 hlook1 hupd
      go_wp2_with fail
      refine Hcall.out.mono ?_
      rintro e w3 ⟨rfl, hb3⟩
      have HB3 := Lib.hid (HB2.out.trans (hb3.mono HB2.out.size))
      have HM4 : Hid (MapS w3 w.heap.size (i + 1) (metF (seen ++ [kk]))) := Lib.hid (HM3.out.move (hb3.block _ HM3.out.lt))
      clear hb3 g0 g1 g2 g3 g4 g5 g6 e0 e1 e2 e3 e4 e5 e6 hlook2
      by_cases hr0 : ¬ r = 0
      · have hr2 : (r != 0) = true := by simpa using hr0
        go_wp2
        go_ret
        exact ⟨by show Ending.returned (Value.int .i64 r) = _; rw [← HI.out, Hst2.out, if_pos hr0], HB3.out⟩
      · replace hr0 := Decidable.not_not.1 hr0
        subst hr0
        go_wp2
        go_roundg (dl - (i + 1))
        case measure => omega
        case rel => exact ⟨i + 1, by go_num, by omega, by omega, (show Aside _ from (by show _ = _; rw [Htake.out, ← HI.out, Hst2.out, if_neg (fun h => h rfl)])), (by rw [Htake.out]; exact HM4.out), HB3.out⟩
    · have hdT : Hid (t = 0) := Lib.hid (by rw [← HI.out, List.drop_eq_nil_of_le (by have := Hdl.out; omega)]; rfl)
      clear HI
      go_wp2
      go_ret
      exact ⟨by show Ending.returned (Value.int .i64 0) = _; rw [hdT.out], HB.out⟩
end
end Go.Proofs.YtejgcnmbngdkiaaGreatDoor
/-
  The program's: what is wrong with a value.
-/
namespace Go.Proofs.YtejgcnmbngdkiaaGreatDoor
section
open Go.RowKit
set_option maxRecDepth 100000

set_option maxHeartbeats 8000000 in
theorem pcheck_any (v : Val) : PCheckC v := by
  induction v using Val.ind with
  | h v ihl ihd =>
    intro st m x w S hR hS hfit hm1 hm2
    obtain ⟨⟨hk, hn, hg, hs⟩, hL, hD⟩ := rd_iff.1 hR
    obtain ⟨hll, hlm⟩ := hL.len_le
    obtain ⟨hdl, hdm⟩ := hD.len_le
    have hone := fun W => checkAlone_any x v st m W hk hn hg hs hll hdl (by have := hfit.s; unfold maxLen; omega)
    clear hk hn hg hs
    obtain ⟨k, n, g, s, ⟨lp, ll, lc⟩, ⟨dp, dl, dc⟩⟩ := x
    clear hR
    rw [checkV_eq]
    have hfl : ∀ y ∈ v.l, Fit y 4000 ∧ m + 1 + sizeV y ≤ 100000 := fun y hy => ⟨hfit.l hy, by have := sizeV_l hy; omega⟩
    have hfd : ∀ p ∈ v.d, (Fit p.2 4000 ∧ m + 1 + sizeV p.2 ≤ 100000) ∧ p.1.size ≤ 100000 := fun p hp => ⟨⟨(hfit.d hp).1, by have := sizeV_d hp; omega⟩, by have := (hfit.d hp).2; omega⟩
    have Hfl := Lib.hid hfl
    have Hfd := Lib.hid hfd
    have hdl4 : v.d.length ≤ 4000 := by have h1 := sizeD_length v.d; have h2 := hfit.1; rw [sizeV_eq] at h2; omega
    have Hdl4 := Lib.hid hdl4
    clear hdl4
    have hm3 : m ≤ 99999 := by have := sizeV_pos v; omega
    clear hfl hfd hfit hm2
    obtain ⟨o, ho⟩ : ∃ o, oneV v st m = o := ⟨_, rfl⟩
    rw [ho]
    simp only [ho] at hone
    have Hone := Lib.hid hone
    clear ho hone
    obtain ⟨t, ht⟩ : ∃ t, (if o ≠ 0 then o else if checkL v.l (m + 1) ≠ 0 then checkL v.l (m + 1) else checkD v.d [] (m + 1)) = t := ⟨_, rfl⟩
    rw [ht]
    have Ht := Lib.hid ht
    clear ht
    obtain ⟨w1, hw1⟩ : ∃ w1, w.alloc (.cells #[.int .i64 k, .int .i64 n, .int .i64 g, .string s, .slice lp ll lc, .slice dp dl dc] 25) = w1 := ⟨_, rfl⟩
    have hv1 : VCell w1 w.heap.size ⟨k, n, g, s, ⟨lp, ll, lc⟩, ⟨dp, dl, dc⟩⟩ := by rw [← hw1]; exact heap_alloc_new w _
    have hb1 : Below w.heap.size w w1 := by rw [← hw1]; exact (Below.refl _ w).alloc (Nat.le_refl _) _
    have hlt : w.heap.size < w1.heap.size := by rw [← hw1]; simp
    have Hw1 := Lib.hid hw1
    have Hv1 := Lib.hid hv1
    have Hb1 := Lib.hid hb1
    have Hihl := Lib.hid ihl
    have Hihd := Lib.hid ihd
    dsimp only at hll hlm hdl hdm
    unfold maxLen at hlm hdm
    have Hll := Lib.hid hll
    have Hdl := Lib.hid hdl
    have HL := Lib.hid hL
    have HD := Lib.hid hD
    have HS := Lib.hid hS
    clear hw1 hv1 hb1 hL hD hS ihl ihd hll hdl
    by_cases ho : ¬ o = 0
    · have ho2 : (o != 0) = true := by simpa using ho
      show Calls Tryz.prog 24 #[.agg #[.int .i64 k, .int .i64 n, .int .i64 g, .string s, .slice lp ll lc, .slice dp dl dc], .bool st, .int .i64 m] w _
      go_enter Tryz.func24, Tryz.ntmps24
      iterate 20 go_step
      rw [Hw1.out]
      clear Hw1
      go_wp2_with (first | (refine VCell.load rfl (.tmp 3) rfl w.heap.size _ rfl Hv1.out ?_) | (go_at_call 42; refine (Hone.out w1).mono ?_; rintro e w2 ⟨rfl, hb⟩; have Hb2 := Lib.hid hb; clear hb))
      go_ret
      exact ⟨by show Ending.returned (Value.int .i64 o) = _; rw [← Ht.out, if_pos ho], Hb1.out.trans (Hb2.out.mono Hb1.out.size)⟩
    replace ho := Decidable.not_not.1 ho
    subst ho
    have Ht2 : Hid ((if checkL v.l (m + 1) ≠ 0 then checkL v.l (m + 1) else checkD v.d [] (m + 1)) = t) := Lib.hid (by rw [← Ht.out, if_neg (show ¬ ((0 : Int) ≠ 0) from fun h => h rfl)])
    clear Ht
    show Calls Tryz.prog 24 #[.agg #[.int .i64 k, .int .i64 n, .int .i64 g, .string s, .slice lp ll lc, .slice dp dl dc], .bool st, .int .i64 m] w _
    go_enter Tryz.func24, Tryz.ntmps24
    iterate 20 go_step
    rw [Hw1.out]
    clear Hw1
    go_wp2_with (first | (refine VCell.load rfl (.tmp 3) rfl w.heap.size _ rfl Hv1.out ?_) | (go_at_call 42; refine (Hone.out w1).mono ?_; rintro e w2 ⟨rfl, hb⟩; have Hb2 := Lib.hid hb; clear hb; have hc4 : w2.cell? ⟨w.heap.size, 4, none⟩ = some (.slice lp ll lc) := (Hv1.out.later Hb2.out hlt).at.2.2.2.2.1))
    have Hbw2 : Hid (Below w.heap.size w w2) := Lib.hid (Hb1.out.trans (Hb2.out.mono Hb1.out.size))
    have hlt2 : w.heap.size < w2.heap.size := Nat.lt_of_lt_of_le hlt Hb2.out.size
    have HV2 := Lib.hid (Hv1.out.later Hb2.out hlt)
    have HL2 := Lib.hid (HL.out.later (below_old HS.out Hbw2.out))
    have HD2 := Lib.hid (HD.out.later (below_old HS.out Hbw2.out))
    have HS2 := Lib.hid (old_later HS.out Hbw2.out)
    have hc5 : w2.cell? ⟨w.heap.size, 5, none⟩ = some (.slice dp dl dc) := HV2.out.at.2.2.2.2.2
    have HB0 : Aside (Below w2.heap.size w2 w2) := Below.refl _ _
    clear HL HD HS Hv1 hlt Hb2
    go_loopg [21] ll (fun f s21 wr => ∃ i : Nat, s21 = .int .i64 i ∧ i ≤ ll ∧ ll ≤ f + i ∧ Aside (checkL (v.l.drop i) (m + 1) = checkL v.l (m + 1)) ∧ Aside (Below w2.heap.size w2 wr))
    case atStart => exact ⟨0, rfl, Nat.zero_le _, Nat.le_refl _, rfl, HB0⟩
    case round =>
      obtain ⟨i, rfl, hi, hf, HI, HB⟩ := hrel
      have c5 := (HB.out.cell (p := ⟨w.heap.size, 5, none⟩) hlt2).trans hc5
      by_cases hil : i < ll
      · obtain ⟨lb, lo, ⟨yk, yn, yg, ys, ⟨ylp, yll, ylc⟩, ⟨ydp, ydl, ydc⟩⟩, hiv, h3, h4, h5, h6⟩ := (HL2.out.later (below_old HS2.out HB.out)).at hil
        subst h3
        obtain ⟨e0, e1, e2, e3, e4, e5⟩ := h5
        dsimp only at e0 e1 e2 e3 e4 e5
        have hbx : ∀ o : Obj, Below wr.heap.size wr (wr.alloc o) := fun o => (Below.refl _ wr).alloc (Nat.le_refl _) _
        have hc := Lib.hid (fun o => Hihl.out _ (List.getElem_mem hiv) false (m + 1) ⟨yk, yn, yg, ys, ⟨ylp, yll, ylc⟩, ⟨ydp, ydl, ydc⟩⟩ (wr.alloc o) S (h6.later (below_old (old_later HS2.out HB.out) (hbx o))) (old_later (old_later HS2.out HB.out) (hbx o)) (Hfl.out _ (List.getElem_mem hiv)).1 (by omega) (Hfl.out _ (List.getElem_mem hiv)).2)
        have HBX := Lib.hid hbx
        have Hst : Hid (checkL (v.l.drop i) (m + 1) = if checkV v.l[i] false (m + 1) ≠ 0 then checkV v.l[i] false (m + 1) else checkL (v.l.drop (i + 1)) (m + 1)) := Lib.hid (by rw [drop_cons hiv, checkL])
        obtain ⟨r, hr⟩ : ∃ r, checkV v.l[i] false (m + 1) = r := ⟨_, rfl⟩
        simp only [hr] at hc Hst
        clear hr h4 h6 hbx
        go_wp2_with fail
        refine (hc.out _).mono ?_
        rintro e w3 ⟨rfl, hb⟩
        have HB2 : Aside (Below w2.heap.size w2 w3) := (HB.out.trans ((HBX.out _).mono HB.out.size)).trans (hb.mono (Nat.le_trans HB.out.size (HBX.out _).size))
        clear hb hc HB HBX e0 e1 e2 e3 e4 e5 c5
        by_cases hr : ¬ r = 0
        · have hr2 : (r != 0) = true := by simpa using hr
          go_wp2
          go_ret
          refine ⟨?_, (Hbw2.out).trans (HB2.out.mono Hbw2.out.size)⟩
          have e1 : checkL v.l (m + 1) = r := by rw [← HI.out, Hst.out, if_pos hr]
          show Ending.returned (Value.int .i64 r) = _
          rw [← Ht2.out, e1, if_pos hr]
        · replace hr := Decidable.not_not.1 hr
          subst hr
          go_wp2
          go_roundg (ll - (i + 1))
          case measure => omega
          case rel => exact ⟨i + 1, by go_num, by omega, by omega, (show Aside _ from (by show _ = _; rw [← HI.out, Hst.out, if_neg (fun h => h rfl)])), HB2⟩
      · have hlT : Hid (checkL v.l (m + 1) = 0) := Lib.hid (by rw [← HI.out, List.drop_eq_nil_of_le (by have := Hll.out; omega)]; rfl)
        have Ht3 : Hid (checkD v.d [] (m + 1) = t) := Lib.hid (by rw [← Ht2.out, hlT.out, if_neg (fun h => h rfl)])
        have hcp := Lib.hid (cpairs_of v.d Hihd.out (m + 1) Hfd.out Hdl4.out (by omega) ⟨dp, dl, dc⟩ wr S (HD2.out.later (below_old HS2.out HB.out)) (old_later HS2.out HB.out))
        clear HI Ht2 hlT
        go_wp2_with fail
        refine hcp.out.mono ?_
        rintro e w3 ⟨rfl, hb⟩
        have HB2 : Aside (Below w2.heap.size w2 w3) := HB.out.trans (hb.mono HB.out.size)
        clear hb hcp c5
        go_wp2
        go_ret
        exact ⟨by show Ending.returned (Value.int .i64 (checkD v.d [] (m + 1))) = _; rw [Ht3.out], (Hbw2.out).trans (HB2.out.mono Hbw2.out.size)⟩

set_option maxHeartbeats 4000000 in
theorem pCheck_any (v : Val) (st : Bool) (x : Hv) (w : World) (S : Nat → Prop) (hR : Rd w S x v) (hS : ∀ k, S k → k < w.heap.size) (hfit : Fit v 4000) :
    Calls Tryz.prog 12 #[.agg x.arr, .bool st] w fun e w' => e = .returned (.int .i64 (checkV v st 0)) ∧ Below w.heap.size w w' := by
  obtain ⟨k, n, g, s, ⟨lp, ll, lc⟩, ⟨dp, dl, dc⟩⟩ := x
  obtain ⟨w1, hw1⟩ : ∃ w1, w.alloc (.cells #[.int .i64 k, .int .i64 n, .int .i64 g, .string s, .slice lp ll lc, .slice dp dl dc] 25) = w1 := ⟨_, rfl⟩
  have Hv1 : Hid (VCell w1 w.heap.size ⟨k, n, g, s, ⟨lp, ll, lc⟩, ⟨dp, dl, dc⟩⟩) := Lib.hid (by rw [← hw1]; exact heap_alloc_new w _)
  have hb1 : Below w.heap.size w w1 := by rw [← hw1]; exact (Below.refl _ w).alloc (Nat.le_refl _) _
  have Hc := Lib.hid (pcheck_any v st 0 _ w1 S (hR.later (below_old hS hb1)) (old_later hS hb1) hfit (Int.le_refl _) (by have := hfit.1; omega))
  have Hb1 := Lib.hid hb1
  have Hw1 := Lib.hid hw1
  clear hw1 hb1 hR hS hfit
  show Calls Tryz.prog 12 #[.agg #[.int .i64 k, .int .i64 n, .int .i64 g, .string s, .slice lp ll lc, .slice dp dl dc], .bool st] w _
  go_enter Tryz.func12, Tryz.ntmps12
  iterate 20 go_step
  rw [Hw1.out]
  go_wp2_with (first | (refine VCell.load rfl (.tmp 2) rfl w.heap.size _ rfl Hv1.out ?_) | (go_at_call 24; refine Hc.out.mono ?_; rintro e w2 ⟨rfl, hb⟩; have Hb2 := Lib.hid hb; clear hb))
  go_ret
  exact ⟨rfl, Hb1.out.trans (Hb2.out.mono Hb1.out.size)⟩
end
end Go.Proofs.YtejgcnmbngdkiaaGreatDoor
