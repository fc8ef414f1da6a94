/-
  The program's: what is wrong with pairs.
-/
import Derived.Test.YtljgjjbmgjfbcaaDoorMZero
import Derived.Test.YtljgjjbmgjfbcaaDoorMBz
import Derived.Test.YtljgjjbmgjfbcaaDoorVRCheck
import Derived.Carry
namespace Go.Proofs.YtljgjjbmgjfbcaaDoor
open Go.RowKit
set_option maxRecDepth 100000
attribute [local go_sem] symV_true

def PCheckC (v : Val) : Prop := ∀ (st : Bool) (m : Int) (x : Hv) (w : World) (S : Nat → Prop), Rd w S x v → (∀ k, S k → k < w.heap.size) → Fit v 4000 → 0 ≤ m → m + sizeV v ≤ 100000 →
    Calls Tryd.prog 33 #[.agg x.arr, .bool st, .int .i64 m] w fun e w' => e = .returned (.int .i64 (checkV v st m)) ∧ Below w.heap.size w w'
/-- How often a key was met among those. -/
def metF (seen : List ByteArray) (s : ByteArray) : Int := if seen.any (fun x => decide (x = s)) = true then 1 else 0
theorem keyV_met (k : ByteArray) (seen : List ByteArray) : keyV k seen = (decide (127 < k.size) || zeroS k || decide (0 < metF seen k)) := by
  unfold keyV metF
  congr 1
  cases seen.any (fun x => decide (x = k)) <;> rfl
theorem metF_snoc {seen : List ByteArray} {k : ByteArray} (h : metF seen k = 0) : (fun u => if u = k then metF seen k + 1 else metF seen u) = metF (seen ++ [k]) := by
  funext u
  rw [h]
  unfold metF at h ⊢
  rw [List.any_append]
  by_cases e : u = k
  · subst e; simp
  · rw [if_neg e]
    have : ([k].any fun x => decide (x = u)) = false := by simp; exact fun h => e h.symm
    rw [this, Bool.or_false]
theorem below_turned {B : Nat} {w w' w'' : World} {m : Nat} (h : Below B w w') (hg : w'.grownBy w'' (some m)) (hm : B ≤ m) (hB : B ≤ w'.heap.size) : Below B w w'' := h.grown hg hB (fun k e => by injection e with e; omega)

set_option maxHeartbeats 8000000 in
theorem cpairs_of (d : Prs) (ih : ∀ p ∈ d, PCheckC p.2) (m : Int) (hfit : ∀ p ∈ d, (Fit p.2 4000 ∧ m + sizeV p.2 ≤ 100000) ∧ p.1.size ≤ 100000) (hlen : d.length ≤ 4000) (hm : 0 ≤ m) (sl : Sl) (w : World) (S : Nat → Prop) (hD : RdD w S sl d) (hS : ∀ k, S k → k < w.heap.size) :
    Calls Tryd.prog 54 #[.slice sl.p sl.len sl.cap, .int .i64 m] w fun e w' => e = .returned (.int .i64 (checkD d [] m)) ∧ Below w.heap.size w w' := by
  obtain ⟨dp, dl, dc⟩ := sl
  obtain ⟨hdl, hdm⟩ := hD.len_le
  dsimp only at hdl hdm
  unfold maxLen at hdm
  obtain ⟨t, ht⟩ : ∃ t, checkD d [] m = t := ⟨_, rfl⟩
  rw [ht]
  have hdm2 : dl ≤ 4000 := by omega
  have Ht := Lib.hid ht
  have Hdl := Lib.hid hdl
  have HD := Lib.hid hD
  have HS := Lib.hid hS
  have Hih := Lib.hid ih
  have Hfit := Lib.hid hfit
  have HM0 := Lib.hid (MapS.made w)
  have HB0 := Lib.hid ((Below.refl w.heap.size w).alloc (Nat.le_refl _) (.map #[] 0))
  have Hf0 : Hid ((fun _ => (0 : Int)) = metF ((d.take 0).map Prod.fst)) := Lib.hid (by funext s; simp [metF])
  clear ht hdl hD hS ih hfit hlen hdm
  show Calls Tryd.prog 54 #[.slice dp dl dc, .int .i64 m] w _
  go_enter Tryd.func54, Tryd.ntmps54
  have hmm := fun W => @run_makeMap Tryd.prog 87 W
  go_wp2_with fail
  clear hmm
  go_loopg [12] dl (fun f s12 wr => ∃ i : Nat, s12 = .int .i64 i ∧ i ≤ dl ∧ dl ≤ f + i ∧ Aside (checkD (d.drop i) ((d.take i).map Prod.fst) m = t) ∧ Aside (MapS wr w.heap.size i (metF ((d.take i).map Prod.fst))) ∧ Aside (Below w.heap.size w wr))
  case atStart => exact ⟨0, rfl, Nat.zero_le _, Nat.le_refl _, Ht.out, by rw [← Hf0.out]; exact HM0.out, HB0.out⟩
  case round =>
    obtain ⟨i, rfl, hi, hf, HI, HM, HB⟩ := hrel
    by_cases hil : i < dl
    · obtain ⟨lb, lo, ⟨kk, ⟨yk, yn, yg, ys, ⟨ylp, yll, ylc⟩, ⟨ydp, ydl, ydc⟩⟩⟩, hiv, h3, h4, ⟨e0, h5⟩, hky, h6⟩ := (HD.out.later (below_old HS.out HB.out)).at hil
      subst h3
      obtain ⟨e1, e2, e3, e4, e5, e6⟩ := h5
      dsimp only at e0 e1 e2 e3 e4 e5 e6 h6 hky
      have hkz : kk.size ≤ 100000 := by rw [hky]; exact (Hfit.out _ (List.getElem_mem hiv)).2
      have hst : checkD (d.drop i) ((d.take i).map Prod.fst) m = if keyV kk ((d.take i).map Prod.fst) = true then 11 else if checkV (d[i]).2 false m ≠ 0 then checkV (d[i]).2 false m else checkD (d.drop (i + 1)) ((d.take (i + 1)).map Prod.fst) m := by
        rw [drop_cons hiv, List.take_add_one, List.getElem?_eq_getElem hiv, Option.toList_some, List.map_append, hky]
        generalize d[i] = p
        obtain ⟨a, b⟩ := p
        rw [checkD]; rfl
      have htake : (d.take (i + 1)).map Prod.fst = (d.take i).map Prod.fst ++ [kk] := by
        rw [List.take_add_one, List.getElem?_eq_getElem hiv, Option.toList_some, List.map_append, hky]; rfl
      obtain ⟨seen, hseen⟩ : ∃ l, (d.take i).map Prod.fst = l := ⟨_, rfl⟩
      rw [hseen] at hst HI HM htake
      rw [htake] at hst
      obtain ⟨q, hq⟩ : ∃ q, (d[i]).2 = q := ⟨_, rfl⟩
      rw [hq] at hst h6
      have hihq : PCheckC q := hq ▸ Hih.out _ (List.getElem_mem hiv)
      have hfq : Fit q 4000 ∧ m + sizeV q ≤ 100000 := hq ▸ (Hfit.out _ (List.getElem_mem hiv)).1
      have hmet : metF seen kk = 0 ∨ metF seen kk = 1 := by unfold metF; split <;> simp
      have hkv := keyV_met kk seen
      obtain ⟨c, hc⟩ : ∃ c, metF seen kk = c := ⟨_, rfl⟩
      rw [hc] at hmet hkv
      have hmm : w.heap.size < wr.heap.size := HM.out.lt
      obtain ⟨w1, hw1⟩ : ∃ w1, wr.alloc (.cells #[.string kk, .int .i64 yk, .int .i64 yn, .int .i64 yg, .string ys, .slice ylp yll ylc, .slice ydp ydl ydc] 41) = w1 := ⟨_, rfl⟩
      have hM1 : MapS w1 w.heap.size i (metF seen) := by rw [← hw1]; exact HM.out.move (heap_alloc_old _ _ hmm)
      have hB1 : Below w.heap.size w w1 := by rw [← hw1]; exact HB.out.alloc (Nat.le_of_lt hmm) _
      have hP1 : ∀ j, w1.cell? ⟨wr.heap.size, j, none⟩ = (#[.string kk, .int .i64 yk, .int .i64 yn, .int .i64 yg, .string ys, .slice ylp yll ylc, .slice ydp ydl ydc] : Array Value)[j]? := fun j => by rw [← hw1]; exact World.cell?_alloc_new _ _ _ _
      have hlt1 : wr.heap.size < w1.heap.size := by rw [← hw1]; simp
      have hlook1 := hM1.look kk (by unfold maxLen; omega)
      rw [hc] at hlook1
      obtain ⟨w2, hupd, hM2, hg2⟩ := hM1.store (by omega) kk (by unfold maxLen; omega) (c + 1) (by omega)
      have hlook2 := hM2.look kk (by unfold maxLen; omega)
      rw [if_pos rfl] at hlook2
      have hB2 := below_turned hB1 hg2 (Nat.le_refl _) hB1.size
      have hP2 : ∀ j, w2.cell? ⟨wr.heap.size, j, none⟩ = (#[.string kk, .int .i64 yk, .int .i64 yn, .int .i64 yg, .string ys, .slice ylp yll ylc, .slice ydp ydl ydc] : Array Value)[j]? := fun j => (cell_of_block (hg2.block _ hlt1 (by intro e; injection e with e; omega)) j).trans (hP1 j)
      have k0 : w1.cell? ⟨wr.heap.size, 0, none⟩ = some (.string kk) := hP1 0
      have g0 : w2.cell? ⟨wr.heap.size, 0, none⟩ = some (.string kk) := hP2 0
      have g1 : w2.cell? ⟨wr.heap.size, 1, none⟩ = some (.int .i64 yk) := hP2 1
      have g2 : w2.cell? ⟨wr.heap.size, 2, none⟩ = some (.int .i64 yn) := hP2 2
      have g3 : w2.cell? ⟨wr.heap.size, 3, none⟩ = some (.int .i64 yg) := hP2 3
      have g4 : w2.cell? ⟨wr.heap.size, 4, none⟩ = some (.string ys) := hP2 4
      have g5 : w2.cell? ⟨wr.heap.size, 5, none⟩ = some (.slice ylp yll ylc) := hP2 5
      have g6 : w2.cell? ⟨wr.heap.size, 6, none⟩ = some (.slice ydp ydl ydc) := hP2 6
      have hsz2 : wr.heap.size ≤ w2.heap.size := Nat.le_trans (Nat.le_of_lt hlt1) hg2.size
      have hcall := hihq false m ⟨yk, yn, yg, ys, ⟨ylp, yll, ylc⟩, ⟨ydp, ydl, ydc⟩⟩ w2 S (h6.later (fun k hk => by
        have h1 := HS.out k hk
        rw [hB2.block k h1, HB.out.block k h1])) (fun k hk => Nat.lt_of_lt_of_le (HS.out k hk) hB2.size) hfq.1 hm hfq.2
      have HW1 := Lib.hid hw1
      have Hst := Lib.hid hst
      have Hkv := Lib.hid hkv
      have Hcall := Lib.hid hcall
      have HB2 := Lib.hid hB2
      have HM2 := Lib.hid hM2
      have Htake := Lib.hid htake
      have Hseen := Lib.hid hseen
      have Hmet := Lib.hid hmet
      have Hc := Lib.hid hc
      clear hw1 hst hkv hcall hB1 hB2 hM1 hM2 hP1 hP2 htake hseen h4 h6 hky hq hihq hfq hmet hc hg2 HM HB
      have hc0 : 0 ≤ c ∧ c ≤ 1 := by have := Hmet.out; omega
      iterate 40 go_step
      rw [HW1.out]
      repeat (first
        | (with_reducible (change wpList _ _ _ _ _ _)
           refine wpList_callF (v := .bool (zeroS kk)) (a' := ?_) (f := 74) (args := #[.string kk]) rfl rfl rfl (fun hb2 => ?_) (fun _ => hasZero_any kk _) ?_ ?_
           case refine_2 => go_simp
           case refine_3 => (simp only [Act.put, List.setIfInBounds_toArray, List.set_cons_succ, List.set_cons_zero]; try rfl))
        | (with_reducible (change wpList _ _ _ _ _ _)
           refine wpList_pickAndF (A := ?_) rfl rfl rfl rfl rfl rfl rfl (fun r => ?_) (fun r hr => ?_)
           case refine_2 => (simp only [Act.put, List.setIfInBounds_toArray, List.set_cons_succ, List.set_cons_zero]; try rfl))
        | (with_reducible (change wpList _ _ _ _ _ _)
           refine wpList_pickAnd (A := ?_) rfl rfl rfl rfl rfl (fun r => ?_) (fun r hr => ?_)
           case refine_2 => (simp only [Act.put, List.setIfInBounds_toArray, List.set_cons_succ, List.set_cons_zero]; try rfl))
        | (with_reducible (change wpList _ _ _ _ _ _)
           refine wpList_pickOr (A := ?_) rfl rfl rfl rfl rfl (fun r => ?_) (fun r hr => ?_)
           case refine_2 => (simp only [Act.put, List.setIfInBounds_toArray, List.set_cons_succ, List.set_cons_zero]; try rfl))
        | (with_reducible (change wpList _ _ _ _ _ _)
           refine wpList_symT (v := ?_) (a' := ?_) rfl rfl rfl (fun hb2 => ?_) ?_ ?_
           case refine_3 => (go_simp; try rfl)
           case refine_4 => (simp only [Act.put, List.setIfInBounds_toArray, List.set_cons_succ, List.set_cons_zero]; try rfl))
        | (with_reducible (change wpList _ _ _ _ _ _)
           refine wpList_symF (v := ?_) (a' := ?_) rfl rfl rfl (fun hb2 => ?_) ?_ ?_
           case refine_3 => (go_simp; try rfl)
           case refine_4 => (simp only [Act.put, List.setIfInBounds_toArray, List.set_cons_succ, List.set_cons_zero]; try rfl))
        | (with_reducible (change wpList _ _ _ _ _ _)
           refine wpList_symS (v := ?_) (a' := ?_) rfl rfl rfl (fun hb2 hb3 => ?_) ?_ ?_
           case refine_3 => (go_simp; try rfl)
           case refine_4 => (simp only [Act.put, List.setIfInBounds_toArray, List.set_cons_succ, List.set_cons_zero]; try rfl))
        | go_step)
      · rename_i h
        have hP : keyV kk seen = true := by
          rw [Hkv.out]
          revert h
          unfold Hid at *
          subst_vars
          intro h
          simp only [Bool.or_eq_true, decide_eq_true_eq] at h ⊢
          rcases h with (h | h) | h
          · exact .inl (.inl (by omega))
          · exact .inl (.inr h)
          · exact .inr (by omega)
        go_ret
        exact ⟨by show Ending.returned (Value.int .i64 11) = _; rw [← HI.out, Hst.out, if_pos hP], HB2.out⟩
      rename_i h
      have hN : keyV kk seen = false ∧ c = 0 := by
        rw [Hkv.out]
        revert h
        unfold Hid at *
        subst_vars
        intro h
        simp only [Bool.or_eq_false_iff, decide_eq_false_iff_not] at h ⊢
        exact ⟨⟨⟨by omega, h.1.2⟩, by omega⟩, by omega⟩
      have Hst2 : Hid (checkD (d.drop i) seen m = if checkV q false m ≠ 0 then checkV q false m else checkD (d.drop (i + 1)) (seen ++ [kk]) m) := Lib.hid (by rw [Hst.out, hN.1, if_neg (by simp)])
      have HM3 : Hid (MapS w2 w.heap.size (i + 1) (metF (seen ++ [kk]))) := Lib.hid (by
        have h1 := metF_snoc (seen := seen) (k := kk) (by rw [Hc.out]; exact hN.2)
        rw [← h1, Hc.out]; exact HM2.out)
      obtain ⟨r, hr⟩ : ∃ r, checkV q false m = r := ⟨_, rfl⟩
      rw [hr] at Hst2 Hcall
      clear h hr hN Hst HM2 hlook1 hupd
      go_wp2_with fail
      refine Hcall.out.mono ?_
      rintro e w3 ⟨rfl, hb3⟩
      have HB3 := Lib.hid (HB2.out.trans (hb3.mono HB2.out.size))
      have HM4 : Hid (MapS w3 w.heap.size (i + 1) (metF (seen ++ [kk]))) := Lib.hid (HM3.out.move (hb3.block _ HM3.out.lt))
      clear hb3 g0 g1 g2 g3 g4 g5 g6 e0 e1 e2 e3 e4 e5 e6 hlook2
      by_cases hr0 : ¬ r = 0
      · have hr2 : (r != 0) = true := by simpa using hr0
        go_wp2
        go_ret
        exact ⟨by show Ending.returned (Value.int .i64 r) = _; rw [← HI.out, Hst2.out, if_pos hr0], HB3.out⟩
      · replace hr0 := Decidable.not_not.1 hr0
        subst hr0
        go_wp2
        go_roundg (dl - (i + 1))
        case measure => omega
        case rel => exact ⟨i + 1, by go_num, by omega, by omega, (show Aside _ from (by show _ = _; rw [Htake.out, ← HI.out, Hst2.out, if_neg (fun h => h rfl)])), (by rw [Htake.out]; exact HM4.out), HB3.out⟩
    · have hdT : Hid (t = 0) := Lib.hid (by rw [← HI.out, List.drop_eq_nil_of_le (by have := Hdl.out; omega)]; rfl)
      clear HI
      go_wp2
      go_ret
      exact ⟨by show Ending.returned (Value.int .i64 0) = _; rw [hdT.out], HB.out⟩
end Go.Proofs.YtljgjjbmgjfbcaaDoor
