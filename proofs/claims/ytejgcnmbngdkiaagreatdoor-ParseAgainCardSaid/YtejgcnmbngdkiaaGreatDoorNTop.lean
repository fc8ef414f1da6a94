/-
  PaVal, PaWhole: texts merged.
-/
import Derived.Test.YtejgcnmbngdkiaaGreatDoorNDict
import Derived.Test.YtejgcnmbngdkiaaGreatDoorPaHold
import Derived.Test.YtejgcnmbngdkiaaGreatDoorVPPlain
/-
  parse.Value.
-/
namespace Go.Proofs.YtejgcnmbngdkiaaGreatDoor
section
open Go.RowKit
set_option maxRecDepth 100000
attribute [local go_sem] undef

theorem begun_all (s : ByteArray) (hs : s.size ≤ 100000000) (f : Nat) : BegunC s f := by
  induction f using Nat.strongRecOn with
  | _ f ih =>
    cases f with
    | zero => intro t d b w _ _ hc _; rw [begunP] at hc; exact absurd rfl hc
    | succ f => exact begun_of s f hs (phold_of s f (plist_of s f hs fun g hg => ih g (by omega)) (dict_of s f hs fun g hg => read_of s g hs (ih g (by omega))))
theorem run_store_val {w : World} {q : Nat} {x : Hv} (h : VCell w q x) (y : Hv) : Sem.run Tryz.prog (storeCells ⟨q, 0, none⟩ y.arr.toList) w = .ok () (w.setRow q y.arr) := by
  have h := run_storeCells_from (P := Tryz.prog) q 25 y.arr.toList 0 _ _ h rfl (fun v hv => (Array.all_eq_true_iff_forall_mem.1 y.arr_one) v (by simpa using hv))
  simpa using h

/-- A store in another block keeps cells. -/
theorem keep7 {w : World} {b c q : Nat} (hb : b ≠ q) (hc : c ≠ q) (cs : Array Value) {x x0 x1 x2 x3 x4 x5 : Value}
    (h : w.cell? ⟨b, 1, none⟩ = some x ∧ w.cell? ⟨c, 0, none⟩ = some x0 ∧ w.cell? ⟨c, 1, none⟩ = some x1 ∧ w.cell? ⟨c, 2, none⟩ = some x2 ∧ w.cell? ⟨c, 3, none⟩ = some x3 ∧ w.cell? ⟨c, 4, none⟩ = some x4 ∧ w.cell? ⟨c, 5, none⟩ = some x5) :
    (w.setRow q cs).cell? ⟨b, 1, none⟩ = some x ∧ (w.setRow q cs).cell? ⟨c, 0, none⟩ = some x0 ∧ (w.setRow q cs).cell? ⟨c, 1, none⟩ = some x1 ∧ (w.setRow q cs).cell? ⟨c, 2, none⟩ = some x2 ∧ (w.setRow q cs).cell? ⟨c, 3, none⟩ = some x3 ∧ (w.setRow q cs).cell? ⟨c, 4, none⟩ = some x4 ∧ (w.setRow q cs).cell? ⟨c, 5, none⟩ = some x5 := by
  have e := fun j => cell_of_block (w := w) (w' := w.setRow q cs) (setRow_other w q b cs hb) j
  have e2 := fun j => cell_of_block (w := w) (w' := w.setRow q cs) (setRow_other w q c cs hc) j
  simp only [e, e2]
  exact h
/-- What Value tells. -/
def ValC (s : ByteArray) (a : Int) (R : Ps) (w : World) : Prop :=
  Calls Tryz.prog 9 #[.string s, .int .i64 a] w fun e w' => ∃ y : Hv, e = .returned (.tuple #[.agg y.arr, .int .i64 (R.fin : Int), .int .i64 R.code]) ∧ Rd w' (fun k => w.heap.size ≤ k) y R.v ∧ Below w.heap.size w w'
set_option maxHeartbeats 8000000 in
theorem pvalue_any (s : ByteArray) (a : Int) (w : World) (hs : s.size ≤ 100000000) (hfit : (readP s.data.toList (2 * s.data.toList.length + 1) (placeN s.data.toList a) 0).code = 0 → Fit (readP s.data.toList (2 * s.data.toList.length + 1) (placeN s.data.toList a) 0).v 4000) :
    ValC s a (valueP s.data.toList (placeN s.data.toList a)) w := by
  have hk := placeN_le s.data.toList a
  obtain ⟨k, hka⟩ : ∃ k, placeN s.data.toList a = k := ⟨_, rfl⟩
  have ha : nextI s.data.toList a = nextN s.data.toList k := by unfold nextI; rw [hka]
  rw [hka] at hk hfit ⊢
  have hfuel := read_fuel s.data.toList k hk
  obtain ⟨w1, hw1⟩ : ∃ w1, w.alloc (.cells #[.int .i64 0, .int .i64 0, .int .i64 0, .string ⟨#[]⟩, .slice none 0 0, .slice none 0 0] 25) = w1 := ⟨_, rfl⟩
  obtain ⟨w2, hw2⟩ : ∃ w2, w1.alloc (.cells #[.string s, .int .i64 a, .int .i64 0] 58) = w2 := ⟨_, rfl⟩
  have hs1 : w1.heap.size = w.heap.size + 1 := by rw [← hw1]; simp
  have hb1 : Below w.heap.size w w1 := by rw [← hw1]; exact (Below.refl _ w).alloc (Nat.le_refl _) _
  have hb2 : Below w1.heap.size w1 w2 := by rw [← hw2]; exact (Below.refl _ w1).alloc (Nat.le_refl _) _
  have hs2 : w2.heap.size = w.heap.size + 1 + 1 := by rw [← hw2]; simp [hs1]
  have HV := Lib.hid (show VCell w2 w.heap.size .nil from (show VCell w1 w.heap.size .nil by rw [← hw1]; exact heap_alloc_new w _).later hb2 (by omega))
  have hr2 : RdrAt w2 (w.heap.size + 1) s a 0 := by rw [← hs1, ← hw2]; exact heap_alloc_new w1 _
  have HB := Lib.hid (show Below w.heap.size w w2 from hb1.trans (hb2.mono (by omega)))
  have HN := Lib.hid (read_at s (2 * s.data.toList.length + 1) hs (begun_all s hs _) a k 0 (w.heap.size + 1) w2 ha hk (by omega) hfuel hr2)
  have Hw1 := Lib.hid hw1
  have Hw2 := Lib.hid hw2
  have hval := @value_ok s.data.toList k
  have hverr := @value_err s.data.toList k
  obtain ⟨P, hP⟩ : ∃ P, readP s.data.toList (2 * s.data.toList.length + 1) k 0 = P := ⟨_, rfl⟩
  rw [hP] at hfit HN hval hverr
  clear hw1 hw2 hb1 hb2 hr2 ha hka hfuel hP
  unfold ValC
  by_cases h0 : P.code = 0
  · rw [hval h0]
    have hfp := hfit h0
    have HPl := Lib.hid (fun (y : Hv) (W w5 : World) (hR : Rd w5 (fun k => w2.heap.size ≤ k) y P.v) (hb : Below w5.heap.size w5 W) => pplain_any P.v y W (fun k => w2.heap.size ≤ k ∧ k < w5.heap.size) (hR.bound.later (fun k hk => hb.block k hk.2)) (fun k hk => Nat.lt_of_lt_of_le hk.2 hb.size) hfp)
    clear hval hverr hfit hfp
    go_enter Tryz.func9, Tryz.ntmps9
    iterate 10 go_step
    rw [Hw1.out]
    go_wp2_with fail
    rw [Hw2.out]
    refine HN.out.mono ?_
    rintro e w5 ⟨⟨yk, yn, yg, ys, ⟨ylp, yll, ylc⟩, ⟨ydp, ydl, ydc⟩⟩, a5, he, hr5, hb5, hv5⟩
    obtain ⟨rfl, hy5⟩ := hv5 h0
    rw [h0] at he
    replace he : e = .returned (.tuple #[.agg #[.int .i64 yk, .int .i64 yn, .int .i64 yg, .string ys, .slice ylp yll ylc, .slice ydp ydl ydc], .int .i64 0]) := he
    subst he
    have HR5 := Lib.hid hr5
    have Hy5 := Lib.hid hy5
    have HV5 := Lib.hid (HV.out.same (hb5.out HV.out.lt (by omega)))
    have HB5 := Lib.hid (show Below w.heap.size w w5 from HB.out.trans ((hb5.below (by omega) HB.out.size)))
    have hz5 := hb5.size
    clear hr5 hb5 hv5 hy5
    go_wp2_with (refine VCell.store rfl rfl _ _ rfl w5.heap.size .nil ⟨yk, yn, yg, ys, ⟨ylp, yll, ylc⟩, ⟨ydp, ydl, ydc⟩⟩ rfl rfl (VCell.new w5 .nil) ?_; intro w6 HC6 HK6 HB6 HZ6)
    have hb56 : Below w5.heap.size w5 w6 := ((Below.refl _ w5).alloc (Nat.le_refl _) _).trans HB6.out
    have HR6 := Lib.hid (HR5.out.later hb56 HR5.out.lt)
    have HV6 := Lib.hid (HV5.out.later hb56 HV5.out.lt)
    have Hb56 := Lib.hid hb56
    have HB56 := Lib.hid (HB5.out.trans (hb56.mono HB5.out.size))
    obtain ⟨g0, g1, g2, g3, g4, g5⟩ := HC6.out.at
    dsimp only at g0 g1 g2 g3 g4 g5
    simp only [Nat.zero_add] at g1 g2 g3 g4 g5
    have p1 := HR6.out.cell 1
    simp only [List.getElem?_cons_zero, List.getElem?_cons_succ] at p1
    have HP2 : Hid (Calls Tryz.prog 11 #[.agg #[.int .i64 yk, .int .i64 yn, .int .i64 yg, .string ys, .slice ylp yll ylc, .slice ydp ydl ydc]] w6.drew fun e w' => ∃ z : Hv, e = .returned (.agg z.arr) ∧ Rd w' (fun k => w6.heap.size ≤ k) z (plainV P.v) ∧ Below w6.heap.size w6.drew w') := Lib.hid (HPl.out ⟨yk, yn, yg, ys, ⟨ylp, yll, ylc⟩, ⟨ydp, ydl, ydc⟩⟩ w6.drew w5 Hy5.out Hb56.out.drew)
    go_region_held3 (fun w' => w'.cell? ⟨w.heap.size + 1, 1, none⟩ = some (.int .i64 (P.fin : Int)) ∧ w'.cell? ⟨w5.heap.size, 0, none⟩ = some (.int .i64 yk) ∧ w'.cell? ⟨w5.heap.size, 1, none⟩ = some (.int .i64 yn) ∧ w'.cell? ⟨w5.heap.size, 2, none⟩ = some (.int .i64 yg) ∧ w'.cell? ⟨w5.heap.size, 3, none⟩ = some (.string ys) ∧ w'.cell? ⟨w5.heap.size, 4, none⟩ = some (.slice ylp yll ylc) ∧ w'.cell? ⟨w5.heap.size, 5, none⟩ = some (.slice ydp ydl ydc))
      (first | exact ⟨p1, g0, g1, g2, g3, g4, g5⟩ | exact J7 | exact JZ | go_keep)
      (first | (go_simp; go_at_call 11; (with_reducible refine HP2.out.mono ?_); rintro e w7 ⟨z, rfl, hz, hb⟩; have hb67 : Below w6.heap.size w6 w7 := ⟨hb.os, hb.tape, hb.output, hb.size, hb.block⟩; have HB67 := Lib.hid hb67; have Hz := Lib.hid hz; have c7 := HC6.out.later hb67 HC6.out.lt; have q7 := HR6.out.later hb67 HR6.out.lt; have v7 := HV6.out.later hb67 HV6.out.lt; have hst := run_store_val v7 z; have HV7 := Lib.hid v7; have J7 : w7.cell? ⟨w.heap.size + 1, 1, none⟩ = some (.int .i64 (P.fin : Int)) ∧ w7.cell? ⟨w5.heap.size, 0, none⟩ = some (.int .i64 yk) ∧ w7.cell? ⟨w5.heap.size, 1, none⟩ = some (.int .i64 yn) ∧ w7.cell? ⟨w5.heap.size, 2, none⟩ = some (.int .i64 yg) ∧ w7.cell? ⟨w5.heap.size, 3, none⟩ = some (.string ys) ∧ w7.cell? ⟨w5.heap.size, 4, none⟩ = some (.slice ylp yll ylc) ∧ w7.cell? ⟨w5.heap.size, 5, none⟩ = some (.slice ydp ydl ydc) := ⟨q7.cell 1, c7.cell 0, c7.cell 1, c7.cell 2, c7.cell 3, c7.cell 4, c7.cell 5⟩; have JZ := keep7 (q := w.heap.size) (by have := HV.out.lt; omega) (by omega) z.arr J7; clear hb hz c7 q7 v7))
    have hvz : VCell (w7.setRow w.heap.size z.arr) w.heap.size z := setRow_heap _ _ _ _ _ _ HV7.out
    have hrz := Hz.out.later (w' := w7.setRow w.heap.size z.arr) (fun k hk => setRow_other _ _ _ _ (by have := HV6.out.lt; omega))
    have hbz : Below w.heap.size w (w7.setRow w.heap.size z.arr) := (HB56.out.trans (HB67.out.mono HB56.out.size)).trans ⟨rfl, rfl, rfl, by simp, fun k hk => setRow_other _ _ _ _ (by omega)⟩
    have hz6 := HB56.out.size
    generalize w7.setRow w.heap.size z.arr = wz at *
    obtain ⟨zk, zn, zg, zs, ⟨zlp, zll, zlc⟩, ⟨zdp, zdl, zdc⟩⟩ := z
    obtain ⟨d0, d1, d2, d3, d4, d5⟩ := hvz.at
    dsimp only at d0 d1 d2 d3 d4 d5
    simp only [Nat.zero_add] at d1 d2 d3 d4 d5
    go_wp2_with fail
    exact bodyPost_ret (v := .tuple #[.agg #[.int .i64 zk, .int .i64 zn, .int .i64 zg, .string zs, .slice zlp zll zlc, .slice zdp zdl zdc], .int .i64 (P.fin : Int), .int .i64 0]) (by simp [results, Tryz.results9, go_sem, d0, d1, d2, d3, d4, d5]) rfl
      ⟨⟨zk, zn, zg, zs, ⟨zlp, zll, zlc⟩, ⟨zdp, zdl, zdc⟩⟩, rfl, hrz.mono (fun k hk => by omega), hbz⟩
  · rw [hverr h0]
    have hcd : (P.code != 0) = true := by simpa using h0
    clear hval hverr hfit
    generalize hPq : P.code = c at *
    go_enter Tryz.func9, Tryz.ntmps9
    iterate 10 go_step
    rw [Hw1.out]
    go_wp2_with fail
    rw [Hw2.out]
    refine HN.out.mono ?_
    rintro e w5 ⟨⟨yk, yn, yg, ys, ⟨ylp, yll, ylc⟩, ⟨ydp, ydl, ydc⟩⟩, a5, he, hr5, hb5, hv5⟩
    rw [hPq] at he
    replace he : e = .returned (.tuple #[.agg #[.int .i64 yk, .int .i64 yn, .int .i64 yg, .string ys, .slice ylp yll ylc, .slice ydp ydl ydc], .int .i64 c]) := he
    subst he
    have HV5 := Lib.hid (HV.out.same (hb5.out HV.out.lt (by omega)))
    have HB5 := Lib.hid (show Below w.heap.size w w5 from HB.out.trans ((hb5.below (by omega) HB.out.size)))
    have hz5 := hb5.size
    clear hr5 hb5 hv5 h0
    go_wp2_with (first
      | (refine VCell.store rfl rfl _ _ rfl w5.heap.size .nil ⟨yk, yn, yg, ys, ⟨ylp, yll, ylc⟩, ⟨ydp, ydl, ydc⟩⟩ rfl rfl (VCell.new w5 .nil) ?_; intro w6 HC6 HK6 HB6 HZ6; have hb56 : Below w5.heap.size w5 w6 := ((Below.refl _ w5).alloc (Nat.le_refl _) _).trans HB6.out; have HV6 := Lib.hid (HV5.out.later hb56 HV5.out.lt); have HB56 := Lib.hid (HB5.out.trans (hb56.mono HB5.out.size)))
      | (refine VCell.store rfl rfl _ _ rfl w.heap.size .nil ⟨0, 0, 0, ⟨#[]⟩, ⟨none, 0, 0⟩, ⟨none, 0, 0⟩⟩ rfl rfl HV6.out ?_; intro wz HCz HKz HBz HZz))
    obtain ⟨g0, g1, g2, g3, g4, g5⟩ := HCz.out.at
    try dsimp only at g0 g1 g2 g3 g4 g5
    exact bodyPost_ret (v := .tuple #[.agg #[.int .i64 0, .int .i64 0, .int .i64 0, .string ⟨#[]⟩, .slice none 0 0, .slice none 0 0], .int .i64 0, .int .i64 c]) (by simp [results, Tryz.results9, go_sem, g0, g1, g2, g3, g4, g5]) rfl
      ⟨⟨0, 0, 0, ⟨#[]⟩, ⟨none, 0, 0⟩, ⟨none, 0, 0⟩⟩, rfl, Rd.null _ _, HB56.out.trans (HBz.out.mono (by omega))⟩
end
end Go.Proofs.YtejgcnmbngdkiaaGreatDoor
/-
  parse.Whole.
-/
namespace Go.Proofs.YtejgcnmbngdkiaaGreatDoor
section
open Go.RowKit
set_option maxRecDepth 100000
attribute [local go_sem] undef

/-- What Whole tells. -/
def WhoC (s : ByteArray) (w : World) : Prop :=
  Calls Tryz.prog 8 #[.string s] w fun e w' => ∃ y : Hv, e = .returned (.tuple #[.agg y.arr, .int .i64 (wholeV s.data.toList).2]) ∧ Rd w' (fun k => w.heap.size ≤ k) y (wholeV s.data.toList).1 ∧ Below w.heap.size w w'
set_option maxHeartbeats 8000000 in
theorem pwhole_any (s : ByteArray) (w : World) (hs : s.size ≤ 100000000) (hfit : (readP s.data.toList (2 * s.data.toList.length + 1) 0 0).code = 0 → Fit (readP s.data.toList (2 * s.data.toList.length + 1) 0 0).v 4000) : WhoC s w := by
  obtain ⟨w1, hw1⟩ : ∃ w1, w.alloc (.cells #[.int .i64 0, .int .i64 0, .int .i64 0, .string ⟨#[]⟩, .slice none 0 0, .slice none 0 0] 25) = w1 := ⟨_, rfl⟩
  have hs1 : w1.heap.size = w.heap.size + 1 := by rw [← hw1]; simp
  have hb1 : Below w.heap.size w w1 := by rw [← hw1]; exact (Below.refl _ w).alloc (Nat.le_refl _) _
  have HV := Lib.hid (show VCell w1 w.heap.size .nil by rw [← hw1]; exact heap_alloc_new w _)
  have HB := Lib.hid hb1
  have Hw1 := Lib.hid hw1
  have hp0 : placeN s.data.toList 0 = 0 := by unfold placeN; omega
  have hv := pvalue_any s 0 w1 hs (by rw [hp0]; exact hfit)
  rw [hp0] at hv
  obtain ⟨P, hP⟩ : ∃ P, valueP s.data.toList 0 = P := ⟨_, rfl⟩
  obtain ⟨W, hW⟩ : ∃ W, wholeV s.data.toList = W := ⟨_, rfl⟩
  unfold WhoC
  rw [hP] at hv
  rw [hW]
  unfold wholeV at hW
  rw [hP] at hW
  have hpf : P.fin ≤ s.data.toList.length := by
    rw [← hP]
    by_cases h : (readP s.data.toList (2 * s.data.toList.length + 1) 0 0).code = 0
    · rw [value_ok h]; exact (read_fine (Nat.zero_le _) h).hi
    · rw [value_err h]; exact Nat.zero_le _
  unfold ValC at hv
  have HN := Lib.hid hv
  clear hw1 hb1 hfit hp0 hP hv
  by_cases h0 : P.code = 0
  · rw [if_neg (by simpa using h0)] at hW
    rw [h0] at HN
    obtain ⟨t, ht⟩ : ∃ t, nextN s.data.toList P.fin = t := ⟨_, rfl⟩
    have hn := fun W => next_any s (P.fin : Int) W hs
    rw [(nextI_nat hpf).trans ht] at hn
    have htg := (next_good s.data.toList P.fin hpf).1
    rw [ht] at hW htg
    unfold Sg.told Sg.tok at hn
    have HX := Lib.hid hn
    by_cases hc : t.code = 0
    · rw [if_neg (by simpa using hc)] at hW
      rw [hc] at HX
      by_cases hk : t.kind = 0
      · rw [if_neg (by simpa using hk)] at hW
        subst hW
        have hkd : (t.kind != 0) = false := by simpa using hk
        clear hn htg hc hk ht h0
        go_enter Tryz.func8, Tryz.ntmps8
        iterate 6 go_step
        rw [Hw1.out]
        go_wp2_with fail
        refine HN.out.mono ?_
        rintro e w5 ⟨⟨yk, yn, yg, ys, ⟨ylp, yll, ylc⟩, ⟨ydp, ydl, ydc⟩⟩, he, hr5, hb5⟩
        replace he : e = .returned (.tuple #[.agg #[.int .i64 yk, .int .i64 yn, .int .i64 yg, .string ys, .slice ylp yll ylc, .slice ydp ydl ydc], .int .i64 (P.fin : Int), .int .i64 0]) := he
        subst he
        have HV5 := Lib.hid (HV.out.later hb5 HV.out.lt)
        have HB5 := Lib.hid (HB.out.trans (hb5.mono HB.out.size))
        have Hr5 := Lib.hid hr5
        have hz5 := HV5.out.lt
        clear hr5 hb5
        go_wp2_with (refine VCell.store rfl rfl (.tmp 4) (.tmp 11) rfl w5.heap.size .nil ⟨yk, yn, yg, ys, ⟨ylp, yll, ylc⟩, ⟨ydp, ydl, ydc⟩⟩ rfl rfl (VCell.new w5 .nil) ?_; intro w6 HC6 HK6 HB6 HZ6; have hb56 : Below w5.heap.size w5 w6 := ((Below.refl _ w5).alloc (Nat.le_refl _) _).trans HB6.out; have HV6 := Lib.hid (HV5.out.later hb56 HV5.out.lt); have HB56 := Lib.hid (HB5.out.trans (hb56.mono HB5.out.size)))
        have Hr6 := Lib.hid (Hr5.out.bound.later (fun k hk => hb56.block k hk.2))
        have hlt6 := HC6.out.lt
        refine (HX.out w6).mono ?_
        rintro e w7 ⟨rfl, hb7⟩
        have HC7 := Lib.hid (HC6.out.later hb7 hlt6)
        have HV7 := Lib.hid (HV6.out.later hb7 HV6.out.lt)
        have HB7 := Lib.hid (HB56.out.trans (hb7.mono HB56.out.size))
        have Hr7 := Lib.hid (Hr6.out.bound.later (fun k hk => hb7.block k hk.2))
        clear hb7 hb56
        go_wp2_with (first
          | (refine TokCell.store rfl rfl _ _ rfl w7.heap.size #[.int .i64 0, .int .i64 0, .string ⟨#[]⟩, .int .i64 0, .int .i64 0] t.kind t.num (bytes t.str) t.beg t.fin rfl rfl (TokCell.new w7 _) rfl w7.heap.size _ (Below.refl _ _) (Nat.le_refl _) ?_; intro w8 HT8 HB8 HO8; have hb8 : Below w7.heap.size w7 w8 := ((Below.refl _ w7).alloc (Nat.le_refl _) _).trans HB8.out; obtain ⟨r0, r1, r2, r3, r4⟩ := HT8.out.parts; have HC8 := Lib.hid (HC7.out.later hb8 HC7.out.lt); have HV8 := Lib.hid (HV7.out.later hb8 HV7.out.lt); have HBe := Lib.hid (HB7.out.trans (hb8.mono HB7.out.size)); have Hr8 := Lib.hid (Hr7.out.bound.later (fun k hk => hb8.block k hk.2)))
          | (refine VCell.load rfl (.tmp 4) rfl w5.heap.size _ rfl HC8.out ?_)
          | (refine VCell.store rfl rfl _ _ rfl w.heap.size .nil ⟨yk, yn, yg, ys, ⟨ylp, yll, ylc⟩, ⟨ydp, ydl, ydc⟩⟩ rfl rfl HV8.out ?_; intro wz HCz HKz HBz HZz))
        obtain ⟨g0, g1, g2, g3, g4, g5⟩ := HCz.out.at
        try dsimp only at g0 g1 g2 g3 g4 g5
        exact bodyPost_ret (v := .tuple #[.agg #[.int .i64 yk, .int .i64 yn, .int .i64 yg, .string ys, .slice ylp yll ylc, .slice ydp ydl ydc], .int .i64 0]) (by simp [results, Tryz.results8, go_sem, g0, g1, g2, g3, g4, g5]) rfl
          ⟨⟨yk, yn, yg, ys, ⟨ylp, yll, ylc⟩, ⟨ydp, ydl, ydc⟩⟩, rfl, (Hr8.out.later (fun k hk => HKz.out k (by have := hk.1.1.1; omega))).mono (fun k hk => by have := hk.1.1.1; omega), HBe.out.trans (HBz.out.mono (by omega))⟩
      · rw [if_pos hk] at hW
        subst hW
        have hkd : (t.kind != 0) = true := by simpa using hk
        clear hn htg hc hk ht h0
        go_enter Tryz.func8, Tryz.ntmps8
        iterate 6 go_step
        rw [Hw1.out]
        go_wp2_with fail
        refine HN.out.mono ?_
        rintro e w5 ⟨⟨yk, yn, yg, ys, ⟨ylp, yll, ylc⟩, ⟨ydp, ydl, ydc⟩⟩, he, hr5, hb5⟩
        replace he : e = .returned (.tuple #[.agg #[.int .i64 yk, .int .i64 yn, .int .i64 yg, .string ys, .slice ylp yll ylc, .slice ydp ydl ydc], .int .i64 (P.fin : Int), .int .i64 0]) := he
        subst he
        have HV5 := Lib.hid (HV.out.later hb5 HV.out.lt)
        have HB5 := Lib.hid (HB.out.trans (hb5.mono HB.out.size))
        have Hr5 := Lib.hid hr5
        have hz5 := HV5.out.lt
        clear hr5 hb5
        go_wp2_with (refine VCell.store rfl rfl (.tmp 4) (.tmp 11) rfl w5.heap.size .nil ⟨yk, yn, yg, ys, ⟨ylp, yll, ylc⟩, ⟨ydp, ydl, ydc⟩⟩ rfl rfl (VCell.new w5 .nil) ?_; intro w6 HC6 HK6 HB6 HZ6; have hb56 : Below w5.heap.size w5 w6 := ((Below.refl _ w5).alloc (Nat.le_refl _) _).trans HB6.out; have HV6 := Lib.hid (HV5.out.later hb56 HV5.out.lt); have HB56 := Lib.hid (HB5.out.trans (hb56.mono HB5.out.size)))
        have Hr6 := Lib.hid (Hr5.out.bound.later (fun k hk => hb56.block k hk.2))
        have hlt6 := HC6.out.lt
        refine (HX.out w6).mono ?_
        rintro e w7 ⟨rfl, hb7⟩
        have HC7 := Lib.hid (HC6.out.later hb7 hlt6)
        have HV7 := Lib.hid (HV6.out.later hb7 HV6.out.lt)
        have HB7 := Lib.hid (HB56.out.trans (hb7.mono HB56.out.size))
        have Hr7 := Lib.hid (Hr6.out.bound.later (fun k hk => hb7.block k hk.2))
        clear hb7 hb56
        go_wp2_with (first
          | (refine TokCell.store rfl rfl _ _ rfl w7.heap.size #[.int .i64 0, .int .i64 0, .string ⟨#[]⟩, .int .i64 0, .int .i64 0] t.kind t.num (bytes t.str) t.beg t.fin rfl rfl (TokCell.new w7 _) rfl w7.heap.size _ (Below.refl _ _) (Nat.le_refl _) ?_; intro w8 HT8 HB8 HO8; have hb8 : Below w7.heap.size w7 w8 := ((Below.refl _ w7).alloc (Nat.le_refl _) _).trans HB8.out; obtain ⟨r0, r1, r2, r3, r4⟩ := HT8.out.parts; have HC8 := Lib.hid (HC7.out.later hb8 HC7.out.lt); have HV8 := Lib.hid (HV7.out.later hb8 HV7.out.lt); have HBe := Lib.hid (HB7.out.trans (hb8.mono HB7.out.size)); have Hr8 := Lib.hid (Hr7.out.bound.later (fun k hk => hb8.block k hk.2)))
          | (refine VCell.store rfl rfl _ _ rfl w.heap.size .nil ⟨0, 0, 0, ⟨#[]⟩, ⟨none, 0, 0⟩, ⟨none, 0, 0⟩⟩ rfl rfl HV8.out ?_; intro wz HCz HKz HBz HZz))
        obtain ⟨g0, g1, g2, g3, g4, g5⟩ := HCz.out.at
        try dsimp only at g0 g1 g2 g3 g4 g5
        exact bodyPost_ret (v := .tuple #[.agg #[.int .i64 0, .int .i64 0, .int .i64 0, .string ⟨#[]⟩, .slice none 0 0, .slice none 0 0], .int .i64 4]) (by simp [results, Tryz.results8, go_sem, g0, g1, g2, g3, g4, g5]) rfl
          ⟨⟨0, 0, 0, ⟨#[]⟩, ⟨none, 0, 0⟩, ⟨none, 0, 0⟩⟩, rfl, Rd.null _ _, HBe.out.trans (HBz.out.mono (by omega))⟩
    · rw [if_pos hc] at hW
      subst hW
      have hcd : (t.code != 0) = true := by simpa using hc
      replace HX : Hid (∀ W, Calls Tryz.prog 18 #[.string s, .int .i64 (P.fin : Int)] W fun e w' => e = .returned (.tuple #[.agg (tokC 0 0 ⟨#[]⟩ 0 0), .int .i64 t.code]) ∧ Below W.heap.size W w') := Lib.hid (by have h := hn; rw [htg.1 hc] at h; exact h)
      generalize t.code = c at *
      clear hn htg hc ht h0
      go_enter Tryz.func8, Tryz.ntmps8
      iterate 6 go_step
      rw [Hw1.out]
      go_wp2_with fail
      refine HN.out.mono ?_
      rintro e w5 ⟨⟨yk, yn, yg, ys, ⟨ylp, yll, ylc⟩, ⟨ydp, ydl, ydc⟩⟩, he, hr5, hb5⟩
      replace he : e = .returned (.tuple #[.agg #[.int .i64 yk, .int .i64 yn, .int .i64 yg, .string ys, .slice ylp yll ylc, .slice ydp ydl ydc], .int .i64 (P.fin : Int), .int .i64 0]) := he
      subst he
      have HV5 := Lib.hid (HV.out.later hb5 HV.out.lt)
      have HB5 := Lib.hid (HB.out.trans (hb5.mono HB.out.size))
      have Hr5 := Lib.hid hr5
      have hz5 := HV5.out.lt
      clear hr5 hb5
      go_wp2_with (refine VCell.store rfl rfl (.tmp 4) (.tmp 11) rfl w5.heap.size .nil ⟨yk, yn, yg, ys, ⟨ylp, yll, ylc⟩, ⟨ydp, ydl, ydc⟩⟩ rfl rfl (VCell.new w5 .nil) ?_; intro w6 HC6 HK6 HB6 HZ6; have hb56 : Below w5.heap.size w5 w6 := ((Below.refl _ w5).alloc (Nat.le_refl _) _).trans HB6.out; have HV6 := Lib.hid (HV5.out.later hb56 HV5.out.lt); have HB56 := Lib.hid (HB5.out.trans (hb56.mono HB5.out.size)))
      have Hr6 := Lib.hid (Hr5.out.bound.later (fun k hk => hb56.block k hk.2))
      have hlt6 := HC6.out.lt
      refine (HX.out w6).mono ?_
      rintro e w7 ⟨rfl, hb7⟩
      have HC7 := Lib.hid (HC6.out.later hb7 hlt6)
      have HV7 := Lib.hid (HV6.out.later hb7 HV6.out.lt)
      have HB7 := Lib.hid (HB56.out.trans (hb7.mono HB56.out.size))
      have Hr7 := Lib.hid (Hr6.out.bound.later (fun k hk => hb7.block k hk.2))
      clear hb7 hb56
      go_wp2_with (first
        | (refine TokCell.store rfl rfl _ _ rfl w7.heap.size #[.int .i64 0, .int .i64 0, .string ⟨#[]⟩, .int .i64 0, .int .i64 0] 0 0 ⟨#[]⟩ 0 0 rfl rfl (TokCell.new w7 _) rfl w7.heap.size _ (Below.refl _ _) (Nat.le_refl _) ?_; intro w8 HT8 HB8 HO8; have hb8 : Below w7.heap.size w7 w8 := ((Below.refl _ w7).alloc (Nat.le_refl _) _).trans HB8.out; obtain ⟨r0, r1, r2, r3, r4⟩ := HT8.out.parts; have HC8 := Lib.hid (HC7.out.later hb8 HC7.out.lt); have HV8 := Lib.hid (HV7.out.later hb8 HV7.out.lt); have HBe := Lib.hid (HB7.out.trans (hb8.mono HB7.out.size)); have Hr8 := Lib.hid (Hr7.out.bound.later (fun k hk => hb8.block k hk.2)))
        | (refine VCell.store rfl rfl _ _ rfl w.heap.size .nil ⟨0, 0, 0, ⟨#[]⟩, ⟨none, 0, 0⟩, ⟨none, 0, 0⟩⟩ rfl rfl HV8.out ?_; intro wz HCz HKz HBz HZz))
      obtain ⟨g0, g1, g2, g3, g4, g5⟩ := HCz.out.at
      try dsimp only at g0 g1 g2 g3 g4 g5
      exact bodyPost_ret (v := .tuple #[.agg #[.int .i64 0, .int .i64 0, .int .i64 0, .string ⟨#[]⟩, .slice none 0 0, .slice none 0 0], .int .i64 c]) (by simp [results, Tryz.results8, go_sem, g0, g1, g2, g3, g4, g5]) rfl
        ⟨⟨0, 0, 0, ⟨#[]⟩, ⟨none, 0, 0⟩, ⟨none, 0, 0⟩⟩, rfl, Rd.null _ _, HBe.out.trans (HBz.out.mono (by omega))⟩
  · rw [if_pos h0] at hW
    subst hW
    have hcd : (P.code != 0) = true := by simpa using h0
    generalize P.code = c at *
    clear h0
    go_enter Tryz.func8, Tryz.ntmps8
    iterate 6 go_step
    rw [Hw1.out]
    go_wp2_with fail
    refine HN.out.mono ?_
    rintro e w5 ⟨⟨yk, yn, yg, ys, ⟨ylp, yll, ylc⟩, ⟨ydp, ydl, ydc⟩⟩, he, hr5, hb5⟩
    replace he : e = .returned (.tuple #[.agg #[.int .i64 yk, .int .i64 yn, .int .i64 yg, .string ys, .slice ylp yll ylc, .slice ydp ydl ydc], .int .i64 (P.fin : Int), .int .i64 c]) := he
    subst he
    have HV5 := Lib.hid (HV.out.later hb5 HV.out.lt)
    have HB5 := Lib.hid (HB.out.trans (hb5.mono HB.out.size))
    have hz5 := HV5.out.lt
    clear hr5 hb5
    go_wp2_with (first
      | (refine VCell.store rfl rfl (.tmp 4) (.tmp 11) rfl w5.heap.size .nil ⟨yk, yn, yg, ys, ⟨ylp, yll, ylc⟩, ⟨ydp, ydl, ydc⟩⟩ rfl rfl (VCell.new w5 .nil) ?_; intro w6 HC6 HK6 HB6 HZ6; have hb56 : Below w5.heap.size w5 w6 := ((Below.refl _ w5).alloc (Nat.le_refl _) _).trans HB6.out; have HV6 := Lib.hid (HV5.out.later hb56 HV5.out.lt); have HB56 := Lib.hid (HB5.out.trans (hb56.mono HB5.out.size)))
      | (refine VCell.store rfl rfl _ _ rfl w.heap.size .nil ⟨0, 0, 0, ⟨#[]⟩, ⟨none, 0, 0⟩, ⟨none, 0, 0⟩⟩ rfl rfl HV6.out ?_; intro wz HCz HKz HBz HZz))
    obtain ⟨g0, g1, g2, g3, g4, g5⟩ := HCz.out.at
    try dsimp only at g0 g1 g2 g3 g4 g5
    exact bodyPost_ret (v := .tuple #[.agg #[.int .i64 0, .int .i64 0, .int .i64 0, .string ⟨#[]⟩, .slice none 0 0, .slice none 0 0], .int .i64 c]) (by simp [results, Tryz.results8, go_sem, g0, g1, g2, g3, g4, g5]) rfl
      ⟨⟨0, 0, 0, ⟨#[]⟩, ⟨none, 0, 0⟩, ⟨none, 0, 0⟩⟩, rfl, Rd.null _ _, HB56.out.trans (HBz.out.mono (by omega))⟩
end
end Go.Proofs.YtejgcnmbngdkiaaGreatDoor
