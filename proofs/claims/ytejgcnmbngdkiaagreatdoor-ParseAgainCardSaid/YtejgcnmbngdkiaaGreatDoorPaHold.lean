/-
  (*reader).holder: a deferred closure.
-/
import Derived.Test.YtejgcnmbngdkiaaGreatDoorNNum
import Derived.Defers
namespace Go.Proofs.YtejgcnmbngdkiaaGreatDoor
open Go.RowKit
set_option maxRecDepth 100000
attribute [local go_sem] undef Hv.arr

theorem unhold_is (b q d : Nat) (u : FrameMode) (w : World) (h0 : w.cell? ⟨q, 0, none⟩ = some (.pointer (some ⟨b, 0, none⟩))) (h1 : w.cell? ⟨b, 2, none⟩ = some (.int .i64 ((d + 1 : Nat) : Int))) (f1 : w.frozen? ⟨b, 2, none⟩ = false) (hd : d ≤ 64) :
    CallsD Tryz.prog 83 #[.pointer (some ⟨q, 0, none⟩)] u w fun e u' w' => u' = u ∧ e = .returned (.tuple #[]) ∧ w' = w.setCell ⟨b, 2, none⟩ (.int .i64 (d : Int)) := by
  have hz : IntKind.i64.wrap (((d + 1 : Nat) : Int) - 1) = (d : Int) := by rw [IntKind.wrap_i64]; omega
  obtain ⟨x, hx⟩ : ∃ x : Int, ((d + 1 : Nat) : Int) = x := ⟨_, rfl⟩
  rw [hx] at h1 hz
  go_enter_d Tryz.func83, Tryz.ntmps83
  go_wp2
  go_end0
  exact ⟨rfl, rfl⟩

set_option maxHeartbeats 8000000 in
theorem phold_of (s : ByteArray) (f : Nat) (hl : ListC s f) (hdc : DictC s f) : HoldC s f := by
  intro k d b o w hk hd ho hcode h
  have hlt := h.lt
  obtain ⟨w1, hw1⟩ : ∃ w1, w.alloc (.cells #[.pointer (some ⟨b, 0, none⟩)] 70) = w1 := ⟨_, rfl⟩
  obtain ⟨w2, hw2⟩ : ∃ w2, w1.alloc (.cells #[.int .i64 0, .int .i64 0, .int .i64 0, .string ⟨#[]⟩, .slice none 0 0, .slice none 0 0] 25) = w2 := ⟨_, rfl⟩
  have hs1 : w1.heap.size = w.heap.size + 1 := by rw [← hw1]; simp
  have hb1 : Below w.heap.size w w1 := by rw [← hw1]; exact (Below.refl _ w).alloc (Nat.le_refl _) _
  have hb2 : Below w1.heap.size w1 w2 := by rw [← hw2]; exact (Below.refl _ w1).alloc (Nat.le_refl _) _
  have hs2 : w2.heap.size = w.heap.size + 1 + 1 := by rw [← hw2]; simp [hs1]
  have c0 : w2.cell? ⟨w.heap.size, 0, none⟩ = some (.pointer (some ⟨b, 0, none⟩)) :=
    (cell_of_block (hb2.block w.heap.size (by omega)) 0).trans (by rw [← hw1]; exact cell_of_row _ _ _ _ _ _ (heap_alloc_new w _))
  have HV := Lib.hid (show VCell w2 (w.heap.size + 1) .nil by rw [← hs1, ← hw2]; exact heap_alloc_new w1 _)
  have HB := Lib.hid (show Below w.heap.size w w2 from hb1.trans (hb2.mono (by omega)))
  have HR := Lib.hid (show RdrAt w2 b s (k : Int) d from (h.later hb1 hlt).later hb2 (by omega))
  have HS := Lib.hid (Beside.of_below (b := b) HB.out)
  have c2 := HR.out.cell 2
  have f2 := HR.out.free 2
  simp only [List.getElem?_cons_zero, List.getElem?_cons_succ] at c2
  have Hw1 := Lib.hid hw1
  have Hw2 := Lib.hid hw2
  have hbz : b ≠ w.heap.size + 1 := by omega
  have hbz0 : b ≠ w.heap.size := by omega
  have hmf : ∀ (fn : Fn) (first cap : Array Value) (w : World), (Instr.makeFunc fn first cap).run Tryz.prog w = .ok (.func fn first cap) w := fun _ _ _ _ => rfl
  obtain ⟨R, hR⟩ : ∃ R, holdP s.data.toList f k d o = R := ⟨_, rfl⟩
  rw [hR] at hcode ⊢
  unfold holdP at hR
  clear hw1 hw2 hb1 hb2 h
  by_cases h64 : 64 ≤ d
  · obtain rfl : d = 64 := by omega
    rw [if_pos (Nat.le_refl _)] at hR
    subst hR
    clear hcode ho h64 hmf
    go_enter_defers Tryz.func60, Tryz.ntmps60
    iterate 10 go_step
    rw [Hw1.out, Hw2.out]
    go_wp2_with (refine VCell.store rfl rfl _ _ rfl (w.heap.size + 1) .nil ⟨0, 0, 0, ⟨#[]⟩, ⟨none, 0, 0⟩, ⟨none, 0, 0⟩⟩ rfl rfl HV.out ?_; intro wz HCz HKz HBz HZz)
    obtain ⟨g0, g1, g2, g3, g4, g5⟩ := HCz.out.at
    try dsimp only at g0 g1 g2 g3 g4 g5
    exact ⟨.tuple #[.agg #[.int .i64 0, .int .i64 0, .int .i64 0, .string ⟨#[]⟩, .slice none 0 0, .slice none 0 0], .int .i64 9], (by simp [results, Tryz.results60, go_sem, g0, g1, g2, g3, g4, g5]), tells_err (y := ⟨0, 0, 0, ⟨#[]⟩, ⟨none, 0, 0⟩, ⟨none, 0, 0⟩⟩) (HR.out.same (HKz.out b hbz)) (HS.out.store (by omega) HBz.out) (by decide) rfl⟩
  · rw [if_neg h64] at hR
    have hne : (((d : Int)) == 64) = false := by simp; omega
    obtain ⟨x, hx⟩ : ∃ x : Int, ((d + 1 : Nat) : Int) = x := ⟨_, rfl⟩
    have hz : IntKind.i64.wrap ((d : Int) + 1) = x := by rw [IntKind.wrap_i64]; omega
    have HR3 := Lib.hid (show RdrAt (w2.setCell ⟨b, 2, none⟩ (.int .i64 x)) b s (k : Int) (d + 1) by rw [← hx]; exact HR.out.turn (.int .i64 ((d + 1 : Nat) : Int)))
    have c03 : (w2.setCell ⟨b, 2, none⟩ (.int .i64 x)).cell? ⟨w.heap.size, 0, none⟩ = some (.pointer (some ⟨b, 0, none⟩)) := (cell_of_block (Below.heap_setCell _ _ _ _ (Ne.symm hbz0)) 0).trans c0
    have HV3 := Lib.hid (show VCell (w2.setCell ⟨b, 2, none⟩ (.int .i64 x)) (w.heap.size + 1) .nil from HV.out.same (Below.heap_setCell _ _ _ _ (Ne.symm hbz)))
    have HS3 := Lib.hid (HS.out.setAt 2 (.int .i64 x))
    have hz3 : (w2.setCell ⟨b, 2, none⟩ (.int .i64 x)).heap.size = w.heap.size + 1 + 1 := by simp [World.setCell, hs2]
    obtain ⟨w3, hw3⟩ : ∃ w3, w2.setCell ⟨b, 2, none⟩ (.int .i64 x) = w3 := ⟨_, rfl⟩
    rw [hw3] at HR3 c03 HV3 HS3 hz3
    have Hx := Lib.hid hx
    clear hx
    by_cases h4 : o = 4
    · rw [if_pos h4] at hR
      subst h4
      have HN := Lib.hid (hl k d b w3 hk (by omega) (by rw [hR]; exact hcode) HR3.out)
      rw [hR] at HN
      clear ho hR hcode h64 hl hdc
      go_enter_defers Tryz.func60, Tryz.ntmps60
      iterate 10 go_step
      rw [Hw1.out, Hw2.out]
      go_wp2_with fail
      refine HN.out.mono ?_
      rintro e w5 ⟨⟨yk, yn, yg, ys, ⟨ylp, yll, ylc⟩, ⟨ydp, ydl, ydc⟩⟩, a5, he, hr5, hb5, hv5⟩
      replace he : e = .returned (.tuple #[.agg #[.int .i64 yk, .int .i64 yn, .int .i64 yg, .string ys, .slice ylp yll ylc, .slice ydp ydl ydc], .int .i64 R.code]) := he
      subst he
      have HR5 := Lib.hid hr5
      have HS5 := Lib.hid (HS3.out.trans hb5)
      have HV5 := Lib.hid (HV3.out.same (hb5.out HV3.out.lt (fun e => hbz e.symm)))
      have C5 := Lib.hid ((cell_of_block (hb5.out (by omega) (fun e => hbz0 e.symm)) 0).trans c03)
      have Hv5 := Lib.hid hv5
      have hz5 := HS5.out.size
      have hz52 := hb5.size
      clear hr5 hb5 hv5
      go_wp2_with (refine VCell.store rfl rfl _ _ rfl (w.heap.size + 1) .nil ⟨yk, yn, yg, ys, ⟨ylp, yll, ylc⟩, ⟨ydp, ydl, ydc⟩⟩ rfl rfl HV5.out ?_; intro wz HCz HKz HBz HZz)
      have hrz : RdrAt wz b s a5 (d + 1) := HR5.out.same (HKz.out b hbz)
      have hcz := (cell_of_block (HKz.out w.heap.size (by omega)) 0).trans C5.out
      have z2 := hrz.cell 2
      simp only [List.getElem?_cons_zero, List.getElem?_cons_succ] at z2
      refine leaves_cons (f := 83) (args := #[.pointer (some ⟨w.heap.size, 0, none⟩)]) (by simp) (by simp [go_sem]) ?_
      refine (unhold_is b w.heap.size d .returning wz hcz z2 (hrz.free 2) hd).mono ?_
      rintro e u' w9 ⟨rfl, rfl, rfl⟩
      obtain ⟨g0, g1, g2, g3, g4, g5⟩ := (HCz.out.same (w' := wz.setCell ⟨b, 2, none⟩ (.int .i64 (d : Int))) (Below.heap_setCell _ _ _ _ (Ne.symm hbz))).at
      try dsimp only at g0 g1 g2 g3 g4 g5
      exact ⟨.tuple #[.agg #[.int .i64 yk, .int .i64 yn, .int .i64 yg, .string ys, .slice ylp yll ylc, .slice ydp ydl ydc], .int .i64 R.code], (by simp [results, Tryz.results60, go_sem, g0, g1, g2, g3, g4, g5]),
        ⟨⟨yk, yn, yg, ys, ⟨ylp, yll, ylc⟩, ⟨ydp, ydl, ydc⟩⟩, a5, rfl, hrz.turn (.int .i64 (d : Int)), (HS5.out.store (by omega) HBz.out).setAt 2 _, fun h0 => ⟨(Hv5.out h0).1, ((Hv5.out h0).2.later (fun k hk => (Below.heap_setCell _ _ _ _ (show k ≠ b by omega)).trans (HKz.out k (by omega)))).mono (fun k hk => by omega)⟩⟩⟩
    · rw [if_neg h4] at hR
      obtain rfl : o = 6 := by omega
      have HN := Lib.hid (hdc k d b w3 hk (by omega) (by rw [hR]; exact hcode) HR3.out)
      rw [hR] at HN
      clear ho hR hcode h64 hl hdc h4
      go_enter_defers Tryz.func60, Tryz.ntmps60
      iterate 10 go_step
      rw [Hw1.out, Hw2.out]
      go_wp2_with fail
      refine HN.out.mono ?_
      rintro e w5 ⟨⟨yk, yn, yg, ys, ⟨ylp, yll, ylc⟩, ⟨ydp, ydl, ydc⟩⟩, a5, he, hr5, hb5, hv5⟩
      replace he : e = .returned (.tuple #[.agg #[.int .i64 yk, .int .i64 yn, .int .i64 yg, .string ys, .slice ylp yll ylc, .slice ydp ydl ydc], .int .i64 R.code]) := he
      subst he
      have HR5 := Lib.hid hr5
      have HS5 := Lib.hid (HS3.out.trans hb5)
      have HV5 := Lib.hid (HV3.out.same (hb5.out HV3.out.lt (fun e => hbz e.symm)))
      have C5 := Lib.hid ((cell_of_block (hb5.out (by omega) (fun e => hbz0 e.symm)) 0).trans c03)
      have Hv5 := Lib.hid hv5
      have hz5 := HS5.out.size
      have hz52 := hb5.size
      clear hr5 hb5 hv5
      go_wp2_with (refine VCell.store rfl rfl _ _ rfl (w.heap.size + 1) .nil ⟨yk, yn, yg, ys, ⟨ylp, yll, ylc⟩, ⟨ydp, ydl, ydc⟩⟩ rfl rfl HV5.out ?_; intro wz HCz HKz HBz HZz)
      have hrz : RdrAt wz b s a5 (d + 1) := HR5.out.same (HKz.out b hbz)
      have hcz := (cell_of_block (HKz.out w.heap.size (by omega)) 0).trans C5.out
      have z2 := hrz.cell 2
      simp only [List.getElem?_cons_zero, List.getElem?_cons_succ] at z2
      refine leaves_cons (f := 83) (args := #[.pointer (some ⟨w.heap.size, 0, none⟩)]) (by simp) (by simp [go_sem]) ?_
      refine (unhold_is b w.heap.size d .returning wz hcz z2 (hrz.free 2) hd).mono ?_
      rintro e u' w9 ⟨rfl, rfl, rfl⟩
      obtain ⟨g0, g1, g2, g3, g4, g5⟩ := (HCz.out.same (w' := wz.setCell ⟨b, 2, none⟩ (.int .i64 (d : Int))) (Below.heap_setCell _ _ _ _ (Ne.symm hbz))).at
      try dsimp only at g0 g1 g2 g3 g4 g5
      exact ⟨.tuple #[.agg #[.int .i64 yk, .int .i64 yn, .int .i64 yg, .string ys, .slice ylp yll ylc, .slice ydp ydl ydc], .int .i64 R.code], (by simp [results, Tryz.results60, go_sem, g0, g1, g2, g3, g4, g5]),
        ⟨⟨yk, yn, yg, ys, ⟨ylp, yll, ylc⟩, ⟨ydp, ydl, ydc⟩⟩, a5, rfl, hrz.turn (.int .i64 (d : Int)), (HS5.out.store (by omega) HBz.out).setAt 2 _, fun h0 => ⟨(Hv5.out h0).1, ((Hv5.out h0).2.later (fun k hk => (Below.heap_setCell _ _ _ _ (show k ≠ b by omega)).trans (HKz.out k (by omega)))).mono (fun k hk => by omega)⟩⟩⟩
end Go.Proofs.YtejgcnmbngdkiaaGreatDoor
