/-
  A block is begun.
-/
import Derived.Test.YtiiiokikmjgliaaGreatDoorKBlk
import Derived.Test.YtiiiokikmjgliaaGreatDoorKMake
namespace Go.Proofs.YtiiiokikmjgliaaGreatDoor
open Go.RowKit
set_option maxRecDepth 100000
theorem qalike_is (c k : Nat) (w : World) (h1 : 1 ≤ k) (h2 : k ≤ 320) :
    Calls Tryz.prog 149 #[.int .i64 (c : Int), .int .i64 (k : Int)] w fun e w' => ∃ g, e = .returned (.slice (some ⟨g, 0, none⟩) k k) ∧ RowAt w' g (List.replicate k c) ∧ w.heap.size ≤ g ∧ Below w.heap.size w w' := by
  have HR := Lib.hid (repeat_is w.heap.size c k (w.alloc (.cells #[.int .i64 (c : Int)] 3)) h1 h2 (by rw [World.cell?_alloc_new]; rfl))
  go_enter Tryz.func149, Tryz.ntmps149
  go_wp2_with fail
  refine HR.out.mono ?_
  rintro e w1 ⟨g, rfl, hr, hg, hb⟩
  have H1 := Lib.hid hr
  have Hg : Hid (w.heap.size ≤ g) := Lib.hid (by simp at hg; omega)
  have Hb : Hid (Below w.heap.size w w1) := Lib.hid (((Below.refl _ w).alloc (Nat.le_refl _) _).trans (hb.mono (by simp)))
  clear hr hg hb
  go_wp2_with fail
  go_ret
  exact ⟨g, rfl, H1.out, Hg.out, Hb.out⟩
def BCell (w : World) (B : Nat) (p q : Value) : Prop := w.heap[B]? = some (.cells #[.int .i64 0, .int .i64 0, .slice none 0 0, p, q] 160 (0, 0))
theorem BCell.lt {w : World} {B : Nat} {p q : Value} (h : BCell w B p q) : B < w.heap.size := by
  rcases Nat.lt_or_ge B w.heap.size with h' | h'
  · exact h'
  · unfold BCell at h; rw [Array.getElem?_eq_none h'] at h; cases h
theorem BCell.later {w w' : World} {B : Nat} {p q : Value} (h : BCell w B p q) (hb : Below w.heap.size w w') : BCell w' B p q := (hb.block B h.lt).trans h
theorem BCell.free {w : World} {B : Nat} {p q : Value} (h : BCell w B p q) (j : Nat) : w.frozen? ⟨B, j, none⟩ = false := frozen_of_row _ _ _ _ _ h
theorem BCell.third {w : World} {B : Nat} {p q : Value} (h : BCell w B p q) : w.cell? ⟨B, 3, none⟩ = some p := by rw [cell_of_row _ _ _ _ _ _ h]; rfl
theorem BCell.fourth {w : World} {B : Nat} {p q : Value} (h : BCell w B p q) : w.cell? ⟨B, 4, none⟩ = some q := by rw [cell_of_row _ _ _ _ _ _ h]; rfl
theorem BCell.put3 {w : World} {B : Nat} {p q : Value} (h : BCell w B p q) (v : Value) : BCell (w.setCell ⟨B, 3, none⟩ v) B v q := heap_setCell_same _ _ 3 _ _ v h
theorem BCell.put4 {w : World} {B : Nat} {p q : Value} (h : BCell w B p q) (v : Value) : BCell (w.setCell ⟨B, 4, none⟩ v) B p v := heap_setCell_same _ _ 4 _ _ v h
theorem BCell.writer {w : World} {B : Nat} {p q : Value} (h : BCell w B p q) : WriterAt p q w B [] [B] := ⟨[], [], .slice none 0 0, rfl, rfl, by decide, rfl, h, Row8.nil _, fun k h => by cases h⟩
theorem blk_begun {w : World} {B s d : Nat} {XS XD : List Nat} (h : BCell w B (.pointer (some ⟨s, 0, none⟩)) (.pointer (some ⟨d, 0, none⟩))) (h2 : TreeAt w s (intsOf fixedLit) XS) (h3 : TreeAt w d (intsOf fixedDist) XD) (h4 : ∀ k ∈ XS, B < k) (h5 : ∀ k ∈ XD, B < k) : BlkAt w B [] ([B] ++ (XS ++ XD)) :=
  ⟨s, d, XS, XD, [B], rfl, h.writer, h2, h3, fun k hk e => by
    have e := List.mem_singleton.1 e
    subst e
    rcases List.mem_append.1 hk with hk | hk
    · have := h4 _ hk; omega
    · have := h5 _ hk; omega, fun b hb => by cases hb⟩
theorem bput_is (B n k : Nat) (row F : List Nat) (w : World) (h : BlkAt w B row F) (hl : row.length ≤ 900000) (hk : k ≤ 13) (hnk : n < 2 ^ k) (hn : n ≤ 100000) :
    Calls Tryz.prog 150 #[.pointer (some ⟨B, 0, none⟩), .int .i64 (n : Int), .int .i64 (k : Int)] w fun en w' => en = .returned (.int .i64 0) ∧ ∃ F', BlkAt w' B (row ++ bitsN k n) F' ∧ Touches F F' w w' := by
  obtain ⟨s, d, XS, XD, F0, rfl, h1, h2, h3, h4, h5⟩ := h
  refine (wPut_is _ _ B row F0 (n : Int) (k : Int) w h1 h5 (by omega) (by omega) (by omega) (by omega) (by omega) (putB_ok (by omega) hnk)).mono ?_
  rintro en w' ⟨rfl, F1, hw, ht⟩
  obtain ⟨F2, g1, g2⟩ := blk_next (B := B) (w := w) (row' := row ++ bitsN k n) hw ht h2 h3 h4 (fun b hb => by
    rcases List.mem_append.1 hb with e | e
    · exact h5 b e
    · exact bitsN_two _ _ b e)
  exact ⟨rfl, F2, g1, g2⟩
set_option maxHeartbeats 4000000 in
theorem newBlock_is (w : World) : Calls Tryz.prog 133 #[] w fun en w' => ∃ B F, en = .returned (.pointer (some ⟨B, 0, none⟩)) ∧ BlkAt w' B headB F ∧ (∀ k ∈ F, w.heap.size ≤ k) ∧ Below w.heap.size w w' := by
  have HB0 : Hid (Below w.heap.size w (w.alloc (.cells #[.int .i64 0, .int .i64 0, .slice none 0 0, .pointer none, .pointer none] 160))) := Lib.hid ((Below.refl _ w).alloc (Nat.le_refl _) _)
  have RC : Hid (BCell (w.alloc (.cells #[.int .i64 0, .int .i64 0, .slice none 0 0, .pointer none, .pointer none] 160)) w.heap.size (.pointer none) (.pointer none)) := Lib.hid (heap_alloc_new w _)
  have HA1 := Lib.hid (fun W => qalike_is 8 144 W (by omega) (by omega))
  have HA2 := Lib.hid (fun W => qalike_is 9 112 W (by omega) (by omega))
  have HA3 := Lib.hid (fun W => qalike_is 7 24 W (by omega) (by omega))
  have HA4 := Lib.hid (fun W => qalike_is 8 8 W (by omega) (by omega))
  have HA5 := Lib.hid (fun W => qalike_is 5 32 W (by omega) (by omega))
  go_enter Tryz.func133, Tryz.ntmps133
  go_wp2_with fail
  refine (HA1.out _).mono ?_
  rintro e w1 ⟨g1, rfl, hr, _, hb⟩
  have HB1 := Lib.hid (HB0.out.trans (hb.mono HB0.out.size))
  have R1 := Lib.hid hr
  have RC := Lib.hid (RC.out.later hb)
  clear hr hb HA1
  go_wp2_with fail
  refine (HA2.out _).mono ?_
  rintro e w2 ⟨g2, rfl, hr, _, hb⟩
  have HB2 := Lib.hid (HB1.out.trans (hb.mono HB1.out.size))
  have R1 := Lib.hid (R1.out.later hb)
  have R2 := Lib.hid hr
  have RC := Lib.hid (RC.out.later hb)
  clear hr hb HA2
  go_wp2_with fail
  refine (HA3.out _).mono ?_
  rintro e w3 ⟨g3, rfl, hr, _, hb⟩
  have HB3 := Lib.hid (HB2.out.trans (hb.mono HB2.out.size))
  have R1 := Lib.hid (R1.out.later hb)
  have R2 := Lib.hid (R2.out.later hb)
  have R3 := Lib.hid hr
  have RC := Lib.hid (RC.out.later hb)
  clear hr hb HA3
  go_wp2_with fail
  refine (HA4.out _).mono ?_
  rintro e w4 ⟨g4, rfl, hr, _, hb⟩
  have HB4 := Lib.hid (HB3.out.trans (hb.mono HB3.out.size))
  have R1 := Lib.hid (R1.out.later hb)
  have R2 := Lib.hid (R2.out.later hb)
  have R3 := Lib.hid (R3.out.later hb)
  have R4 := Lib.hid hr
  have RC := Lib.hid (RC.out.later hb)
  clear hr hb HA4
  have HRows := Lib.hid (rows4 w4 R1.out R2.out R3.out R4.out)
  have HC := Lib.hid (concat_is w4.heap.size 4 [(g1, List.replicate 144 8), (g2, List.replicate 112 9), (g3, List.replicate 24 7), (g4, List.replicate 8 8)] _ rfl (by omega) HRows.out (by rw [flat4]; decide +kernel) (by rw [flat4]; decide +kernel))
  rw [flat4] at HC
  have HB5 : Hid (Below w.heap.size w (w4.alloc (.cells #[.slice (some ⟨g1, 0, none⟩) 144 144, .slice (some ⟨g2, 0, none⟩) 112 112, .slice (some ⟨g3, 0, none⟩) 24 24, .slice (some ⟨g4, 0, none⟩) 8 8] 100))) := Lib.hid (HB4.out.alloc HB4.out.size _)
  have RC := Lib.hid (RC.out.later ((Below.refl _ w4).alloc (Nat.le_refl _) (.cells #[.slice (some ⟨g1, 0, none⟩) 144 144, .slice (some ⟨g2, 0, none⟩) 112 112, .slice (some ⟨g3, 0, none⟩) 24 24, .slice (some ⟨g4, 0, none⟩) 8 8] 100)))
  clear R1 R2 R3 R4 HRows
  go_wp2_with fail
  refine HC.out.mono ?_
  rintro e w6 ⟨v6, rfl, ho, hb⟩
  have HB6 := Lib.hid (HB5.out.trans (hb.mono HB5.out.size))
  obtain ⟨g6, cap6, rfl, hg6, hc6⟩ := ho.at
  have HN6 : Hid (Nums w6 (some ⟨g6, 0, none⟩) (intsOf fixedLit)) := Lib.hid (.inr ⟨g6, 0, rfl, fun i hi => by
    rw [Nat.zero_add, List.getElem?_eq_getElem hi]
    exact hc6 i hi⟩)
  have RC := Lib.hid (RC.out.later hb)
  have hln : (asZ fixedLit).length = 288 := by decide +kernel
  rw [hln]
  clear ho hb hg6 hc6 hln HC
  have HT1 := Lib.hid (tNew_good (some ⟨g6, 0, none⟩) cap6 288 (intsOf fixedLit) w6 (by decide +kernel) HN6.out fixed_refused.1)
  go_wp2_with fail
  refine HT1.out.mono ?_
  rintro e w7 ⟨s, XS, rfl, ht, hX, hb⟩
  have HB7 := Lib.hid (HB6.out.trans (hb.mono HB6.out.size))
  have hBX := RC.out.lt
  have HXS : Hid (∀ k ∈ XS, w.heap.size < k) := Lib.hid fun k hk => by have := hX k hk; omega
  have RC := Lib.hid (RC.out.later hb)
  have f3 := RC.out.free 3
  have t3 := RC.out.third
  have HS := Lib.hid (ht.aside (a := ⟨w.heap.size, 3, none⟩) (fun hm => Nat.lt_irrefl _ (HXS.out _ hm)) (.pointer (some ⟨s, 0, none⟩)))
  have HB8 : Hid (Below w.heap.size w (w7.setCell ⟨w.heap.size, 3, none⟩ (.pointer (some ⟨s, 0, none⟩)))) := Lib.hid (HB7.out.setCell (by simp) _)
  have RC := Lib.hid (RC.out.put3 (.pointer (some ⟨s, 0, none⟩)))
  clear ht hX hb hBX HT1 HN6
  go_wp2_with fail
  refine (HA5.out _).mono ?_
  rintro e w8 ⟨g8, rfl, hr, _, hb⟩
  have HB9 := Lib.hid (HB8.out.trans (hb.mono HB8.out.size))
  have HN8 : Hid (Nums w8 (some ⟨g8, 0, none⟩) (intsOf fixedDist)) := Lib.hid hr.nums
  have RC := Lib.hid (RC.out.later hb)
  have HS := Lib.hid (HS.out.later hb)
  clear hr hb HA5 f3 t3
  have HT2 := Lib.hid (tNew_good (some ⟨g8, 0, none⟩) 32 32 (intsOf fixedDist) w8 (by decide +kernel) HN8.out fixed_refused.2)
  go_wp2_with fail
  refine HT2.out.mono ?_
  rintro e w9 ⟨d, XD, rfl, ht, hX, hb⟩
  have HB10 := Lib.hid (HB9.out.trans (hb.mono HB9.out.size))
  have hBX := RC.out.lt
  have HXD : Hid (∀ k ∈ XD, w.heap.size < k) := Lib.hid fun k hk => by have := hX k hk; omega
  have RC := Lib.hid (RC.out.later hb)
  have HS := Lib.hid (HS.out.later hb)
  have f4 := RC.out.free 4
  have t4 := RC.out.fourth
  have HS := Lib.hid (HS.out.aside (a := ⟨w.heap.size, 4, none⟩) (fun hm => Nat.lt_irrefl _ (HXS.out _ hm)) (.pointer (some ⟨d, 0, none⟩)))
  have HD := Lib.hid (ht.aside (a := ⟨w.heap.size, 4, none⟩) (fun hm => Nat.lt_irrefl _ (HXD.out _ hm)) (.pointer (some ⟨d, 0, none⟩)))
  have HB11 : Hid (Below w.heap.size w (w9.setCell ⟨w.heap.size, 4, none⟩ (.pointer (some ⟨d, 0, none⟩)))) := Lib.hid (HB10.out.setCell (by simp) _)
  have RC := Lib.hid (RC.out.put4 (.pointer (some ⟨d, 0, none⟩)))
  have HK := Lib.hid (blk_begun RC.out HS.out HD.out HXS.out HXD.out)
  have HP1 := Lib.hid (bput_is w.heap.size 1 1 [] _ _ HK.out (by simp) (by omega) (by omega) (by omega))
  clear ht hX hb hBX HT2 HN8
  go_wp2_with fail
  refine HP1.out.mono ?_
  rintro e w11 ⟨rfl, F1, hk, ht⟩
  have hF0 : ∀ k ∈ [w.heap.size] ++ (XS ++ XD), w.heap.size ≤ k := fun k hk => by
    simp only [List.mem_append, List.mem_singleton] at hk
    rcases hk with rfl | hk | hk
    · exact Nat.le_refl _
    · exact Nat.le_of_lt (HXS.out k hk)
    · exact Nat.le_of_lt (HXD.out k hk)
  have HF1 : Hid (∀ k ∈ F1, w.heap.size ≤ k) := Lib.hid (ht.more HB11.out.size hF0)
  have HB12 := Lib.hid (HB11.out.trans (ht.below HB11.out.size hF0))
  have HP2 := Lib.hid (bput_is w.heap.size 1 2 _ _ w11 hk (by simp [bitsN_length]) (by omega) (by omega) (by omega))
  clear hk ht hF0 f4 t4 HP1
  go_wp2_with fail
  refine HP2.out.mono ?_
  rintro e w12 ⟨rfl, F2, hk, ht⟩
  have HF2 : Hid (∀ k ∈ F2, w.heap.size ≤ k) := Lib.hid (ht.more HB12.out.size HF1.out)
  have HB13 := Lib.hid (HB12.out.trans (ht.below HB12.out.size HF1.out))
  have HK2 := Lib.hid hk
  clear hk ht HP2
  go_wp2_with fail
  go_ret
  exact ⟨_, F2, rfl, HK2.out, HF2.out, HB13.out⟩
end Go.Proofs.YtiiiokikmjgliaaGreatDoor
