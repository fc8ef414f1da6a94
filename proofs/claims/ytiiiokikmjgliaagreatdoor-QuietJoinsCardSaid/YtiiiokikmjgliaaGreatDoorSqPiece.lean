/-
  A piece is written: its length and its distance.
-/
import Derived.Test.YtiiiokikmjgliaaGreatDoorKBlk
import Derived.Test.YtiiiokikmjgliaaGreatDoorSqSearch
namespace Go.Proofs.YtiiiokikmjgliaaGreatDoor
open Go.RowKit
set_option maxRecDepth 100000
theorem Touches.still {F F' : List Nat} {w w' : World} (h : Touches F F' w w') {a : Addr} {v : Value} (hc : w.cell? a = some v) (hF : a.block ∉ F) : w'.cell? a = some v := (h.cell (cell_block hc) hF).trans hc
theorem far_is (B k : Nat) (row F : List Nat) (w : World) (h : BlkAt w B row F) (hl : row.length ≤ 900000) (hk : k < 32) :
    ∃ pd, w.cell? ⟨B, 4, none⟩ = some pd ∧ Hid (Calls Tryz.prog 154 #[pd, .pointer (some ⟨B, 0, none⟩), .int .i64 (k : Int)] w.drew fun en w' => en = .returned (.int .i64 0) ∧ ∃ F', BlkAt w' B (row ++ codeBits 5 k) F' ∧ Touches F F' w w') := by
  obtain ⟨s, d, XS, XD, F0, rfl, h1, h2, h3, h4, h5⟩ := h
  refine ⟨_, h1.third.2, Lib.hid ((tWrite_is _ _ d (intsOf fixedDist) XD B row F0 (k : Int) w.drew fixed_refused.2 h3 h1 h5 hl (fun k hk => h4 k (List.mem_append_right _ hk)) (by omega) (by omega) (writeC_far row hk)).mono ?_)⟩
  rintro en w' ⟨rfl, F1, hw, ht⟩
  obtain ⟨F2, g1, g2⟩ := blk_next (B := B) (w := w) (row' := row ++ codeBits 5 k) hw ht.undrew h2 h3 h4 (fun b hb => by
    rcases List.mem_append.1 hb with e | e
    · exact h5 b e
    · exact codeBits_two _ _ b e)
  exact ⟨rfl, F2, g1, g2⟩
set_option maxHeartbeats 4000000 in
theorem bpiece_is (B n d : Nat) (row F : List Nat) (w0 w : World) (hL : LaidQ w0) (hB : Below w0.heap.size w0 w) (hF : ∀ k ∈ F, w0.heap.size ≤ k) (h : BlkAt w B row F) (hl : row.length ≤ 800000) (h1 : 3 ≤ n) (h2 : n ≤ 258) (h3 : 1 ≤ d) (h4 : d ≤ 32768) :
    Calls Tryz.prog 138 #[.pointer (some ⟨B, 0, none⟩), .int .i64 (n : Int), .int .i64 (d : Int)] w fun en w' => en = .returned (.tuple #[]) ∧ ∃ F', BlkAt w' B (row ++ pieceB n d) F' ∧ Touches F F' w w' := by
  obtain ⟨a1, a2, a3⟩ := lenK_facts h1 h2
  obtain ⟨b1, b2, b3⟩ := farK_facts h3 h4
  have Hi1 := Lib.hid (fun h hh => lens_iff (n := n) (h := h) h1 hh)
  have Hi2 := Lib.hid (fun h hh => dists_iff (n := d) (h := h) h3 hh)
  have Hp : Hid (pieceB n d = symB (257 + lenK n) ++ (bitsN (moreL (lenK n)) (n - lengthN (lenK n)) ++ (codeBits 5 (farK d) ++ bitsN (moreD (farK d)) (d - distN (farK d))))) := Lib.hid rfl
  obtain ⟨i, hi⟩ : ∃ i, lenK n = i := ⟨_, rfl⟩
  obtain ⟨j, hj⟩ : ∃ j, farK d = j := ⟨_, rfl⟩
  rw [hi] at a1 a2 a3 Hi1
  rw [hj] at b1 b2 b3 Hi2
  rw [hi, hj] at Hp
  have m1 := moreL_le ⟨i, by omega⟩
  have m2 := moreD_le ⟨j, by omega⟩
  simp only at m1 m2
  have g1 := symB_length (k := 257 + i) (by omega)
  have HL := Lib.hid hL
  have HB := Lib.hid hB
  have Hlt := Lib.hid h.lt
  have hsz := hB.size
  have hb1 : Below w.heap.size w ((w.alloc (.cells #[.int .i64 (n : Int)] 3)).alloc (.cells #[.int .i64 (d : Int)] 3)) := ((below_same w).alloc (Nat.le_refl _) _).alloc (by simp) _
  have HW1 := Lib.hid hb1
  have Hblk1 := Lib.hid (h.later hb1)
  have cn1 : ((w.alloc (.cells #[.int .i64 (n : Int)] 3)).alloc (.cells #[.int .i64 (d : Int)] 3)).cell? ⟨w.heap.size, 0, none⟩ = some (.int .i64 (n : Int)) := by
    rw [cell_of_row _ _ _ _ _ _ (heap_alloc2_old w _ _)]; rfl
  have cd1 : ((w.alloc (.cells #[.int .i64 (n : Int)] 3)).alloc (.cells #[.int .i64 (d : Int)] 3)).cell? ⟨w.heap.size + 1, 0, none⟩ = some (.int .i64 (d : Int)) := by
    rw [cell_of_row _ _ _ _ _ _ (heap_alloc2_new w _ _)]; rfl
  have HS1 := Lib.hid (lensSearch_is n w.heap.size i _ (by omega) (hL.later (hB.trans (hb1.mono hsz))) cn1 (by omega) Hi1.out)
  clear hL hB h hb1 hi hj
  go_enter Tryz.func138, Tryz.ntmps138
  go_wp2_with fail
  refine HS1.out.mono ?_
  rintro e w2 ⟨rfl, hb⟩
  have HW2 := Lib.hid (HW1.out.trans (hb.mono HW1.out.size))
  have Hblk2 := Lib.hid (Hblk1.out.later hb)
  have cn2 := cell_later cn1 hb
  have cd2 := cell_later cd1 hb
  have HSy : Hid (Calls Tryz.prog 136 #[.pointer (some ⟨B, 0, none⟩), .int .i64 (257 + (i : Int))] w2 _) := Lib.hid (symbol_is B (257 + i) row F w2 Hblk2.out (by omega) (by omega))
  clear hb cn1 cd1 HS1
  go_wp2_with fail
  refine HSy.out.mono ?_
  rintro e w3 ⟨rfl, F1, hblk, ht⟩
  have hW := HB.out.trans (HW2.out.mono hsz)
  have hn1 : w.heap.size ∉ F := fun hm => Nat.lt_irrefl _ (Hlt.out _ hm)
  have hn2 : w.heap.size + 1 ∉ F := fun hm => by have := Hlt.out _ hm; omega
  have hs2 : w.heap.size + 2 ≤ w2.heap.size := by have := cell_block cd2; simp at this; omega
  have HB3 := Lib.hid (hW.trans (ht.below hW.size hF))
  have HF1 : Hid (∀ k ∈ F1, w0.heap.size ≤ k) := Lib.hid (ht.more hW.size hF)
  have Hn1 : Hid (w.heap.size ∉ F1 ∧ w.heap.size + 1 ∉ F1) := Lib.hid ⟨(ht.out (by omega) hn1).2, (ht.out (by omega) hn2).2⟩
  have cn3 := ht.still cn2 hn1
  have cd3 := ht.still cd2 hn2
  have hs3 := ht.size
  have HT3 : Hid (Touches F F1 w w3) := Lib.hid ((Touches.of_below HW2.out).trans ht)
  have Hblk3 := Lib.hid hblk
  obtain ⟨t1, t2⟩ := (HL.out.later HB3.out).len (k := i) (by omega)
  have HNu := Lib.hid (bnumber_is B n (lengthN i) (moreL i) (row ++ symB (257 + i)) F1 w3.drew (Hblk3.out.later ((below_same w3).drew)) (by rw [List.length_append]; omega) (by omega) a2 (by omega) a3)
  clear hblk ht hn1 hn2 cn2 cd2 HSy hW
  go_wp2_with fail
  go_region_with (go_at_call 159; refine HNu.out.mono ?_; rintro e w4 ⟨rfl, F2, hblk, ht⟩)
  all_goals
    have ht := ht.undrew
    have HF2 : Hid (∀ k ∈ F2, w0.heap.size ≤ k) := Lib.hid (ht.more HB3.out.size HF1.out)
    have HB4 := Lib.hid (HB3.out.trans (ht.below HB3.out.size HF1.out))
    have cd4 := ht.still cd3 Hn1.out.2
    have Hn2 : Hid (w.heap.size + 1 ∉ F2) := Lib.hid (ht.out (by omega) Hn1.out.2).2
    have HT4 : Hid (Touches F F2 w w4) := Lib.hid (HT3.out.trans ht)
    have hs4 := ht.size
    have Hblk4 := Lib.hid hblk
    have HS2 := Lib.hid (distsSearch_is d (w.heap.size + 1) j w4 (by omega) (HL.out.later HB4.out) cd4 (by omega) Hi2.out)
    clear hblk ht cd3 cn3 HNu t1 t2
    go_wp2_with fail
    refine HS2.out.mono ?_
    rintro e w5 ⟨rfl, hb⟩
    have HB5 := Lib.hid (HB4.out.trans (hb.mono HB4.out.size))
    have cd5 := cell_later cd4 hb
    have HT5 : Hid (Touches F F2 w w5) := Lib.hid (HT4.out.trans (Touches.of_below hb))
    have Hblk5 := Lib.hid (Hblk4.out.later hb)
    have hs5 := hb.size
    have HFar := far_is B j (row ++ symB (257 + i) ++ bitsN (moreL i) (n - lengthN i)) F2 w5 Hblk5.out (by simp only [List.length_append, bitsN_length]; omega) (by omega)
    clear hb cd4 HS2
    obtain ⟨pd, c4, HFar⟩ := HFar
    go_wp2_with fail
    go_region_with (go_at_call 154; refine HFar.out.mono ?_; rintro e w6 ⟨rfl, F3, hblk, ht⟩)
    all_goals
      have HF3 : Hid (∀ k ∈ F3, w0.heap.size ≤ k) := Lib.hid (ht.more HB5.out.size HF2.out)
      have HB6 := Lib.hid (HB5.out.trans (ht.below HB5.out.size HF2.out))
      have cd6 := ht.still cd5 Hn2.out
      have HT6 : Hid (Touches F F3 w w6) := Lib.hid (HT5.out.trans ht)
      have Hblk6 := Lib.hid hblk
      obtain ⟨t1, t2⟩ := (HL.out.later HB6.out).far (k := j) (by omega)
      have HNu := Lib.hid (bnumber_is B d (distN j) (moreD j) (row ++ symB (257 + i) ++ bitsN (moreL i) (n - lengthN i) ++ codeBits 5 j) F3 w6.drew (Hblk6.out.later ((below_same w6).drew)) (by simp only [List.length_append, bitsN_length, codeBits_length]; omega) (by omega) b2 (by omega) b3)
      clear hblk ht cd5 HFar c4
      go_wp2_with fail
      go_region_with (go_at_call 159; refine HNu.out.mono ?_; rintro e w7 ⟨rfl, F4, hblk, ht⟩)
      all_goals
        have HT7 : Hid (Touches F F4 w w7) := Lib.hid (HT6.out.trans ht.undrew)
        have Hblk7 := Lib.hid hblk
        clear hblk ht cd6 HNu t1 t2
        go_wp2_with fail
        exact bodyPost_end (v := .tuple #[]) (by simp [results, go_sem]) rfl ⟨rfl, F4, by rw [Hp.out]; simpa only [List.append_assoc] using Hblk7.out, HT7.out⟩
end Go.Proofs.YtiiiokikmjgliaaGreatDoor
