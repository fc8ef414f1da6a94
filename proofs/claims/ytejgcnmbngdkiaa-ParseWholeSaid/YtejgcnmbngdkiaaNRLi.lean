/-
  PaRRead, PaRList: texts merged.
-/
import Derived.Test.YtejgcnmbngdkiaaNRLk
import Derived.Test.YtejgcnmbngdkiaaNDict
/-
  The document's read.
-/
namespace Go.Proofs.Ytejgcnmbngdkiaa
section
open Go.RowKit
set_option maxRecDepth 100000
attribute [local go_sem] undef

/-- What read, list, dict tell, with so much fuel. -/
def RReadC (s : ByteArray) (g : Nat) : Prop := ∀ (a : Int) (k d : Nat) (w : World), nextI s.data.toList a = nextN s.data.toList k → k ≤ s.data.toList.length → d ≤ 64 → ¬ (readP s.data.toList g k d).code = -1 →
  Calls Try.prog 13 #[.string s, .int .i64 a, .int .i64 (d : Int)] w (RTells (readP s.data.toList g k d) w)
def RListC (s : ByteArray) (f : Nat) : Prop := ∀ (k d : Nat) (w : World), k ≤ s.data.toList.length → d < 64 → ¬ (listP s.data.toList f k (d + 1) []).code = -1 →
  Calls Try.prog 25 #[.string s, .int .i64 (k : Int), .int .i64 ((d + 1 : Nat) : Int)] w (RTells (listP s.data.toList f k (d + 1) []) w)
def RDictC (s : ByteArray) (f : Nat) : Prop := ∀ (k d : Nat) (w : World), k ≤ s.data.toList.length → d < 64 → ¬ (dictP s.data.toList f k (d + 1) []).code = -1 →
  Calls Try.prog 26 #[.string s, .int .i64 (k : Int), .int .i64 ((d + 1 : Nat) : Int)] w (RTells (dictP s.data.toList f k (d + 1) []) w)

set_option maxHeartbeats 16000000 in
theorem rread_of (s : ByteArray) (f : Nat) (hs : s.size ≤ 100000000) (hl : RListC s f) (hdc : RDictC s f) : RReadC s (f + 1) := by
  intro a k d w ha hk hd hcode
  obtain ⟨w1, hw1⟩ : ∃ w1, w.alloc (.cells #[.int .i64 0, .int .i64 0, .int .i64 0, .string ⟨#[]⟩, .slice none 0 0, .slice none 0 0] 26) = w1 := ⟨_, rfl⟩
  have hs1 : w1.heap.size = w.heap.size + 1 := by rw [← hw1]; simp
  have hb1 : Below w.heap.size w w1 := by rw [← hw1]; exact (Below.refl _ w).alloc (Nat.le_refl _) _
  have HV := Lib.hid (show VCell w1 w.heap.size .nil by rw [← hw1]; exact heap_alloc_new w _)
  have HB := Lib.hid hb1
  have Hw1 := Lib.hid hw1
  obtain ⟨R, hR⟩ : ∃ R, readP s.data.toList (f + 1) k d = R := ⟨_, rfl⟩
  rw [hR] at hcode ⊢
  obtain ⟨t, ht⟩ : ∃ t, nextN s.data.toList k = t := ⟨_, rfl⟩
  have hts := next_sound s.data.toList k hk
  have htg := next_good s.data.toList k hk
  have hn := fun W => rNext_any s a W hs
  rw [ha.trans ht] at hn
  rw [ht] at hts htg
  unfold Sg.told Sg.tok at hn
  clear hw1 hb1
  by_cases hc : t.code = 0
  · rw [pread_ok (by rw [ht]; exact hc), ht] at hR
    have H1 := Lib.hid (show ∀ W, Calls Try.prog 16 #[.string s, .int .i64 a] W (fun e w' => e = .returned (.tuple #[.agg (tokC t.kind t.num (bytes t.str) t.beg t.fin), .int .i64 0]) ∧ Below W.heap.size W w') from by have h := hn; rw [hc] at h; exact h)
    have hkd := hts.kind
    clear hn htg hc ht ha
    by_cases e0 : t.kind = 0
    · rw [begun_end e0] at hR
      subst hR
      have c0 : (t.kind == 0) = true := by simp; omega
      have c1 : (t.kind == 1) = false := by simp; omega
      have c2 : (t.kind == 2) = false := by simp; omega
      have c3 : (t.kind == 3) = false := by simp; omega
      have c8 : (t.kind == 8) = false := by simp; omega
      have c5 : (t.kind == 5) = false := by simp; omega
      have c7 : (t.kind == 7) = false := by simp; omega
      have c4 : (t.kind == 4) = false := by simp; omega
      clear hkd e0 hcode hts
      go_enter Try.func13, Try.ntmps13
      iterate 6 go_step
      rw [Hw1.out]
      go_wp2_with fail
      refine (H1.out w1).mono ?_
      rintro e w3 ⟨rfl, hb3⟩
      have HV3 := Lib.hid (HV.out.later hb3 HV.out.lt)
      have HB3 := Lib.hid (HB.out.trans (hb3.mono HB.out.size))
      have hz3 := HV3.out.lt
      clear hb3
      go_wp2_with (first
        | (refine TokCell.store rfl rfl _ _ rfl w3.heap.size #[.int .i64 0, .int .i64 0, .string ⟨#[]⟩, .int .i64 0, .int .i64 0] t.kind t.num (bytes t.str) t.beg t.fin rfl rfl (TokCell.new w3 _) rfl w3.heap.size _ (Below.refl _ _) (Nat.le_refl _) ?_; intro w4 HT4 HB4 HO4; have hb4 : Below w3.heap.size w3 w4 := ((Below.refl _ w3).alloc (Nat.le_refl _) _).trans HB4.out; obtain ⟨r0, r1, r2, r3, r4⟩ := HT4.out.parts; have HV4 := Lib.hid (HV3.out.later hb4 HV3.out.lt); have HBB4 := Lib.hid (HB3.out.trans (hb4.mono HB3.out.size)); clear hb4)
        | (refine VCell.store rfl rfl _ _ rfl w.heap.size .nil ⟨0, 0, 0, ⟨#[]⟩, ⟨none, 0, 0⟩, ⟨none, 0, 0⟩⟩ rfl rfl HV4.out ?_; intro wz HCz HKz HBz HZz))
      obtain ⟨g0, g1, g2, g3, g4, g5⟩ := HCz.out.at
      try dsimp only at g0 g1 g2 g3 g4 g5
      exact bodyPost_ret (v := .tuple #[.agg #[.int .i64 0, .int .i64 0, .int .i64 0, .string ⟨#[]⟩, .slice none 0 0, .slice none 0 0], .int .i64 0, .int .i64 5]) (by simp [results, Try.results13, go_sem, g0, g1, g2, g3, g4, g5]) rfl
        (show RTells (.err 5) w _ _ from ⟨⟨0, 0, 0, ⟨#[]⟩, ⟨none, 0, 0⟩, ⟨none, 0, 0⟩⟩, rfl, rd_nil, HBB4.out.trans (HBz.out.mono (by omega))⟩)
    by_cases e1 : t.kind = 1
    · rw [begun_num e1] at hR
      have H2 := Lib.hid (fun W => rnumber18_any s t W hs hts.fin)
      rw [hR] at H2
      have c0 : (t.kind == 0) = false := by simp; omega
      have c1 : (t.kind == 1) = true := by simp; omega
      have c2 : (t.kind == 2) = false := by simp; omega
      have c3 : (t.kind == 3) = false := by simp; omega
      have c8 : (t.kind == 8) = false := by simp; omega
      have c5 : (t.kind == 5) = false := by simp; omega
      have c7 : (t.kind == 7) = false := by simp; omega
      have c4 : (t.kind == 4) = false := by simp; omega
      clear hkd e1 hcode hts hR
      go_enter Try.func13, Try.ntmps13
      iterate 6 go_step
      rw [Hw1.out]
      go_wp2_with fail
      refine (H1.out w1).mono ?_
      rintro e w3 ⟨rfl, hb3⟩
      have HV3 := Lib.hid (HV.out.later hb3 HV.out.lt)
      have HB3 := Lib.hid (HB.out.trans (hb3.mono HB.out.size))
      have hz3 := HV3.out.lt
      clear hb3
      go_wp2_with (first
        | (refine TokCell.store rfl rfl _ _ rfl w3.heap.size #[.int .i64 0, .int .i64 0, .string ⟨#[]⟩, .int .i64 0, .int .i64 0] t.kind t.num (bytes t.str) t.beg t.fin rfl rfl (TokCell.new w3 _) rfl w3.heap.size _ (Below.refl _ _) (Nat.le_refl _) ?_; intro w4 HT4 HB4 HO4; have hb4 : Below w3.heap.size w3 w4 := ((Below.refl _ w3).alloc (Nat.le_refl _) _).trans HB4.out; obtain ⟨r0, r1, r2, r3, r4⟩ := HT4.out.parts; have HV4 := Lib.hid (HV3.out.later hb4 HV3.out.lt); have HBB4 := Lib.hid (HB3.out.trans (hb4.mono HB3.out.size)); clear hb4)
        | (refine TokCell.load rfl _ rfl w3.heap.size _ rfl HT4.out rfl ?_))
      refine (H2.out w4).mono ?_
      rintro e w5 ⟨⟨yk, yn, yg, ys, ⟨ylp, yll, ylc⟩, ⟨ydp, ydl, ydc⟩⟩, he, hr5, hb5⟩
      replace he : e = .returned (.tuple #[.agg #[.int .i64 yk, .int .i64 yn, .int .i64 yg, .string ys, .slice ylp yll ylc, .slice ydp ydl ydc], .int .i64 (R.fin : Int), .int .i64 R.code]) := he
      subst he
      have HV5 := Lib.hid (HV4.out.later hb5 HV4.out.lt)
      have HBB5 := Lib.hid (HBB4.out.trans (hb5.mono HBB4.out.size))
      have Hr5 := Lib.hid hr5
      have hlt4 := HV4.out.lt
      clear hr5 hb5
      go_wp2_with (refine VCell.store rfl rfl _ _ rfl w.heap.size .nil ⟨yk, yn, yg, ys, ⟨ylp, yll, ylc⟩, ⟨ydp, ydl, ydc⟩⟩ rfl rfl HV5.out ?_; intro wz HCz HKz HBz HZz)
      obtain ⟨g0, g1, g2, g3, g4, g5⟩ := HCz.out.at
      try dsimp only at g0 g1 g2 g3 g4 g5
      exact bodyPost_ret (v := .tuple #[.agg #[.int .i64 yk, .int .i64 yn, .int .i64 yg, .string ys, .slice ylp yll ylc, .slice ydp ydl ydc], .int .i64 (R.fin : Int), .int .i64 R.code]) (by simp [results, Try.results13, go_sem, g0, g1, g2, g3, g4, g5]) rfl
        (show RTells R w _ _ from ⟨⟨yk, yn, yg, ys, ⟨ylp, yll, ylc⟩, ⟨ydp, ydl, ydc⟩⟩, rfl, (Hr5.out.later (fun k hk => HKz.out k (by omega))).mono (fun k hk => by omega), HBB5.out.trans (HBz.out.mono (Nat.le_refl _))⟩)
    by_cases e2 : t.kind = 2
    · rw [begun_name e2] at hR
      subst hR
      have c0 : (t.kind == 0) = false := by simp; omega
      have c1 : (t.kind == 1) = false := by simp; omega
      have c2 : (t.kind == 2) = true := by simp; omega
      have c3 : (t.kind == 3) = false := by simp; omega
      have c8 : (t.kind == 8) = false := by simp; omega
      have c5 : (t.kind == 5) = false := by simp; omega
      have c7 : (t.kind == 7) = false := by simp; omega
      have c4 : (t.kind == 4) = false := by simp; omega
      clear hkd e2 hcode hts
      go_enter Try.func13, Try.ntmps13
      iterate 6 go_step
      rw [Hw1.out]
      go_wp2_with fail
      refine (H1.out w1).mono ?_
      rintro e w3 ⟨rfl, hb3⟩
      have HV3 := Lib.hid (HV.out.later hb3 HV.out.lt)
      have HB3 := Lib.hid (HB.out.trans (hb3.mono HB.out.size))
      have hz3 := HV3.out.lt
      clear hb3
      go_wp2_with (refine TokCell.store rfl rfl _ _ rfl w3.heap.size #[.int .i64 0, .int .i64 0, .string ⟨#[]⟩, .int .i64 0, .int .i64 0] t.kind t.num (bytes t.str) t.beg t.fin rfl rfl (TokCell.new w3 _) rfl w3.heap.size _ (Below.refl _ _) (Nat.le_refl _) ?_; intro w4 HT4 HB4 HO4; have hb4 : Below w3.heap.size w3 w4 := ((Below.refl _ w3).alloc (Nat.le_refl _) _).trans HB4.out; obtain ⟨r0, r1, r2, r3, r4⟩ := HT4.out.parts; have HV4 := Lib.hid (HV3.out.later hb4 HV3.out.lt); have HBB4 := Lib.hid (HB3.out.trans (hb4.mono HB3.out.size)); clear hb4)
      have hne3 : ¬ w3.heap.size = w.heap.size := by omega
      obtain ⟨⟨z0, z1, z2, z3, z4, z5⟩, f0, f1, f2, f3, f4, f5⟩ := HV4.out.zeros
      go_region
      go_wp2_with fail
      obtain ⟨g0, g1, g2, g3, g4, g5⟩ := (HV4.out.six 3 0 0 (bytes t.str) none none 0 0 0 0).at
      try dsimp only at g0 g1 g2 g3 g4 g5
      simp only [Nat.zero_add] at g1 g2 g3 g4 g5
      exact bodyPost_ret (v := .tuple #[.agg #[.int .i64 3, .int .i64 0, .int .i64 0, .string (bytes t.str), .slice none 0 0, .slice none 0 0], .int .i64 (t.fin : Int), .int .i64 0]) (by simp [results, Try.results13, go_sem, g0, g1, g2, g3, g4, g5]) rfl
        (show RTells ⟨bitV 3 0 0 t.str, t.fin, 0⟩ w _ _ from ⟨⟨3, 0, 0, bytes t.str, ⟨none, 0, 0⟩, ⟨none, 0, 0⟩⟩, rfl, rd_bit 3 0 0 t.str, (below_six HBB4.out (Nat.le_refl _) _ _ _ _ _ _).drew⟩)
    by_cases e3 : t.kind = 3
    · rw [begun_text e3] at hR
      subst hR
      have c0 : (t.kind == 0) = false := by simp; omega
      have c1 : (t.kind == 1) = false := by simp; omega
      have c2 : (t.kind == 2) = false := by simp; omega
      have c3 : (t.kind == 3) = true := by simp; omega
      have c8 : (t.kind == 8) = false := by simp; omega
      have c5 : (t.kind == 5) = false := by simp; omega
      have c7 : (t.kind == 7) = false := by simp; omega
      have c4 : (t.kind == 4) = false := by simp; omega
      clear hkd e3 hcode hts
      go_enter Try.func13, Try.ntmps13
      iterate 6 go_step
      rw [Hw1.out]
      go_wp2_with fail
      refine (H1.out w1).mono ?_
      rintro e w3 ⟨rfl, hb3⟩
      have HV3 := Lib.hid (HV.out.later hb3 HV.out.lt)
      have HB3 := Lib.hid (HB.out.trans (hb3.mono HB.out.size))
      have hz3 := HV3.out.lt
      clear hb3
      go_wp2_with (refine TokCell.store rfl rfl _ _ rfl w3.heap.size #[.int .i64 0, .int .i64 0, .string ⟨#[]⟩, .int .i64 0, .int .i64 0] t.kind t.num (bytes t.str) t.beg t.fin rfl rfl (TokCell.new w3 _) rfl w3.heap.size _ (Below.refl _ _) (Nat.le_refl _) ?_; intro w4 HT4 HB4 HO4; have hb4 : Below w3.heap.size w3 w4 := ((Below.refl _ w3).alloc (Nat.le_refl _) _).trans HB4.out; obtain ⟨r0, r1, r2, r3, r4⟩ := HT4.out.parts; have HV4 := Lib.hid (HV3.out.later hb4 HV3.out.lt); have HBB4 := Lib.hid (HB3.out.trans (hb4.mono HB3.out.size)); clear hb4)
      have hne3 : ¬ w3.heap.size = w.heap.size := by omega
      obtain ⟨⟨z0, z1, z2, z3, z4, z5⟩, f0, f1, f2, f3, f4, f5⟩ := HV4.out.zeros
      go_region
      go_wp2_with fail
      obtain ⟨g0, g1, g2, g3, g4, g5⟩ := (HV4.out.six 4 0 0 (bytes t.str) none none 0 0 0 0).at
      try dsimp only at g0 g1 g2 g3 g4 g5
      simp only [Nat.zero_add] at g1 g2 g3 g4 g5
      exact bodyPost_ret (v := .tuple #[.agg #[.int .i64 4, .int .i64 0, .int .i64 0, .string (bytes t.str), .slice none 0 0, .slice none 0 0], .int .i64 (t.fin : Int), .int .i64 0]) (by simp [results, Try.results13, go_sem, g0, g1, g2, g3, g4, g5]) rfl
        (show RTells ⟨bitV 4 0 0 t.str, t.fin, 0⟩ w _ _ from ⟨⟨4, 0, 0, bytes t.str, ⟨none, 0, 0⟩, ⟨none, 0, 0⟩⟩, rfl, rd_bit 4 0 0 t.str, (below_six HBB4.out (Nat.le_refl _) _ _ _ _ _ _).drew⟩)
    by_cases e8 : t.kind = 8
    · rw [begun_word e8] at hR
      have H2 := Lib.hid (fun W => rword18_any t W)
      rw [hR] at H2
      have c0 : (t.kind == 0) = false := by simp; omega
      have c1 : (t.kind == 1) = false := by simp; omega
      have c2 : (t.kind == 2) = false := by simp; omega
      have c3 : (t.kind == 3) = false := by simp; omega
      have c8 : (t.kind == 8) = true := by simp; omega
      have c5 : (t.kind == 5) = false := by simp; omega
      have c7 : (t.kind == 7) = false := by simp; omega
      have c4 : (t.kind == 4) = false := by simp; omega
      clear hkd e8 hcode hts hR
      go_enter Try.func13, Try.ntmps13
      iterate 6 go_step
      rw [Hw1.out]
      go_wp2_with fail
      refine (H1.out w1).mono ?_
      rintro e w3 ⟨rfl, hb3⟩
      have HV3 := Lib.hid (HV.out.later hb3 HV.out.lt)
      have HB3 := Lib.hid (HB.out.trans (hb3.mono HB.out.size))
      have hz3 := HV3.out.lt
      clear hb3
      go_wp2_with (first
        | (refine TokCell.store rfl rfl _ _ rfl w3.heap.size #[.int .i64 0, .int .i64 0, .string ⟨#[]⟩, .int .i64 0, .int .i64 0] t.kind t.num (bytes t.str) t.beg t.fin rfl rfl (TokCell.new w3 _) rfl w3.heap.size _ (Below.refl _ _) (Nat.le_refl _) ?_; intro w4 HT4 HB4 HO4; have hb4 : Below w3.heap.size w3 w4 := ((Below.refl _ w3).alloc (Nat.le_refl _) _).trans HB4.out; obtain ⟨r0, r1, r2, r3, r4⟩ := HT4.out.parts; have HV4 := Lib.hid (HV3.out.later hb4 HV3.out.lt); have HBB4 := Lib.hid (HB3.out.trans (hb4.mono HB3.out.size)); clear hb4)
        | (refine TokCell.load rfl _ rfl w3.heap.size _ rfl HT4.out rfl ?_))
      refine (H2.out w4).mono ?_
      rintro e w5 ⟨⟨yk, yn, yg, ys, ⟨ylp, yll, ylc⟩, ⟨ydp, ydl, ydc⟩⟩, he, hr5, hb5⟩
      replace he : e = .returned (.tuple #[.agg #[.int .i64 yk, .int .i64 yn, .int .i64 yg, .string ys, .slice ylp yll ylc, .slice ydp ydl ydc], .int .i64 (R.fin : Int), .int .i64 R.code]) := he
      subst he
      have HV5 := Lib.hid (HV4.out.later hb5 HV4.out.lt)
      have HBB5 := Lib.hid (HBB4.out.trans (hb5.mono HBB4.out.size))
      have Hr5 := Lib.hid hr5
      have hlt4 := HV4.out.lt
      clear hr5 hb5
      go_wp2_with (refine VCell.store rfl rfl _ _ rfl w.heap.size .nil ⟨yk, yn, yg, ys, ⟨ylp, yll, ylc⟩, ⟨ydp, ydl, ydc⟩⟩ rfl rfl HV5.out ?_; intro wz HCz HKz HBz HZz)
      obtain ⟨g0, g1, g2, g3, g4, g5⟩ := HCz.out.at
      try dsimp only at g0 g1 g2 g3 g4 g5
      exact bodyPost_ret (v := .tuple #[.agg #[.int .i64 yk, .int .i64 yn, .int .i64 yg, .string ys, .slice ylp yll ylc, .slice ydp ydl ydc], .int .i64 (R.fin : Int), .int .i64 R.code]) (by simp [results, Try.results13, go_sem, g0, g1, g2, g3, g4, g5]) rfl
        (show RTells R w _ _ from ⟨⟨yk, yn, yg, ys, ⟨ylp, yll, ylc⟩, ⟨ydp, ydl, ydc⟩⟩, rfl, (Hr5.out.later (fun k hk => HKz.out k (by omega))).mono (fun k hk => by omega), HBB5.out.trans (HBz.out.mono (Nat.le_refl _))⟩)
    by_cases e5 : t.kind = 5
    · rw [begun_form (.inl e5)] at hR
      subst hR
      have c0 : (t.kind == 0) = false := by simp; omega
      have c1 : (t.kind == 1) = false := by simp; omega
      have c2 : (t.kind == 2) = false := by simp; omega
      have c3 : (t.kind == 3) = false := by simp; omega
      have c8 : (t.kind == 8) = false := by simp; omega
      have c5 : (t.kind == 5) = true := by simp; omega
      have c7 : (t.kind == 7) = false := by simp; omega
      have c4 : (t.kind == 4) = false := by simp; omega
      clear hkd e5 hcode hts
      go_enter Try.func13, Try.ntmps13
      iterate 6 go_step
      rw [Hw1.out]
      go_wp2_with fail
      refine (H1.out w1).mono ?_
      rintro e w3 ⟨rfl, hb3⟩
      have HV3 := Lib.hid (HV.out.later hb3 HV.out.lt)
      have HB3 := Lib.hid (HB.out.trans (hb3.mono HB.out.size))
      have hz3 := HV3.out.lt
      clear hb3
      go_wp2_with (first
        | (refine TokCell.store rfl rfl _ _ rfl w3.heap.size #[.int .i64 0, .int .i64 0, .string ⟨#[]⟩, .int .i64 0, .int .i64 0] t.kind t.num (bytes t.str) t.beg t.fin rfl rfl (TokCell.new w3 _) rfl w3.heap.size _ (Below.refl _ _) (Nat.le_refl _) ?_; intro w4 HT4 HB4 HO4; have hb4 : Below w3.heap.size w3 w4 := ((Below.refl _ w3).alloc (Nat.le_refl _) _).trans HB4.out; obtain ⟨r0, r1, r2, r3, r4⟩ := HT4.out.parts; have HV4 := Lib.hid (HV3.out.later hb4 HV3.out.lt); have HBB4 := Lib.hid (HB3.out.trans (hb4.mono HB3.out.size)); clear hb4)
        | (refine VCell.store rfl rfl _ _ rfl w.heap.size .nil ⟨0, 0, 0, ⟨#[]⟩, ⟨none, 0, 0⟩, ⟨none, 0, 0⟩⟩ rfl rfl HV4.out ?_; intro wz HCz HKz HBz HZz))
      obtain ⟨g0, g1, g2, g3, g4, g5⟩ := HCz.out.at
      try dsimp only at g0 g1 g2 g3 g4 g5
      exact bodyPost_ret (v := .tuple #[.agg #[.int .i64 0, .int .i64 0, .int .i64 0, .string ⟨#[]⟩, .slice none 0 0, .slice none 0 0], .int .i64 0, .int .i64 4]) (by simp [results, Try.results13, go_sem, g0, g1, g2, g3, g4, g5]) rfl
        (show RTells (.err 4) w _ _ from ⟨⟨0, 0, 0, ⟨#[]⟩, ⟨none, 0, 0⟩, ⟨none, 0, 0⟩⟩, rfl, rd_nil, HBB4.out.trans (HBz.out.mono (by omega))⟩)
    by_cases e7 : t.kind = 7
    · rw [begun_form (.inr e7)] at hR
      subst hR
      have c0 : (t.kind == 0) = false := by simp; omega
      have c1 : (t.kind == 1) = false := by simp; omega
      have c2 : (t.kind == 2) = false := by simp; omega
      have c3 : (t.kind == 3) = false := by simp; omega
      have c8 : (t.kind == 8) = false := by simp; omega
      have c5 : (t.kind == 5) = false := by simp; omega
      have c7 : (t.kind == 7) = true := by simp; omega
      have c4 : (t.kind == 4) = false := by simp; omega
      clear hkd e7 hcode hts
      go_enter Try.func13, Try.ntmps13
      iterate 6 go_step
      rw [Hw1.out]
      go_wp2_with fail
      refine (H1.out w1).mono ?_
      rintro e w3 ⟨rfl, hb3⟩
      have HV3 := Lib.hid (HV.out.later hb3 HV.out.lt)
      have HB3 := Lib.hid (HB.out.trans (hb3.mono HB.out.size))
      have hz3 := HV3.out.lt
      clear hb3
      go_wp2_with (first
        | (refine TokCell.store rfl rfl _ _ rfl w3.heap.size #[.int .i64 0, .int .i64 0, .string ⟨#[]⟩, .int .i64 0, .int .i64 0] t.kind t.num (bytes t.str) t.beg t.fin rfl rfl (TokCell.new w3 _) rfl w3.heap.size _ (Below.refl _ _) (Nat.le_refl _) ?_; intro w4 HT4 HB4 HO4; have hb4 : Below w3.heap.size w3 w4 := ((Below.refl _ w3).alloc (Nat.le_refl _) _).trans HB4.out; obtain ⟨r0, r1, r2, r3, r4⟩ := HT4.out.parts; have HV4 := Lib.hid (HV3.out.later hb4 HV3.out.lt); have HBB4 := Lib.hid (HB3.out.trans (hb4.mono HB3.out.size)); clear hb4)
        | (refine VCell.store rfl rfl _ _ rfl w.heap.size .nil ⟨0, 0, 0, ⟨#[]⟩, ⟨none, 0, 0⟩, ⟨none, 0, 0⟩⟩ rfl rfl HV4.out ?_; intro wz HCz HKz HBz HZz))
      obtain ⟨g0, g1, g2, g3, g4, g5⟩ := HCz.out.at
      try dsimp only at g0 g1 g2 g3 g4 g5
      exact bodyPost_ret (v := .tuple #[.agg #[.int .i64 0, .int .i64 0, .int .i64 0, .string ⟨#[]⟩, .slice none 0 0, .slice none 0 0], .int .i64 0, .int .i64 4]) (by simp [results, Try.results13, go_sem, g0, g1, g2, g3, g4, g5]) rfl
        (show RTells (.err 4) w _ _ from ⟨⟨0, 0, 0, ⟨#[]⟩, ⟨none, 0, 0⟩, ⟨none, 0, 0⟩⟩, rfl, rd_nil, HBB4.out.trans (HBz.out.mono (by omega))⟩)
    by_cases h64 : 64 ≤ d
    · rw [begun_deep (by omega) h64] at hR
      subst hR
      have hge : (64 : Int) ≤ (d : Int) := by omega
      have c0 : (t.kind == 0) = false := by simp; omega
      have c1 : (t.kind == 1) = false := by simp; omega
      have c2 : (t.kind == 2) = false := by simp; omega
      have c3 : (t.kind == 3) = false := by simp; omega
      have c8 : (t.kind == 8) = false := by simp; omega
      have c5 : (t.kind == 5) = false := by simp; omega
      have c7 : (t.kind == 7) = false := by simp; omega
      clear hcode hts
      go_enter Try.func13, Try.ntmps13
      iterate 6 go_step
      rw [Hw1.out]
      go_wp2_with fail
      refine (H1.out w1).mono ?_
      rintro e w3 ⟨rfl, hb3⟩
      have HV3 := Lib.hid (HV.out.later hb3 HV.out.lt)
      have HB3 := Lib.hid (HB.out.trans (hb3.mono HB.out.size))
      have hz3 := HV3.out.lt
      clear hb3
      go_wp2_with (first
        | (refine TokCell.store rfl rfl _ _ rfl w3.heap.size #[.int .i64 0, .int .i64 0, .string ⟨#[]⟩, .int .i64 0, .int .i64 0] t.kind t.num (bytes t.str) t.beg t.fin rfl rfl (TokCell.new w3 _) rfl w3.heap.size _ (Below.refl _ _) (Nat.le_refl _) ?_; intro w4 HT4 HB4 HO4; have hb4 : Below w3.heap.size w3 w4 := ((Below.refl _ w3).alloc (Nat.le_refl _) _).trans HB4.out; obtain ⟨r0, r1, r2, r3, r4⟩ := HT4.out.parts; have HV4 := Lib.hid (HV3.out.later hb4 HV3.out.lt); have HBB4 := Lib.hid (HB3.out.trans (hb4.mono HB3.out.size)); clear hb4)
        | (refine VCell.store rfl rfl _ _ rfl w.heap.size .nil ⟨0, 0, 0, ⟨#[]⟩, ⟨none, 0, 0⟩, ⟨none, 0, 0⟩⟩ rfl rfl HV4.out ?_; intro wz HCz HKz HBz HZz))
      obtain ⟨g0, g1, g2, g3, g4, g5⟩ := HCz.out.at
      try dsimp only at g0 g1 g2 g3 g4 g5
      exact bodyPost_ret (v := .tuple #[.agg #[.int .i64 0, .int .i64 0, .int .i64 0, .string ⟨#[]⟩, .slice none 0 0, .slice none 0 0], .int .i64 0, .int .i64 9]) (by simp [results, Try.results13, go_sem, g0, g1, g2, g3, g4, g5]) rfl
        (show RTells (.err 9) w _ _ from ⟨⟨0, 0, 0, ⟨#[]⟩, ⟨none, 0, 0⟩, ⟨none, 0, 0⟩⟩, rfl, rd_nil, HBB4.out.trans (HBz.out.mono (by omega))⟩)
    have hge : ¬ (64 : Int) ≤ (d : Int) := by omega
    have hz : IntKind.i64.wrap ((d : Int) + 1) = ((d + 1 : Nat) : Int) := by rw [IntKind.wrap_i64]; omega
    obtain ⟨x, hx⟩ : ∃ x : Int, ((d + 1 : Nat) : Int) = x := ⟨_, rfl⟩
    rw [hx] at hz
    by_cases e4 : t.kind = 4
    · rw [begun_list e4 h64] at hR
      have H2 := Lib.hid (fun W => hl t.fin d W hts.fin (by omega) (by rw [hR]; exact hcode))
      rw [hR, hx] at H2
      have c0 : (t.kind == 0) = false := by simp; omega
      have c1 : (t.kind == 1) = false := by simp; omega
      have c2 : (t.kind == 2) = false := by simp; omega
      have c3 : (t.kind == 3) = false := by simp; omega
      have c8 : (t.kind == 8) = false := by simp; omega
      have c5 : (t.kind == 5) = false := by simp; omega
      have c7 : (t.kind == 7) = false := by simp; omega
      have c4 : (t.kind == 4) = true := by simp; omega
      clear hkd e4 hcode hts hR hx
      go_enter Try.func13, Try.ntmps13
      iterate 6 go_step
      rw [Hw1.out]
      go_wp2_with fail
      refine (H1.out w1).mono ?_
      rintro e w3 ⟨rfl, hb3⟩
      have HV3 := Lib.hid (HV.out.later hb3 HV.out.lt)
      have HB3 := Lib.hid (HB.out.trans (hb3.mono HB.out.size))
      have hz3 := HV3.out.lt
      clear hb3
      go_wp2_with (first
        | (refine TokCell.store rfl rfl _ _ rfl w3.heap.size #[.int .i64 0, .int .i64 0, .string ⟨#[]⟩, .int .i64 0, .int .i64 0] t.kind t.num (bytes t.str) t.beg t.fin rfl rfl (TokCell.new w3 _) rfl w3.heap.size _ (Below.refl _ _) (Nat.le_refl _) ?_; intro w4 HT4 HB4 HO4; have hb4 : Below w3.heap.size w3 w4 := ((Below.refl _ w3).alloc (Nat.le_refl _) _).trans HB4.out; obtain ⟨r0, r1, r2, r3, r4⟩ := HT4.out.parts; have HV4 := Lib.hid (HV3.out.later hb4 HV3.out.lt); have HBB4 := Lib.hid (HB3.out.trans (hb4.mono HB3.out.size)); clear hb4)
        | (refine TokCell.load rfl _ rfl w3.heap.size _ rfl HT4.out rfl ?_))
      refine (H2.out w4).mono ?_
      rintro e w5 ⟨⟨yk, yn, yg, ys, ⟨ylp, yll, ylc⟩, ⟨ydp, ydl, ydc⟩⟩, he, hr5, hb5⟩
      replace he : e = .returned (.tuple #[.agg #[.int .i64 yk, .int .i64 yn, .int .i64 yg, .string ys, .slice ylp yll ylc, .slice ydp ydl ydc], .int .i64 (R.fin : Int), .int .i64 R.code]) := he
      subst he
      have HV5 := Lib.hid (HV4.out.later hb5 HV4.out.lt)
      have HBB5 := Lib.hid (HBB4.out.trans (hb5.mono HBB4.out.size))
      have Hr5 := Lib.hid hr5
      have hlt4 := HV4.out.lt
      clear hr5 hb5
      go_wp2_with (refine VCell.store rfl rfl _ _ rfl w.heap.size .nil ⟨yk, yn, yg, ys, ⟨ylp, yll, ylc⟩, ⟨ydp, ydl, ydc⟩⟩ rfl rfl HV5.out ?_; intro wz HCz HKz HBz HZz)
      obtain ⟨g0, g1, g2, g3, g4, g5⟩ := HCz.out.at
      try dsimp only at g0 g1 g2 g3 g4 g5
      exact bodyPost_ret (v := .tuple #[.agg #[.int .i64 yk, .int .i64 yn, .int .i64 yg, .string ys, .slice ylp yll ylc, .slice ydp ydl ydc], .int .i64 (R.fin : Int), .int .i64 R.code]) (by simp [results, Try.results13, go_sem, g0, g1, g2, g3, g4, g5]) rfl
        (show RTells R w _ _ from ⟨⟨yk, yn, yg, ys, ⟨ylp, yll, ylc⟩, ⟨ydp, ydl, ydc⟩⟩, rfl, (Hr5.out.later (fun k hk => HKz.out k (by omega))).mono (fun k hk => by omega), HBB5.out.trans (HBz.out.mono (Nat.le_refl _))⟩)
    rw [begun_dict (by omega) h64] at hR
    have H2 := Lib.hid (fun W => hdc t.fin d W hts.fin (by omega) (by rw [hR]; exact hcode))
    rw [hR, hx] at H2
    have c0 : (t.kind == 0) = false := by simp; omega
    have c1 : (t.kind == 1) = false := by simp; omega
    have c2 : (t.kind == 2) = false := by simp; omega
    have c3 : (t.kind == 3) = false := by simp; omega
    have c8 : (t.kind == 8) = false := by simp; omega
    have c5 : (t.kind == 5) = false := by simp; omega
    have c7 : (t.kind == 7) = false := by simp; omega
    have c4 : (t.kind == 4) = false := by simp; omega
    clear hkd hcode hts hR hx
    go_enter Try.func13, Try.ntmps13
    iterate 6 go_step
    rw [Hw1.out]
    go_wp2_with fail
    refine (H1.out w1).mono ?_
    rintro e w3 ⟨rfl, hb3⟩
    have HV3 := Lib.hid (HV.out.later hb3 HV.out.lt)
    have HB3 := Lib.hid (HB.out.trans (hb3.mono HB.out.size))
    have hz3 := HV3.out.lt
    clear hb3
    go_wp2_with (first
      | (refine TokCell.store rfl rfl _ _ rfl w3.heap.size #[.int .i64 0, .int .i64 0, .string ⟨#[]⟩, .int .i64 0, .int .i64 0] t.kind t.num (bytes t.str) t.beg t.fin rfl rfl (TokCell.new w3 _) rfl w3.heap.size _ (Below.refl _ _) (Nat.le_refl _) ?_; intro w4 HT4 HB4 HO4; have hb4 : Below w3.heap.size w3 w4 := ((Below.refl _ w3).alloc (Nat.le_refl _) _).trans HB4.out; obtain ⟨r0, r1, r2, r3, r4⟩ := HT4.out.parts; have HV4 := Lib.hid (HV3.out.later hb4 HV3.out.lt); have HBB4 := Lib.hid (HB3.out.trans (hb4.mono HB3.out.size)); clear hb4)
      | (refine TokCell.load rfl _ rfl w3.heap.size _ rfl HT4.out rfl ?_))
    refine (H2.out w4).mono ?_
    rintro e w5 ⟨⟨yk, yn, yg, ys, ⟨ylp, yll, ylc⟩, ⟨ydp, ydl, ydc⟩⟩, he, hr5, hb5⟩
    replace he : e = .returned (.tuple #[.agg #[.int .i64 yk, .int .i64 yn, .int .i64 yg, .string ys, .slice ylp yll ylc, .slice ydp ydl ydc], .int .i64 (R.fin : Int), .int .i64 R.code]) := he
    subst he
    have HV5 := Lib.hid (HV4.out.later hb5 HV4.out.lt)
    have HBB5 := Lib.hid (HBB4.out.trans (hb5.mono HBB4.out.size))
    have Hr5 := Lib.hid hr5
    have hlt4 := HV4.out.lt
    clear hr5 hb5
    go_wp2_with (refine VCell.store rfl rfl _ _ rfl w.heap.size .nil ⟨yk, yn, yg, ys, ⟨ylp, yll, ylc⟩, ⟨ydp, ydl, ydc⟩⟩ rfl rfl HV5.out ?_; intro wz HCz HKz HBz HZz)
    obtain ⟨g0, g1, g2, g3, g4, g5⟩ := HCz.out.at
    try dsimp only at g0 g1 g2 g3 g4 g5
    exact bodyPost_ret (v := .tuple #[.agg #[.int .i64 yk, .int .i64 yn, .int .i64 yg, .string ys, .slice ylp yll ylc, .slice ydp ydl ydc], .int .i64 (R.fin : Int), .int .i64 R.code]) (by simp [results, Try.results13, go_sem, g0, g1, g2, g3, g4, g5]) rfl
      (show RTells R w _ _ from ⟨⟨yk, yn, yg, ys, ⟨ylp, yll, ylc⟩, ⟨ydp, ydl, ydc⟩⟩, rfl, (Hr5.out.later (fun k hk => HKz.out k (by omega))).mono (fun k hk => by omega), HBB5.out.trans (HBz.out.mono (Nat.le_refl _))⟩)
  · rw [pread_err (by rw [ht]; exact hc), ht] at hR
    subst hR
    have H1 := Lib.hid (show ∀ W, Calls Try.prog 16 #[.string s, .int .i64 a] W (fun e w' => e = .returned (.tuple #[.agg (tokC 0 0 ⟨#[]⟩ 0 0), .int .i64 t.code]) ∧ Below W.heap.size W w') from by have h := hn; rw [htg.1.1 hc] at h; exact h)
    have hcd : (t.code != 0) = true := by simpa using hc
    generalize t.code = c at *
    clear hn htg hc ht ha hts hcode
    go_enter Try.func13, Try.ntmps13
    iterate 6 go_step
    rw [Hw1.out]
    go_wp2_with fail
    refine (H1.out w1).mono ?_
    rintro e w3 ⟨rfl, hb3⟩
    have HV3 := Lib.hid (HV.out.later hb3 HV.out.lt)
    have HB3 := Lib.hid (HB.out.trans (hb3.mono HB.out.size))
    have hz3 := HV3.out.lt
    clear hb3
    go_wp2_with (first
      | (refine TokCell.store rfl rfl _ _ rfl w3.heap.size #[.int .i64 0, .int .i64 0, .string ⟨#[]⟩, .int .i64 0, .int .i64 0] 0 0 ⟨#[]⟩ 0 0 rfl rfl (TokCell.new w3 _) rfl w3.heap.size _ (Below.refl _ _) (Nat.le_refl _) ?_; intro w4 HT4 HB4 HO4; have hb4 : Below w3.heap.size w3 w4 := ((Below.refl _ w3).alloc (Nat.le_refl _) _).trans HB4.out; obtain ⟨r0, r1, r2, r3, r4⟩ := HT4.out.parts; have HV4 := Lib.hid (HV3.out.later hb4 HV3.out.lt); have HBB4 := Lib.hid (HB3.out.trans (hb4.mono HB3.out.size)); clear hb4)
      | (refine VCell.store rfl rfl _ _ rfl w.heap.size .nil ⟨0, 0, 0, ⟨#[]⟩, ⟨none, 0, 0⟩, ⟨none, 0, 0⟩⟩ rfl rfl HV4.out ?_; intro wz HCz HKz HBz HZz))
    obtain ⟨g0, g1, g2, g3, g4, g5⟩ := HCz.out.at
    try dsimp only at g0 g1 g2 g3 g4 g5
    exact bodyPost_ret (v := .tuple #[.agg #[.int .i64 0, .int .i64 0, .int .i64 0, .string ⟨#[]⟩, .slice none 0 0, .slice none 0 0], .int .i64 0, .int .i64 c]) (by simp [results, Try.results13, go_sem, g0, g1, g2, g3, g4, g5]) rfl
      (show RTells (.err c) w _ _ from ⟨⟨0, 0, 0, ⟨#[]⟩, ⟨none, 0, 0⟩, ⟨none, 0, 0⟩⟩, rfl, rd_nil, HBB4.out.trans (HBz.out.mono (by omega))⟩)
end
end Go.Proofs.Ytejgcnmbngdkiaa
/-
  The document's list.
-/
namespace Go.Proofs.Ytejgcnmbngdkiaa
section
open Go.RowKit
set_option maxRecDepth 100000
attribute [local go_sem] undef Hv.arr

/-- What stands while a list is read. -/
structure RListAt (s : ByteArray) (w wx : World) (k : Nat) (acc : List Val) (p : Option Addr) (cap : Nat) (xs : List Hv) : Prop where
  bel : Below w.heap.size w wx
  res : VCell wx w.heap.size .nil
  row : RowV wx (w.heap.size + 1) p cap xs acc
  le : k ≤ s.data.toList.length
  few : acc.length ≤ k
theorem RListAt.later {s : ByteArray} {w wx w' : World} {k : Nat} {acc : List Val} {p : Option Addr} {cap : Nat} {xs : List Hv} (h : RListAt s w wx k acc p cap xs) (hb : Below wx.heap.size wx w') : RListAt s w w' k acc p cap xs :=
  ⟨h.bel.trans (hb.mono h.bel.size), h.res.later hb h.res.lt, h.row.later hb, h.le, h.few⟩

set_option maxHeartbeats 16000000 in
theorem rlist_of (s : ByteArray) (F : Nat) (hs : s.size ≤ 100000000) (hb : ∀ g, g < F → RReadC s g) : RListC s F := by
  intro k d w hk hd hcode
  have hls : s.data.toList.length ≤ 100000000 := by rw [← size_data]; exact hs
  obtain ⟨w1, hw1⟩ : ∃ w1, w.alloc (.cells #[.int .i64 0, .int .i64 0, .int .i64 0, .string ⟨#[]⟩, .slice none 0 0, .slice none 0 0] 26) = w1 := ⟨_, rfl⟩
  have hs1 : w1.heap.size = w.heap.size + 1 := by rw [← hw1]; simp
  have hb1 : Below w.heap.size w w1 := by rw [← hw1]; exact (Below.refl _ w).alloc (Nat.le_refl _) _
  have hv1 : VCell w1 w.heap.size .nil := by rw [← hw1]; exact heap_alloc_new w _
  have hb2 : Below w1.heap.size w1 (w1.alloc (.cells #[] 26)) := (Below.refl _ w1).alloc (Nat.le_refl _) _
  have HI0 := Lib.hid (show RListAt s w (w1.alloc (.cells #[] 26)) k [] (some ⟨w1.heap.size, 0, none⟩) 0 [] from
    ⟨hb1.trans (hb2.mono (by omega)), hv1.later hb2 (by omega), by rw [← hs1]; exact RowV.made w1 (Nat.le_refl _), hk, Nat.zero_le _⟩)
  obtain ⟨R, hR⟩ : ∃ R, listP s.data.toList F k (d + 1) [] = R := ⟨_, rfl⟩
  rw [hR] at hcode ⊢
  have HR0 := Lib.hid hR
  have Hb := Lib.hid hb
  have Hw1 := Lib.hid hw1
  have Hcode := Lib.hid hcode
  obtain ⟨D, hD⟩ : ∃ D : Int, ((d + 1 : Nat) : Int) = D := ⟨_, rfl⟩
  rw [hD]
  have HD := Lib.hid hD
  clear hw1 hb1 hb2 hv1 hR hb hcode hD
  go_enter Try.func25, Try.ntmps25
  iterate 6 go_step
  rw [Hw1.out]
  go_wp2_with fail
  go_loopg [1, 9] F (fun g v1 v9 wx => ∃ (k : Nat) (acc : List Val) (p : Option Addr) (cap : Nat) (xs : List Hv), v1 = .int .i64 (k : Int) ∧ v9 = .slice p xs.length cap ∧ Aside (RListAt s w wx k acc p cap xs ∧ listP s.data.toList g k (d + 1) acc = R) ∧ g ≤ F)
  case atStart => exact ⟨k, [], some ⟨w1.heap.size, 0, none⟩, 0, [], rfl, by first | rfl | (rw [hs1]; rfl), ⟨HI0.out, HR0.out⟩, Nat.le_refl _⟩
  case round =>
    obtain ⟨k, acc, p, cap, xs, rfl, rfl, HI, hg⟩ := hrel
    have Hcode' := Hcode.out
    cases gk with
    | zero =>
      exfalso
      have := HI.out.2
      rw [listP] at this
      rw [← this] at Hcode'
      exact Hcode' rfl
    | succ g =>
      have hL := HI.out.1
      have hP := HI.out.2
      have HL := Lib.hid hL
      have hk := hL.le
      obtain ⟨t, ht⟩ : ∃ t, nextN s.data.toList k = t := ⟨_, rfl⟩
      have hts := next_sound s.data.toList k hk
      have htg := next_good s.data.toList k hk
      have htp := next_step hk
      have hn := fun W => rNext_any s (k : Int) W hs
      rw [(nextI_nat hk).trans ht] at hn
      rw [ht] at hts htg htp
      unfold Sg.told Sg.tok at hn
      by_cases hc : t.code = 0
      · have H1 := Lib.hid (show ∀ W, Calls Try.prog 16 #[.string s, .int .i64 (k : Int)] W (fun e w' => e = .returned (.tuple #[.agg (tokC t.kind t.num (bytes t.str) t.beg t.fin), .int .i64 0]) ∧ Below W.heap.size W w') from by have h := hn; rw [hc] at h; exact h)
        by_cases h5 : t.kind = 5
        · have hRe : R = ⟨.mk 5 0 0 (bytes []) acc [], t.fin, 0⟩ := by rw [← hP, list_end (by rw [ht]; exact hc) (by rw [ht]; exact h5), ht]
          have c5 : (t.kind == 5) = true := by simpa using h5
          have HRe := Lib.hid hRe
          clear hn hts htg htp hc h5 HI hL hP hRe Hcode' ht
          go_wp2_with fail
          refine (H1.out wr).mono ?_
          rintro e w3 ⟨rfl, hb3⟩
          have HL3 := Lib.hid (HL.out.later hb3)
          have hz3 := HL3.out.res.lt
          clear hb3
          go_wp2_with (refine TokCell.store rfl rfl _ _ rfl w3.heap.size #[.int .i64 0, .int .i64 0, .string ⟨#[]⟩, .int .i64 0, .int .i64 0] t.kind t.num (bytes t.str) t.beg t.fin rfl rfl (TokCell.new w3 _) rfl w3.heap.size _ (Below.refl _ _) (Nat.le_refl _) ?_; intro w4 HT4 HB4 HO4; have hb4 : Below w3.heap.size w3 w4 := ((Below.refl _ w3).alloc (Nat.le_refl _) _).trans HB4.out; obtain ⟨r0, r1, r2, r3, r4⟩ := HT4.out.parts; have HL4 := Lib.hid (HL3.out.later hb4); have Hres := HL4.out.res; clear hb4)
          have hrow := HL4.out.row.read
          have hne3 : ¬ w3.heap.size = w.heap.size := by omega
          obtain ⟨⟨z0, z1, z2, z3, z4, z5⟩, f0, f1, f2, f3, f4, f5⟩ := Hres.zeros
          go_region
          go_wp2_with fail
          have hvz := Hres.six 5 0 0 ⟨#[]⟩ p none xs.length cap 0 0
          have hbz := below_six HL4.out.bel (Nat.le_refl _) (.int .i64 5) (.int .i64 0) (.int .i64 0) (.string ⟨#[]⟩) (.slice p xs.length cap) (.slice none 0 0)
          have hrz : RdL ((((((w4.setCell ⟨w.heap.size, 0, none⟩ (.int .i64 5)).setCell ⟨w.heap.size, 1, none⟩ (.int .i64 0)).setCell ⟨w.heap.size, 2, none⟩ (.int .i64 0)).setCell ⟨w.heap.size, 3, none⟩ (.string ⟨#[]⟩)).setCell ⟨w.heap.size, 4, none⟩ (.slice p xs.length cap)).setCell ⟨w.heap.size, 5, none⟩ (.slice none 0 0)) (fun k => w.heap.size ≤ k) ⟨p, xs.length, cap⟩ acc :=
            (hrow.later (fun k hk => six_other w4 w.heap.size k (by omega) _ _ _ _ _ _)).mono (fun k hk => by omega)
          generalize (((((w4.setCell ⟨w.heap.size, 0, none⟩ (.int .i64 5)).setCell ⟨w.heap.size, 1, none⟩ (.int .i64 0)).setCell ⟨w.heap.size, 2, none⟩ (.int .i64 0)).setCell ⟨w.heap.size, 3, none⟩ (.string ⟨#[]⟩)).setCell ⟨w.heap.size, 4, none⟩ (.slice p xs.length cap)).setCell ⟨w.heap.size, 5, none⟩ (.slice none 0 0) = wz at hvz hbz hrz ⊢
          obtain ⟨g0, g1, g2, g3, g4, g5⟩ := hvz.at
          try dsimp only at g0 g1 g2 g3 g4 g5
          simp only [Nat.zero_add] at g1 g2 g3 g4 g5
          have hfin : RTells R w (.returned (.tuple #[.agg #[.int .i64 5, .int .i64 0, .int .i64 0, .string ⟨#[]⟩, .slice p xs.length cap, .slice none 0 0], .int .i64 (t.fin : Int), .int .i64 0])) wz.drew := by
            rw [HRe.out]
            exact ⟨⟨5, 0, 0, ⟨#[]⟩, ⟨p, xs.length, cap⟩, ⟨none, 0, 0⟩⟩, rfl, rd_iff.2 ⟨⟨rfl, rfl, rfl, rfl⟩, hrz.later (fun _ _ => rfl), RdD.nil _ _ none 0 (Nat.zero_le _)⟩, hbz.drew⟩
          exact bodyPost_ret (v := .tuple #[.agg #[.int .i64 5, .int .i64 0, .int .i64 0, .string ⟨#[]⟩, .slice p xs.length cap, .slice none 0 0], .int .i64 (t.fin : Int), .int .i64 0]) (by simp [results, Try.results25, go_sem, g0, g1, g2, g3, g4, g5]) rfl hfin
        · have c5 : (t.kind == 5) = false := by simpa using h5
          have HBc := Hb.out g (by omega) (k : Int) k (d + 1)
          obtain ⟨P, hP2⟩ : ∃ P, readP s.data.toList g k (d + 1) = P := ⟨_, rfl⟩
          have hP3 : begunP s.data.toList g t (d + 1) = P := by rw [← hP2, pread_ok (by rw [ht]; exact hc), ht]
          rw [hP2, HD.out] at HBc
          by_cases h3 : P.code = 0
          · have hRe : listP s.data.toList g P.fin (d + 1) (acc ++ [P.v]) = R := by
              rw [← hP, list_step (by rw [ht]; exact hc) (by rw [ht]; exact h5) (by rw [ht, hP3]; exact h3), ht, hP3]
            have hfine := (reads_fine s.data.toList g).1 t (d + 1) hts (by rw [hP3]; exact h3)
            rw [hP3] at hfine
            have h0 : ¬ t.kind = 0 := fun e => by
              rw [← hP3] at h3
              cases g with
              | zero => rw [begunP] at h3; exact absurd h3 (by decide)
              | succ g => rw [begun_end e] at h3; exact absurd h3 (by decide)
            have hst := htp hc h0
            have hlo := hfine.lo
            have HRe := Lib.hid hRe
            have Hhi := Lib.hid hfine.hi
            have HBn := Lib.hid (fun W => HBc W (nextI_nat hk) hk (by omega) (by rw [h3]; decide))
            have h3' := Lib.hid h3
            clear hn hts htg htp hc h5 HI hL hP hRe Hcode' HBc hfine h0 ht hP2 hP3 h3
            go_wp2_with fail
            refine (H1.out wr).mono ?_
            rintro e w3 ⟨rfl, hb3⟩
            have HL3 := Lib.hid (HL.out.later hb3)
            have hz3 := HL3.out.res.lt
            clear hb3
            go_wp2_with (refine TokCell.store rfl rfl _ _ rfl w3.heap.size #[.int .i64 0, .int .i64 0, .string ⟨#[]⟩, .int .i64 0, .int .i64 0] t.kind t.num (bytes t.str) t.beg t.fin rfl rfl (TokCell.new w3 _) rfl w3.heap.size _ (Below.refl _ _) (Nat.le_refl _) ?_; intro w4 HT4 HB4 HO4; have hb4 : Below w3.heap.size w3 w4 := ((Below.refl _ w3).alloc (Nat.le_refl _) _).trans HB4.out; obtain ⟨r0, r1, r2, r3, r4⟩ := HT4.out.parts; have HL4 := Lib.hid (HL3.out.later hb4); have Hres := HL4.out.res; clear hb4)
            refine (HBn.out w4).mono ?_
            rintro e w5 ⟨⟨yk, yn, yg, ys, ⟨ylp, yll, ylc⟩, ⟨ydp, ydl, ydc⟩⟩, he, hy5, hb5⟩
            replace he : e = .returned (.tuple #[.agg #[.int .i64 yk, .int .i64 yn, .int .i64 yg, .string ys, .slice ylp yll ylc, .slice ydp ydl ydc], .int .i64 (P.fin : Int), .int .i64 P.code]) := he
            rw [h3'.out] at he
            subst he
            have HL5 := Lib.hid (HL4.out.later hb5)
            have Hy5 := Lib.hid hy5
            have hz5 := hb5.size
            have hz4 := HL4.out.row.1.lt
            have hzz4 := HL4.out.res.lt
            clear hb5 hy5 Hres
            go_wp2_with (first
              | (refine VCell.store rfl rfl (.tmp 12) (.tmp 38) rfl w5.heap.size .nil ⟨yk, yn, yg, ys, ⟨ylp, yll, ylc⟩, ⟨ydp, ydl, ydc⟩⟩ rfl rfl (VCell.new w5 .nil) ?_; intro w6 HC6 HK6 HB6 HZ6; have hb56 : Below w5.heap.size w5 w6 := ((Below.refl _ w5).alloc (Nat.le_refl _) _).trans HB6.out; have HL6 := Lib.hid (HL5.out.later hb56); have Hy6 := Lib.hid (Hy5.out.bound.later (fun k hk => hb56.block k hk.2)))
              | (refine VCell.load rfl (.tmp 12) rfl w5.heap.size _ rfl HC6.out ?_)
              | (at_builtin; refine wpList_append_V rfl (.tmp 45) (.tmp 47) rfl (w.heap.size + 1) _ _ xs rfl (HL6.out.row.1.push rfl) ⟨yk, yn, yg, ys, ⟨ylp, yll, ylc⟩, ⟨ydp, ydl, ydc⟩⟩ w6.heap.size 1 rfl (push_new rfl) (by have := HL6.out.few; have := HL6.out.le; have := HL6.out.row.2.1; omega) _ (Below.refl _ _) (by have := HL6.out.res.lt; simp; omega) ?_; intro g' cap' w7 HO7 HB7 HK7 HF7))
            have e : (xs ++ [(⟨yk, yn, yg, ys, ⟨ylp, yll, ylc⟩, ⟨ydp, ydl, ydc⟩⟩ : Hv)]).length = xs.length + 1 := by rw [List.length_append]; rfl
            have hbA : Below w.heap.size w (w6.alloc (.cells (⟨yk, yn, yg, ys, ⟨ylp, yll, ylc⟩, ⟨ydp, ydl, ydc⟩⟩ : Hv).arr 26)) := HL6.out.bel.alloc HL6.out.bel.size _
            have hres7 : VCell w7 w.heap.size .nil := HL6.out.res.same ((HK7.out _ (by have := HL6.out.res.lt; simp; omega) (fun q hq => by have := (HL6.out.row.1.lt q hq).1; omega)).trans (push_old rfl HL6.out.res.lt))
            go_roundg g
            case measure => omega
            case rel =>
              refine ⟨P.fin, acc ++ [P.v], some ⟨g', 0, none⟩, cap', xs ++ [⟨yk, yn, yg, ys, ⟨ylp, yll, ylc⟩, ⟨ydp, ydl, ydc⟩⟩], rfl, by rw [e], (show Aside _ from ⟨⟨?_, hres7, ?_, Hhi.out, ?_⟩, HRe.out⟩), by omega⟩
              · exact hbA.trans (HB7.out.mono (by omega))
              · exact RowV.put (HL6.out.row.later ((Below.refl _ w6).alloc (Nat.le_refl _) (.cells (⟨yk, yn, yg, ys, ⟨ylp, yll, ylc⟩, ⟨ydp, ydl, ydc⟩⟩ : Hv).arr 26))) (Hy6.out.bound.later (fun k hk => heap_alloc_old _ _ hk.2)) (fun k hk => ⟨by have := hk.1.1; omega, fun a ha => by have := (hz4 a ha).2; have := hk.1.1; omega⟩) HO7.out HK7.out HF7.out
              · rw [List.length_append]; show acc.length + 1 ≤ _; have := HL.out.few; omega
          · have hRe : R = .err P.code := by rw [← hP, list_bad (by rw [ht]; exact hc) (by rw [ht]; exact h5) (by rw [ht, hP3]; exact h3), ht, hP3]
            have hPc : ¬ P.code = -1 := by rw [hRe] at Hcode'; exact Hcode'
            have HRe := Lib.hid hRe
            have HBn := Lib.hid (fun W => HBc W (nextI_nat hk) hk (by omega) hPc)
            have hcd : (P.code != 0) = true := by simpa using h3
            generalize hPq : P.code = c at *
            clear hn hts htg htp hc h5 HI hL hP hRe Hcode' HBc ht hP2 hP3 h3 hPc
            go_wp2_with fail
            refine (H1.out wr).mono ?_
            rintro e w3 ⟨rfl, hb3⟩
            have HL3 := Lib.hid (HL.out.later hb3)
            have hz3 := HL3.out.res.lt
            clear hb3
            go_wp2_with (refine TokCell.store rfl rfl _ _ rfl w3.heap.size #[.int .i64 0, .int .i64 0, .string ⟨#[]⟩, .int .i64 0, .int .i64 0] t.kind t.num (bytes t.str) t.beg t.fin rfl rfl (TokCell.new w3 _) rfl w3.heap.size _ (Below.refl _ _) (Nat.le_refl _) ?_; intro w4 HT4 HB4 HO4; have hb4 : Below w3.heap.size w3 w4 := ((Below.refl _ w3).alloc (Nat.le_refl _) _).trans HB4.out; obtain ⟨r0, r1, r2, r3, r4⟩ := HT4.out.parts; have HL4 := Lib.hid (HL3.out.later hb4); have Hres := HL4.out.res; clear hb4)
            refine (HBn.out w4).mono ?_
            rintro e w5 ⟨⟨yk, yn, yg, ys, ⟨ylp, yll, ylc⟩, ⟨ydp, ydl, ydc⟩⟩, he, hy5, hb5⟩
            replace he : e = .returned (.tuple #[.agg #[.int .i64 yk, .int .i64 yn, .int .i64 yg, .string ys, .slice ylp yll ylc, .slice ydp ydl ydc], .int .i64 (P.fin : Int), .int .i64 P.code]) := he
            rw [hPq] at he
            subst he
            have HL5 := Lib.hid (HL4.out.later hb5)
            clear hb5 hy5 Hres
            go_wp2_with (first
              | (refine VCell.store rfl rfl (.tmp 12) (.tmp 38) rfl w5.heap.size .nil ⟨yk, yn, yg, ys, ⟨ylp, yll, ylc⟩, ⟨ydp, ydl, ydc⟩⟩ rfl rfl (VCell.new w5 .nil) ?_; intro w6 HC6 HK6 HB6 HZ6; have hb56 : Below w5.heap.size w5 w6 := ((Below.refl _ w5).alloc (Nat.le_refl _) _).trans HB6.out; have HL6 := Lib.hid (HL5.out.later hb56); have Hres := HL6.out.res)
              | (refine VCell.store rfl rfl _ _ rfl w.heap.size .nil ⟨0, 0, 0, ⟨#[]⟩, ⟨none, 0, 0⟩, ⟨none, 0, 0⟩⟩ rfl rfl Hres ?_; intro wz HCz HKz HBz HZz))
            obtain ⟨g0, g1, g2, g3, g4, g5⟩ := HCz.out.at
            try dsimp only at g0 g1 g2 g3 g4 g5
            exact bodyPost_ret (v := .tuple #[.agg #[.int .i64 0, .int .i64 0, .int .i64 0, .string ⟨#[]⟩, .slice none 0 0, .slice none 0 0], .int .i64 0, .int .i64 c]) (by simp [results, Try.results25, go_sem, g0, g1, g2, g3, g4, g5]) rfl
              (by rw [HRe.out]; exact (show RTells (.err c) w _ _ from ⟨⟨0, 0, 0, ⟨#[]⟩, ⟨none, 0, 0⟩, ⟨none, 0, 0⟩⟩, rfl, rd_nil, HL6.out.bel.trans HBz.out⟩))
      · have H1 := Lib.hid (show ∀ W, Calls Try.prog 16 #[.string s, .int .i64 (k : Int)] W (fun e w' => e = .returned (.tuple #[.agg (tokC 0 0 ⟨#[]⟩ 0 0), .int .i64 t.code]) ∧ Below W.heap.size W w') from by have h := hn; rw [htg.1.1 hc] at h; exact h)
        have hRe : R = .err t.code := by rw [← hP, list_err (by rw [ht]; exact hc), ht]
        have hcd : (t.code != 0) = true := by simpa using hc
        have HRe := Lib.hid hRe
        generalize t.code = c at *
        clear hn hts htg htp hc HI hL hP hRe Hcode' ht
        go_wp2_with fail
        refine (H1.out wr).mono ?_
        rintro e w3 ⟨rfl, hb3⟩
        have HL3 := Lib.hid (HL.out.later hb3)
        clear hb3
        go_wp2_with (first
          | (refine TokCell.store rfl rfl _ _ rfl w3.heap.size #[.int .i64 0, .int .i64 0, .string ⟨#[]⟩, .int .i64 0, .int .i64 0] 0 0 ⟨#[]⟩ 0 0 rfl rfl (TokCell.new w3 _) rfl w3.heap.size _ (Below.refl _ _) (Nat.le_refl _) ?_; intro w4 HT4 HB4 HO4; have hb4 : Below w3.heap.size w3 w4 := ((Below.refl _ w3).alloc (Nat.le_refl _) _).trans HB4.out; obtain ⟨r0, r1, r2, r3, r4⟩ := HT4.out.parts; have HL4 := Lib.hid (HL3.out.later hb4); have Hres := HL4.out.res; clear hb4)
          | (refine VCell.store rfl rfl _ _ rfl w.heap.size .nil ⟨0, 0, 0, ⟨#[]⟩, ⟨none, 0, 0⟩, ⟨none, 0, 0⟩⟩ rfl rfl Hres ?_; intro wz HCz HKz HBz HZz))
        obtain ⟨g0, g1, g2, g3, g4, g5⟩ := HCz.out.at
        try dsimp only at g0 g1 g2 g3 g4 g5
        exact bodyPost_ret (v := .tuple #[.agg #[.int .i64 0, .int .i64 0, .int .i64 0, .string ⟨#[]⟩, .slice none 0 0, .slice none 0 0], .int .i64 0, .int .i64 c]) (by simp [results, Try.results25, go_sem, g0, g1, g2, g3, g4, g5]) rfl
          (by rw [HRe.out]; exact (show RTells (.err c) w _ _ from ⟨⟨0, 0, 0, ⟨#[]⟩, ⟨none, 0, 0⟩, ⟨none, 0, 0⟩⟩, rfl, rd_nil, HL4.out.bel.trans HBz.out⟩))
end
end Go.Proofs.Ytejgcnmbngdkiaa
