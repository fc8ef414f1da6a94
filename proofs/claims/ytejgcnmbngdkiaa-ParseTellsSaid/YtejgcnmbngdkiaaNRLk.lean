/-
  PaRWord, PaRLink, PaRNum: texts merged.
-/
import Derived.Test.YtejgcnmbngdkiaaNNum
import Derived.Test.YtejgcnmbngdkiaaNRNx
/-
  The document's word, link, number.
-/
namespace Go.Proofs.Ytejgcnmbngdkiaa
section
open Go.RowKit
set_option maxRecDepth 100000
attribute [local go_sem] undef

theorem VCell.six {w : World} {q : Nat} {x : Hv} (h : VCell w q x) (k n g : Int) (s : ByteArray) (lp dp : Option Addr) (ll lc dl dc : Nat) :
    VCell ((((((w.setCell ⟨q, 0, none⟩ (.int .i64 k)).setCell ⟨q, 1, none⟩ (.int .i64 n)).setCell ⟨q, 2, none⟩ (.int .i64 g)).setCell ⟨q, 3, none⟩ (.string s)).setCell ⟨q, 4, none⟩ (.slice lp ll lc)).setCell ⟨q, 5, none⟩ (.slice dp dl dc)) q ⟨k, n, g, s, ⟨lp, ll, lc⟩, ⟨dp, dl, dc⟩⟩ :=
  heap_setCell_same _ _ 5 _ _ _ (heap_setCell_same _ _ 4 _ _ _ (heap_setCell_same _ _ 3 _ _ _ (heap_setCell_same _ _ 2 _ _ _ (heap_setCell_same _ _ 1 _ _ _ (heap_setCell_same _ _ 0 _ _ _ h)))))
theorem below_six {B q : Nat} {w w' : World} (h : Below B w w') (hB : B ≤ q) (v0 v1 v2 v3 v4 v5 : Value) :
    Below B w ((((((w'.setCell ⟨q, 0, none⟩ v0).setCell ⟨q, 1, none⟩ v1).setCell ⟨q, 2, none⟩ v2).setCell ⟨q, 3, none⟩ v3).setCell ⟨q, 4, none⟩ v4).setCell ⟨q, 5, none⟩ v5) :=
  (((((h.setCell (p := ⟨q, 0, none⟩) hB v0).setCell (p := ⟨q, 1, none⟩) hB v1).setCell (p := ⟨q, 2, none⟩) hB v2).setCell (p := ⟨q, 3, none⟩) hB v3).setCell (p := ⟨q, 4, none⟩) hB v4).setCell (p := ⟨q, 5, none⟩) hB v5
theorem six_other (w : World) (q k : Nat) (hk : k ≠ q) (v0 v1 v2 v3 v4 v5 : Value) :
    ((((((w.setCell ⟨q, 0, none⟩ v0).setCell ⟨q, 1, none⟩ v1).setCell ⟨q, 2, none⟩ v2).setCell ⟨q, 3, none⟩ v3).setCell ⟨q, 4, none⟩ v4).setCell ⟨q, 5, none⟩ v5).heap[k]? = w.heap[k]? := by
  rw [Below.heap_setCell _ _ _ _ hk, Below.heap_setCell _ _ _ _ hk, Below.heap_setCell _ _ _ _ hk, Below.heap_setCell _ _ _ _ hk, Below.heap_setCell _ _ _ _ hk, Below.heap_setCell _ _ _ _ hk]
/-- A cell that holds nothing yet: what its parts are, and that none is frozen. -/
theorem VCell.zeros {w : World} {q : Nat} (h : VCell w q .nil) : (w.cell? ⟨q, 0, none⟩ = some (.int .i64 0) ∧ w.cell? ⟨q, 1, none⟩ = some (.int .i64 0) ∧ w.cell? ⟨q, 2, none⟩ = some (.int .i64 0) ∧ w.cell? ⟨q, 3, none⟩ = some (.string ⟨#[]⟩) ∧ w.cell? ⟨q, 4, none⟩ = some (.slice none 0 0) ∧ w.cell? ⟨q, 5, none⟩ = some (.slice none 0 0)) ∧
    w.frozen? ⟨q, 0, none⟩ = false ∧ w.frozen? ⟨q, 1, none⟩ = false ∧ w.frozen? ⟨q, 2, none⟩ = false ∧ w.frozen? ⟨q, 3, none⟩ = false ∧ w.frozen? ⟨q, 4, none⟩ = false ∧ w.frozen? ⟨q, 5, none⟩ = false :=
  ⟨⟨h.cell 0, h.cell 1, h.cell 2, h.cell 3, h.cell 4, h.cell 5⟩, h.free 0, h.free 1, h.free 2, h.free 3, h.free 4, h.free 5⟩

/-- What the document's answers tell: a value, where it ends, and the error. -/
def RTells (R : Ps) (w : World) (e : Ending) (w' : World) : Prop :=
  ∃ y : Hv, e = .returned (.tuple #[.agg y.arr, .int .i64 (R.fin : Int), .int .i64 R.code]) ∧ Rd w' (fun k => w.heap.size ≤ k) y R.v ∧ Below w.heap.size w w'
theorem rd_nil {w : World} {S : Nat → Prop} : Rd w S ⟨0, 0, 0, ⟨#[]⟩, ⟨none, 0, 0⟩, ⟨none, 0, 0⟩⟩ .null := Rd.null w S
set_option maxHeartbeats 4000000 in
theorem rword18_any (t : Sg) (w : World) : Calls Try.prog 24 #[.agg (tokC t.kind t.num (bytes t.str) t.beg t.fin)] w (RTells (wordP t) w) := by
  obtain ⟨w1, hw1⟩ : ∃ w1, w.alloc (.cells (tokC t.kind t.num (bytes t.str) t.beg t.fin) 49) = w1 := ⟨_, rfl⟩
  obtain ⟨w2, hw2⟩ : ∃ w2, w1.alloc (.cells #[.int .i64 0, .int .i64 0, .int .i64 0, .string ⟨#[]⟩, .slice none 0 0, .slice none 0 0] 26) = w2 := ⟨_, rfl⟩
  have hs1 : w1.heap.size = w.heap.size + 1 := by rw [← hw1]; simp
  have hb1 : Below w.heap.size w w1 := by rw [← hw1]; exact (Below.refl _ w).alloc (Nat.le_refl _) _
  have hb2 : Below w1.heap.size w1 w2 := by rw [← hw2]; exact (Below.refl _ w1).alloc (Nat.le_refl _) _
  have hs2 : w2.heap.size = w.heap.size + 1 + 1 := by rw [← hw2]; simp [hs1]
  have HT := Lib.hid (show TokCell w2 w.heap.size (tokC t.kind t.num (bytes t.str) t.beg t.fin) from (show TokCell w1 w.heap.size (tokC t.kind t.num (bytes t.str) t.beg t.fin) by rw [← hw1]; exact TokCell.new w _).later hb2 (by omega))
  have HV2 := Lib.hid (show VCell w2 (w.heap.size + 1) .nil by rw [← hs1, ← hw2]; exact heap_alloc_new w1 _)
  have HB := Lib.hid (show Below w.heap.size w w2 from hb1.trans (hb2.mono (by omega)))
  obtain ⟨r0, r1, r2, r3, r4⟩ := HT.out.parts
  have Hw1 := Lib.hid (show w.alloc (.cells #[.int .i64 t.kind, .int .i64 t.num, .string (bytes t.str), .int .i64 t.beg, .int .i64 t.fin] 49) = w1 from hw1)
  have Hw2 := Lib.hid hw2
  obtain ⟨R, hR⟩ : ∃ R, wordP t = R := ⟨_, rfl⟩
  rw [hR]
  unfold wordP at hR
  have e1 := eqw t.str [116, 114, 117, 101]
  have e2 := eqw t.str [102, 97, 108, 115, 101]
  have e3 := eqw t.str [110, 117, 108, 108]
  unfold tokC
  clear hw1 hw2 hb1 hb2
  obtain ⟨⟨z0, z1, z2, z3, z4, z5⟩, f0, f1, f2, f3, f4, f5⟩ := HV2.out.zeros
  by_cases h1 : t.str = trueL
  · rw [if_pos h1] at hR
    subst hR
    have d : decide (t.str = [116, 114, 117, 101]) = true := decide_eq_true h1
    rw [d] at e1
    clear h1 d
    go_enter Try.func24, Try.ntmps24
    iterate 10 go_step
    rw [Hw1.out, Hw2.out]
    go_wp2_with fail
    go_region
    go_wp2_with fail
    obtain ⟨g0, g1, g2, g3, g4, g5⟩ := (HV2.out.six 1 1 0 ⟨#[]⟩ none none 0 0 0 0).at
    try dsimp only at g0 g1 g2 g3 g4 g5
    simp only [Nat.zero_add] at g1 g2 g3 g4 g5
    exact bodyPost_ret (v := .tuple #[.agg #[.int .i64 1, .int .i64 1, .int .i64 0, .string ⟨#[]⟩, .slice none 0 0, .slice none 0 0], .int .i64 (t.fin : Int), .int .i64 0]) (by simp [results, Try.results24, go_sem, g0, g1, g2, g3, g4, g5]) rfl
      (show RTells ⟨bitV 1 1 0 [], t.fin, 0⟩ w _ _ from ⟨⟨1, 1, 0, ⟨#[]⟩, ⟨none, 0, 0⟩, ⟨none, 0, 0⟩⟩, rfl, rd_bit 1 1 0 [], (below_six HB.out (by omega) _ _ _ _ _ _).drew⟩)
  have d1 : decide (t.str = [116, 114, 117, 101]) = false := decide_eq_false h1
  rw [d1] at e1
  rw [if_neg h1] at hR
  by_cases h2 : t.str = falseL
  · rw [if_pos h2] at hR
    subst hR
    have d : decide (t.str = [102, 97, 108, 115, 101]) = true := decide_eq_true h2
    rw [d] at e2
    clear h2 d
    go_enter Try.func24, Try.ntmps24
    iterate 10 go_step
    rw [Hw1.out, Hw2.out]
    go_wp2_with fail
    go_region
    go_wp2_with fail
    obtain ⟨g0, g1, g2, g3, g4, g5⟩ := (HV2.out.six 1 0 0 ⟨#[]⟩ none none 0 0 0 0).at
    try dsimp only at g0 g1 g2 g3 g4 g5
    simp only [Nat.zero_add] at g1 g2 g3 g4 g5
    exact bodyPost_ret (v := .tuple #[.agg #[.int .i64 1, .int .i64 0, .int .i64 0, .string ⟨#[]⟩, .slice none 0 0, .slice none 0 0], .int .i64 (t.fin : Int), .int .i64 0]) (by simp [results, Try.results24, go_sem, g0, g1, g2, g3, g4, g5]) rfl
      (show RTells ⟨bitV 1 0 0 [], t.fin, 0⟩ w _ _ from ⟨⟨1, 0, 0, ⟨#[]⟩, ⟨none, 0, 0⟩, ⟨none, 0, 0⟩⟩, rfl, rd_bit 1 0 0 [], (below_six HB.out (by omega) _ _ _ _ _ _).drew⟩)
  have d2 : decide (t.str = [102, 97, 108, 115, 101]) = false := decide_eq_false h2
  rw [d2] at e2
  rw [if_neg h2] at hR
  by_cases h3 : t.str = nullL
  · rw [if_pos h3] at hR
    subst hR
    have d : decide (t.str = [110, 117, 108, 108]) = true := decide_eq_true h3
    rw [d] at e3
    clear h3 d
    go_enter Try.func24, Try.ntmps24
    iterate 10 go_step
    rw [Hw1.out, Hw2.out]
    go_wp2_with fail
    go_region
    go_wp2_with fail
    obtain ⟨g0, g1, g2, g3, g4, g5⟩ := (HV2.out.six 0 0 0 ⟨#[]⟩ none none 0 0 0 0).at
    try dsimp only at g0 g1 g2 g3 g4 g5
    simp only [Nat.zero_add] at g1 g2 g3 g4 g5
    exact bodyPost_ret (v := .tuple #[.agg #[.int .i64 0, .int .i64 0, .int .i64 0, .string ⟨#[]⟩, .slice none 0 0, .slice none 0 0], .int .i64 (t.fin : Int), .int .i64 0]) (by simp [results, Try.results24, go_sem, g0, g1, g2, g3, g4, g5]) rfl
      (show RTells ⟨.null, t.fin, 0⟩ w _ _ from ⟨⟨0, 0, 0, ⟨#[]⟩, ⟨none, 0, 0⟩, ⟨none, 0, 0⟩⟩, rfl, rd_nil, (below_six HB.out (by omega) _ _ _ _ _ _).drew⟩)
  have d3 : decide (t.str = [110, 117, 108, 108]) = false := decide_eq_false h3
  rw [d3] at e3
  rw [if_neg h3] at hR
  subst hR
  clear d1 d2 d3 h1 h2 h3
  go_enter Try.func24, Try.ntmps24
  iterate 10 go_step
  rw [Hw1.out, Hw2.out]
  go_wp2_with (refine VCell.store rfl rfl _ _ rfl (w.heap.size + 1) .nil ⟨0, 0, 0, ⟨#[]⟩, ⟨none, 0, 0⟩, ⟨none, 0, 0⟩⟩ rfl rfl HV2.out ?_; intro wz HCz HKz HBz HZz)
  obtain ⟨g0, g1, g2, g3, g4, g5⟩ := HCz.out.at
  try dsimp only at g0 g1 g2 g3 g4 g5
  exact bodyPost_ret (v := .tuple #[.agg #[.int .i64 0, .int .i64 0, .int .i64 0, .string ⟨#[]⟩, .slice none 0 0, .slice none 0 0], .int .i64 0, .int .i64 4]) (by simp [results, Try.results24, go_sem, g0, g1, g2, g3, g4, g5]) rfl
    (show RTells (.err 4) w _ _ from ⟨⟨0, 0, 0, ⟨#[]⟩, ⟨none, 0, 0⟩, ⟨none, 0, 0⟩⟩, rfl, rd_nil, HB.out.trans (HBz.out.mono (by omega))⟩)
end
end Go.Proofs.Ytejgcnmbngdkiaa
/-
  The document's link, number.
-/
namespace Go.Proofs.Ytejgcnmbngdkiaa
section
open Go.RowKit
set_option maxRecDepth 100000
attribute [local go_sem] undef

theorem endsR_parts {r : Sg} : endsR r = true ↔ r.code = 0 ∧ r.kind = 8 ∧ r.str = [82] := by unfold endsR; simp only [Bool.and_eq_true, decide_eq_true_eq]
set_option maxHeartbeats 8000000 in
theorem rlink_no (s : ByteArray) (t : Sg) (w : World) (hs : s.size ≤ 100000000) (hf : t.fin ≤ s.data.toList.length)
    (hno : ¬ ((nextN s.data.toList t.fin).code = 0 ∧ (nextN s.data.toList t.fin).kind = 1 ∧ endsR (nextN s.data.toList (nextN s.data.toList t.fin).fin) = true)) :
    Calls Try.prog 47 #[.string s, .agg (tokC t.kind t.num (bytes t.str) t.beg t.fin)] w fun e w' => e = .returned (.tuple #[.agg #[.int .i64 0, .int .i64 0, .int .i64 0, .string ⟨#[]⟩, .slice none 0 0, .slice none 0 0], .int .i64 0, .bool false]) ∧ Below w.heap.size w w' := by
  obtain ⟨w1, hw1⟩ : ∃ w1, w.alloc (.cells (tokC t.kind t.num (bytes t.str) t.beg t.fin) 49) = w1 := ⟨_, rfl⟩
  obtain ⟨w2, hw2⟩ : ∃ w2, w1.alloc (.cells #[.int .i64 0, .int .i64 0, .int .i64 0, .string ⟨#[]⟩, .slice none 0 0, .slice none 0 0] 26) = w2 := ⟨_, rfl⟩
  have hs1 : w1.heap.size = w.heap.size + 1 := by rw [← hw1]; simp
  have hb1 : Below w.heap.size w w1 := by rw [← hw1]; exact (Below.refl _ w).alloc (Nat.le_refl _) _
  have hb2 : Below w1.heap.size w1 w2 := by rw [← hw2]; exact (Below.refl _ w1).alloc (Nat.le_refl _) _
  have hs2 : w2.heap.size = w.heap.size + 1 + 1 := by rw [← hw2]; simp [hs1]
  have HT := Lib.hid (show TokCell w2 w.heap.size (tokC t.kind t.num (bytes t.str) t.beg t.fin) from (show TokCell w1 w.heap.size (tokC t.kind t.num (bytes t.str) t.beg t.fin) by rw [← hw1]; exact TokCell.new w _).later hb2 (by omega))
  have HV2 := Lib.hid (show VCell w2 (w.heap.size + 1) .nil by rw [← hs1, ← hw2]; exact heap_alloc_new w1 _)
  have HB := Lib.hid (show Below w.heap.size w w2 from hb1.trans (hb2.mono (by omega)))
  obtain ⟨r0, r1, r2, r3, r4⟩ := HT.out.parts
  have Hw1 := Lib.hid (show w.alloc (.cells #[.int .i64 t.kind, .int .i64 t.num, .string (bytes t.str), .int .i64 t.beg, .int .i64 t.fin] 49) = w1 from hw1)
  have Hw2 := Lib.hid hw2
  obtain ⟨u, hu⟩ : ∃ u, nextN s.data.toList t.fin = u := ⟨_, rfl⟩
  have hug := (next_good s.data.toList t.fin hf).1
  rw [hu] at hug
  have hn1 := fun W => rNext_any s (t.fin : Int) W hs
  rw [(nextI_nat hf).trans hu] at hn1
  unfold Sg.told Sg.tok at hn1
  obtain ⟨r, hr⟩ : ∃ r, nextN s.data.toList u.fin = r := ⟨_, rfl⟩
  have hrg := (next_good s.data.toList u.fin hug.2.1).1
  rw [hr] at hrg
  have hn2 := fun W => rNext_any s (u.fin : Int) W hs
  rw [(nextI_nat hug.2.1).trans hr] at hn2
  unfold Sg.told Sg.tok at hn2
  rw [hu, hr] at hno
  unfold tokC
  clear hw1 hw2 hb1 hb2 hu hr
  by_cases hc : u.code = 0
  · have H1 := Lib.hid (show ∀ W, Calls Try.prog 16 #[.string s, .int .i64 (t.fin : Int)] W (fun e w' => e = .returned (.tuple #[.agg (tokC u.kind u.num (bytes u.str) u.beg u.fin), .int .i64 0]) ∧ Below W.heap.size W w') from by have h := hn1; rw [hc] at h; exact h)
    by_cases hk : u.kind = 1
    · have hkd : (u.kind != 1) = false := by simpa using hk
      by_cases hc2 : r.code = 0
      · have H2 := Lib.hid (show ∀ W, Calls Try.prog 16 #[.string s, .int .i64 (u.fin : Int)] W (fun e w' => e = .returned (.tuple #[.agg (tokC r.kind r.num (bytes r.str) r.beg r.fin), .int .i64 0]) ∧ Below W.heap.size W w') from by have h := hn2; rw [hc2] at h; exact h)
        by_cases k8 : r.kind = 8
        · have k8d : (r.kind != 8) = false := by simpa using k8
          have s82 : ¬ r.str = [82] := fun e => hno ⟨hc, hk, endsR_parts.2 ⟨hc2, k8, e⟩⟩
          have n82 := eqw r.str [82]
          rw [decide_eq_false s82] at n82
          clear hno hk hc hc2 k8 s82 hug hrg hn1 hn2
          go_enter Try.func47, Try.ntmps47
          iterate 10 go_step
          rw [Hw1.out, Hw2.out]
          go_wp2_with fail
          refine (H1.out w2).mono ?_
          rintro e w3 ⟨rfl, hb3⟩
          have HV3 := Lib.hid (HV2.out.later hb3 HV2.out.lt)
          have HT3 := Lib.hid (HT.out.later hb3 HT.out.lt)
          have HB3 := Lib.hid (HB.out.trans (hb3.mono HB.out.size))
          clear hb3
          go_wp2_with (refine TokCell.store rfl rfl _ _ rfl w3.heap.size #[.int .i64 0, .int .i64 0, .string ⟨#[]⟩, .int .i64 0, .int .i64 0] u.kind u.num (bytes u.str) u.beg u.fin rfl rfl (TokCell.new w3 _) rfl w3.heap.size _ (Below.refl _ _) (Nat.le_refl _) ?_; intro w4 HT4 HB4 HO4; have hb4 : Below w3.heap.size w3 w4 := ((Below.refl _ w3).alloc (Nat.le_refl _) _).trans HB4.out; obtain ⟨a0, a1, a2, a3, a4⟩ := HT4.out.parts; have HV4 := Lib.hid (HV3.out.later hb4 HV3.out.lt); have HT34 := Lib.hid (HT3.out.later hb4 HT3.out.lt); have HBB4 := Lib.hid (HB3.out.trans (hb4.mono HB3.out.size)))
          refine (H2.out w4).mono ?_
          rintro e w5 ⟨rfl, hb5⟩
          have HV5 := Lib.hid (HV4.out.later hb5 HV4.out.lt)
          have HT35 := Lib.hid (HT34.out.later hb5 HT34.out.lt)
          have HT45 := Lib.hid (HT4.out.later hb5 HT4.out.lt)
          have HBB5 := Lib.hid (HBB4.out.trans (hb5.mono HBB4.out.size))
          clear hb5 hb4 a0 a1 a2 a3 a4
          go_wp2_with (first
            | (refine TokCell.store rfl rfl _ _ rfl w5.heap.size #[.int .i64 0, .int .i64 0, .string ⟨#[]⟩, .int .i64 0, .int .i64 0] r.kind r.num (bytes r.str) r.beg r.fin rfl rfl (TokCell.new w5 _) rfl w5.heap.size _ (Below.refl _ _) (Nat.le_refl _) ?_; intro w6 HT6 HB6 HO6; have hb6 : Below w5.heap.size w5 w6 := ((Below.refl _ w5).alloc (Nat.le_refl _) _).trans HB6.out; obtain ⟨b0, b1, b2, b3, b4⟩ := HT6.out.parts; have HV6 := Lib.hid (HV5.out.later hb6 HV5.out.lt); have HT36 := Lib.hid (HT35.out.later hb6 HT35.out.lt); have HT46 := Lib.hid (HT45.out.later hb6 HT45.out.lt); have HBB6 := Lib.hid (HBB5.out.trans (hb6.mono HBB5.out.size)))
            | (refine VCell.store rfl rfl _ _ rfl (w.heap.size + 1) .nil ⟨0, 0, 0, ⟨#[]⟩, ⟨none, 0, 0⟩, ⟨none, 0, 0⟩⟩ rfl rfl HV6.out ?_; intro wz HCz HKz HBz HZz))
          obtain ⟨g0, g1, g2, g3, g4, g5⟩ := HCz.out.at
          try dsimp only at g0 g1 g2 g3 g4 g5
          exact bodyPost_ret (v := .tuple #[.agg #[.int .i64 0, .int .i64 0, .int .i64 0, .string ⟨#[]⟩, .slice none 0 0, .slice none 0 0], .int .i64 0, .bool false]) (by simp [results, Try.results47, go_sem, g0, g1, g2, g3, g4, g5]) rfl
            ⟨rfl, HBB6.out.trans (HBz.out.mono (by omega))⟩
        · have k8d : (r.kind != 8) = true := by simpa using k8
          clear hno hk hc hc2 k8 hug hrg hn1 hn2
          go_enter Try.func47, Try.ntmps47
          iterate 10 go_step
          rw [Hw1.out, Hw2.out]
          go_wp2_with fail
          refine (H1.out w2).mono ?_
          rintro e w3 ⟨rfl, hb3⟩
          have HV3 := Lib.hid (HV2.out.later hb3 HV2.out.lt)
          have HT3 := Lib.hid (HT.out.later hb3 HT.out.lt)
          have HB3 := Lib.hid (HB.out.trans (hb3.mono HB.out.size))
          clear hb3
          go_wp2_with (refine TokCell.store rfl rfl _ _ rfl w3.heap.size #[.int .i64 0, .int .i64 0, .string ⟨#[]⟩, .int .i64 0, .int .i64 0] u.kind u.num (bytes u.str) u.beg u.fin rfl rfl (TokCell.new w3 _) rfl w3.heap.size _ (Below.refl _ _) (Nat.le_refl _) ?_; intro w4 HT4 HB4 HO4; have hb4 : Below w3.heap.size w3 w4 := ((Below.refl _ w3).alloc (Nat.le_refl _) _).trans HB4.out; obtain ⟨a0, a1, a2, a3, a4⟩ := HT4.out.parts; have HV4 := Lib.hid (HV3.out.later hb4 HV3.out.lt); have HT34 := Lib.hid (HT3.out.later hb4 HT3.out.lt); have HBB4 := Lib.hid (HB3.out.trans (hb4.mono HB3.out.size)))
          refine (H2.out w4).mono ?_
          rintro e w5 ⟨rfl, hb5⟩
          have HV5 := Lib.hid (HV4.out.later hb5 HV4.out.lt)
          have HT35 := Lib.hid (HT34.out.later hb5 HT34.out.lt)
          have HT45 := Lib.hid (HT4.out.later hb5 HT4.out.lt)
          have HBB5 := Lib.hid (HBB4.out.trans (hb5.mono HBB4.out.size))
          clear hb5 hb4 a0 a1 a2 a3 a4
          go_wp2_with (first
            | (refine TokCell.store rfl rfl _ _ rfl w5.heap.size #[.int .i64 0, .int .i64 0, .string ⟨#[]⟩, .int .i64 0, .int .i64 0] r.kind r.num (bytes r.str) r.beg r.fin rfl rfl (TokCell.new w5 _) rfl w5.heap.size _ (Below.refl _ _) (Nat.le_refl _) ?_; intro w6 HT6 HB6 HO6; have hb6 : Below w5.heap.size w5 w6 := ((Below.refl _ w5).alloc (Nat.le_refl _) _).trans HB6.out; obtain ⟨b0, b1, b2, b3, b4⟩ := HT6.out.parts; have HV6 := Lib.hid (HV5.out.later hb6 HV5.out.lt); have HT36 := Lib.hid (HT35.out.later hb6 HT35.out.lt); have HT46 := Lib.hid (HT45.out.later hb6 HT45.out.lt); have HBB6 := Lib.hid (HBB5.out.trans (hb6.mono HBB5.out.size)))
            | (refine VCell.store rfl rfl _ _ rfl (w.heap.size + 1) .nil ⟨0, 0, 0, ⟨#[]⟩, ⟨none, 0, 0⟩, ⟨none, 0, 0⟩⟩ rfl rfl HV6.out ?_; intro wz HCz HKz HBz HZz))
          obtain ⟨g0, g1, g2, g3, g4, g5⟩ := HCz.out.at
          try dsimp only at g0 g1 g2 g3 g4 g5
          exact bodyPost_ret (v := .tuple #[.agg #[.int .i64 0, .int .i64 0, .int .i64 0, .string ⟨#[]⟩, .slice none 0 0, .slice none 0 0], .int .i64 0, .bool false]) (by simp [results, Try.results47, go_sem, g0, g1, g2, g3, g4, g5]) rfl
            ⟨rfl, HBB6.out.trans (HBz.out.mono (by omega))⟩
      · have H2 := Lib.hid (show ∀ W, Calls Try.prog 16 #[.string s, .int .i64 (u.fin : Int)] W (fun e w' => e = .returned (.tuple #[.agg (tokC 0 0 ⟨#[]⟩ 0 0), .int .i64 r.code]) ∧ Below W.heap.size W w') from by have h := hn2; rw [hrg.1 hc2] at h; exact h)
        have hcd : (r.code != 0) = true := by simpa using hc2
        generalize r.code = c at *
        clear hno hk hc hc2 hug hrg hn1 hn2
        go_enter Try.func47, Try.ntmps47
        iterate 10 go_step
        rw [Hw1.out, Hw2.out]
        go_wp2_with fail
        refine (H1.out w2).mono ?_
        rintro e w3 ⟨rfl, hb3⟩
        have HV3 := Lib.hid (HV2.out.later hb3 HV2.out.lt)
        have HT3 := Lib.hid (HT.out.later hb3 HT.out.lt)
        have HB3 := Lib.hid (HB.out.trans (hb3.mono HB.out.size))
        clear hb3
        go_wp2_with (refine TokCell.store rfl rfl _ _ rfl w3.heap.size #[.int .i64 0, .int .i64 0, .string ⟨#[]⟩, .int .i64 0, .int .i64 0] u.kind u.num (bytes u.str) u.beg u.fin rfl rfl (TokCell.new w3 _) rfl w3.heap.size _ (Below.refl _ _) (Nat.le_refl _) ?_; intro w4 HT4 HB4 HO4; have hb4 : Below w3.heap.size w3 w4 := ((Below.refl _ w3).alloc (Nat.le_refl _) _).trans HB4.out; obtain ⟨a0, a1, a2, a3, a4⟩ := HT4.out.parts; have HV4 := Lib.hid (HV3.out.later hb4 HV3.out.lt); have HT34 := Lib.hid (HT3.out.later hb4 HT3.out.lt); have HBB4 := Lib.hid (HB3.out.trans (hb4.mono HB3.out.size)))
        refine (H2.out w4).mono ?_
        rintro e w5 ⟨rfl, hb5⟩
        have HV5 := Lib.hid (HV4.out.later hb5 HV4.out.lt)
        have HT35 := Lib.hid (HT34.out.later hb5 HT34.out.lt)
        have HT45 := Lib.hid (HT4.out.later hb5 HT4.out.lt)
        have HBB5 := Lib.hid (HBB4.out.trans (hb5.mono HBB4.out.size))
        clear hb5 hb4 a0 a1 a2 a3 a4
        go_wp2_with (first
          | (refine TokCell.store rfl rfl _ _ rfl w5.heap.size #[.int .i64 0, .int .i64 0, .string ⟨#[]⟩, .int .i64 0, .int .i64 0] 0 0 ⟨#[]⟩ 0 0 rfl rfl (TokCell.new w5 _) rfl w5.heap.size _ (Below.refl _ _) (Nat.le_refl _) ?_; intro w6 HT6 HB6 HO6; have hb6 : Below w5.heap.size w5 w6 := ((Below.refl _ w5).alloc (Nat.le_refl _) _).trans HB6.out; obtain ⟨b0, b1, b2, b3, b4⟩ := HT6.out.parts; have HV6 := Lib.hid (HV5.out.later hb6 HV5.out.lt); have HT36 := Lib.hid (HT35.out.later hb6 HT35.out.lt); have HT46 := Lib.hid (HT45.out.later hb6 HT45.out.lt); have HBB6 := Lib.hid (HBB5.out.trans (hb6.mono HBB5.out.size)))
          | (refine VCell.store rfl rfl _ _ rfl (w.heap.size + 1) .nil ⟨0, 0, 0, ⟨#[]⟩, ⟨none, 0, 0⟩, ⟨none, 0, 0⟩⟩ rfl rfl HV6.out ?_; intro wz HCz HKz HBz HZz))
        obtain ⟨g0, g1, g2, g3, g4, g5⟩ := HCz.out.at
        try dsimp only at g0 g1 g2 g3 g4 g5
        exact bodyPost_ret (v := .tuple #[.agg #[.int .i64 0, .int .i64 0, .int .i64 0, .string ⟨#[]⟩, .slice none 0 0, .slice none 0 0], .int .i64 0, .bool false]) (by simp [results, Try.results47, go_sem, g0, g1, g2, g3, g4, g5]) rfl
          ⟨rfl, HBB6.out.trans (HBz.out.mono (by omega))⟩
    · have hkd : (u.kind != 1) = true := by simpa using hk
      clear hno hk hc hug hrg hn1 hn2
      go_enter Try.func47, Try.ntmps47
      iterate 10 go_step
      rw [Hw1.out, Hw2.out]
      go_wp2_with fail
      refine (H1.out w2).mono ?_
      rintro e w3 ⟨rfl, hb3⟩
      have HV3 := Lib.hid (HV2.out.later hb3 HV2.out.lt)
      have HT3 := Lib.hid (HT.out.later hb3 HT.out.lt)
      have HB3 := Lib.hid (HB.out.trans (hb3.mono HB.out.size))
      clear hb3
      go_wp2_with (first
        | (refine TokCell.store rfl rfl _ _ rfl w3.heap.size #[.int .i64 0, .int .i64 0, .string ⟨#[]⟩, .int .i64 0, .int .i64 0] u.kind u.num (bytes u.str) u.beg u.fin rfl rfl (TokCell.new w3 _) rfl w3.heap.size _ (Below.refl _ _) (Nat.le_refl _) ?_; intro w4 HT4 HB4 HO4; have hb4 : Below w3.heap.size w3 w4 := ((Below.refl _ w3).alloc (Nat.le_refl _) _).trans HB4.out; obtain ⟨a0, a1, a2, a3, a4⟩ := HT4.out.parts; have HV4 := Lib.hid (HV3.out.later hb4 HV3.out.lt); have HT34 := Lib.hid (HT3.out.later hb4 HT3.out.lt); have HBB4 := Lib.hid (HB3.out.trans (hb4.mono HB3.out.size)))
        | (refine VCell.store rfl rfl _ _ rfl (w.heap.size + 1) .nil ⟨0, 0, 0, ⟨#[]⟩, ⟨none, 0, 0⟩, ⟨none, 0, 0⟩⟩ rfl rfl HV4.out ?_; intro wz HCz HKz HBz HZz))
      obtain ⟨g0, g1, g2, g3, g4, g5⟩ := HCz.out.at
      try dsimp only at g0 g1 g2 g3 g4 g5
      exact bodyPost_ret (v := .tuple #[.agg #[.int .i64 0, .int .i64 0, .int .i64 0, .string ⟨#[]⟩, .slice none 0 0, .slice none 0 0], .int .i64 0, .bool false]) (by simp [results, Try.results47, go_sem, g0, g1, g2, g3, g4, g5]) rfl
        ⟨rfl, HBB4.out.trans (HBz.out.mono (by omega))⟩
  · have H1 := Lib.hid (show ∀ W, Calls Try.prog 16 #[.string s, .int .i64 (t.fin : Int)] W (fun e w' => e = .returned (.tuple #[.agg (tokC 0 0 ⟨#[]⟩ 0 0), .int .i64 u.code]) ∧ Below W.heap.size W w') from by have h := hn1; rw [hug.1 hc] at h; exact h)
    have hcd : (u.code != 0) = true := by simpa using hc
    generalize u.code = c at *
    clear hno hc hug hrg hn1 hn2
    go_enter Try.func47, Try.ntmps47
    iterate 10 go_step
    rw [Hw1.out, Hw2.out]
    go_wp2_with fail
    refine (H1.out w2).mono ?_
    rintro e w3 ⟨rfl, hb3⟩
    have HV3 := Lib.hid (HV2.out.later hb3 HV2.out.lt)
    have HT3 := Lib.hid (HT.out.later hb3 HT.out.lt)
    have HB3 := Lib.hid (HB.out.trans (hb3.mono HB.out.size))
    clear hb3
    go_wp2_with (first
      | (refine TokCell.store rfl rfl _ _ rfl w3.heap.size #[.int .i64 0, .int .i64 0, .string ⟨#[]⟩, .int .i64 0, .int .i64 0] 0 0 ⟨#[]⟩ 0 0 rfl rfl (TokCell.new w3 _) rfl w3.heap.size _ (Below.refl _ _) (Nat.le_refl _) ?_; intro w4 HT4 HB4 HO4; have hb4 : Below w3.heap.size w3 w4 := ((Below.refl _ w3).alloc (Nat.le_refl _) _).trans HB4.out; obtain ⟨a0, a1, a2, a3, a4⟩ := HT4.out.parts; have HV4 := Lib.hid (HV3.out.later hb4 HV3.out.lt); have HT34 := Lib.hid (HT3.out.later hb4 HT3.out.lt); have HBB4 := Lib.hid (HB3.out.trans (hb4.mono HB3.out.size)))
      | (refine VCell.store rfl rfl _ _ rfl (w.heap.size + 1) .nil ⟨0, 0, 0, ⟨#[]⟩, ⟨none, 0, 0⟩, ⟨none, 0, 0⟩⟩ rfl rfl HV4.out ?_; intro wz HCz HKz HBz HZz))
    obtain ⟨g0, g1, g2, g3, g4, g5⟩ := HCz.out.at
    try dsimp only at g0 g1 g2 g3 g4 g5
    exact bodyPost_ret (v := .tuple #[.agg #[.int .i64 0, .int .i64 0, .int .i64 0, .string ⟨#[]⟩, .slice none 0 0, .slice none 0 0], .int .i64 0, .bool false]) (by simp [results, Try.results47, go_sem, g0, g1, g2, g3, g4, g5]) rfl
      ⟨rfl, HBB4.out.trans (HBz.out.mono (by omega))⟩
set_option maxHeartbeats 8000000 in
theorem rlink_yes (s : ByteArray) (t u r : Sg) (w : World) (hs : s.size ≤ 100000000) (hf : t.fin ≤ s.data.toList.length) (hu : nextN s.data.toList t.fin = u) (hr : nextN s.data.toList u.fin = r) (hc : u.code = 0) (hk : u.kind = 1) (hE : endsR r = true) :
    Calls Try.prog 47 #[.string s, .agg (tokC t.kind t.num (bytes t.str) t.beg t.fin)] w fun e w' => e = .returned (.tuple #[.agg #[.int .i64 7, .int .i64 t.num, .int .i64 u.num, .string ⟨#[]⟩, .slice none 0 0, .slice none 0 0], .int .i64 (r.fin : Int), .bool true]) ∧ Below w.heap.size w w' := by
  obtain ⟨w1, hw1⟩ : ∃ w1, w.alloc (.cells (tokC t.kind t.num (bytes t.str) t.beg t.fin) 49) = w1 := ⟨_, rfl⟩
  obtain ⟨w2, hw2⟩ : ∃ w2, w1.alloc (.cells #[.int .i64 0, .int .i64 0, .int .i64 0, .string ⟨#[]⟩, .slice none 0 0, .slice none 0 0] 26) = w2 := ⟨_, rfl⟩
  have hs1 : w1.heap.size = w.heap.size + 1 := by rw [← hw1]; simp
  have hb1 : Below w.heap.size w w1 := by rw [← hw1]; exact (Below.refl _ w).alloc (Nat.le_refl _) _
  have hb2 : Below w1.heap.size w1 w2 := by rw [← hw2]; exact (Below.refl _ w1).alloc (Nat.le_refl _) _
  have hs2 : w2.heap.size = w.heap.size + 1 + 1 := by rw [← hw2]; simp [hs1]
  have HT := Lib.hid (show TokCell w2 w.heap.size (tokC t.kind t.num (bytes t.str) t.beg t.fin) from (show TokCell w1 w.heap.size (tokC t.kind t.num (bytes t.str) t.beg t.fin) by rw [← hw1]; exact TokCell.new w _).later hb2 (by omega))
  have HV2 := Lib.hid (show VCell w2 (w.heap.size + 1) .nil by rw [← hs1, ← hw2]; exact heap_alloc_new w1 _)
  have HB := Lib.hid (show Below w.heap.size w w2 from hb1.trans (hb2.mono (by omega)))
  obtain ⟨r0, r1, r2, r3, r4⟩ := HT.out.parts
  have Hw1 := Lib.hid (show w.alloc (.cells #[.int .i64 t.kind, .int .i64 t.num, .string (bytes t.str), .int .i64 t.beg, .int .i64 t.fin] 49) = w1 from hw1)
  have Hw2 := Lib.hid hw2
  have hug := (next_good s.data.toList t.fin hf).1
  rw [hu] at hug
  have hn1 := fun W => rNext_any s (t.fin : Int) W hs
  rw [(nextI_nat hf).trans hu] at hn1
  unfold Sg.told Sg.tok at hn1
  have hn2 := fun W => rNext_any s (u.fin : Int) W hs
  rw [(nextI_nat hug.2.1).trans hr] at hn2
  unfold Sg.told Sg.tok at hn2
  obtain ⟨hc2, k8, s82⟩ := endsR_parts.1 hE
  have H1 := Lib.hid (show ∀ W, Calls Try.prog 16 #[.string s, .int .i64 (t.fin : Int)] W (fun e w' => e = .returned (.tuple #[.agg (tokC u.kind u.num (bytes u.str) u.beg u.fin), .int .i64 0]) ∧ Below W.heap.size W w') from by have h := hn1; rw [hc] at h; exact h)
  have H2 := Lib.hid (show ∀ W, Calls Try.prog 16 #[.string s, .int .i64 (u.fin : Int)] W (fun e w' => e = .returned (.tuple #[.agg (tokC r.kind r.num (bytes r.str) r.beg r.fin), .int .i64 0]) ∧ Below W.heap.size W w') from by have h := hn2; rw [hc2] at h; exact h)
  have hkd : (u.kind != 1) = false := by simpa using hk
  have k8d : (r.kind != 8) = false := by simpa using k8
  have n82 := eqw r.str [82]
  rw [decide_eq_true s82] at n82
  unfold tokC
  clear hw1 hw2 hb1 hb2 hu hr hE hk hc hc2 k8 s82 hug hn1 hn2
  go_enter Try.func47, Try.ntmps47
  iterate 10 go_step
  rw [Hw1.out, Hw2.out]
  go_wp2_with fail
  refine (H1.out w2).mono ?_
  rintro e w3 ⟨rfl, hb3⟩
  have HV3 := Lib.hid (HV2.out.later hb3 HV2.out.lt)
  have HT3 := Lib.hid (HT.out.later hb3 HT.out.lt)
  have HB3 := Lib.hid (HB.out.trans (hb3.mono HB.out.size))
  clear hb3
  go_wp2_with (refine TokCell.store rfl rfl _ _ rfl w3.heap.size #[.int .i64 0, .int .i64 0, .string ⟨#[]⟩, .int .i64 0, .int .i64 0] u.kind u.num (bytes u.str) u.beg u.fin rfl rfl (TokCell.new w3 _) rfl w3.heap.size _ (Below.refl _ _) (Nat.le_refl _) ?_; intro w4 HT4 HB4 HO4; have hb4 : Below w3.heap.size w3 w4 := ((Below.refl _ w3).alloc (Nat.le_refl _) _).trans HB4.out; obtain ⟨a0, a1, a2, a3, a4⟩ := HT4.out.parts; have HV4 := Lib.hid (HV3.out.later hb4 HV3.out.lt); have HT34 := Lib.hid (HT3.out.later hb4 HT3.out.lt); have HBB4 := Lib.hid (HB3.out.trans (hb4.mono HB3.out.size)))
  refine (H2.out w4).mono ?_
  rintro e w5 ⟨rfl, hb5⟩
  have HV5 := Lib.hid (HV4.out.later hb5 HV4.out.lt)
  have HT35 := Lib.hid (HT34.out.later hb5 HT34.out.lt)
  have HT45 := Lib.hid (HT4.out.later hb5 HT4.out.lt)
  have HBB5 := Lib.hid (HBB4.out.trans (hb5.mono HBB4.out.size))
  clear hb5 hb4 a0 a1 a2 a3 a4
  go_wp2_with (refine TokCell.store rfl rfl _ _ rfl w5.heap.size #[.int .i64 0, .int .i64 0, .string ⟨#[]⟩, .int .i64 0, .int .i64 0] r.kind r.num (bytes r.str) r.beg r.fin rfl rfl (TokCell.new w5 _) rfl w5.heap.size _ (Below.refl _ _) (Nat.le_refl _) ?_; intro w6 HT6 HB6 HO6; have hb6 : Below w5.heap.size w5 w6 := ((Below.refl _ w5).alloc (Nat.le_refl _) _).trans HB6.out; obtain ⟨b0, b1, b2, b3, b4⟩ := HT6.out.parts; have HV6 := Lib.hid (HV5.out.later hb6 HV5.out.lt); have HT36 := Lib.hid (HT35.out.later hb6 HT35.out.lt); have HT46 := Lib.hid (HT45.out.later hb6 HT45.out.lt); have HBB6 := Lib.hid (HBB5.out.trans (hb6.mono HBB5.out.size)))
  have q1 := HT36.out.cell 1
  have q4 := HT46.out.cell 1
  simp only [tokC] at q1 q4
  have hne5 : ¬ w5.heap.size = w.heap.size + 1 := by have := HV5.out.lt; omega
  have hne3 : ¬ w3.heap.size = w.heap.size + 1 := by have := HV3.out.lt; omega
  obtain ⟨⟨z0, z1, z2, z3, z4, z5⟩, f0, f1, f2, f3, f4, f5⟩ := HV6.out.zeros
  go_region
  go_wp2_with fail
  obtain ⟨g0, g1, g2, g3, g4, g5⟩ := (HV6.out.six 7 t.num u.num ⟨#[]⟩ none none 0 0 0 0).at
  try dsimp only at g0 g1 g2 g3 g4 g5
  simp only [Nat.zero_add] at g1 g2 g3 g4 g5
  exact bodyPost_ret (v := .tuple #[.agg #[.int .i64 7, .int .i64 t.num, .int .i64 u.num, .string ⟨#[]⟩, .slice none 0 0, .slice none 0 0], .int .i64 (r.fin : Int), .bool true]) (by simp [results, Try.results47, go_sem, g0, g1, g2, g3, g4, g5]) rfl
    ⟨rfl, (below_six HBB6.out (by omega) _ _ _ _ _ _).drew⟩
end
end Go.Proofs.Ytejgcnmbngdkiaa
/-
  The document's number.
-/
namespace Go.Proofs.Ytejgcnmbngdkiaa
section
open Go.RowKit
set_option maxRecDepth 100000
attribute [local go_sem] undef

set_option maxHeartbeats 8000000 in
theorem rnumber18_any (s : ByteArray) (t : Sg) (w : World) (hs : s.size ≤ 100000000) (hf : t.fin ≤ s.data.toList.length) :
    Calls Try.prog 23 #[.string s, .agg (tokC t.kind t.num (bytes t.str) t.beg t.fin)] w (RTells (numberP s.data.toList t) w) := by
  obtain ⟨w1, hw1⟩ : ∃ w1, w.alloc (.cells (tokC t.kind t.num (bytes t.str) t.beg t.fin) 49) = w1 := ⟨_, rfl⟩
  obtain ⟨w2, hw2⟩ : ∃ w2, w1.alloc (.cells #[.int .i64 0, .int .i64 0, .int .i64 0, .string ⟨#[]⟩, .slice none 0 0, .slice none 0 0] 26) = w2 := ⟨_, rfl⟩
  have hs1 : w1.heap.size = w.heap.size + 1 := by rw [← hw1]; simp
  have hb1 : Below w.heap.size w w1 := by rw [← hw1]; exact (Below.refl _ w).alloc (Nat.le_refl _) _
  have hb2 : Below w1.heap.size w1 w2 := by rw [← hw2]; exact (Below.refl _ w1).alloc (Nat.le_refl _) _
  have hs2 : w2.heap.size = w.heap.size + 1 + 1 := by rw [← hw2]; simp [hs1]
  have HT := Lib.hid (show TokCell w2 w.heap.size (tokC t.kind t.num (bytes t.str) t.beg t.fin) from (show TokCell w1 w.heap.size (tokC t.kind t.num (bytes t.str) t.beg t.fin) by rw [← hw1]; exact TokCell.new w _).later hb2 (by omega))
  have HV2 := Lib.hid (show VCell w2 (w.heap.size + 1) .nil by rw [← hs1, ← hw2]; exact heap_alloc_new w1 _)
  have HB := Lib.hid (show Below w.heap.size w w2 from hb1.trans (hb2.mono (by omega)))
  obtain ⟨r0, r1, r2, r3, r4⟩ := HT.out.parts
  have Hw1 := Lib.hid (show w.alloc (.cells #[.int .i64 t.kind, .int .i64 t.num, .string (bytes t.str), .int .i64 t.beg, .int .i64 t.fin] 49) = w1 from hw1)
  have Hw2 := Lib.hid hw2
  obtain ⟨R, hR⟩ : ∃ R, numberP s.data.toList t = R := ⟨_, rfl⟩
  rw [hR]
  unfold numberP at hR
  have hno := rlink_no s t w2 hs hf
  have hyes := rlink_yes s t _ _ w2 hs hf rfl rfl
  obtain ⟨u, hu⟩ : ∃ u, nextN s.data.toList t.fin = u := ⟨_, rfl⟩
  rw [hu] at hR hno hyes
  obtain ⟨r, hr⟩ : ∃ r, nextN s.data.toList u.fin = r := ⟨_, rfl⟩
  rw [hr] at hR hno hyes
  clear hw1 hw2 hb1 hb2 hu hr
  by_cases hl : u.code = 0 ∧ u.kind = 1 ∧ endsR r = true
  · rw [if_pos hl] at hR
    have H1 := Lib.hid (hyes hl.1 hl.2.1 hl.2.2)
    clear hyes hno hl
    unfold tokC
    by_cases n1 : t.num < 1
    · have ho : overG t.num u.num = true := decide_eq_true (.inl n1)
      rw [if_pos ho] at hR
      subst hR
      clear ho
      go_enter Try.func23, Try.ntmps23
      iterate 10 go_step
      rw [Hw1.out, Hw2.out]
      go_wp2_with (refine TokCell.load rfl _ rfl w.heap.size _ rfl HT.out rfl ?_)
      refine H1.out.mono ?_
      rintro e w3 ⟨rfl, hb3⟩
      have HV3 := Lib.hid (HV2.out.later hb3 HV2.out.lt)
      have HT3 := Lib.hid (HT.out.later hb3 HT.out.lt)
      have HB3 := Lib.hid (HB.out.trans (hb3.mono HB.out.size))
      have hz3 := HV3.out.lt
      clear hb3
      go_wp2_with (first
        | (refine VCell.store rfl rfl (.tmp 7) (.tmp 14) rfl w3.heap.size .nil ⟨7, t.num, u.num, ⟨#[]⟩, ⟨none, 0, 0⟩, ⟨none, 0, 0⟩⟩ rfl rfl (VCell.new w3 .nil) ?_; intro w4 HC4 HK4 HBx4 HZ4; have hb4 : Below w3.heap.size w3 w4 := ((Below.refl _ w3).alloc (Nat.le_refl _) _).trans HBx4.out; have HV4 := Lib.hid (HV3.out.later hb4 HV3.out.lt); have HT4 := Lib.hid (HT3.out.later hb4 HT3.out.lt); have HB4 := Lib.hid (HB3.out.trans (hb4.mono HB3.out.size)); obtain ⟨c0, c1, c2, c3, c4, c5⟩ := HC4.out.at; dsimp only at c0 c1 c2 c3 c4 c5; simp only [Nat.zero_add] at c1 c2 c3 c4 c5; obtain ⟨q0, q1, q2, q3, q4⟩ := HT4.out.parts)
        | (refine VCell.store rfl rfl _ _ rfl (w.heap.size + 1) .nil ⟨0, 0, 0, ⟨#[]⟩, ⟨none, 0, 0⟩, ⟨none, 0, 0⟩⟩ rfl rfl HV4.out ?_; intro wz HCz HKz HBz HZz))
      obtain ⟨g0, g1, g2, g3, g4, g5⟩ := HCz.out.at
      try dsimp only at g0 g1 g2 g3 g4 g5
      exact bodyPost_ret (v := .tuple #[.agg #[.int .i64 0, .int .i64 0, .int .i64 0, .string ⟨#[]⟩, .slice none 0 0, .slice none 0 0], .int .i64 0, .int .i64 3]) (by simp [results, Try.results23, go_sem, g0, g1, g2, g3, g4, g5]) rfl
        (show RTells (.err 3) w _ _ from ⟨⟨0, 0, 0, ⟨#[]⟩, ⟨none, 0, 0⟩, ⟨none, 0, 0⟩⟩, rfl, rd_nil, HB4.out.trans (HBz.out.mono (by omega))⟩)
    by_cases n2 : 8388607 < t.num
    · have ho : overG t.num u.num = true := decide_eq_true (.inr (.inl n2))
      rw [if_pos ho] at hR
      subst hR
      clear ho
      go_enter Try.func23, Try.ntmps23
      iterate 10 go_step
      rw [Hw1.out, Hw2.out]
      go_wp2_with (refine TokCell.load rfl _ rfl w.heap.size _ rfl HT.out rfl ?_)
      refine H1.out.mono ?_
      rintro e w3 ⟨rfl, hb3⟩
      have HV3 := Lib.hid (HV2.out.later hb3 HV2.out.lt)
      have HT3 := Lib.hid (HT.out.later hb3 HT.out.lt)
      have HB3 := Lib.hid (HB.out.trans (hb3.mono HB.out.size))
      have hz3 := HV3.out.lt
      clear hb3
      go_wp2_with (first
        | (refine VCell.store rfl rfl (.tmp 7) (.tmp 14) rfl w3.heap.size .nil ⟨7, t.num, u.num, ⟨#[]⟩, ⟨none, 0, 0⟩, ⟨none, 0, 0⟩⟩ rfl rfl (VCell.new w3 .nil) ?_; intro w4 HC4 HK4 HBx4 HZ4; have hb4 : Below w3.heap.size w3 w4 := ((Below.refl _ w3).alloc (Nat.le_refl _) _).trans HBx4.out; have HV4 := Lib.hid (HV3.out.later hb4 HV3.out.lt); have HT4 := Lib.hid (HT3.out.later hb4 HT3.out.lt); have HB4 := Lib.hid (HB3.out.trans (hb4.mono HB3.out.size)); obtain ⟨c0, c1, c2, c3, c4, c5⟩ := HC4.out.at; dsimp only at c0 c1 c2 c3 c4 c5; simp only [Nat.zero_add] at c1 c2 c3 c4 c5; obtain ⟨q0, q1, q2, q3, q4⟩ := HT4.out.parts)
        | (refine VCell.store rfl rfl _ _ rfl (w.heap.size + 1) .nil ⟨0, 0, 0, ⟨#[]⟩, ⟨none, 0, 0⟩, ⟨none, 0, 0⟩⟩ rfl rfl HV4.out ?_; intro wz HCz HKz HBz HZz))
      obtain ⟨g0, g1, g2, g3, g4, g5⟩ := HCz.out.at
      try dsimp only at g0 g1 g2 g3 g4 g5
      exact bodyPost_ret (v := .tuple #[.agg #[.int .i64 0, .int .i64 0, .int .i64 0, .string ⟨#[]⟩, .slice none 0 0, .slice none 0 0], .int .i64 0, .int .i64 3]) (by simp [results, Try.results23, go_sem, g0, g1, g2, g3, g4, g5]) rfl
        (show RTells (.err 3) w _ _ from ⟨⟨0, 0, 0, ⟨#[]⟩, ⟨none, 0, 0⟩, ⟨none, 0, 0⟩⟩, rfl, rd_nil, HB4.out.trans (HBz.out.mono (by omega))⟩)
    by_cases n3 : u.num < 0
    · have ho : overG t.num u.num = true := decide_eq_true (.inr (.inr (.inl n3)))
      rw [if_pos ho] at hR
      subst hR
      clear ho
      go_enter Try.func23, Try.ntmps23
      iterate 10 go_step
      rw [Hw1.out, Hw2.out]
      go_wp2_with (refine TokCell.load rfl _ rfl w.heap.size _ rfl HT.out rfl ?_)
      refine H1.out.mono ?_
      rintro e w3 ⟨rfl, hb3⟩
      have HV3 := Lib.hid (HV2.out.later hb3 HV2.out.lt)
      have HT3 := Lib.hid (HT.out.later hb3 HT.out.lt)
      have HB3 := Lib.hid (HB.out.trans (hb3.mono HB.out.size))
      have hz3 := HV3.out.lt
      clear hb3
      go_wp2_with (first
        | (refine VCell.store rfl rfl (.tmp 7) (.tmp 14) rfl w3.heap.size .nil ⟨7, t.num, u.num, ⟨#[]⟩, ⟨none, 0, 0⟩, ⟨none, 0, 0⟩⟩ rfl rfl (VCell.new w3 .nil) ?_; intro w4 HC4 HK4 HBx4 HZ4; have hb4 : Below w3.heap.size w3 w4 := ((Below.refl _ w3).alloc (Nat.le_refl _) _).trans HBx4.out; have HV4 := Lib.hid (HV3.out.later hb4 HV3.out.lt); have HT4 := Lib.hid (HT3.out.later hb4 HT3.out.lt); have HB4 := Lib.hid (HB3.out.trans (hb4.mono HB3.out.size)); obtain ⟨c0, c1, c2, c3, c4, c5⟩ := HC4.out.at; dsimp only at c0 c1 c2 c3 c4 c5; simp only [Nat.zero_add] at c1 c2 c3 c4 c5; obtain ⟨q0, q1, q2, q3, q4⟩ := HT4.out.parts)
        | (refine VCell.store rfl rfl _ _ rfl (w.heap.size + 1) .nil ⟨0, 0, 0, ⟨#[]⟩, ⟨none, 0, 0⟩, ⟨none, 0, 0⟩⟩ rfl rfl HV4.out ?_; intro wz HCz HKz HBz HZz))
      obtain ⟨g0, g1, g2, g3, g4, g5⟩ := HCz.out.at
      try dsimp only at g0 g1 g2 g3 g4 g5
      exact bodyPost_ret (v := .tuple #[.agg #[.int .i64 0, .int .i64 0, .int .i64 0, .string ⟨#[]⟩, .slice none 0 0, .slice none 0 0], .int .i64 0, .int .i64 3]) (by simp [results, Try.results23, go_sem, g0, g1, g2, g3, g4, g5]) rfl
        (show RTells (.err 3) w _ _ from ⟨⟨0, 0, 0, ⟨#[]⟩, ⟨none, 0, 0⟩, ⟨none, 0, 0⟩⟩, rfl, rd_nil, HB4.out.trans (HBz.out.mono (by omega))⟩)
    by_cases n4 : 65535 < u.num
    · have ho : overG t.num u.num = true := decide_eq_true (.inr (.inr (.inr n4)))
      rw [if_pos ho] at hR
      subst hR
      clear ho
      go_enter Try.func23, Try.ntmps23
      iterate 10 go_step
      rw [Hw1.out, Hw2.out]
      go_wp2_with (refine TokCell.load rfl _ rfl w.heap.size _ rfl HT.out rfl ?_)
      refine H1.out.mono ?_
      rintro e w3 ⟨rfl, hb3⟩
      have HV3 := Lib.hid (HV2.out.later hb3 HV2.out.lt)
      have HT3 := Lib.hid (HT.out.later hb3 HT.out.lt)
      have HB3 := Lib.hid (HB.out.trans (hb3.mono HB.out.size))
      have hz3 := HV3.out.lt
      clear hb3
      go_wp2_with (first
        | (refine VCell.store rfl rfl (.tmp 7) (.tmp 14) rfl w3.heap.size .nil ⟨7, t.num, u.num, ⟨#[]⟩, ⟨none, 0, 0⟩, ⟨none, 0, 0⟩⟩ rfl rfl (VCell.new w3 .nil) ?_; intro w4 HC4 HK4 HBx4 HZ4; have hb4 : Below w3.heap.size w3 w4 := ((Below.refl _ w3).alloc (Nat.le_refl _) _).trans HBx4.out; have HV4 := Lib.hid (HV3.out.later hb4 HV3.out.lt); have HT4 := Lib.hid (HT3.out.later hb4 HT3.out.lt); have HB4 := Lib.hid (HB3.out.trans (hb4.mono HB3.out.size)); obtain ⟨c0, c1, c2, c3, c4, c5⟩ := HC4.out.at; dsimp only at c0 c1 c2 c3 c4 c5; simp only [Nat.zero_add] at c1 c2 c3 c4 c5; obtain ⟨q0, q1, q2, q3, q4⟩ := HT4.out.parts)
        | (refine VCell.store rfl rfl _ _ rfl (w.heap.size + 1) .nil ⟨0, 0, 0, ⟨#[]⟩, ⟨none, 0, 0⟩, ⟨none, 0, 0⟩⟩ rfl rfl HV4.out ?_; intro wz HCz HKz HBz HZz))
      obtain ⟨g0, g1, g2, g3, g4, g5⟩ := HCz.out.at
      try dsimp only at g0 g1 g2 g3 g4 g5
      exact bodyPost_ret (v := .tuple #[.agg #[.int .i64 0, .int .i64 0, .int .i64 0, .string ⟨#[]⟩, .slice none 0 0, .slice none 0 0], .int .i64 0, .int .i64 3]) (by simp [results, Try.results23, go_sem, g0, g1, g2, g3, g4, g5]) rfl
        (show RTells (.err 3) w _ _ from ⟨⟨0, 0, 0, ⟨#[]⟩, ⟨none, 0, 0⟩, ⟨none, 0, 0⟩⟩, rfl, rd_nil, HB4.out.trans (HBz.out.mono (by omega))⟩)
    have ho : overG t.num u.num = false := decide_eq_false (by omega)
    rw [if_neg (by rw [ho]; decide)] at hR
    subst hR
    clear ho
    go_enter Try.func23, Try.ntmps23
    iterate 10 go_step
    rw [Hw1.out, Hw2.out]
    go_wp2_with (refine TokCell.load rfl _ rfl w.heap.size _ rfl HT.out rfl ?_)
    refine H1.out.mono ?_
    rintro e w3 ⟨rfl, hb3⟩
    have HV3 := Lib.hid (HV2.out.later hb3 HV2.out.lt)
    have HT3 := Lib.hid (HT.out.later hb3 HT.out.lt)
    have HB3 := Lib.hid (HB.out.trans (hb3.mono HB.out.size))
    have hz3 := HV3.out.lt
    clear hb3
    go_wp2_with (first
      | (refine VCell.store rfl rfl (.tmp 7) (.tmp 14) rfl w3.heap.size .nil ⟨7, t.num, u.num, ⟨#[]⟩, ⟨none, 0, 0⟩, ⟨none, 0, 0⟩⟩ rfl rfl (VCell.new w3 .nil) ?_; intro w4 HC4 HK4 HBx4 HZ4; have hb4 : Below w3.heap.size w3 w4 := ((Below.refl _ w3).alloc (Nat.le_refl _) _).trans HBx4.out; have HV4 := Lib.hid (HV3.out.later hb4 HV3.out.lt); have HT4 := Lib.hid (HT3.out.later hb4 HT3.out.lt); have HB4 := Lib.hid (HB3.out.trans (hb4.mono HB3.out.size)); obtain ⟨c0, c1, c2, c3, c4, c5⟩ := HC4.out.at; dsimp only at c0 c1 c2 c3 c4 c5; simp only [Nat.zero_add] at c1 c2 c3 c4 c5; obtain ⟨q0, q1, q2, q3, q4⟩ := HT4.out.parts)
      | (refine VCell.load rfl (.tmp 7) rfl w3.heap.size _ rfl HC4.out ?_)
      | (refine VCell.store rfl rfl _ _ rfl (w.heap.size + 1) .nil ⟨7, t.num, u.num, ⟨#[]⟩, ⟨none, 0, 0⟩, ⟨none, 0, 0⟩⟩ rfl rfl HV4.out ?_; intro wz HCz HKz HBz HZz))
    obtain ⟨g0, g1, g2, g3, g4, g5⟩ := HCz.out.at
    try dsimp only at g0 g1 g2 g3 g4 g5
    exact bodyPost_ret (v := .tuple #[.agg #[.int .i64 7, .int .i64 t.num, .int .i64 u.num, .string ⟨#[]⟩, .slice none 0 0, .slice none 0 0], .int .i64 (r.fin : Int), .int .i64 0]) (by simp [results, Try.results23, go_sem, g0, g1, g2, g3, g4, g5]) rfl
      (show RTells ⟨bitV 7 t.num u.num [], r.fin, 0⟩ w _ _ from ⟨⟨7, t.num, u.num, ⟨#[]⟩, ⟨none, 0, 0⟩, ⟨none, 0, 0⟩⟩, rfl, rd_bit 7 t.num u.num [], HB4.out.trans (HBz.out.mono (by omega))⟩)
  · rw [if_neg hl] at hR
    have H1 := Lib.hid (hno hl)
    subst hR
    clear hyes hno hl
    unfold tokC
    go_enter Try.func23, Try.ntmps23
    iterate 10 go_step
    rw [Hw1.out, Hw2.out]
    go_wp2_with (refine TokCell.load rfl _ rfl w.heap.size _ rfl HT.out rfl ?_)
    refine H1.out.mono ?_
    rintro e w3 ⟨rfl, hb3⟩
    have HV3 := Lib.hid (HV2.out.later hb3 HV2.out.lt)
    have HT3 := Lib.hid (HT.out.later hb3 HT.out.lt)
    have HB3 := Lib.hid (HB.out.trans (hb3.mono HB.out.size))
    have hz3 := HV3.out.lt
    clear hb3
    go_wp2_with (first
      | (refine VCell.store rfl rfl (.tmp 7) (.tmp 14) rfl w3.heap.size .nil ⟨0, 0, 0, ⟨#[]⟩, ⟨none, 0, 0⟩, ⟨none, 0, 0⟩⟩ rfl rfl (VCell.new w3 .nil) ?_; intro w4 HC4 HK4 HBx4 HZ4; have hb4 : Below w3.heap.size w3 w4 := ((Below.refl _ w3).alloc (Nat.le_refl _) _).trans HBx4.out; have HV4 := Lib.hid (HV3.out.later hb4 HV3.out.lt); have HT4 := Lib.hid (HT3.out.later hb4 HT3.out.lt); have HB4 := Lib.hid (HB3.out.trans (hb4.mono HB3.out.size)); obtain ⟨c0, c1, c2, c3, c4, c5⟩ := HC4.out.at; dsimp only at c0 c1 c2 c3 c4 c5; simp only [Nat.zero_add] at c1 c2 c3 c4 c5; obtain ⟨q0, q1, q2, q3, q4⟩ := HT4.out.parts))
    obtain ⟨⟨z0, z1, z2, z3, z4, z5⟩, f0, f1, f2, f3, f4, f5⟩ := HV4.out.zeros
    go_region
    go_wp2_with fail
    obtain ⟨g0, g1, g2, g3, g4, g5⟩ := (HV4.out.six 2 t.num 0 ⟨#[]⟩ none none 0 0 0 0).at
    try dsimp only at g0 g1 g2 g3 g4 g5
    simp only [Nat.zero_add] at g1 g2 g3 g4 g5
    exact bodyPost_ret (v := .tuple #[.agg #[.int .i64 2, .int .i64 t.num, .int .i64 0, .string ⟨#[]⟩, .slice none 0 0, .slice none 0 0], .int .i64 (t.fin : Int), .int .i64 0]) (by simp [results, Try.results23, go_sem, g0, g1, g2, g3, g4, g5]) rfl
      (show RTells ⟨bitV 2 t.num 0 [], t.fin, 0⟩ w _ _ from ⟨⟨2, t.num, 0, ⟨#[]⟩, ⟨none, 0, 0⟩, ⟨none, 0, 0⟩⟩, rfl, rd_bit 2 t.num 0 [], (below_six HB4.out (by omega) _ _ _ _ _ _).drew⟩)
end
end Go.Proofs.Ytejgcnmbngdkiaa
