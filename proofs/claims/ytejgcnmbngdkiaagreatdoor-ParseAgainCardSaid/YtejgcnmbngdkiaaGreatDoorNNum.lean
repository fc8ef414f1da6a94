/-
  PaNum, PaNum2, PaBeg: texts merged.
-/
import Derived.Test.YtejgcnmbngdkiaaGreatDoorNCtx
/-
  (*place).passes; (*reader).number; word.
-/
namespace Go.Proofs.YtejgcnmbngdkiaaGreatDoor
section
open Go.RowKit
set_option maxRecDepth 100000
attribute [local go_sem] undef

theorem eq82 (l : List UInt8) : ((bytes l).toList == [82]) = decide (l = [82]) := by
  rw [Lib.toList_data, bytes_data, Bool.eq_iff_iff, beq_iff_eq, decide_eq_true_eq]
set_option maxHeartbeats 4000000 in
theorem ppasses_any (s : ByteArray) (a : Int) (ty : TypeId) (xs : List Value) (b : Nat) (w : World) (t : Sg) (hs : s.size ≤ 100000000) (h : PlAt w b ty s a xs) (ht : nextI s.data.toList a = t) (hg : ¬ t.code = 0 → t = Sg.err t.code) :
    Calls Tryz.prog 82 #[.pointer (some ⟨b, 0, none⟩), .string ⟨#[82]⟩] w fun e w' => e = .returned (.bool (endsR t)) ∧ (∃ a' : Int, PlAt w' b ty s a' xs ∧ (t.code = 0 → a' = (t.fin : Int))) ∧ Beside b w w' := by
  by_cases hc : t.code = 0
  · have HN := Lib.hid (pnext_any s a ty xs b w t hs h ht hc)
    have he : endsR t = (decide (t.kind = 8) && decide (t.str = [82])) := by unfold endsR; rw [hc]; simp
    have Hlt := Lib.hid h.lt
    have h82 := eq82 t.str
    obtain ⟨E, hE⟩ : ∃ E, endsR t = E := ⟨_, rfl⟩
    rw [hE]
    rw [he] at hE
    clear h ht hg hc he
    go_enter Tryz.func82, Tryz.ntmps82
    go_wp2_with fail
    refine HN.out.mono ?_
    rintro e w1 ⟨rfl, hp, hb⟩
    have HP1 := Lib.hid hp
    have HB1 := Lib.hid hb
    have hz1 := hb.size
    clear hp hb
    have hk : (t.kind == 8) = decide (t.kind = 8) := rfl
    by_cases k8 : t.kind = 8
    · have d8 : decide (t.kind = 8) = true := decide_eq_true k8
      rw [d8] at hk
      by_cases s82 : t.str = [82]
      · have d82 : decide (t.str = [82]) = true := decide_eq_true s82
        rw [d82] at h82
        rw [d8, d82] at hE
        subst hE
        clear k8 s82 d8 d82
        go_wp2_with (refine TokCell.store rfl rfl _ _ rfl w1.heap.size #[.int .i64 0, .int .i64 0, .string ⟨#[]⟩, .int .i64 0, .int .i64 0] t.kind t.num (bytes t.str) t.beg t.fin rfl rfl (TokCell.new w1 _) rfl w1.heap.size _ (Below.refl _ _) (Nat.le_refl _) ?_; intro w7 HT7 HB7 HO7; obtain ⟨r0, r1, r2, r3, r4⟩ := HT7.out.parts)
        go_ret
        exact ⟨rfl, ⟨_, (HP1.out.later ((Below.refl _ w1).alloc (Nat.le_refl _) _) HP1.out.lt).same (HO7.out b (by have := HP1.out.lt; omega)), fun _ => rfl⟩, (HB1.out.alloc _).store hz1 HB7.out⟩
      · have d82 : decide (t.str = [82]) = false := decide_eq_false s82
        rw [d82] at h82
        rw [d8, d82] at hE
        subst hE
        clear k8 s82 d8 d82
        go_wp2_with (refine TokCell.store rfl rfl _ _ rfl w1.heap.size #[.int .i64 0, .int .i64 0, .string ⟨#[]⟩, .int .i64 0, .int .i64 0] t.kind t.num (bytes t.str) t.beg t.fin rfl rfl (TokCell.new w1 _) rfl w1.heap.size _ (Below.refl _ _) (Nat.le_refl _) ?_; intro w7 HT7 HB7 HO7; obtain ⟨r0, r1, r2, r3, r4⟩ := HT7.out.parts)
        go_ret
        exact ⟨rfl, ⟨_, (HP1.out.later ((Below.refl _ w1).alloc (Nat.le_refl _) _) HP1.out.lt).same (HO7.out b (by have := HP1.out.lt; omega)), fun _ => rfl⟩, (HB1.out.alloc _).store hz1 HB7.out⟩
    · have d8 : decide (t.kind = 8) = false := decide_eq_false k8
      rw [d8] at hk
      rw [d8, Bool.false_and] at hE
      subst hE
      clear k8 d8 h82
      go_wp2_with (refine TokCell.store rfl rfl _ _ rfl w1.heap.size #[.int .i64 0, .int .i64 0, .string ⟨#[]⟩, .int .i64 0, .int .i64 0] t.kind t.num (bytes t.str) t.beg t.fin rfl rfl (TokCell.new w1 _) rfl w1.heap.size _ (Below.refl _ _) (Nat.le_refl _) ?_; intro w7 HT7 HB7 HO7; obtain ⟨r0, r1, r2, r3, r4⟩ := HT7.out.parts)
      go_ret
      exact ⟨rfl, ⟨_, (HP1.out.later ((Below.refl _ w1).alloc (Nat.le_refl _) _) HP1.out.lt).same (HO7.out b (by have := HP1.out.lt; omega)), fun _ => rfl⟩, (HB1.out.alloc _).store hz1 HB7.out⟩
  · have HN := Lib.hid (pnext_err s a ty xs b w t.code hs h (ht.trans (hg hc)) hc)
    have he : endsR t = false := by unfold endsR; rw [decide_eq_false hc]; rfl
    have hcd : (t.code == 0) = false := by simpa using hc
    have hcn : ¬ t.code = 0 := hc
    rw [he]
    clear h ht hg he
    generalize t.code = c at *
    clear hc
    go_enter Tryz.func82, Tryz.ntmps82
    go_wp2_with fail
    refine HN.out.mono ?_
    rintro e w1 ⟨rfl, hp, hb⟩
    have HP1 := Lib.hid hp
    have HB1 := Lib.hid hb
    have hz1 := hb.size
    clear hp hb
    go_wp2_with (refine TokCell.store rfl rfl _ _ rfl w1.heap.size #[.int .i64 0, .int .i64 0, .string ⟨#[]⟩, .int .i64 0, .int .i64 0] 0 0 ⟨#[]⟩ 0 0 rfl rfl (TokCell.new w1 _) rfl w1.heap.size _ (Below.refl _ _) (Nat.le_refl _) ?_; intro w7 HT7 HB7 HO7; obtain ⟨r0, r1, r2, r3, r4⟩ := HT7.out.parts)
    go_ret
    exact ⟨rfl, ⟨_, (HP1.out.later ((Below.refl _ w1).alloc (Nat.le_refl _) _) HP1.out.lt).same (HO7.out b (by have := HP1.out.lt; omega)), fun h => absurd h hcn⟩, (HB1.out.alloc _).store hz1 HB7.out⟩
end
end Go.Proofs.YtejgcnmbngdkiaaGreatDoor
/-
  (*reader).number.
-/
namespace Go.Proofs.YtejgcnmbngdkiaaGreatDoor
section
open Go.RowKit
set_option maxRecDepth 100000
attribute [local go_sem] undef Hv.arr

set_option maxHeartbeats 8000000 in
theorem pnumber_any (s : ByteArray) (t : Sg) (b d : Nat) (w : World) (hs : s.size ≤ 100000000) (h : RdrAt w b s (t.fin : Int) d) (hf : t.fin ≤ s.data.toList.length) :
    Calls Tryz.prog 59 #[.pointer (some ⟨b, 0, none⟩), .int .i64 t.num] w (Tells b s d (numberP s.data.toList t) w) := by
  have k0 := h.cell 0
  have k1 := h.cell 1
  simp only [List.getElem?_cons_zero, List.getElem?_cons_succ] at k0 k1
  obtain ⟨u, hu⟩ : ∃ u, nextN s.data.toList t.fin = u := ⟨_, rfl⟩
  have hun := (nextI_nat hf).trans hu
  have hug := (next_good s.data.toList t.fin hf).1
  obtain ⟨R, hR⟩ : ∃ R, numberP s.data.toList t = R := ⟨_, rfl⟩
  rw [hR]
  unfold numberP at hR
  rw [hu] at hug hR
  have hlt := h.lt
  have V0 : Below w.heap.size w (w.alloc (.cells #[.int .i64 0, .int .i64 0, .int .i64 0, .string ⟨#[]⟩, .slice none 0 0, .slice none 0 0] 25)) := (Below.refl _ w).alloc (Nat.le_refl _) _
  have V1 : VCell (w.alloc (.cells #[.int .i64 0, .int .i64 0, .int .i64 0, .string ⟨#[]⟩, .slice none 0 0, .slice none 0 0] 25)) w.heap.size .nil := heap_alloc_new w _
  have j0 := (cell_of_block (V0.block b hlt) 0).trans k0
  have j1 := (cell_of_block (V0.block b hlt) 1).trans k1
  obtain ⟨q, hq⟩ : ∃ q, w.heap.size + 1 = q := ⟨_, rfl⟩
  have hsz : (w.alloc (.cells #[.int .i64 0, .int .i64 0, .int .i64 0, .string ⟨#[]⟩, .slice none 0 0, .slice none 0 0] 25)).heap.size = q := by rw [← hq]; simp
  have HB2 := Lib.hid (show Below w.heap.size w ((w.alloc (.cells #[.int .i64 0, .int .i64 0, .int .i64 0, .string ⟨#[]⟩, .slice none 0 0, .slice none 0 0] 25)).alloc (.cells #[.string s, .int .i64 (t.fin : Int)] 56)) from V0.alloc (by simp) _)
  have hb12 : Below q (w.alloc (.cells #[.int .i64 0, .int .i64 0, .int .i64 0, .string ⟨#[]⟩, .slice none 0 0, .slice none 0 0] 25)) ((w.alloc (.cells #[.int .i64 0, .int .i64 0, .int .i64 0, .string ⟨#[]⟩, .slice none 0 0, .slice none 0 0] 25)).alloc (.cells #[.string s, .int .i64 (t.fin : Int)] 56)) := by
    rw [← hsz]; exact (Below.refl _ _).alloc (Nat.le_refl _) _
  have HR2 := Lib.hid (show RdrAt ((w.alloc (.cells #[.int .i64 0, .int .i64 0, .int .i64 0, .string ⟨#[]⟩, .slice none 0 0, .slice none 0 0] 25)).alloc (.cells #[.string s, .int .i64 (t.fin : Int)] 56)) b s (t.fin : Int) d from (h.later V0 hlt).later hb12 (by omega))
  have HV2 := Lib.hid (show VCell ((w.alloc (.cells #[.int .i64 0, .int .i64 0, .int .i64 0, .string ⟨#[]⟩, .slice none 0 0, .slice none 0 0] 25)).alloc (.cells #[.string s, .int .i64 (t.fin : Int)] 56)) w.heap.size .nil from V1.later hb12 (by omega))
  have hp2 : PlAt ((w.alloc (.cells #[.int .i64 0, .int .i64 0, .int .i64 0, .string ⟨#[]⟩, .slice none 0 0, .slice none 0 0] 25)).alloc (.cells #[.string s, .int .i64 (t.fin : Int)] 56)) q 56 s (t.fin : Int) [] := by
    rw [← hsz]; exact heap_alloc_new _ _
  clear V0 V1 k0 k1 h hu hb12
  have hlq : b < q := by omega
  have hvq : w.heap.size < q := by omega
  by_cases hc : u.code = 0
  · rw [hc] at hR
    have HN := Lib.hid (pnext_any s (t.fin : Int) 56 [] q _ u hs hp2 hun hc)
    by_cases hk : u.kind = 1
    · have hkd : (u.kind != 1) = false := by simpa using hk
      obtain ⟨r, hr⟩ : ∃ r, nextN s.data.toList u.fin = r := ⟨_, rfl⟩
      have hrg := (next_good s.data.toList u.fin hug.2.1).1
      rw [hr] at hrg hR
      have HX := Lib.hid (fun W (hW : PlAt W q 56 s (u.fin : Int) []) => ppasses_any s (u.fin : Int) 56 [] q W r hs hW ((nextI_nat hug.2.1).trans hr) hrg.1)
      have hrc : endsR r = true → r.code = 0 := fun h => by unfold endsR at h; simp only [Bool.and_eq_true, decide_eq_true_eq] at h; exact h.1
      by_cases hE : endsR r = true
      · rw [if_pos ⟨rfl, hk, hE⟩] at hR
        rw [hE] at HX
        have Hrc := Lib.hid (hrc hE)
        clear hk hr hrg hrc hc hun hug hp2 hE
        by_cases n1 : t.num < 1
        · have ho : overG t.num u.num = true := decide_eq_true (.inl n1)
          rw [if_pos ho] at hR
          subst hR
          clear ho
          go_enter Tryz.func59, Tryz.ntmps59
          go_wp2_with fail
          refine HN.out.mono ?_
          rintro e w3 ⟨rfl, hp, hb⟩
          have hz3 := hb.size
          have HP3 := Lib.hid hp
          have HR3 := Lib.hid (HR2.out.same (hb.out HR2.out.lt (by omega)))
          have HV3 := Lib.hid (HV2.out.same (hb.out HV2.out.lt (by omega)))
          have HS3 := Lib.hid (show Beside b w w3 from Beside.of_below (HB2.out.trans (hb.below (by omega) HB2.out.size)))
          have hzz := HS3.out.size
          clear hp hb hz3
          go_wp2_with (refine TokCell.store rfl rfl _ _ rfl w3.heap.size #[.int .i64 0, .int .i64 0, .string ⟨#[]⟩, .int .i64 0, .int .i64 0] u.kind u.num (bytes u.str) u.beg u.fin rfl rfl (TokCell.new w3 _) rfl w3.heap.size _ (Below.refl _ _) (Nat.le_refl _) ?_; intro w4 HT4 HB4 HO4; obtain ⟨r0, r1, r2, r3, r4⟩ := HT4.out.parts; have HP4 := Lib.hid ((HP3.out.later ((Below.refl _ w3).alloc (Nat.le_refl _) _) HP3.out.lt).same (HO4.out _ (by have := HP3.out.lt; omega))); have HR4 := Lib.hid ((HR3.out.later ((Below.refl _ w3).alloc (Nat.le_refl _) _) HR3.out.lt).same (HO4.out b (by have := HR3.out.lt; omega))); have HV4 := Lib.hid ((HV3.out.later ((Below.refl _ w3).alloc (Nat.le_refl _) _) HV3.out.lt).same (HO4.out w.heap.size (by have := HV3.out.lt; omega))); have HS4 := Lib.hid ((HS3.out.alloc (.cells #[.int .i64 0, .int .i64 0, .string ⟨#[]⟩, .int .i64 0, .int .i64 0] 52)).store (q := w3.heap.size) HS3.out.size HB4.out))
          refine (HX.out w4 HP4.out).mono ?_
          rintro e w5 ⟨rfl, ⟨a5, hp5, ha5⟩, hb5⟩
          obtain rfl := ha5 Hrc.out
          have HP5 := Lib.hid hp5
          have HR5 := Lib.hid (HR4.out.same (hb5.out HR4.out.lt (by omega)))
          have HV5 := Lib.hid (HV4.out.same (hb5.out HV4.out.lt (by omega)))
          have HT5 := Lib.hid (HT4.out.same (hb5.out HT4.out.lt (by have := HP3.out.lt; omega)))
          obtain ⟨r0, r1, r2, r3, r4⟩ := HT5.out.parts
          have HS5 := Lib.hid (show Beside b w w5 from ⟨hb5.1.trans HS4.out.1, hb5.2.1.trans HS4.out.2.1, hb5.2.2.1.trans HS4.out.2.2.1, Nat.le_trans HS4.out.size hb5.size, fun k hk hn => (hb5.out (Nat.lt_of_lt_of_le hk HS4.out.size) (by omega)).trans (HS4.out.out hk hn)⟩)
          clear hp5 ha5 hb5
          go_wp2_with (refine VCell.store rfl rfl _ _ rfl w.heap.size .nil ⟨0, 0, 0, ⟨#[]⟩, ⟨none, 0, 0⟩, ⟨none, 0, 0⟩⟩ rfl rfl HV5.out ?_; intro wz HCz HKz HBz HZz)
          obtain ⟨g0, g1, g2, g3, g4, g5⟩ := HCz.out.at
          try dsimp only at g0 g1 g2 g3 g4 g5
          exact bodyPost_ret (v := .tuple #[.agg #[.int .i64 0, .int .i64 0, .int .i64 0, .string ⟨#[]⟩, .slice none 0 0, .slice none 0 0], .int .i64 3]) (by simp [results, Tryz.results59, go_sem, g0, g1, g2, g3, g4, g5]) rfl
            (tells_err (y := ⟨0, 0, 0, ⟨#[]⟩, ⟨none, 0, 0⟩, ⟨none, 0, 0⟩⟩) (HR5.out.same (HKz.out b (by omega))) (HS5.out.store (Nat.le_refl _) HBz.out) (by decide) rfl)
        by_cases n2 : 8388607 < t.num
        · have ho : overG t.num u.num = true := decide_eq_true (.inr (.inl n2))
          rw [if_pos ho] at hR
          subst hR
          clear ho
          go_enter Tryz.func59, Tryz.ntmps59
          go_wp2_with fail
          refine HN.out.mono ?_
          rintro e w3 ⟨rfl, hp, hb⟩
          have hz3 := hb.size
          have HP3 := Lib.hid hp
          have HR3 := Lib.hid (HR2.out.same (hb.out HR2.out.lt (by omega)))
          have HV3 := Lib.hid (HV2.out.same (hb.out HV2.out.lt (by omega)))
          have HS3 := Lib.hid (show Beside b w w3 from Beside.of_below (HB2.out.trans (hb.below (by omega) HB2.out.size)))
          have hzz := HS3.out.size
          clear hp hb hz3
          go_wp2_with (refine TokCell.store rfl rfl _ _ rfl w3.heap.size #[.int .i64 0, .int .i64 0, .string ⟨#[]⟩, .int .i64 0, .int .i64 0] u.kind u.num (bytes u.str) u.beg u.fin rfl rfl (TokCell.new w3 _) rfl w3.heap.size _ (Below.refl _ _) (Nat.le_refl _) ?_; intro w4 HT4 HB4 HO4; obtain ⟨r0, r1, r2, r3, r4⟩ := HT4.out.parts; have HP4 := Lib.hid ((HP3.out.later ((Below.refl _ w3).alloc (Nat.le_refl _) _) HP3.out.lt).same (HO4.out _ (by have := HP3.out.lt; omega))); have HR4 := Lib.hid ((HR3.out.later ((Below.refl _ w3).alloc (Nat.le_refl _) _) HR3.out.lt).same (HO4.out b (by have := HR3.out.lt; omega))); have HV4 := Lib.hid ((HV3.out.later ((Below.refl _ w3).alloc (Nat.le_refl _) _) HV3.out.lt).same (HO4.out w.heap.size (by have := HV3.out.lt; omega))); have HS4 := Lib.hid ((HS3.out.alloc (.cells #[.int .i64 0, .int .i64 0, .string ⟨#[]⟩, .int .i64 0, .int .i64 0] 52)).store (q := w3.heap.size) HS3.out.size HB4.out))
          refine (HX.out w4 HP4.out).mono ?_
          rintro e w5 ⟨rfl, ⟨a5, hp5, ha5⟩, hb5⟩
          obtain rfl := ha5 Hrc.out
          have HP5 := Lib.hid hp5
          have HR5 := Lib.hid (HR4.out.same (hb5.out HR4.out.lt (by omega)))
          have HV5 := Lib.hid (HV4.out.same (hb5.out HV4.out.lt (by omega)))
          have HT5 := Lib.hid (HT4.out.same (hb5.out HT4.out.lt (by have := HP3.out.lt; omega)))
          obtain ⟨r0, r1, r2, r3, r4⟩ := HT5.out.parts
          have HS5 := Lib.hid (show Beside b w w5 from ⟨hb5.1.trans HS4.out.1, hb5.2.1.trans HS4.out.2.1, hb5.2.2.1.trans HS4.out.2.2.1, Nat.le_trans HS4.out.size hb5.size, fun k hk hn => (hb5.out (Nat.lt_of_lt_of_le hk HS4.out.size) (by omega)).trans (HS4.out.out hk hn)⟩)
          clear hp5 ha5 hb5
          go_wp2_with (refine VCell.store rfl rfl _ _ rfl w.heap.size .nil ⟨0, 0, 0, ⟨#[]⟩, ⟨none, 0, 0⟩, ⟨none, 0, 0⟩⟩ rfl rfl HV5.out ?_; intro wz HCz HKz HBz HZz)
          obtain ⟨g0, g1, g2, g3, g4, g5⟩ := HCz.out.at
          try dsimp only at g0 g1 g2 g3 g4 g5
          exact bodyPost_ret (v := .tuple #[.agg #[.int .i64 0, .int .i64 0, .int .i64 0, .string ⟨#[]⟩, .slice none 0 0, .slice none 0 0], .int .i64 3]) (by simp [results, Tryz.results59, go_sem, g0, g1, g2, g3, g4, g5]) rfl
            (tells_err (y := ⟨0, 0, 0, ⟨#[]⟩, ⟨none, 0, 0⟩, ⟨none, 0, 0⟩⟩) (HR5.out.same (HKz.out b (by omega))) (HS5.out.store (Nat.le_refl _) HBz.out) (by decide) rfl)
        by_cases n3 : u.num < 0
        · have ho : overG t.num u.num = true := decide_eq_true (.inr (.inr (.inl n3)))
          rw [if_pos ho] at hR
          subst hR
          clear ho
          go_enter Tryz.func59, Tryz.ntmps59
          go_wp2_with fail
          refine HN.out.mono ?_
          rintro e w3 ⟨rfl, hp, hb⟩
          have hz3 := hb.size
          have HP3 := Lib.hid hp
          have HR3 := Lib.hid (HR2.out.same (hb.out HR2.out.lt (by omega)))
          have HV3 := Lib.hid (HV2.out.same (hb.out HV2.out.lt (by omega)))
          have HS3 := Lib.hid (show Beside b w w3 from Beside.of_below (HB2.out.trans (hb.below (by omega) HB2.out.size)))
          have hzz := HS3.out.size
          clear hp hb hz3
          go_wp2_with (refine TokCell.store rfl rfl _ _ rfl w3.heap.size #[.int .i64 0, .int .i64 0, .string ⟨#[]⟩, .int .i64 0, .int .i64 0] u.kind u.num (bytes u.str) u.beg u.fin rfl rfl (TokCell.new w3 _) rfl w3.heap.size _ (Below.refl _ _) (Nat.le_refl _) ?_; intro w4 HT4 HB4 HO4; obtain ⟨r0, r1, r2, r3, r4⟩ := HT4.out.parts; have HP4 := Lib.hid ((HP3.out.later ((Below.refl _ w3).alloc (Nat.le_refl _) _) HP3.out.lt).same (HO4.out _ (by have := HP3.out.lt; omega))); have HR4 := Lib.hid ((HR3.out.later ((Below.refl _ w3).alloc (Nat.le_refl _) _) HR3.out.lt).same (HO4.out b (by have := HR3.out.lt; omega))); have HV4 := Lib.hid ((HV3.out.later ((Below.refl _ w3).alloc (Nat.le_refl _) _) HV3.out.lt).same (HO4.out w.heap.size (by have := HV3.out.lt; omega))); have HS4 := Lib.hid ((HS3.out.alloc (.cells #[.int .i64 0, .int .i64 0, .string ⟨#[]⟩, .int .i64 0, .int .i64 0] 52)).store (q := w3.heap.size) HS3.out.size HB4.out))
          refine (HX.out w4 HP4.out).mono ?_
          rintro e w5 ⟨rfl, ⟨a5, hp5, ha5⟩, hb5⟩
          obtain rfl := ha5 Hrc.out
          have HP5 := Lib.hid hp5
          have HR5 := Lib.hid (HR4.out.same (hb5.out HR4.out.lt (by omega)))
          have HV5 := Lib.hid (HV4.out.same (hb5.out HV4.out.lt (by omega)))
          have HT5 := Lib.hid (HT4.out.same (hb5.out HT4.out.lt (by have := HP3.out.lt; omega)))
          obtain ⟨r0, r1, r2, r3, r4⟩ := HT5.out.parts
          have HS5 := Lib.hid (show Beside b w w5 from ⟨hb5.1.trans HS4.out.1, hb5.2.1.trans HS4.out.2.1, hb5.2.2.1.trans HS4.out.2.2.1, Nat.le_trans HS4.out.size hb5.size, fun k hk hn => (hb5.out (Nat.lt_of_lt_of_le hk HS4.out.size) (by omega)).trans (HS4.out.out hk hn)⟩)
          clear hp5 ha5 hb5
          go_wp2_with (refine VCell.store rfl rfl _ _ rfl w.heap.size .nil ⟨0, 0, 0, ⟨#[]⟩, ⟨none, 0, 0⟩, ⟨none, 0, 0⟩⟩ rfl rfl HV5.out ?_; intro wz HCz HKz HBz HZz)
          obtain ⟨g0, g1, g2, g3, g4, g5⟩ := HCz.out.at
          try dsimp only at g0 g1 g2 g3 g4 g5
          exact bodyPost_ret (v := .tuple #[.agg #[.int .i64 0, .int .i64 0, .int .i64 0, .string ⟨#[]⟩, .slice none 0 0, .slice none 0 0], .int .i64 3]) (by simp [results, Tryz.results59, go_sem, g0, g1, g2, g3, g4, g5]) rfl
            (tells_err (y := ⟨0, 0, 0, ⟨#[]⟩, ⟨none, 0, 0⟩, ⟨none, 0, 0⟩⟩) (HR5.out.same (HKz.out b (by omega))) (HS5.out.store (Nat.le_refl _) HBz.out) (by decide) rfl)
        by_cases n4 : 65535 < u.num
        · have ho : overG t.num u.num = true := decide_eq_true (.inr (.inr (.inr n4)))
          rw [if_pos ho] at hR
          subst hR
          clear ho
          go_enter Tryz.func59, Tryz.ntmps59
          go_wp2_with fail
          refine HN.out.mono ?_
          rintro e w3 ⟨rfl, hp, hb⟩
          have hz3 := hb.size
          have HP3 := Lib.hid hp
          have HR3 := Lib.hid (HR2.out.same (hb.out HR2.out.lt (by omega)))
          have HV3 := Lib.hid (HV2.out.same (hb.out HV2.out.lt (by omega)))
          have HS3 := Lib.hid (show Beside b w w3 from Beside.of_below (HB2.out.trans (hb.below (by omega) HB2.out.size)))
          have hzz := HS3.out.size
          clear hp hb hz3
          go_wp2_with (refine TokCell.store rfl rfl _ _ rfl w3.heap.size #[.int .i64 0, .int .i64 0, .string ⟨#[]⟩, .int .i64 0, .int .i64 0] u.kind u.num (bytes u.str) u.beg u.fin rfl rfl (TokCell.new w3 _) rfl w3.heap.size _ (Below.refl _ _) (Nat.le_refl _) ?_; intro w4 HT4 HB4 HO4; obtain ⟨r0, r1, r2, r3, r4⟩ := HT4.out.parts; have HP4 := Lib.hid ((HP3.out.later ((Below.refl _ w3).alloc (Nat.le_refl _) _) HP3.out.lt).same (HO4.out _ (by have := HP3.out.lt; omega))); have HR4 := Lib.hid ((HR3.out.later ((Below.refl _ w3).alloc (Nat.le_refl _) _) HR3.out.lt).same (HO4.out b (by have := HR3.out.lt; omega))); have HV4 := Lib.hid ((HV3.out.later ((Below.refl _ w3).alloc (Nat.le_refl _) _) HV3.out.lt).same (HO4.out w.heap.size (by have := HV3.out.lt; omega))); have HS4 := Lib.hid ((HS3.out.alloc (.cells #[.int .i64 0, .int .i64 0, .string ⟨#[]⟩, .int .i64 0, .int .i64 0] 52)).store (q := w3.heap.size) HS3.out.size HB4.out))
          refine (HX.out w4 HP4.out).mono ?_
          rintro e w5 ⟨rfl, ⟨a5, hp5, ha5⟩, hb5⟩
          obtain rfl := ha5 Hrc.out
          have HP5 := Lib.hid hp5
          have HR5 := Lib.hid (HR4.out.same (hb5.out HR4.out.lt (by omega)))
          have HV5 := Lib.hid (HV4.out.same (hb5.out HV4.out.lt (by omega)))
          have HT5 := Lib.hid (HT4.out.same (hb5.out HT4.out.lt (by have := HP3.out.lt; omega)))
          obtain ⟨r0, r1, r2, r3, r4⟩ := HT5.out.parts
          have HS5 := Lib.hid (show Beside b w w5 from ⟨hb5.1.trans HS4.out.1, hb5.2.1.trans HS4.out.2.1, hb5.2.2.1.trans HS4.out.2.2.1, Nat.le_trans HS4.out.size hb5.size, fun k hk hn => (hb5.out (Nat.lt_of_lt_of_le hk HS4.out.size) (by omega)).trans (HS4.out.out hk hn)⟩)
          clear hp5 ha5 hb5
          go_wp2_with (refine VCell.store rfl rfl _ _ rfl w.heap.size .nil ⟨0, 0, 0, ⟨#[]⟩, ⟨none, 0, 0⟩, ⟨none, 0, 0⟩⟩ rfl rfl HV5.out ?_; intro wz HCz HKz HBz HZz)
          obtain ⟨g0, g1, g2, g3, g4, g5⟩ := HCz.out.at
          try dsimp only at g0 g1 g2 g3 g4 g5
          exact bodyPost_ret (v := .tuple #[.agg #[.int .i64 0, .int .i64 0, .int .i64 0, .string ⟨#[]⟩, .slice none 0 0, .slice none 0 0], .int .i64 3]) (by simp [results, Tryz.results59, go_sem, g0, g1, g2, g3, g4, g5]) rfl
            (tells_err (y := ⟨0, 0, 0, ⟨#[]⟩, ⟨none, 0, 0⟩, ⟨none, 0, 0⟩⟩) (HR5.out.same (HKz.out b (by omega))) (HS5.out.store (Nat.le_refl _) HBz.out) (by decide) rfl)
        have ho : overG t.num u.num = false := decide_eq_false (by omega)
        rw [if_neg (by rw [ho]; decide)] at hR
        subst hR
        clear ho
        go_enter Tryz.func59, Tryz.ntmps59
        go_wp2_with fail
        refine HN.out.mono ?_
        rintro e w3 ⟨rfl, hp, hb⟩
        have hz3 := hb.size
        have HP3 := Lib.hid hp
        have HR3 := Lib.hid (HR2.out.same (hb.out HR2.out.lt (by omega)))
        have HV3 := Lib.hid (HV2.out.same (hb.out HV2.out.lt (by omega)))
        have HS3 := Lib.hid (show Beside b w w3 from Beside.of_below (HB2.out.trans (hb.below (by omega) HB2.out.size)))
        have hzz := HS3.out.size
        clear hp hb hz3
        go_wp2_with (refine TokCell.store rfl rfl _ _ rfl w3.heap.size #[.int .i64 0, .int .i64 0, .string ⟨#[]⟩, .int .i64 0, .int .i64 0] u.kind u.num (bytes u.str) u.beg u.fin rfl rfl (TokCell.new w3 _) rfl w3.heap.size _ (Below.refl _ _) (Nat.le_refl _) ?_; intro w4 HT4 HB4 HO4; obtain ⟨r0, r1, r2, r3, r4⟩ := HT4.out.parts; have HP4 := Lib.hid ((HP3.out.later ((Below.refl _ w3).alloc (Nat.le_refl _) _) HP3.out.lt).same (HO4.out _ (by have := HP3.out.lt; omega))); have HR4 := Lib.hid ((HR3.out.later ((Below.refl _ w3).alloc (Nat.le_refl _) _) HR3.out.lt).same (HO4.out b (by have := HR3.out.lt; omega))); have HV4 := Lib.hid ((HV3.out.later ((Below.refl _ w3).alloc (Nat.le_refl _) _) HV3.out.lt).same (HO4.out w.heap.size (by have := HV3.out.lt; omega))); have HS4 := Lib.hid ((HS3.out.alloc (.cells #[.int .i64 0, .int .i64 0, .string ⟨#[]⟩, .int .i64 0, .int .i64 0] 52)).store (q := w3.heap.size) HS3.out.size HB4.out))
        refine (HX.out w4 HP4.out).mono ?_
        rintro e w5 ⟨rfl, ⟨a5, hp5, ha5⟩, hb5⟩
        obtain rfl := ha5 Hrc.out
        have HP5 := Lib.hid hp5
        have HR5 := Lib.hid (HR4.out.same (hb5.out HR4.out.lt (by omega)))
        have HV5 := Lib.hid (HV4.out.same (hb5.out HV4.out.lt (by omega)))
        have HT5 := Lib.hid (HT4.out.same (hb5.out HT4.out.lt (by have := HP3.out.lt; omega)))
        obtain ⟨r0, r1, r2, r3, r4⟩ := HT5.out.parts
        have HS5 := Lib.hid (show Beside b w w5 from ⟨hb5.1.trans HS4.out.1, hb5.2.1.trans HS4.out.2.1, hb5.2.2.1.trans HS4.out.2.2.1, Nat.le_trans HS4.out.size hb5.size, fun k hk hn => (hb5.out (Nat.lt_of_lt_of_le hk HS4.out.size) (by omega)).trans (HS4.out.out hk hn)⟩)
        clear hp5 ha5 hb5
        have q0 := HP5.out.cell 0
        have q1 := HP5.out.cell 1
        have p0 := HR5.out.cell 0
        have p1 := HR5.out.cell 1
        have f0 := HR5.out.free 0
        have f1 := HR5.out.free 1
        simp only [List.getElem?_cons_zero, List.getElem?_cons_succ] at q0 q1 p0 p1
        have HR6 := Lib.hid (HR5.out.again.move (r.fin : Int))
        have f6 := HR5.out.again.free 1
        have p6 := HR5.out.again.cell 1
        simp only [List.getElem?_cons_zero, List.getElem?_cons_succ] at p6
        have HS6 := Lib.hid ((HS5.out.setAt 0 (.string s)).setAt 1 (.int .i64 (r.fin : Int)))
        have hbn : w.heap.size ≠ b := by omega
        have hb7 : w3.heap.size ≠ b := by have := HR3.out.lt; omega
        have HV6 := Lib.hid (show VCell ((w5.setCell ⟨b, 0, none⟩ (.string s)).setCell ⟨b, 1, none⟩ (.int .i64 (r.fin : Int))) w.heap.size .nil from (HV5.out.same (Below.heap_setCell _ _ _ _ hbn)).same (Below.heap_setCell _ _ _ _ hbn))
        have HT6 := Lib.hid (show TokCell ((w5.setCell ⟨b, 0, none⟩ (.string s)).setCell ⟨b, 1, none⟩ (.int .i64 (r.fin : Int))) w3.heap.size (tokC u.kind u.num (bytes u.str) u.beg u.fin) from (HT5.out.same (Below.heap_setCell _ _ _ _ hb7)).same (Below.heap_setCell _ _ _ _ hb7))
        obtain ⟨_, s1, _, _, _⟩ := HT6.out.parts
        go_wp2_with (refine VCell.store rfl rfl _ _ rfl w.heap.size .nil ⟨7, t.num, u.num, ⟨#[]⟩, ⟨none, 0, 0⟩, ⟨none, 0, 0⟩⟩ rfl rfl HV6.out ?_; intro wz HCz HKz HBz HZz)
        obtain ⟨g0, g1, g2, g3, g4, g5⟩ := HCz.out.at
        try dsimp only at g0 g1 g2 g3 g4 g5
        exact bodyPost_ret (v := .tuple #[.agg #[.int .i64 7, .int .i64 t.num, .int .i64 u.num, .string ⟨#[]⟩, .slice none 0 0, .slice none 0 0], .int .i64 0]) (by simp [results, Tryz.results59, go_sem, g0, g1, g2, g3, g4, g5]) rfl
          (tells_ok (R := ⟨bitV 7 t.num u.num [], r.fin, 0⟩) (y := ⟨7, t.num, u.num, ⟨#[]⟩, ⟨none, 0, 0⟩, ⟨none, 0, 0⟩⟩) (HR6.out.same (HKz.out b (by omega))) (HS6.out.store (Nat.le_refl _) HBz.out) rfl (rd_bit 7 t.num u.num []) rfl)
      · rw [if_neg (fun h => hE h.2.2)] at hR
        subst hR
        have hE' : endsR r = false := by simpa using hE
        rw [hE'] at HX
        clear hk hr hrg hrc hc hun hug hp2 hE hE'
        go_enter Tryz.func59, Tryz.ntmps59
        go_wp2_with fail
        refine HN.out.mono ?_
        rintro e w3 ⟨rfl, hp, hb⟩
        have hz3 := hb.size
        have HP3 := Lib.hid hp
        have HR3 := Lib.hid (HR2.out.same (hb.out HR2.out.lt (by omega)))
        have HV3 := Lib.hid (HV2.out.same (hb.out HV2.out.lt (by omega)))
        have HS3 := Lib.hid (show Beside b w w3 from Beside.of_below (HB2.out.trans (hb.below (by omega) HB2.out.size)))
        have hzz := HS3.out.size
        clear hp hb hz3
        go_wp2_with (refine TokCell.store rfl rfl _ _ rfl w3.heap.size #[.int .i64 0, .int .i64 0, .string ⟨#[]⟩, .int .i64 0, .int .i64 0] u.kind u.num (bytes u.str) u.beg u.fin rfl rfl (TokCell.new w3 _) rfl w3.heap.size _ (Below.refl _ _) (Nat.le_refl _) ?_; intro w4 HT4 HB4 HO4; obtain ⟨r0, r1, r2, r3, r4⟩ := HT4.out.parts; have HP4 := Lib.hid ((HP3.out.later ((Below.refl _ w3).alloc (Nat.le_refl _) _) HP3.out.lt).same (HO4.out _ (by have := HP3.out.lt; omega))); have HR4 := Lib.hid ((HR3.out.later ((Below.refl _ w3).alloc (Nat.le_refl _) _) HR3.out.lt).same (HO4.out b (by have := HR3.out.lt; omega))); have HV4 := Lib.hid ((HV3.out.later ((Below.refl _ w3).alloc (Nat.le_refl _) _) HV3.out.lt).same (HO4.out w.heap.size (by have := HV3.out.lt; omega))); have HS4 := Lib.hid ((HS3.out.alloc (.cells #[.int .i64 0, .int .i64 0, .string ⟨#[]⟩, .int .i64 0, .int .i64 0] 52)).store (q := w3.heap.size) HS3.out.size HB4.out))
        refine (HX.out w4 HP4.out).mono ?_
        rintro e w5 ⟨rfl, ⟨a5, hp5, ha5⟩, hb5⟩
        have HR5 := Lib.hid (HR4.out.same (hb5.out HR4.out.lt (by omega)))
        have HV5 := Lib.hid (HV4.out.same (hb5.out HV4.out.lt (by omega)))
        have HS5 := Lib.hid (show Beside b w w5 from ⟨hb5.1.trans HS4.out.1, hb5.2.1.trans HS4.out.2.1, hb5.2.2.1.trans HS4.out.2.2.1, Nat.le_trans HS4.out.size hb5.size, fun k hk hn => (hb5.out (Nat.lt_of_lt_of_le hk HS4.out.size) (by omega)).trans (HS4.out.out hk hn)⟩)
        clear hp5 ha5 hb5
        go_wp2_with (refine VCell.store rfl rfl _ _ rfl w.heap.size .nil ⟨2, t.num, 0, ⟨#[]⟩, ⟨none, 0, 0⟩, ⟨none, 0, 0⟩⟩ rfl rfl HV5.out ?_; intro wz HCz HKz HBz HZz)
        obtain ⟨g0, g1, g2, g3, g4, g5⟩ := HCz.out.at
        try dsimp only at g0 g1 g2 g3 g4 g5
        exact bodyPost_ret (v := .tuple #[.agg #[.int .i64 2, .int .i64 t.num, .int .i64 0, .string ⟨#[]⟩, .slice none 0 0, .slice none 0 0], .int .i64 0]) (by simp [results, Tryz.results59, go_sem, g0, g1, g2, g3, g4, g5]) rfl
          (tells_ok (R := ⟨bitV 2 t.num 0 [], t.fin, 0⟩) (y := ⟨2, t.num, 0, ⟨#[]⟩, ⟨none, 0, 0⟩, ⟨none, 0, 0⟩⟩) (HR5.out.same (HKz.out b (by omega))) (HS5.out.store (Nat.le_refl _) HBz.out) rfl (rd_bit 2 t.num 0 []) rfl)
    · have hkd : (u.kind != 1) = true := by simpa using hk
      rw [if_neg (fun h => hk h.2.1)] at hR
      subst hR
      clear hk hc hun hug hp2
      go_enter Tryz.func59, Tryz.ntmps59
      go_wp2_with fail
      refine HN.out.mono ?_
      rintro e w3 ⟨rfl, hp, hb⟩
      have hz3 := hb.size
      have HP3 := Lib.hid hp
      have HR3 := Lib.hid (HR2.out.same (hb.out HR2.out.lt (by omega)))
      have HV3 := Lib.hid (HV2.out.same (hb.out HV2.out.lt (by omega)))
      have HS3 := Lib.hid (show Beside b w w3 from Beside.of_below (HB2.out.trans (hb.below (by omega) HB2.out.size)))
      have hzz := HS3.out.size
      clear hp hb hz3
      go_wp2_with (first
        | (refine TokCell.store rfl rfl _ _ rfl w3.heap.size #[.int .i64 0, .int .i64 0, .string ⟨#[]⟩, .int .i64 0, .int .i64 0] u.kind u.num (bytes u.str) u.beg u.fin rfl rfl (TokCell.new w3 _) rfl w3.heap.size _ (Below.refl _ _) (Nat.le_refl _) ?_; intro w4 HT4 HB4 HO4; obtain ⟨r0, r1, r2, r3, r4⟩ := HT4.out.parts; have HP4 := Lib.hid ((HP3.out.later ((Below.refl _ w3).alloc (Nat.le_refl _) _) HP3.out.lt).same (HO4.out _ (by have := HP3.out.lt; omega))); have HR4 := Lib.hid ((HR3.out.later ((Below.refl _ w3).alloc (Nat.le_refl _) _) HR3.out.lt).same (HO4.out b (by have := HR3.out.lt; omega))); have HV4 := Lib.hid ((HV3.out.later ((Below.refl _ w3).alloc (Nat.le_refl _) _) HV3.out.lt).same (HO4.out w.heap.size (by have := HV3.out.lt; omega))); have HS4 := Lib.hid ((HS3.out.alloc (.cells #[.int .i64 0, .int .i64 0, .string ⟨#[]⟩, .int .i64 0, .int .i64 0] 52)).store (q := w3.heap.size) HS3.out.size HB4.out))
        | (refine VCell.store rfl rfl _ _ rfl w.heap.size .nil ⟨2, t.num, 0, ⟨#[]⟩, ⟨none, 0, 0⟩, ⟨none, 0, 0⟩⟩ rfl rfl HV4.out ?_; intro wz HCz HKz HBz HZz))
      obtain ⟨g0, g1, g2, g3, g4, g5⟩ := HCz.out.at
      try dsimp only at g0 g1 g2 g3 g4 g5
      exact bodyPost_ret (v := .tuple #[.agg #[.int .i64 2, .int .i64 t.num, .int .i64 0, .string ⟨#[]⟩, .slice none 0 0, .slice none 0 0], .int .i64 0]) (by simp [results, Tryz.results59, go_sem, g0, g1, g2, g3, g4, g5]) rfl
        (tells_ok (R := ⟨bitV 2 t.num 0 [], t.fin, 0⟩) (y := ⟨2, t.num, 0, ⟨#[]⟩, ⟨none, 0, 0⟩, ⟨none, 0, 0⟩⟩) (HR4.out.same (HKz.out b (by omega))) (HS4.out.store (Nat.le_refl _) HBz.out) rfl (rd_bit 2 t.num 0 []) rfl)
  · have HN := Lib.hid (pnext_err s (t.fin : Int) 56 [] q _ u.code hs hp2 (hun.trans (hug.1 hc)) hc)
    rw [if_neg (fun h => hc h.1)] at hR
    subst hR
    have hcd : (u.code != 0) = true := by simpa using hc
    generalize u.code = c at *
    clear hc hun hug hp2
    go_enter Tryz.func59, Tryz.ntmps59
    go_wp2_with fail
    refine HN.out.mono ?_
    rintro e w3 ⟨rfl, hp, hb⟩
    have hz3 := hb.size
    have HP3 := Lib.hid hp
    have HR3 := Lib.hid (HR2.out.same (hb.out HR2.out.lt (by omega)))
    have HV3 := Lib.hid (HV2.out.same (hb.out HV2.out.lt (by omega)))
    have HS3 := Lib.hid (show Beside b w w3 from Beside.of_below (HB2.out.trans (hb.below (by omega) HB2.out.size)))
    have hzz := HS3.out.size
    clear hp hb hz3
    go_wp2_with (first
      | (refine TokCell.store rfl rfl _ _ rfl w3.heap.size #[.int .i64 0, .int .i64 0, .string ⟨#[]⟩, .int .i64 0, .int .i64 0] 0 0 ⟨#[]⟩ 0 0 rfl rfl (TokCell.new w3 _) rfl w3.heap.size _ (Below.refl _ _) (Nat.le_refl _) ?_; intro w4 HT4 HB4 HO4; obtain ⟨r0, r1, r2, r3, r4⟩ := HT4.out.parts; have HP4 := Lib.hid ((HP3.out.later ((Below.refl _ w3).alloc (Nat.le_refl _) _) HP3.out.lt).same (HO4.out _ (by have := HP3.out.lt; omega))); have HR4 := Lib.hid ((HR3.out.later ((Below.refl _ w3).alloc (Nat.le_refl _) _) HR3.out.lt).same (HO4.out b (by have := HR3.out.lt; omega))); have HV4 := Lib.hid ((HV3.out.later ((Below.refl _ w3).alloc (Nat.le_refl _) _) HV3.out.lt).same (HO4.out w.heap.size (by have := HV3.out.lt; omega))); have HS4 := Lib.hid ((HS3.out.alloc (.cells #[.int .i64 0, .int .i64 0, .string ⟨#[]⟩, .int .i64 0, .int .i64 0] 52)).store (q := w3.heap.size) HS3.out.size HB4.out))
      | (refine VCell.store rfl rfl _ _ rfl w.heap.size .nil ⟨2, t.num, 0, ⟨#[]⟩, ⟨none, 0, 0⟩, ⟨none, 0, 0⟩⟩ rfl rfl HV4.out ?_; intro wz HCz HKz HBz HZz))
    obtain ⟨g0, g1, g2, g3, g4, g5⟩ := HCz.out.at
    try dsimp only at g0 g1 g2 g3 g4 g5
    exact bodyPost_ret (v := .tuple #[.agg #[.int .i64 2, .int .i64 t.num, .int .i64 0, .string ⟨#[]⟩, .slice none 0 0, .slice none 0 0], .int .i64 0]) (by simp [results, Tryz.results59, go_sem, g0, g1, g2, g3, g4, g5]) rfl
      (tells_ok (R := ⟨bitV 2 t.num 0 [], t.fin, 0⟩) (y := ⟨2, t.num, 0, ⟨#[]⟩, ⟨none, 0, 0⟩, ⟨none, 0, 0⟩⟩) (HR4.out.same (HKz.out b (by omega))) (HS4.out.store (Nat.le_refl _) HBz.out) rfl (rd_bit 2 t.num 0 []) rfl)
end
end Go.Proofs.YtejgcnmbngdkiaaGreatDoor
/-
  word; (*reader).begun.
-/
namespace Go.Proofs.YtejgcnmbngdkiaaGreatDoor
section
open Go.RowKit
set_option maxRecDepth 100000
attribute [local go_sem] undef Hv.arr

theorem eqw (l m : List UInt8) : ((bytes l).toList == m) = decide (l = m) := by
  rw [Lib.toList_data, bytes_data, Bool.eq_iff_iff, beq_iff_eq, decide_eq_true_eq]
set_option maxHeartbeats 4000000 in
theorem pword_any (t : Sg) (w : World) :
    Calls Tryz.prog 61 #[.string (bytes t.str)] w fun e w' => ∃ y : Hv, e = .returned (.tuple #[.agg y.arr, .int .i64 (wordP t).code]) ∧ Below w.heap.size w w' ∧ ((wordP t).code = 0 → (wordP t).fin = t.fin ∧ ∀ S, Rd w' S y (wordP t).v) := by
  have HV0 := Lib.hid (VCell.new w .nil)
  have HB0 := Lib.hid ((Below.refl w.heap.size w).alloc (Nat.le_refl _) (.cells #[.int .i64 0, .int .i64 0, .int .i64 0, .string ⟨#[]⟩, .slice none 0 0, .slice none 0 0] 25))
  obtain ⟨R, hR⟩ : ∃ R, wordP t = R := ⟨_, rfl⟩
  rw [hR]
  unfold wordP at hR
  have e1 := eqw t.str [116, 114, 117, 101]
  have e2 := eqw t.str [102, 97, 108, 115, 101]
  have e3 := eqw t.str [110, 117, 108, 108]
  by_cases h1 : t.str = trueL
  · rw [if_pos h1] at hR
    subst hR
    have d1 : decide (t.str = [116, 114, 117, 101]) = true := decide_eq_true h1
    rw [d1] at e1
    clear h1 d1 e2 e3
    go_enter Tryz.func61, Tryz.ntmps61
    go_wp2_with (refine VCell.store rfl rfl _ _ rfl w.heap.size .nil ⟨1, 1, 0, ⟨#[]⟩, ⟨none, 0, 0⟩, ⟨none, 0, 0⟩⟩ rfl rfl HV0.out ?_; intro wz HCz HKz HBz HZz)
    obtain ⟨g0, g1, g2, g3, g4, g5⟩ := HCz.out.at
    try dsimp only at g0 g1 g2 g3 g4 g5
    exact bodyPost_ret (v := .tuple #[.agg #[.int .i64 1, .int .i64 1, .int .i64 0, .string ⟨#[]⟩, .slice none 0 0, .slice none 0 0], .int .i64 0]) (by simp [results, Tryz.results61, go_sem, g0, g1, g2, g3, g4, g5]) rfl
      ⟨⟨1, 1, 0, ⟨#[]⟩, ⟨none, 0, 0⟩, ⟨none, 0, 0⟩⟩, rfl, HB0.out.trans HBz.out, fun _ => ⟨by first | rfl | trivial, fun _ => rd_bit 1 1 0 []⟩⟩
  have d1 : decide (t.str = [116, 114, 117, 101]) = false := decide_eq_false h1
  rw [d1] at e1
  rw [if_neg h1] at hR
  by_cases h2 : t.str = falseL
  · rw [if_pos h2] at hR
    subst hR
    have d2 : decide (t.str = [102, 97, 108, 115, 101]) = true := decide_eq_true h2
    rw [d2] at e2
    clear h1 d1 h2 d2 e3
    go_enter Tryz.func61, Tryz.ntmps61
    go_wp2_with (refine VCell.store rfl rfl _ _ rfl w.heap.size .nil ⟨1, 0, 0, ⟨#[]⟩, ⟨none, 0, 0⟩, ⟨none, 0, 0⟩⟩ rfl rfl HV0.out ?_; intro wz HCz HKz HBz HZz)
    obtain ⟨g0, g1, g2, g3, g4, g5⟩ := HCz.out.at
    try dsimp only at g0 g1 g2 g3 g4 g5
    exact bodyPost_ret (v := .tuple #[.agg #[.int .i64 1, .int .i64 0, .int .i64 0, .string ⟨#[]⟩, .slice none 0 0, .slice none 0 0], .int .i64 0]) (by simp [results, Tryz.results61, go_sem, g0, g1, g2, g3, g4, g5]) rfl
      ⟨⟨1, 0, 0, ⟨#[]⟩, ⟨none, 0, 0⟩, ⟨none, 0, 0⟩⟩, rfl, HB0.out.trans HBz.out, fun _ => ⟨by first | rfl | trivial, fun _ => rd_bit 1 0 0 []⟩⟩
  have d2 : decide (t.str = [102, 97, 108, 115, 101]) = false := decide_eq_false h2
  rw [d2] at e2
  rw [if_neg h2] at hR
  by_cases h3 : t.str = nullL
  · rw [if_pos h3] at hR
    subst hR
    have d3 : decide (t.str = [110, 117, 108, 108]) = true := decide_eq_true h3
    rw [d3] at e3
    clear h1 d1 h2 d2 h3 d3
    go_enter Tryz.func61, Tryz.ntmps61
    go_wp2_with (refine VCell.store rfl rfl _ _ rfl w.heap.size .nil ⟨0, 0, 0, ⟨#[]⟩, ⟨none, 0, 0⟩, ⟨none, 0, 0⟩⟩ rfl rfl HV0.out ?_; intro wz HCz HKz HBz HZz)
    obtain ⟨g0, g1, g2, g3, g4, g5⟩ := HCz.out.at
    try dsimp only at g0 g1 g2 g3 g4 g5
    exact bodyPost_ret (v := .tuple #[.agg #[.int .i64 0, .int .i64 0, .int .i64 0, .string ⟨#[]⟩, .slice none 0 0, .slice none 0 0], .int .i64 0]) (by simp [results, Tryz.results61, go_sem, g0, g1, g2, g3, g4, g5]) rfl
      ⟨⟨0, 0, 0, ⟨#[]⟩, ⟨none, 0, 0⟩, ⟨none, 0, 0⟩⟩, rfl, HB0.out.trans HBz.out, fun _ => ⟨by first | rfl | trivial, fun _ => rd_bit 0 0 0 []⟩⟩
  have d3 : decide (t.str = [110, 117, 108, 108]) = false := decide_eq_false h3
  rw [d3] at e3
  rw [if_neg h3] at hR
  subst hR
  clear h1 d1 h2 d2 h3 d3
  go_enter Tryz.func61, Tryz.ntmps61
  go_wp2_with (refine VCell.store rfl rfl _ _ rfl w.heap.size .nil ⟨0, 0, 0, ⟨#[]⟩, ⟨none, 0, 0⟩, ⟨none, 0, 0⟩⟩ rfl rfl HV0.out ?_; intro wz HCz HKz HBz HZz)
  obtain ⟨g0, g1, g2, g3, g4, g5⟩ := HCz.out.at
  try dsimp only at g0 g1 g2 g3 g4 g5
  exact bodyPost_ret (v := .tuple #[.agg #[.int .i64 0, .int .i64 0, .int .i64 0, .string ⟨#[]⟩, .slice none 0 0, .slice none 0 0], .int .i64 4]) (by simp [results, Tryz.results61, go_sem, g0, g1, g2, g3, g4, g5]) rfl
    ⟨⟨0, 0, 0, ⟨#[]⟩, ⟨none, 0, 0⟩, ⟨none, 0, 0⟩⟩, rfl, HB0.out.trans HBz.out, fun h => absurd h (by decide)⟩

/-- What begun, list, dict tell, with so much fuel. -/
def BegunC (s : ByteArray) (f : Nat) : Prop := ∀ (t : Sg) (d b : Nat) (w : World), t.sound s.data.toList → d ≤ 64 → ¬ (begunP s.data.toList f t d).code = -1 → RdrAt w b s (t.fin : Int) d →
  Calls Tryz.prog 34 #[.pointer (some ⟨b, 0, none⟩), .agg (tokC t.kind t.num (bytes t.str) t.beg t.fin)] w (Tells b s d (begunP s.data.toList f t d) w)
def ListC (s : ByteArray) (f : Nat) : Prop := ∀ (k d b : Nat) (w : World), k ≤ s.data.toList.length → d < 64 → ¬ (listP s.data.toList f k (d + 1) []).code = -1 → RdrAt w b s (k : Int) (d + 1) →
  Calls Tryz.prog 84 #[.pointer (some ⟨b, 0, none⟩)] w (Tells b s (d + 1) (listP s.data.toList f k (d + 1) []) w)
def DictC (s : ByteArray) (f : Nat) : Prop := ∀ (k d b : Nat) (w : World), k ≤ s.data.toList.length → d < 64 → ¬ (dictP s.data.toList f k (d + 1) []).code = -1 → RdrAt w b s (k : Int) (d + 1) →
  Calls Tryz.prog 85 #[.pointer (some ⟨b, 0, none⟩)] w (Tells b s (d + 1) (dictP s.data.toList f k (d + 1) []) w)
/-- What opens holds: which it is by the sign that opened it. -/
def holdP (l : List UInt8) (f k d : Nat) (o : Int) : Ps := if 64 ≤ d then .err 9 else if o = 4 then listP l f k (d + 1) [] else dictP l f k (d + 1) []
def HoldC (s : ByteArray) (f : Nat) : Prop := ∀ (k d b : Nat) (o : Int) (w : World), k ≤ s.data.toList.length → d ≤ 64 → o = 4 ∨ o = 6 → ¬ (holdP s.data.toList f k d o).code = -1 → RdrAt w b s (k : Int) d →
  Calls Tryz.prog 60 #[.pointer (some ⟨b, 0, none⟩), .int .i64 o] w (Tells b s d (holdP s.data.toList f k d o) w)
theorem begun_hold {l : List UInt8} {f d : Nat} {t : Sg} (h : t.kind = 4 ∨ t.kind = 6) : begunP l (f + 1) t d = holdP l f t.fin d t.kind := by
  unfold holdP
  by_cases hd : 64 ≤ d
  · rw [begun_deep h hd, if_pos hd]
  · rw [if_neg hd]
    rcases h with h | h
    · rw [begun_list h hd, if_pos h]
    · rw [begun_dict h hd, if_neg (by omega)]

set_option maxHeartbeats 8000000 in
theorem begun_of (s : ByteArray) (f : Nat) (hs : s.size ≤ 100000000) (hh : HoldC s f) : BegunC s (f + 1) := by
  intro t d b w ht hd hcode h
  have hkd := ht.kind
  have hlt := h.lt
  obtain ⟨w1, hw1⟩ : ∃ w1, w.alloc (.cells (tokC t.kind t.num (bytes t.str) t.beg t.fin) 52) = w1 := ⟨_, rfl⟩
  obtain ⟨w2, hw2⟩ : ∃ w2, w1.alloc (.cells #[.int .i64 0, .int .i64 0, .int .i64 0, .string ⟨#[]⟩, .slice none 0 0, .slice none 0 0] 25) = w2 := ⟨_, rfl⟩
  have hs1 : w1.heap.size = w.heap.size + 1 := by rw [← hw1]; simp
  have hb1 : Below w.heap.size w w1 := by rw [← hw1]; exact (Below.refl _ w).alloc (Nat.le_refl _) _
  have hb2 : Below w1.heap.size w1 w2 := by rw [← hw2]; exact (Below.refl _ w1).alloc (Nat.le_refl _) _
  have hs2 : w2.heap.size = w.heap.size + 1 + 1 := by rw [← hw2]; simp [hs1]
  have HT := Lib.hid (show TokCell w2 w.heap.size (tokC t.kind t.num (bytes t.str) t.beg t.fin) from (show TokCell w1 w.heap.size (tokC t.kind t.num (bytes t.str) t.beg t.fin) by rw [← hw1]; exact TokCell.new w _).later hb2 (by omega))
  have HV := Lib.hid (show VCell w2 (w.heap.size + 1) .nil by rw [← hs1, ← hw2]; exact heap_alloc_new w1 _)
  have HB := Lib.hid (show Below w.heap.size w w2 from hb1.trans (hb2.mono (by omega)))
  have HR := Lib.hid (show RdrAt w2 b s (t.fin : Int) d from (h.later hb1 hlt).later hb2 (by omega))
  have HS := Lib.hid (Beside.of_below (b := b) HB.out)
  obtain ⟨r0, r1, r2, r3, r4⟩ := HT.out.parts
  have Hw2 := Lib.hid hw2
  have hbz : b ≠ w.heap.size + 1 := by omega
  obtain ⟨R, hR⟩ : ∃ R, begunP s.data.toList (f + 1) t d = R := ⟨_, rfl⟩
  rw [hR] at hcode ⊢
  unfold tokC at hw1 ⊢
  have Hw1 := Lib.hid hw1
  clear hw1 hw2 hb1 hb2 h
  by_cases e0 : t.kind = 0
  · rw [begun_end e0] at hR
    subst hR
    have c0 : (t.kind == 0) = true := by simp; omega
    have c1 : (t.kind == 1) = false := by simp; omega
    have c2 : (t.kind == 2) = false := by simp; omega
    have c3 : (t.kind == 3) = false := by simp; omega
    have c4 : (t.kind == 4) = false := by simp; omega
    have c6 : (t.kind == 6) = false := by simp; omega
    have c8 : (t.kind == 8) = false := by simp; omega
    clear hkd e0
    go_enter Tryz.func34, Tryz.ntmps34
    iterate 10 go_step
    rw [Hw1.out, Hw2.out]
    go_wp2_with (refine VCell.store rfl rfl _ _ rfl (w.heap.size + 1) .nil ⟨0, 0, 0, ⟨#[]⟩, ⟨none, 0, 0⟩, ⟨none, 0, 0⟩⟩ rfl rfl HV.out ?_; intro wz HCz HKz HBz HZz)
    obtain ⟨g0, g1, g2, g3, g4, g5⟩ := HCz.out.at
    try dsimp only at g0 g1 g2 g3 g4 g5
    exact bodyPost_ret (v := .tuple #[.agg #[.int .i64 0, .int .i64 0, .int .i64 0, .string ⟨#[]⟩, .slice none 0 0, .slice none 0 0], .int .i64 5]) (by simp [results, Tryz.results34, go_sem, g0, g1, g2, g3, g4, g5]) rfl
      (tells_err (y := ⟨0, 0, 0, ⟨#[]⟩, ⟨none, 0, 0⟩, ⟨none, 0, 0⟩⟩) (HR.out.same (HKz.out b hbz)) (HS.out.store (by omega) HBz.out) (by decide) rfl)
  by_cases e1 : t.kind = 1
  · rw [begun_num e1] at hR
    have HN := Lib.hid (pnumber_any s t b d w2 hs HR.out ht.fin)
    rw [hR] at HN
    have c0 : (t.kind == 0) = false := by simp; omega
    have c1 : (t.kind == 1) = true := by simp; omega
    have c2 : (t.kind == 2) = false := by simp; omega
    have c3 : (t.kind == 3) = false := by simp; omega
    have c4 : (t.kind == 4) = false := by simp; omega
    have c6 : (t.kind == 6) = false := by simp; omega
    have c8 : (t.kind == 8) = false := by simp; omega
    clear hkd e1
    go_enter Tryz.func34, Tryz.ntmps34
    iterate 10 go_step
    rw [Hw1.out, Hw2.out]
    go_wp2_with fail
    refine HN.out.mono ?_
    rintro e w5 ⟨⟨yk, yn, yg, ys, ⟨ylp, yll, ylc⟩, ⟨ydp, ydl, ydc⟩⟩, a5, he, hr5, hb5, hv5⟩
    replace he : e = .returned (.tuple #[.agg #[.int .i64 yk, .int .i64 yn, .int .i64 yg, .string ys, .slice ylp yll ylc, .slice ydp ydl ydc], .int .i64 R.code]) := he
    subst he
    have HR5 := Lib.hid hr5
    have HS5 := Lib.hid (HS.out.trans hb5)
    have HV5 := Lib.hid (HV.out.same (hb5.out HV.out.lt (fun e => hbz e.symm)))
    have Hv5 := Lib.hid hv5
    have hz5 := HS5.out.size
    have hz52 := hb5.size
    clear hr5 hb5 hv5
    go_wp2_with (refine VCell.store rfl rfl _ _ rfl (w.heap.size + 1) .nil ⟨yk, yn, yg, ys, ⟨ylp, yll, ylc⟩, ⟨ydp, ydl, ydc⟩⟩ rfl rfl HV5.out ?_; intro wz HCz HKz HBz HZz)
    obtain ⟨g0, g1, g2, g3, g4, g5⟩ := HCz.out.at
    try dsimp only at g0 g1 g2 g3 g4 g5
    exact bodyPost_ret (v := .tuple #[.agg #[.int .i64 yk, .int .i64 yn, .int .i64 yg, .string ys, .slice ylp yll ylc, .slice ydp ydl ydc], .int .i64 R.code]) (by simp [results, Tryz.results34, go_sem, g0, g1, g2, g3, g4, g5]) rfl
      (⟨⟨yk, yn, yg, ys, ⟨ylp, yll, ylc⟩, ⟨ydp, ydl, ydc⟩⟩, a5, rfl, HR5.out.same (HKz.out b hbz), HS5.out.store (by omega) HBz.out, fun h0 => ⟨(Hv5.out h0).1, ((Hv5.out h0).2.later (fun k hk => HKz.out k (by omega))).mono (fun k hk => by omega)⟩⟩)
  by_cases e2 : t.kind = 2
  · rw [begun_name e2] at hR
    subst hR
    have c0 : (t.kind == 0) = false := by simp; omega
    have c1 : (t.kind == 1) = false := by simp; omega
    have c2 : (t.kind == 2) = true := by simp; omega
    have c3 : (t.kind == 3) = false := by simp; omega
    have c4 : (t.kind == 4) = false := by simp; omega
    have c6 : (t.kind == 6) = false := by simp; omega
    have c8 : (t.kind == 8) = false := by simp; omega
    clear hkd e2
    go_enter Tryz.func34, Tryz.ntmps34
    iterate 10 go_step
    rw [Hw1.out, Hw2.out]
    go_wp2_with (refine VCell.store rfl rfl _ _ rfl (w.heap.size + 1) .nil ⟨3, 0, 0, bytes t.str, ⟨none, 0, 0⟩, ⟨none, 0, 0⟩⟩ rfl rfl HV.out ?_; intro wz HCz HKz HBz HZz)
    obtain ⟨g0, g1, g2, g3, g4, g5⟩ := HCz.out.at
    try dsimp only at g0 g1 g2 g3 g4 g5
    exact bodyPost_ret (v := .tuple #[.agg #[.int .i64 3, .int .i64 0, .int .i64 0, .string (bytes t.str), .slice none 0 0, .slice none 0 0], .int .i64 0]) (by simp [results, Tryz.results34, go_sem, g0, g1, g2, g3, g4, g5]) rfl
      (tells_ok (R := ⟨bitV 3 0 0 t.str, t.fin, 0⟩) (y := ⟨3, 0, 0, bytes t.str, ⟨none, 0, 0⟩, ⟨none, 0, 0⟩⟩) (HR.out.same (HKz.out b hbz)) (HS.out.store (by omega) HBz.out) rfl (rd_bit 3 0 0 t.str) rfl)
  by_cases e3 : t.kind = 3
  · rw [begun_text e3] at hR
    subst hR
    have c0 : (t.kind == 0) = false := by simp; omega
    have c1 : (t.kind == 1) = false := by simp; omega
    have c2 : (t.kind == 2) = false := by simp; omega
    have c3 : (t.kind == 3) = true := by simp; omega
    have c4 : (t.kind == 4) = false := by simp; omega
    have c6 : (t.kind == 6) = false := by simp; omega
    have c8 : (t.kind == 8) = false := by simp; omega
    clear hkd e3
    go_enter Tryz.func34, Tryz.ntmps34
    iterate 10 go_step
    rw [Hw1.out, Hw2.out]
    go_wp2_with (refine VCell.store rfl rfl _ _ rfl (w.heap.size + 1) .nil ⟨4, 0, 0, bytes t.str, ⟨none, 0, 0⟩, ⟨none, 0, 0⟩⟩ rfl rfl HV.out ?_; intro wz HCz HKz HBz HZz)
    obtain ⟨g0, g1, g2, g3, g4, g5⟩ := HCz.out.at
    try dsimp only at g0 g1 g2 g3 g4 g5
    exact bodyPost_ret (v := .tuple #[.agg #[.int .i64 4, .int .i64 0, .int .i64 0, .string (bytes t.str), .slice none 0 0, .slice none 0 0], .int .i64 0]) (by simp [results, Tryz.results34, go_sem, g0, g1, g2, g3, g4, g5]) rfl
      (tells_ok (R := ⟨bitV 4 0 0 t.str, t.fin, 0⟩) (y := ⟨4, 0, 0, bytes t.str, ⟨none, 0, 0⟩, ⟨none, 0, 0⟩⟩) (HR.out.same (HKz.out b hbz)) (HS.out.store (by omega) HBz.out) rfl (rd_bit 4 0 0 t.str) rfl)
  by_cases e4 : t.kind = 4
  · rw [begun_hold (.inl e4)] at hR
    have HN := Lib.hid (hh t.fin d b t.kind w2 ht.fin hd (.inl e4) (by rw [hR]; exact hcode) HR.out)
    rw [hR] at HN
    have c0 : (t.kind == 0) = false := by simp; omega
    have c1 : (t.kind == 1) = false := by simp; omega
    have c2 : (t.kind == 2) = false := by simp; omega
    have c3 : (t.kind == 3) = false := by simp; omega
    have c4 : (t.kind == 4) = true := by simp; omega
    have c6 : (t.kind == 6) = false := by simp; omega
    have c8 : (t.kind == 8) = false := by simp; omega
    clear hkd e4
    go_enter Tryz.func34, Tryz.ntmps34
    iterate 10 go_step
    rw [Hw1.out, Hw2.out]
    go_wp2_with fail
    refine HN.out.mono ?_
    rintro e w5 ⟨⟨yk, yn, yg, ys, ⟨ylp, yll, ylc⟩, ⟨ydp, ydl, ydc⟩⟩, a5, he, hr5, hb5, hv5⟩
    replace he : e = .returned (.tuple #[.agg #[.int .i64 yk, .int .i64 yn, .int .i64 yg, .string ys, .slice ylp yll ylc, .slice ydp ydl ydc], .int .i64 R.code]) := he
    subst he
    have HR5 := Lib.hid hr5
    have HS5 := Lib.hid (HS.out.trans hb5)
    have HV5 := Lib.hid (HV.out.same (hb5.out HV.out.lt (fun e => hbz e.symm)))
    have Hv5 := Lib.hid hv5
    have hz5 := HS5.out.size
    have hz52 := hb5.size
    clear hr5 hb5 hv5
    go_wp2_with (refine VCell.store rfl rfl _ _ rfl (w.heap.size + 1) .nil ⟨yk, yn, yg, ys, ⟨ylp, yll, ylc⟩, ⟨ydp, ydl, ydc⟩⟩ rfl rfl HV5.out ?_; intro wz HCz HKz HBz HZz)
    obtain ⟨g0, g1, g2, g3, g4, g5⟩ := HCz.out.at
    try dsimp only at g0 g1 g2 g3 g4 g5
    exact bodyPost_ret (v := .tuple #[.agg #[.int .i64 yk, .int .i64 yn, .int .i64 yg, .string ys, .slice ylp yll ylc, .slice ydp ydl ydc], .int .i64 R.code]) (by simp [results, Tryz.results34, go_sem, g0, g1, g2, g3, g4, g5]) rfl
      (⟨⟨yk, yn, yg, ys, ⟨ylp, yll, ylc⟩, ⟨ydp, ydl, ydc⟩⟩, a5, rfl, HR5.out.same (HKz.out b hbz), HS5.out.store (by omega) HBz.out, fun h0 => ⟨(Hv5.out h0).1, ((Hv5.out h0).2.later (fun k hk => HKz.out k (by omega))).mono (fun k hk => by omega)⟩⟩)
  by_cases e6 : t.kind = 6
  · rw [begun_hold (.inr e6)] at hR
    have HN := Lib.hid (hh t.fin d b t.kind w2 ht.fin hd (.inr e6) (by rw [hR]; exact hcode) HR.out)
    rw [hR] at HN
    have c0 : (t.kind == 0) = false := by simp; omega
    have c1 : (t.kind == 1) = false := by simp; omega
    have c2 : (t.kind == 2) = false := by simp; omega
    have c3 : (t.kind == 3) = false := by simp; omega
    have c4 : (t.kind == 4) = false := by simp; omega
    have c6 : (t.kind == 6) = true := by simp; omega
    have c8 : (t.kind == 8) = false := by simp; omega
    clear hkd e6
    go_enter Tryz.func34, Tryz.ntmps34
    iterate 10 go_step
    rw [Hw1.out, Hw2.out]
    go_wp2_with fail
    refine HN.out.mono ?_
    rintro e w5 ⟨⟨yk, yn, yg, ys, ⟨ylp, yll, ylc⟩, ⟨ydp, ydl, ydc⟩⟩, a5, he, hr5, hb5, hv5⟩
    replace he : e = .returned (.tuple #[.agg #[.int .i64 yk, .int .i64 yn, .int .i64 yg, .string ys, .slice ylp yll ylc, .slice ydp ydl ydc], .int .i64 R.code]) := he
    subst he
    have HR5 := Lib.hid hr5
    have HS5 := Lib.hid (HS.out.trans hb5)
    have HV5 := Lib.hid (HV.out.same (hb5.out HV.out.lt (fun e => hbz e.symm)))
    have Hv5 := Lib.hid hv5
    have hz5 := HS5.out.size
    have hz52 := hb5.size
    clear hr5 hb5 hv5
    go_wp2_with (refine VCell.store rfl rfl _ _ rfl (w.heap.size + 1) .nil ⟨yk, yn, yg, ys, ⟨ylp, yll, ylc⟩, ⟨ydp, ydl, ydc⟩⟩ rfl rfl HV5.out ?_; intro wz HCz HKz HBz HZz)
    obtain ⟨g0, g1, g2, g3, g4, g5⟩ := HCz.out.at
    try dsimp only at g0 g1 g2 g3 g4 g5
    exact bodyPost_ret (v := .tuple #[.agg #[.int .i64 yk, .int .i64 yn, .int .i64 yg, .string ys, .slice ylp yll ylc, .slice ydp ydl ydc], .int .i64 R.code]) (by simp [results, Tryz.results34, go_sem, g0, g1, g2, g3, g4, g5]) rfl
      (⟨⟨yk, yn, yg, ys, ⟨ylp, yll, ylc⟩, ⟨ydp, ydl, ydc⟩⟩, a5, rfl, HR5.out.same (HKz.out b hbz), HS5.out.store (by omega) HBz.out, fun h0 => ⟨(Hv5.out h0).1, ((Hv5.out h0).2.later (fun k hk => HKz.out k (by omega))).mono (fun k hk => by omega)⟩⟩)
  by_cases e8 : t.kind = 8
  · rw [begun_word e8] at hR
    have HN := Lib.hid (pword_any t)
    rw [hR] at HN
    have c0 : (t.kind == 0) = false := by simp; omega
    have c1 : (t.kind == 1) = false := by simp; omega
    have c2 : (t.kind == 2) = false := by simp; omega
    have c3 : (t.kind == 3) = false := by simp; omega
    have c4 : (t.kind == 4) = false := by simp; omega
    have c6 : (t.kind == 6) = false := by simp; omega
    have c8 : (t.kind == 8) = true := by simp; omega
    clear hkd e8
    go_enter Tryz.func34, Tryz.ntmps34
    iterate 10 go_step
    rw [Hw1.out, Hw2.out]
    go_wp2_with fail
    refine (HN.out w2).mono ?_
    rintro e w5 ⟨⟨yk, yn, yg, ys, ⟨ylp, yll, ylc⟩, ⟨ydp, ydl, ydc⟩⟩, he, hb5, hv5⟩
    replace he : e = .returned (.tuple #[.agg #[.int .i64 yk, .int .i64 yn, .int .i64 yg, .string ys, .slice ylp yll ylc, .slice ydp ydl ydc], .int .i64 R.code]) := he
    subst he
    have HR5 := Lib.hid (HR.out.later hb5 HR.out.lt)
    have HS5 := Lib.hid (HS.out.then hb5)
    have HV5 := Lib.hid (HV.out.later hb5 HV.out.lt)
    have Hv5 := Lib.hid hv5
    have hz5 := HS5.out.size
    have hz52 := hb5.size
    clear hb5 hv5
    go_wp2_with (refine VCell.store rfl rfl _ _ rfl (w.heap.size + 1) .nil ⟨yk, yn, yg, ys, ⟨ylp, yll, ylc⟩, ⟨ydp, ydl, ydc⟩⟩ rfl rfl HV5.out ?_; intro wz HCz HKz HBz HZz)
    obtain ⟨g0, g1, g2, g3, g4, g5⟩ := HCz.out.at
    try dsimp only at g0 g1 g2 g3 g4 g5
    exact bodyPost_ret (v := .tuple #[.agg #[.int .i64 yk, .int .i64 yn, .int .i64 yg, .string ys, .slice ylp yll ylc, .slice ydp ydl ydc], .int .i64 R.code]) (by simp [results, Tryz.results34, go_sem, g0, g1, g2, g3, g4, g5]) rfl
      (⟨⟨yk, yn, yg, ys, ⟨ylp, yll, ylc⟩, ⟨ydp, ydl, ydc⟩⟩, _, rfl, HR5.out.same (HKz.out b hbz), HS5.out.store (by omega) HBz.out, fun h0 => ⟨by rw [(Hv5.out h0).1], ((Hv5.out h0).2 (fun k => w2.heap.size ≤ k)).later (fun k hk => HKz.out k (by omega)) |>.mono (fun k hk => by omega)⟩⟩)
  rw [begun_form (by omega)] at hR
  subst hR
  have c0 : (t.kind == 0) = false := by simp; omega
  have c1 : (t.kind == 1) = false := by simp; omega
  have c2 : (t.kind == 2) = false := by simp; omega
  have c3 : (t.kind == 3) = false := by simp; omega
  have c4 : (t.kind == 4) = false := by simp; omega
  have c6 : (t.kind == 6) = false := by simp; omega
  have c8 : (t.kind == 8) = false := by simp; omega
  go_enter Tryz.func34, Tryz.ntmps34
  iterate 10 go_step
  rw [Hw1.out, Hw2.out]
  go_wp2_with (refine VCell.store rfl rfl _ _ rfl (w.heap.size + 1) .nil ⟨0, 0, 0, ⟨#[]⟩, ⟨none, 0, 0⟩, ⟨none, 0, 0⟩⟩ rfl rfl HV.out ?_; intro wz HCz HKz HBz HZz)
  obtain ⟨g0, g1, g2, g3, g4, g5⟩ := HCz.out.at
  try dsimp only at g0 g1 g2 g3 g4 g5
  exact bodyPost_ret (v := .tuple #[.agg #[.int .i64 0, .int .i64 0, .int .i64 0, .string ⟨#[]⟩, .slice none 0 0, .slice none 0 0], .int .i64 4]) (by simp [results, Tryz.results34, go_sem, g0, g1, g2, g3, g4, g5]) rfl
    (tells_err (y := ⟨0, 0, 0, ⟨#[]⟩, ⟨none, 0, 0⟩, ⟨none, 0, 0⟩⟩) (HR.out.same (HKz.out b hbz)) (HS.out.store (by omega) HBz.out) (by decide) rfl)
end
end Go.Proofs.YtejgcnmbngdkiaaGreatDoor
