/-
  VHasZ, VAlone: texts merged.
-/
import Derived.Test.YtejgcnmbngdkiaaGreatDoorMZero
import Derived.Test.YtejgcnmbngdkiaaGreatDoorShelf
import Derived.Test.YtejgcnmbngdkiaaGreatDoorMBare
import Derived.Test.YtejgcnmbngdkiaaGreatDoorNMem
/-
  Has a text a byte 0?
-/
namespace Go.Proofs.YtejgcnmbngdkiaaGreatDoor
section
open Go.RowKit Go.Shelf
set_option maxRecDepth 100000

theorem indexZ : ∀ l : List UInt8, (0 ≤ Lib.indexByte l 0 ↔ (l.any fun c => decide (c.toNat = 0)) = true) ∧ -1 ≤ Lib.indexByte l 0
  | [] => by simp [Lib.indexByte]
  | a :: t => by
    have ih := indexZ t
    rw [Lib.indexByte, List.any_cons]
    by_cases h : a = 0
    · subst h; simp
    · have h2 : ¬ a.toNat = 0 := fun e => h (UInt8.toNat_inj.1 (by simpa using e))
      have h3 : (a == 0) = false := by simpa using h
      rw [h3, decide_eq_false h2, Bool.false_or, if_neg (by simp)]
      by_cases h4 : Lib.indexByte t 0 = -1
      · rw [if_pos (by simpa using h4)]
        refine ⟨⟨fun h => by omega, fun h => ?_⟩, by omega⟩
        have := ih.1.2 h; omega
      · rw [if_neg (by simpa using h4)]
        refine ⟨⟨fun h => ih.1.1 (by omega), fun h => by have := ih.1.2 h; omega⟩, by omega⟩
set_option maxHeartbeats 4000000 in
theorem hasZero_any (s : ByteArray) (w : World) : Calls Tryz.prog 65 #[.string s] w fun e w' => e = .returned (.bool (zeroS s)) ∧ w' = w := by
  have hz := Lib.hid (fun W => Any.strings_IndexByte Tryz.lays137 s 0 W)
  obtain ⟨i, hi⟩ : ∃ i, Lib.indexByte s.data.toList (0 : Int).toNat.toUInt8 = i := ⟨_, rfl⟩
  rw [hi] at hz
  have hr : (0 ≤ i ↔ zeroS s = true) := by rw [← hi]; exact (indexZ _).1
  obtain ⟨b, hb⟩ : ∃ b, zeroS s = b := ⟨_, rfl⟩
  rw [hb] at hr ⊢
  clear hi hb
  cases b with
  | true =>
    have h0 : 0 ≤ i := hr.2 rfl
    clear hr
    go_enter Tryz.func65, Tryz.ntmps65
    go_wp2_with (go_at_call 89; refine (hz.out _).mono ?_; rintro e w1 ⟨rfl, hw⟩; subst w1)
    go_ret
    exact ⟨rfl, rfl⟩
  | false =>
    have h0 : ¬ 0 ≤ i := fun h => by have := hr.1 h; cases this
    clear hr
    go_enter Tryz.func65, Tryz.ntmps65
    go_wp2_with (go_at_call 89; refine (hz.out _).mono ?_; rintro e w1 ⟨rfl, hw⟩; subst w1)
    go_ret
    refine ⟨?_, rfl⟩
    show Ending.returned (.bool (decide (0 ≤ i))) = _
    rw [decide_eq_false (by omega : ¬ 0 ≤ i)]
end
end Go.Proofs.YtejgcnmbngdkiaaGreatDoor
/-
  The program's: what is wrong with a value by itself.
-/
namespace Go.Proofs.YtejgcnmbngdkiaaGreatDoor
section
open Go.RowKit
set_option maxRecDepth 100000
attribute [local go_sem] symV_true Hv.arr


set_option maxHeartbeats 8000000 in
theorem checkAlone_any (x : Hv) (v : Val) (st : Bool) (m : Int) (w : World) (hk : x.k = v.kind) (hn : x.n = v.n) (hg : x.g = v.g) (hs : x.s = v.s) (hl : x.l.len = v.l.length) (hd : x.d.len = v.d.length) (hsz : v.s.size ≤ maxLen) :
    Calls Tryz.prog 42 #[.agg x.arr, .bool st, .int .i64 m] w fun e w' => e = .returned (.int .i64 (oneV v st m)) ∧ Below w.heap.size w w' := by
  have Hex := Lib.hid (fun W => hasMore_any x v W hk hn hg hs hl hd)
  have Hout := Lib.hid (fun W => inRange_any x v W hk hn hg)
  obtain ⟨t, ht⟩ : ∃ t, oneV v st m = t := ⟨_, rfl⟩
  have Ht := Lib.hid ht
  rw [ht]
  unfold oneV at Ht
  rw [← hs] at hsz
  have Hsz := Lib.hid hsz
  obtain ⟨k, n, g, s, ⟨lp, ll, lc⟩, ⟨dp, dl, dc⟩⟩ := x
  dsimp only at hk hn hg hs hl hd Hsz
  rw [← hk, ← hs] at Ht
  obtain ⟨b1, hb1⟩ : ∃ b, extraV v = b := ⟨_, rfl⟩
  obtain ⟨b2, hb2⟩ : ∃ b, outV v = b := ⟨_, rfl⟩
  rw [hb1, hb2] at Ht
  simp only [hb1] at Hex
  simp only [hb2] at Hout
  clear hk hn hg hs hl hd ht hsz hb1 hb2
  obtain ⟨w1, hw1⟩ : ∃ w1, w.alloc (.cells #[.int .i64 k, .int .i64 n, .int .i64 g, .string s, .slice lp ll lc, .slice dp dl dc] 25) = w1 := ⟨_, rfl⟩
  have HV1 : Hid (VCell w1 w.heap.size ⟨k, n, g, s, ⟨lp, ll, lc⟩, ⟨dp, dl, dc⟩⟩) := Lib.hid (by rw [← hw1]; exact heap_alloc_new w _)
  have Hb1 : Hid (Below w.heap.size w w1) := Lib.hid (by rw [← hw1]; exact (Below.refl _ w).alloc (Nat.le_refl _) _)
  have Hlt1 : Hid (w.heap.size < w1.heap.size) := Lib.hid (by rw [← hw1]; simp)
  have Hw1 := Lib.hid hw1
  clear hw1
  show Calls Tryz.prog 42 #[.agg #[.int .i64 k, .int .i64 n, .int .i64 g, .string s, .slice lp ll lc, .slice dp dl dc], .bool st, .int .i64 m] w _
  go_enter Tryz.func42, Tryz.ntmps42
  iterate 20 go_step
  rw [Hw1.out]
  have c0 : w1.cell? ⟨w.heap.size, 0, none⟩ = some (.int .i64 k) := HV1.out.at.1
  have c3 : w1.cell? ⟨w.heap.size, 3, none⟩ = some (.string s) := HV1.out.at.2.2.2.1
  repeat (first
    | (with_reducible (change wpList _ _ _ _ _ _)
       refine wpList_callS (v := .bool (zeroS s)) (a' := ?_) (f := 65) (args := #[.string s]) rfl rfl rfl (fun hb2 hb3 => ?_) (fun _ _ => hasZero_any s _) ?_ ?_
       case refine_2 => go_simp
       case refine_3 => (simp only [Act.put, List.setIfInBounds_toArray, List.set_cons_succ, List.set_cons_zero]; try rfl))
    | (with_reducible (change wpList _ _ _ _ _ _)
       refine wpList_pickAndF (A := ?_) rfl rfl rfl rfl rfl rfl rfl (fun r => ?_) (fun r hr => ?_)
       case refine_2 => (simp only [Act.put, List.setIfInBounds_toArray, List.set_cons_succ, List.set_cons_zero]; try rfl))
    | (with_reducible (change wpList _ _ _ _ _ _)
       refine wpList_pickAnd (A := ?_) rfl rfl rfl rfl rfl (fun r => ?_) (fun r hr => ?_)
       case refine_2 => (simp only [Act.put, List.setIfInBounds_toArray, List.set_cons_succ, List.set_cons_zero]; try rfl))
    | (with_reducible (change wpList _ _ _ _ _ _)
       refine wpList_pickOr (A := ?_) rfl rfl rfl rfl rfl (fun r => ?_) (fun r hr => ?_)
       case refine_2 => (simp only [Act.put, List.setIfInBounds_toArray, List.set_cons_succ, List.set_cons_zero]; try rfl))
    | (with_reducible (change wpList _ _ _ _ _ _)
       refine wpList_symT (v := ?_) (a' := ?_) rfl rfl rfl (fun hb2 => ?_) ?_ ?_
       case refine_3 => (go_simp; try rfl)
       case refine_4 => (simp only [Act.put, List.setIfInBounds_toArray, List.set_cons_succ, List.set_cons_zero]; try rfl))
    | (with_reducible (change wpList _ _ _ _ _ _)
       refine wpList_symF (v := ?_) (a' := ?_) rfl rfl rfl (fun hb2 => ?_) ?_ ?_
       case refine_3 => (go_simp; try rfl)
       case refine_4 => (simp only [Act.put, List.setIfInBounds_toArray, List.set_cons_succ, List.set_cons_zero]; try rfl))
    | (with_reducible (change wpList _ _ _ _ _ _)
       refine wpList_symS (v := ?_) (a' := ?_) rfl rfl rfl (fun hb2 hb3 => ?_) ?_ ?_
       case refine_3 => (go_simp; try rfl)
       case refine_4 => (simp only [Act.put, List.setIfInBounds_toArray, List.set_cons_succ, List.set_cons_zero]; try rfl))
    | (with_reducible (change wpList _ _ _ _ _ _); refine VCell.load rfl (.tmp 3) rfl w.heap.size _ rfl HV1.out ?_)
    | go_step)
  · rename_i h
    have hP : k < 0 ∨ 8 < k ∨ k = 8 ∧ st = false := by (revert h; unfold Hid at *; subst_vars; intro h; simpa [or_assoc, and_assoc, cast_lt127, cast_lt65535, cast_lt1048576, cast_le127, cast_le65535, cast_le1048576] using h)
    go_ret
    exact ⟨by show Ending.returned (Value.int .i64 10) = _; rw [← Ht.out, if_pos hP], Hb1.out⟩
  rename_i h
  have N1 : Hid (¬ (k < 0 ∨ 8 < k ∨ k = 8 ∧ st = false)) := Lib.hid (by revert h; unfold Hid at *; subst_vars; intro h; simpa [or_assoc, and_assoc, cast_lt127, cast_lt65535, cast_lt1048576, cast_le127, cast_le65535, cast_le1048576] using h)
  clear h
  repeat (first
    | (with_reducible (change wpList _ _ _ _ _ _)
       refine wpList_callS (v := .bool (zeroS s)) (a' := ?_) (f := 65) (args := #[.string s]) rfl rfl rfl (fun hb2 hb3 => ?_) (fun _ _ => hasZero_any s _) ?_ ?_
       case refine_2 => go_simp
       case refine_3 => (simp only [Act.put, List.setIfInBounds_toArray, List.set_cons_succ, List.set_cons_zero]; try rfl))
    | (with_reducible (change wpList _ _ _ _ _ _)
       refine wpList_pickAndF (A := ?_) rfl rfl rfl rfl rfl rfl rfl (fun r => ?_) (fun r hr => ?_)
       case refine_2 => (simp only [Act.put, List.setIfInBounds_toArray, List.set_cons_succ, List.set_cons_zero]; try rfl))
    | (with_reducible (change wpList _ _ _ _ _ _)
       refine wpList_pickAnd (A := ?_) rfl rfl rfl rfl rfl (fun r => ?_) (fun r hr => ?_)
       case refine_2 => (simp only [Act.put, List.setIfInBounds_toArray, List.set_cons_succ, List.set_cons_zero]; try rfl))
    | (with_reducible (change wpList _ _ _ _ _ _)
       refine wpList_pickOr (A := ?_) rfl rfl rfl rfl rfl (fun r => ?_) (fun r hr => ?_)
       case refine_2 => (simp only [Act.put, List.setIfInBounds_toArray, List.set_cons_succ, List.set_cons_zero]; try rfl))
    | (with_reducible (change wpList _ _ _ _ _ _)
       refine wpList_symT (v := ?_) (a' := ?_) rfl rfl rfl (fun hb2 => ?_) ?_ ?_
       case refine_3 => (go_simp; try rfl)
       case refine_4 => (simp only [Act.put, List.setIfInBounds_toArray, List.set_cons_succ, List.set_cons_zero]; try rfl))
    | (with_reducible (change wpList _ _ _ _ _ _)
       refine wpList_symF (v := ?_) (a' := ?_) rfl rfl rfl (fun hb2 => ?_) ?_ ?_
       case refine_3 => (go_simp; try rfl)
       case refine_4 => (simp only [Act.put, List.setIfInBounds_toArray, List.set_cons_succ, List.set_cons_zero]; try rfl))
    | (with_reducible (change wpList _ _ _ _ _ _)
       refine wpList_symS (v := ?_) (a' := ?_) rfl rfl rfl (fun hb2 hb3 => ?_) ?_ ?_
       case refine_3 => (go_simp; try rfl)
       case refine_4 => (simp only [Act.put, List.setIfInBounds_toArray, List.set_cons_succ, List.set_cons_zero]; try rfl))
    | (with_reducible (change wpList _ _ _ _ _ _); refine VCell.load rfl (.tmp 3) rfl w.heap.size _ rfl HV1.out ?_)
    | go_step)
  refine (Hex.out w1).mono ?_
  rintro e w2 ⟨rfl, hb⟩
  have HV2 := Lib.hid (HV1.out.later hb Hlt1.out)
  have Hb2 : Hid (Below w.heap.size w w2) := Lib.hid (Hb1.out.trans (hb.mono Hb1.out.size))
  have Hlt2 : Hid (w.heap.size < w2.heap.size) := Lib.hid (Nat.lt_of_lt_of_le Hlt1.out hb.size)
  clear hb c0 c3
  have c0 : w2.cell? ⟨w.heap.size, 0, none⟩ = some (.int .i64 k) := HV2.out.at.1
  have c3 : w2.cell? ⟨w.heap.size, 3, none⟩ = some (.string s) := HV2.out.at.2.2.2.1
  dsimp only
  repeat (first
    | (with_reducible (change wpList _ _ _ _ _ _)
       refine wpList_callS (v := .bool (zeroS s)) (a' := ?_) (f := 65) (args := #[.string s]) rfl rfl rfl (fun hb2 hb3 => ?_) (fun _ _ => hasZero_any s _) ?_ ?_
       case refine_2 => go_simp
       case refine_3 => (simp only [Act.put, List.setIfInBounds_toArray, List.set_cons_succ, List.set_cons_zero]; try rfl))
    | (with_reducible (change wpList _ _ _ _ _ _)
       refine wpList_pickAndF (A := ?_) rfl rfl rfl rfl rfl rfl rfl (fun r => ?_) (fun r hr => ?_)
       case refine_2 => (simp only [Act.put, List.setIfInBounds_toArray, List.set_cons_succ, List.set_cons_zero]; try rfl))
    | (with_reducible (change wpList _ _ _ _ _ _)
       refine wpList_pickAnd (A := ?_) rfl rfl rfl rfl rfl (fun r => ?_) (fun r hr => ?_)
       case refine_2 => (simp only [Act.put, List.setIfInBounds_toArray, List.set_cons_succ, List.set_cons_zero]; try rfl))
    | (with_reducible (change wpList _ _ _ _ _ _)
       refine wpList_pickOr (A := ?_) rfl rfl rfl rfl rfl (fun r => ?_) (fun r hr => ?_)
       case refine_2 => (simp only [Act.put, List.setIfInBounds_toArray, List.set_cons_succ, List.set_cons_zero]; try rfl))
    | (with_reducible (change wpList _ _ _ _ _ _)
       refine wpList_symT (v := ?_) (a' := ?_) rfl rfl rfl (fun hb2 => ?_) ?_ ?_
       case refine_3 => (go_simp; try rfl)
       case refine_4 => (simp only [Act.put, List.setIfInBounds_toArray, List.set_cons_succ, List.set_cons_zero]; try rfl))
    | (with_reducible (change wpList _ _ _ _ _ _)
       refine wpList_symF (v := ?_) (a' := ?_) rfl rfl rfl (fun hb2 => ?_) ?_ ?_
       case refine_3 => (go_simp; try rfl)
       case refine_4 => (simp only [Act.put, List.setIfInBounds_toArray, List.set_cons_succ, List.set_cons_zero]; try rfl))
    | (with_reducible (change wpList _ _ _ _ _ _)
       refine wpList_symS (v := ?_) (a' := ?_) rfl rfl rfl (fun hb2 hb3 => ?_) ?_ ?_
       case refine_3 => (go_simp; try rfl)
       case refine_4 => (simp only [Act.put, List.setIfInBounds_toArray, List.set_cons_succ, List.set_cons_zero]; try rfl))
    | (with_reducible (change wpList _ _ _ _ _ _); refine VCell.load rfl (.tmp 3) rfl w.heap.size _ rfl HV2.out ?_)
    | go_step)
  · rename_i h
    have hP : b1 = true ∨ k = 3 ∧ zeroS s = true := by (revert h; unfold Hid at *; subst_vars; intro h; simpa [or_assoc, and_assoc, cast_lt127, cast_lt65535, cast_lt1048576, cast_le127, cast_le65535, cast_le1048576] using h)
    go_ret
    exact ⟨by show Ending.returned (Value.int .i64 4) = _; rw [← Ht.out, if_neg N1.out, if_pos hP], Hb2.out⟩
  rename_i h
  have N2 : Hid (¬ (b1 = true ∨ k = 3 ∧ zeroS s = true)) := Lib.hid (by revert h; unfold Hid at *; subst_vars; intro h; simpa [or_assoc, and_assoc, cast_lt127, cast_lt65535, cast_lt1048576, cast_le127, cast_le65535, cast_le1048576] using h)
  clear h
  repeat (first
    | (with_reducible (change wpList _ _ _ _ _ _)
       refine wpList_callS (v := .bool (zeroS s)) (a' := ?_) (f := 65) (args := #[.string s]) rfl rfl rfl (fun hb2 hb3 => ?_) (fun _ _ => hasZero_any s _) ?_ ?_
       case refine_2 => go_simp
       case refine_3 => (simp only [Act.put, List.setIfInBounds_toArray, List.set_cons_succ, List.set_cons_zero]; try rfl))
    | (with_reducible (change wpList _ _ _ _ _ _)
       refine wpList_pickAndF (A := ?_) rfl rfl rfl rfl rfl rfl rfl (fun r => ?_) (fun r hr => ?_)
       case refine_2 => (simp only [Act.put, List.setIfInBounds_toArray, List.set_cons_succ, List.set_cons_zero]; try rfl))
    | (with_reducible (change wpList _ _ _ _ _ _)
       refine wpList_pickAnd (A := ?_) rfl rfl rfl rfl rfl (fun r => ?_) (fun r hr => ?_)
       case refine_2 => (simp only [Act.put, List.setIfInBounds_toArray, List.set_cons_succ, List.set_cons_zero]; try rfl))
    | (with_reducible (change wpList _ _ _ _ _ _)
       refine wpList_pickOr (A := ?_) rfl rfl rfl rfl rfl (fun r => ?_) (fun r hr => ?_)
       case refine_2 => (simp only [Act.put, List.setIfInBounds_toArray, List.set_cons_succ, List.set_cons_zero]; try rfl))
    | (with_reducible (change wpList _ _ _ _ _ _)
       refine wpList_symT (v := ?_) (a' := ?_) rfl rfl rfl (fun hb2 => ?_) ?_ ?_
       case refine_3 => (go_simp; try rfl)
       case refine_4 => (simp only [Act.put, List.setIfInBounds_toArray, List.set_cons_succ, List.set_cons_zero]; try rfl))
    | (with_reducible (change wpList _ _ _ _ _ _)
       refine wpList_symF (v := ?_) (a' := ?_) rfl rfl rfl (fun hb2 => ?_) ?_ ?_
       case refine_3 => (go_simp; try rfl)
       case refine_4 => (simp only [Act.put, List.setIfInBounds_toArray, List.set_cons_succ, List.set_cons_zero]; try rfl))
    | (with_reducible (change wpList _ _ _ _ _ _)
       refine wpList_symS (v := ?_) (a' := ?_) rfl rfl rfl (fun hb2 hb3 => ?_) ?_ ?_
       case refine_3 => (go_simp; try rfl)
       case refine_4 => (simp only [Act.put, List.setIfInBounds_toArray, List.set_cons_succ, List.set_cons_zero]; try rfl))
    | (with_reducible (change wpList _ _ _ _ _ _); refine VCell.load rfl (.tmp 3) rfl w.heap.size _ rfl HV2.out ?_)
    | go_step)
  refine (Hout.out w2).mono ?_
  rintro e w3 ⟨rfl, hb⟩
  have HV3 := Lib.hid (HV2.out.later hb Hlt2.out)
  have Hb3 : Hid (Below w.heap.size w w3) := Lib.hid (Hb2.out.trans (hb.mono Hb2.out.size))
  have Hlt3 : Hid (w.heap.size < w3.heap.size) := Lib.hid (Nat.lt_of_lt_of_le Hlt2.out hb.size)
  clear hb c0 c3
  have c0 : w3.cell? ⟨w.heap.size, 0, none⟩ = some (.int .i64 k) := HV3.out.at.1
  have c3 : w3.cell? ⟨w.heap.size, 3, none⟩ = some (.string s) := HV3.out.at.2.2.2.1
  dsimp only
  repeat (first
    | (with_reducible (change wpList _ _ _ _ _ _)
       refine wpList_callS (v := .bool (zeroS s)) (a' := ?_) (f := 65) (args := #[.string s]) rfl rfl rfl (fun hb2 hb3 => ?_) (fun _ _ => hasZero_any s _) ?_ ?_
       case refine_2 => go_simp
       case refine_3 => (simp only [Act.put, List.setIfInBounds_toArray, List.set_cons_succ, List.set_cons_zero]; try rfl))
    | (with_reducible (change wpList _ _ _ _ _ _)
       refine wpList_pickAndF (A := ?_) rfl rfl rfl rfl rfl rfl rfl (fun r => ?_) (fun r hr => ?_)
       case refine_2 => (simp only [Act.put, List.setIfInBounds_toArray, List.set_cons_succ, List.set_cons_zero]; try rfl))
    | (with_reducible (change wpList _ _ _ _ _ _)
       refine wpList_pickAnd (A := ?_) rfl rfl rfl rfl rfl (fun r => ?_) (fun r hr => ?_)
       case refine_2 => (simp only [Act.put, List.setIfInBounds_toArray, List.set_cons_succ, List.set_cons_zero]; try rfl))
    | (with_reducible (change wpList _ _ _ _ _ _)
       refine wpList_pickOr (A := ?_) rfl rfl rfl rfl rfl (fun r => ?_) (fun r hr => ?_)
       case refine_2 => (simp only [Act.put, List.setIfInBounds_toArray, List.set_cons_succ, List.set_cons_zero]; try rfl))
    | (with_reducible (change wpList _ _ _ _ _ _)
       refine wpList_symT (v := ?_) (a' := ?_) rfl rfl rfl (fun hb2 => ?_) ?_ ?_
       case refine_3 => (go_simp; try rfl)
       case refine_4 => (simp only [Act.put, List.setIfInBounds_toArray, List.set_cons_succ, List.set_cons_zero]; try rfl))
    | (with_reducible (change wpList _ _ _ _ _ _)
       refine wpList_symF (v := ?_) (a' := ?_) rfl rfl rfl (fun hb2 => ?_) ?_ ?_
       case refine_3 => (go_simp; try rfl)
       case refine_4 => (simp only [Act.put, List.setIfInBounds_toArray, List.set_cons_succ, List.set_cons_zero]; try rfl))
    | (with_reducible (change wpList _ _ _ _ _ _)
       refine wpList_symS (v := ?_) (a' := ?_) rfl rfl rfl (fun hb2 hb3 => ?_) ?_ ?_
       case refine_3 => (go_simp; try rfl)
       case refine_4 => (simp only [Act.put, List.setIfInBounds_toArray, List.set_cons_succ, List.set_cons_zero]; try rfl))
    | (with_reducible (change wpList _ _ _ _ _ _); refine VCell.load rfl (.tmp 3) rfl w.heap.size _ rfl HV3.out ?_)
    | go_step)
  · rename_i h
    have hP : b2 = true := by (revert h; unfold Hid at *; subst_vars; intro h; simpa [or_assoc, and_assoc, cast_lt127, cast_lt65535, cast_lt1048576, cast_le127, cast_le65535, cast_le1048576] using h)
    go_ret
    exact ⟨by show Ending.returned (Value.int .i64 3) = _; rw [← Ht.out, if_neg N1.out, if_neg N2.out, if_pos hP], Hb3.out⟩
  rename_i h
  have N3 : Hid (¬ (b2 = true)) := Lib.hid (by revert h; unfold Hid at *; subst_vars; intro h; simpa [or_assoc, and_assoc, cast_lt127, cast_lt65535, cast_lt1048576, cast_le127, cast_le65535, cast_le1048576] using h)
  clear h
  repeat (first
    | (with_reducible (change wpList _ _ _ _ _ _)
       refine wpList_callS (v := .bool (zeroS s)) (a' := ?_) (f := 65) (args := #[.string s]) rfl rfl rfl (fun hb2 hb3 => ?_) (fun _ _ => hasZero_any s _) ?_ ?_
       case refine_2 => go_simp
       case refine_3 => (simp only [Act.put, List.setIfInBounds_toArray, List.set_cons_succ, List.set_cons_zero]; try rfl))
    | (with_reducible (change wpList _ _ _ _ _ _)
       refine wpList_pickAndF (A := ?_) rfl rfl rfl rfl rfl rfl rfl (fun r => ?_) (fun r hr => ?_)
       case refine_2 => (simp only [Act.put, List.setIfInBounds_toArray, List.set_cons_succ, List.set_cons_zero]; try rfl))
    | (with_reducible (change wpList _ _ _ _ _ _)
       refine wpList_pickAnd (A := ?_) rfl rfl rfl rfl rfl (fun r => ?_) (fun r hr => ?_)
       case refine_2 => (simp only [Act.put, List.setIfInBounds_toArray, List.set_cons_succ, List.set_cons_zero]; try rfl))
    | (with_reducible (change wpList _ _ _ _ _ _)
       refine wpList_pickOr (A := ?_) rfl rfl rfl rfl rfl (fun r => ?_) (fun r hr => ?_)
       case refine_2 => (simp only [Act.put, List.setIfInBounds_toArray, List.set_cons_succ, List.set_cons_zero]; try rfl))
    | (with_reducible (change wpList _ _ _ _ _ _)
       refine wpList_symT (v := ?_) (a' := ?_) rfl rfl rfl (fun hb2 => ?_) ?_ ?_
       case refine_3 => (go_simp; try rfl)
       case refine_4 => (simp only [Act.put, List.setIfInBounds_toArray, List.set_cons_succ, List.set_cons_zero]; try rfl))
    | (with_reducible (change wpList _ _ _ _ _ _)
       refine wpList_symF (v := ?_) (a' := ?_) rfl rfl rfl (fun hb2 => ?_) ?_ ?_
       case refine_3 => (go_simp; try rfl)
       case refine_4 => (simp only [Act.put, List.setIfInBounds_toArray, List.set_cons_succ, List.set_cons_zero]; try rfl))
    | (with_reducible (change wpList _ _ _ _ _ _)
       refine wpList_symS (v := ?_) (a' := ?_) rfl rfl rfl (fun hb2 hb3 => ?_) ?_ ?_
       case refine_3 => (go_simp; try rfl)
       case refine_4 => (simp only [Act.put, List.setIfInBounds_toArray, List.set_cons_succ, List.set_cons_zero]; try rfl))
    | (with_reducible (change wpList _ _ _ _ _ _); refine VCell.load rfl (.tmp 3) rfl w.heap.size _ rfl HV3.out ?_)
    | go_step)
  · rename_i h
    have hP : k = 3 ∧ 127 < s.size ∨ k = 4 ∧ 65535 < s.size := by (revert h; unfold Hid at *; subst_vars; intro h; simpa [or_assoc, and_assoc, cast_lt127, cast_lt65535, cast_lt1048576, cast_le127, cast_le65535, cast_le1048576] using h)
    go_ret
    exact ⟨by show Ending.returned (Value.int .i64 8) = _; rw [← Ht.out, if_neg N1.out, if_neg N2.out, if_neg N3.out, if_pos hP], Hb3.out⟩
  rename_i h
  have N4 : Hid (¬ (k = 3 ∧ 127 < s.size ∨ k = 4 ∧ 65535 < s.size)) := Lib.hid (by revert h; unfold Hid at *; subst_vars; intro h; simpa [or_assoc, and_assoc, cast_lt127, cast_lt65535, cast_lt1048576, cast_le127, cast_le65535, cast_le1048576] using h)
  clear h
  repeat (first
    | (with_reducible (change wpList _ _ _ _ _ _)
       refine wpList_callS (v := .bool (zeroS s)) (a' := ?_) (f := 65) (args := #[.string s]) rfl rfl rfl (fun hb2 hb3 => ?_) (fun _ _ => hasZero_any s _) ?_ ?_
       case refine_2 => go_simp
       case refine_3 => (simp only [Act.put, List.setIfInBounds_toArray, List.set_cons_succ, List.set_cons_zero]; try rfl))
    | (with_reducible (change wpList _ _ _ _ _ _)
       refine wpList_pickAndF (A := ?_) rfl rfl rfl rfl rfl rfl rfl (fun r => ?_) (fun r hr => ?_)
       case refine_2 => (simp only [Act.put, List.setIfInBounds_toArray, List.set_cons_succ, List.set_cons_zero]; try rfl))
    | (with_reducible (change wpList _ _ _ _ _ _)
       refine wpList_pickAnd (A := ?_) rfl rfl rfl rfl rfl (fun r => ?_) (fun r hr => ?_)
       case refine_2 => (simp only [Act.put, List.setIfInBounds_toArray, List.set_cons_succ, List.set_cons_zero]; try rfl))
    | (with_reducible (change wpList _ _ _ _ _ _)
       refine wpList_pickOr (A := ?_) rfl rfl rfl rfl rfl (fun r => ?_) (fun r hr => ?_)
       case refine_2 => (simp only [Act.put, List.setIfInBounds_toArray, List.set_cons_succ, List.set_cons_zero]; try rfl))
    | (with_reducible (change wpList _ _ _ _ _ _)
       refine wpList_symT (v := ?_) (a' := ?_) rfl rfl rfl (fun hb2 => ?_) ?_ ?_
       case refine_3 => (go_simp; try rfl)
       case refine_4 => (simp only [Act.put, List.setIfInBounds_toArray, List.set_cons_succ, List.set_cons_zero]; try rfl))
    | (with_reducible (change wpList _ _ _ _ _ _)
       refine wpList_symF (v := ?_) (a' := ?_) rfl rfl rfl (fun hb2 => ?_) ?_ ?_
       case refine_3 => (go_simp; try rfl)
       case refine_4 => (simp only [Act.put, List.setIfInBounds_toArray, List.set_cons_succ, List.set_cons_zero]; try rfl))
    | (with_reducible (change wpList _ _ _ _ _ _)
       refine wpList_symS (v := ?_) (a' := ?_) rfl rfl rfl (fun hb2 hb3 => ?_) ?_ ?_
       case refine_3 => (go_simp; try rfl)
       case refine_4 => (simp only [Act.put, List.setIfInBounds_toArray, List.set_cons_succ, List.set_cons_zero]; try rfl))
    | (with_reducible (change wpList _ _ _ _ _ _); refine VCell.load rfl (.tmp 3) rfl w.heap.size _ rfl HV3.out ?_)
    | go_step)
  · rename_i h
    have hP : k = 8 ∧ 1048576 < s.size := by (revert h; unfold Hid at *; subst_vars; intro h; simpa [or_assoc, and_assoc, cast_lt127, cast_lt65535, cast_lt1048576, cast_le127, cast_le65535, cast_le1048576] using h)
    go_ret
    exact ⟨by show Ending.returned (Value.int .i64 7) = _; rw [← Ht.out, if_neg N1.out, if_neg N2.out, if_neg N3.out, if_neg N4.out, if_pos hP], Hb3.out⟩
  rename_i h
  have N5 : Hid (¬ (k = 8 ∧ 1048576 < s.size)) := Lib.hid (by revert h; unfold Hid at *; subst_vars; intro h; simpa [or_assoc, and_assoc, cast_lt127, cast_lt65535, cast_lt1048576, cast_le127, cast_le65535, cast_le1048576] using h)
  clear h
  repeat (first
    | (with_reducible (change wpList _ _ _ _ _ _)
       refine wpList_callS (v := .bool (zeroS s)) (a' := ?_) (f := 65) (args := #[.string s]) rfl rfl rfl (fun hb2 hb3 => ?_) (fun _ _ => hasZero_any s _) ?_ ?_
       case refine_2 => go_simp
       case refine_3 => (simp only [Act.put, List.setIfInBounds_toArray, List.set_cons_succ, List.set_cons_zero]; try rfl))
    | (with_reducible (change wpList _ _ _ _ _ _)
       refine wpList_pickAndF (A := ?_) rfl rfl rfl rfl rfl rfl rfl (fun r => ?_) (fun r hr => ?_)
       case refine_2 => (simp only [Act.put, List.setIfInBounds_toArray, List.set_cons_succ, List.set_cons_zero]; try rfl))
    | (with_reducible (change wpList _ _ _ _ _ _)
       refine wpList_pickAnd (A := ?_) rfl rfl rfl rfl rfl (fun r => ?_) (fun r hr => ?_)
       case refine_2 => (simp only [Act.put, List.setIfInBounds_toArray, List.set_cons_succ, List.set_cons_zero]; try rfl))
    | (with_reducible (change wpList _ _ _ _ _ _)
       refine wpList_pickOr (A := ?_) rfl rfl rfl rfl rfl (fun r => ?_) (fun r hr => ?_)
       case refine_2 => (simp only [Act.put, List.setIfInBounds_toArray, List.set_cons_succ, List.set_cons_zero]; try rfl))
    | (with_reducible (change wpList _ _ _ _ _ _)
       refine wpList_symT (v := ?_) (a' := ?_) rfl rfl rfl (fun hb2 => ?_) ?_ ?_
       case refine_3 => (go_simp; try rfl)
       case refine_4 => (simp only [Act.put, List.setIfInBounds_toArray, List.set_cons_succ, List.set_cons_zero]; try rfl))
    | (with_reducible (change wpList _ _ _ _ _ _)
       refine wpList_symF (v := ?_) (a' := ?_) rfl rfl rfl (fun hb2 => ?_) ?_ ?_
       case refine_3 => (go_simp; try rfl)
       case refine_4 => (simp only [Act.put, List.setIfInBounds_toArray, List.set_cons_succ, List.set_cons_zero]; try rfl))
    | (with_reducible (change wpList _ _ _ _ _ _)
       refine wpList_symS (v := ?_) (a' := ?_) rfl rfl rfl (fun hb2 hb3 => ?_) ?_ ?_
       case refine_3 => (go_simp; try rfl)
       case refine_4 => (simp only [Act.put, List.setIfInBounds_toArray, List.set_cons_succ, List.set_cons_zero]; try rfl))
    | (with_reducible (change wpList _ _ _ _ _ _); refine VCell.load rfl (.tmp 3) rfl w.heap.size _ rfl HV3.out ?_)
    | go_step)
  refine (isHolder_any k w3).mono ?_
  rintro e w4 ⟨rfl, rfl⟩
  dsimp only
  repeat (first
    | (with_reducible (change wpList _ _ _ _ _ _)
       refine wpList_callS (v := .bool (zeroS s)) (a' := ?_) (f := 65) (args := #[.string s]) rfl rfl rfl (fun hb2 hb3 => ?_) (fun _ _ => hasZero_any s _) ?_ ?_
       case refine_2 => go_simp
       case refine_3 => (simp only [Act.put, List.setIfInBounds_toArray, List.set_cons_succ, List.set_cons_zero]; try rfl))
    | (with_reducible (change wpList _ _ _ _ _ _)
       refine wpList_pickAndF (A := ?_) rfl rfl rfl rfl rfl rfl rfl (fun r => ?_) (fun r hr => ?_)
       case refine_2 => (simp only [Act.put, List.setIfInBounds_toArray, List.set_cons_succ, List.set_cons_zero]; try rfl))
    | (with_reducible (change wpList _ _ _ _ _ _)
       refine wpList_pickAnd (A := ?_) rfl rfl rfl rfl rfl (fun r => ?_) (fun r hr => ?_)
       case refine_2 => (simp only [Act.put, List.setIfInBounds_toArray, List.set_cons_succ, List.set_cons_zero]; try rfl))
    | (with_reducible (change wpList _ _ _ _ _ _)
       refine wpList_pickOr (A := ?_) rfl rfl rfl rfl rfl (fun r => ?_) (fun r hr => ?_)
       case refine_2 => (simp only [Act.put, List.setIfInBounds_toArray, List.set_cons_succ, List.set_cons_zero]; try rfl))
    | (with_reducible (change wpList _ _ _ _ _ _)
       refine wpList_symT (v := ?_) (a' := ?_) rfl rfl rfl (fun hb2 => ?_) ?_ ?_
       case refine_3 => (go_simp; try rfl)
       case refine_4 => (simp only [Act.put, List.setIfInBounds_toArray, List.set_cons_succ, List.set_cons_zero]; try rfl))
    | (with_reducible (change wpList _ _ _ _ _ _)
       refine wpList_symF (v := ?_) (a' := ?_) rfl rfl rfl (fun hb2 => ?_) ?_ ?_
       case refine_3 => (go_simp; try rfl)
       case refine_4 => (simp only [Act.put, List.setIfInBounds_toArray, List.set_cons_succ, List.set_cons_zero]; try rfl))
    | (with_reducible (change wpList _ _ _ _ _ _)
       refine wpList_symS (v := ?_) (a' := ?_) rfl rfl rfl (fun hb2 hb3 => ?_) ?_ ?_
       case refine_3 => (go_simp; try rfl)
       case refine_4 => (simp only [Act.put, List.setIfInBounds_toArray, List.set_cons_succ, List.set_cons_zero]; try rfl))
    | (with_reducible (change wpList _ _ _ _ _ _); refine VCell.load rfl (.tmp 3) rfl w.heap.size _ rfl HV3.out ?_)
    | go_step)
  · rename_i h
    have hP : holderV k = true ∧ 64 ≤ m := by (revert h; unfold Hid at *; subst_vars; intro h; simpa [or_assoc, and_assoc, cast_lt127, cast_lt65535, cast_lt1048576, cast_le127, cast_le65535, cast_le1048576] using h)
    go_ret
    exact ⟨by show Ending.returned (Value.int .i64 9) = _; rw [← Ht.out, if_neg N1.out, if_neg N2.out, if_neg N3.out, if_neg N4.out, if_neg N5.out, if_pos hP], Hb3.out⟩
  rename_i h
  have N6 : Hid (¬ (holderV k = true ∧ 64 ≤ m)) := Lib.hid (by revert h; unfold Hid at *; subst_vars; intro h; simpa [or_assoc, and_assoc, cast_lt127, cast_lt65535, cast_lt1048576, cast_le127, cast_le65535, cast_le1048576] using h)
  clear h
  repeat (first
    | (with_reducible (change wpList _ _ _ _ _ _)
       refine wpList_callS (v := .bool (zeroS s)) (a' := ?_) (f := 65) (args := #[.string s]) rfl rfl rfl (fun hb2 hb3 => ?_) (fun _ _ => hasZero_any s _) ?_ ?_
       case refine_2 => go_simp
       case refine_3 => (simp only [Act.put, List.setIfInBounds_toArray, List.set_cons_succ, List.set_cons_zero]; try rfl))
    | (with_reducible (change wpList _ _ _ _ _ _)
       refine wpList_pickAndF (A := ?_) rfl rfl rfl rfl rfl rfl rfl (fun r => ?_) (fun r hr => ?_)
       case refine_2 => (simp only [Act.put, List.setIfInBounds_toArray, List.set_cons_succ, List.set_cons_zero]; try rfl))
    | (with_reducible (change wpList _ _ _ _ _ _)
       refine wpList_pickAnd (A := ?_) rfl rfl rfl rfl rfl (fun r => ?_) (fun r hr => ?_)
       case refine_2 => (simp only [Act.put, List.setIfInBounds_toArray, List.set_cons_succ, List.set_cons_zero]; try rfl))
    | (with_reducible (change wpList _ _ _ _ _ _)
       refine wpList_pickOr (A := ?_) rfl rfl rfl rfl rfl (fun r => ?_) (fun r hr => ?_)
       case refine_2 => (simp only [Act.put, List.setIfInBounds_toArray, List.set_cons_succ, List.set_cons_zero]; try rfl))
    | (with_reducible (change wpList _ _ _ _ _ _)
       refine wpList_symT (v := ?_) (a' := ?_) rfl rfl rfl (fun hb2 => ?_) ?_ ?_
       case refine_3 => (go_simp; try rfl)
       case refine_4 => (simp only [Act.put, List.setIfInBounds_toArray, List.set_cons_succ, List.set_cons_zero]; try rfl))
    | (with_reducible (change wpList _ _ _ _ _ _)
       refine wpList_symF (v := ?_) (a' := ?_) rfl rfl rfl (fun hb2 => ?_) ?_ ?_
       case refine_3 => (go_simp; try rfl)
       case refine_4 => (simp only [Act.put, List.setIfInBounds_toArray, List.set_cons_succ, List.set_cons_zero]; try rfl))
    | (with_reducible (change wpList _ _ _ _ _ _)
       refine wpList_symS (v := ?_) (a' := ?_) rfl rfl rfl (fun hb2 hb3 => ?_) ?_ ?_
       case refine_3 => (go_simp; try rfl)
       case refine_4 => (simp only [Act.put, List.setIfInBounds_toArray, List.set_cons_succ, List.set_cons_zero]; try rfl))
    | (with_reducible (change wpList _ _ _ _ _ _); refine VCell.load rfl (.tmp 3) rfl w.heap.size _ rfl HV3.out ?_)
    | go_step)
  go_ret
  exact ⟨by show Ending.returned (Value.int .i64 0) = _; rw [← Ht.out, if_neg N1.out, if_neg N2.out, if_neg N3.out, if_neg N4.out, if_neg N5.out, if_neg N6.out], Hb3.out⟩
end
end Go.Proofs.YtejgcnmbngdkiaaGreatDoor
