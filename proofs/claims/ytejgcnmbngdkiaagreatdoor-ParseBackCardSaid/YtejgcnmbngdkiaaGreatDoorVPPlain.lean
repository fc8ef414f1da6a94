/-
  The program's: a value, plainly.
-/
import Derived.Test.YtejgcnmbngdkiaaGreatDoorVPPairs
import Derived.Test.YtejgcnmbngdkiaaGreatDoorMBare
namespace Go.Proofs.YtejgcnmbngdkiaaGreatDoor
open Go.RowKit
set_option maxRecDepth 100000
attribute [local go_sem] Hv.arr

theorem below_setCell {B : Nat} {w w' : World} (h : Below B w w') (b o : Nat) (v : Value) (hb : B ≤ b) : Below B w (w'.setCell ⟨b, o, none⟩ v) := h.setCell (p := ⟨b, o, none⟩) hb v
theorem setCell_other (w : World) (b o k : Nat) (v : Value) (h : k ≠ b) : (w.setCell ⟨b, o, none⟩ v).heap[k]? = w.heap[k]? := by rw [Below.heap_setCell]; exact h
theorem size_setC (w : World) (b o : Nat) (v : Value) : (w.setCell ⟨b, o, none⟩ v).heap.size = w.heap.size := by simp

set_option maxHeartbeats 8000000 in
theorem pplain_any (v : Val) : PPlainC v := by
  induction v using Val.ind with
  | h v ihl ihd =>
    intro x w S hR hS hfit
    have hBR := bare_rd hR
    obtain ⟨⟨hk, hn, hg, hs⟩, hL, hD⟩ := rd_iff.1 hBR
    have hsub := bareV_sub v
    have hbz := bareV_size v
    have hfz := hfit.1
    rw [sizeV_eq] at hfz
    have Hel := Lib.hid (fun (W : World) (hW : Below w.heap.size w W) => pelem_of (bareV v).l (fun y hy => ihl y (hsub.1 y hy)) (fun y hy => hfit.l (hsub.1 y hy)) (by have := sizeL_length (bareV v).l; omega) (bareH x).l W S (hL.later (below_old hS hW)) (old_later hS hW))
    have Hpa := Lib.hid (fun (W : World) (hW : Below w.heap.size w W) => ppairs_of (bareV v).d (fun p hp => ihd p (hsub.2 p hp)) (fun p hp => ⟨(hfit.d (hsub.2 p hp)).1, by have := (hfit.d (hsub.2 p hp)).2; omega⟩) (by have := sizeD_length (bareV v).d; omega) (bareH x).d W S (hD.later (below_old hS hW)) (old_later hS hW))
    have hsz : (bareH x).s.size ≤ 281474976710656 := by
      rw [hs]
      rcases hbz.2.2 with e | e
      · rw [e]; have := hfit.s; omega
      · rw [e]; exact Nat.zero_le _
    have Hcl := Lib.hid (fun W => sclone_is (bareH x).s W hsz)
    have Hba := Lib.hid (fun W => bare_any x W)
    have Hres : Hid (plainV v = .mk (bareH x).k (bareH x).n (bareH x).g (bareH x).s ((bareV v).l.map plainV) (pairsV (mapD plainV (bareV v).d))) := Lib.hid (by rw [plainV_bare, hk, hn, hg, hs])
    clear hk hn hg hs hL hD hsub hbz hfz hsz hBR hR hS hfit ihl ihd
    obtain ⟨y, hy⟩ : ∃ y, bareH x = y := ⟨_, rfl⟩
    rw [hy] at Hres
    simp only [hy] at Hel Hpa Hcl Hba
    clear hy
    obtain ⟨k, n, g, s, ⟨lp, ll, lc⟩, ⟨dp, dl, dc⟩⟩ := x
    obtain ⟨yk, yn, yg, ys, ⟨ylp, yll, ylc⟩, ⟨ydp, ydl, ydc⟩⟩ := y
    dsimp only at Hel Hpa Hcl Hres
    obtain ⟨w1, hw1⟩ : ∃ w1, w.alloc (.cells #[.int .i64 k, .int .i64 n, .int .i64 g, .string s, .slice lp ll lc, .slice dp dl dc] 25) = w1 := ⟨_, rfl⟩
    obtain ⟨w2, hw2⟩ : ∃ w2, w1.alloc (.cells #[.int .i64 0, .int .i64 0, .int .i64 0, .string ⟨#[]⟩, .slice none 0 0, .slice none 0 0] 25) = w2 := ⟨_, rfl⟩
    have hs1 : w1.heap.size = w.heap.size + 1 := by rw [← hw1]; simp
    have hs2 : w2.heap.size = w.heap.size + 1 + 1 := by rw [← hw2]; simp [hs1]
    have hb1 : Below w.heap.size w w1 := by rw [← hw1]; exact (Below.refl _ w).alloc (Nat.le_refl _) _
    have hb2 : Below w1.heap.size w1 w2 := by rw [← hw2]; exact (Below.refl _ w1).alloc (Nat.le_refl _) _
    have hb : Below w.heap.size w w2 := hb1.trans (hb2.mono (by omega))
    have hv1 : VCell w2 w.heap.size ⟨k, n, g, s, ⟨lp, ll, lc⟩, ⟨dp, dl, dc⟩⟩ := (show VCell w1 w.heap.size ⟨k, n, g, s, ⟨lp, ll, lc⟩, ⟨dp, dl, dc⟩⟩ by rw [← hw1]; exact heap_alloc_new w _).later hb2 (by omega)
    have hv2 : VCell w2 (w.heap.size + 1) .nil := by rw [← hs1, ← hw2]; exact heap_alloc_new w1 _
    have Hb := Lib.hid hb
    have Hv1 := Lib.hid hv1
    have Hv2 := Lib.hid hv2
    have Hw1 := Lib.hid hw1
    have Hw2 := Lib.hid hw2
    have Hs2 := Lib.hid hs2
    clear hw1 hw2 hs1 hs2 hb1 hb2 hb hv1 hv2
    show Calls Tryz.prog 11 #[.agg #[.int .i64 k, .int .i64 n, .int .i64 g, .string s, .slice lp ll lc, .slice dp dl dc]] w _
    go_enter Tryz.func11, Tryz.ntmps11
    iterate 10 go_step
    rw [Hw1.out, Hw2.out]
    go_wp2_with (refine VCell.load rfl (.tmp 1) rfl w.heap.size _ rfl Hv1.out ?_)
    refine (Hba.out w2).mono ?_
    rintro e w3 ⟨he, hb3⟩
    replace he : e = .returned (.agg #[.int .i64 yk, .int .i64 yn, .int .i64 yg, .string ys, .slice ylp yll ylc, .slice ydp ydl ydc]) := he
    subst he
    obtain ⟨w4, hw4⟩ : ∃ w4, w3.alloc (.cells #[.int .i64 yk, .int .i64 yn, .int .i64 yg, .string ys, .slice ylp yll ylc, .slice ydp ydl ydc] 25) = w4 := ⟨_, rfl⟩
    obtain ⟨b, hbe⟩ : ∃ b, w3.heap.size = b := ⟨_, rfl⟩
    have hv4 : VCell w4 b ⟨yk, yn, yg, ys, ⟨ylp, yll, ylc⟩, ⟨ydp, ydl, ydc⟩⟩ := by rw [← hbe, ← hw4]; exact heap_alloc_new w3 _
    have hb34 : Below w3.heap.size w3 w4 := by rw [← hw4]; exact (Below.refl _ _).alloc (Nat.le_refl _) _
    have hbw4 : Below w.heap.size w w4 := Hb.out.trans ((hb3.mono Hb.out.size).trans (hb34.mono (Nat.le_trans Hb.out.size hb3.size)))
    have hvr4 : VCell w4 (w.heap.size + 1) .nil := (Hv2.out.later hb3 (by rw [Hs2.out]; omega)).later hb34 (by have := hb3.size; rw [Hs2.out] at this; omega)
    have hbb : w.heap.size + 1 + 1 ≤ b := by rw [← hbe, ← Hs2.out]; exact hb3.size
    have Hw4 := Lib.hid hw4
    have Hbe := Lib.hid hbe
    have Hv4 := Lib.hid hv4
    have Hbw4 := Lib.hid hbw4
    have Hvr4 := Lib.hid hvr4
    have k3 : w4.cell? ⟨b, 3, none⟩ = some (.string ys) := hv4.at.2.2.2.1
    clear hw4 hbe hv4 hb34 hbw4 hvr4 hb3
    go_wp2_with fail
    rw [Hw4.out, Hbe.out]
    refine (Hcl.out w4).mono ?_
    rintro e w5 ⟨rfl, hb5⟩
    have hv5 : VCell w5 b ⟨yk, yn, yg, ys, ⟨ylp, yll, ylc⟩, ⟨ydp, ydl, ydc⟩⟩ := Hv4.out.later hb5 Hv4.out.lt
    have hvr5 : VCell w5 (w.heap.size + 1) .nil := Hvr4.out.later hb5 Hvr4.out.lt
    have hbw5 : Below w.heap.size w w5 := Hbw4.out.trans (hb5.mono Hbw4.out.size)
    have c5 : w5.cell? ⟨b, 3, none⟩ = some (.string ys) := hv5.at.2.2.2.1
    have z5 : w5.frozen? ⟨b, 3, none⟩ = false := hv5.free 3
    obtain ⟨w6, hw6⟩ : ∃ w6, w5.setCell ⟨b, 3, none⟩ (.string ys) = w6 := ⟨_, rfl⟩
    have hv6 : VCell w6 b ⟨yk, yn, yg, ys, ⟨ylp, yll, ylc⟩, ⟨ydp, ydl, ydc⟩⟩ := by rw [← hw6]; exact hv5.setS ys
    have hvr6 : VCell w6 (w.heap.size + 1) .nil := by rw [← hw6]; exact hvr5.same (setCell_other _ _ _ _ _ (by omega))
    have hbw6 : Below w.heap.size w w6 := by rw [← hw6]; exact below_setCell hbw5 b 3 _ (by omega)
    have Hw6 := Lib.hid hw6
    have Hv6 := Lib.hid hv6
    have Hvr6 := Lib.hid hvr6
    have Hbw6 := Lib.hid hbw6
    have k4 : w6.cell? ⟨b, 4, none⟩ = some (.slice ylp yll ylc) := hv6.at.2.2.2.2.1
    clear hv5 hvr5 hbw5 hw6 hv6 hvr6 hbw6 hb5 k3
    dsimp only
    iterate 7 go_step
    rw [Hw6.out]
    go_wp2_with fail
    refine (Hel.out w6 Hbw6.out).mono ?_
    rintro e w7 ⟨p, q, c, rfl, hL7, hb7⟩
    have hv7 : VCell w7 b ⟨yk, yn, yg, ys, ⟨ylp, yll, ylc⟩, ⟨ydp, ydl, ydc⟩⟩ := Hv6.out.later hb7 Hv6.out.lt
    have hvr7 : VCell w7 (w.heap.size + 1) .nil := Hvr6.out.later hb7 Hvr6.out.lt
    have hbw7 : Below w.heap.size w w7 := Hbw6.out.trans (hb7.mono Hbw6.out.size)
    have c7 : w7.cell? ⟨b, 4, none⟩ = some (.slice ylp yll ylc) := hv7.at.2.2.2.2.1
    have z7 : w7.frozen? ⟨b, 4, none⟩ = false := hv7.free 4
    obtain ⟨w8, hw8⟩ : ∃ w8, w7.setCell ⟨b, 4, none⟩ (.slice p q c) = w8 := ⟨_, rfl⟩
    have hv8 : VCell w8 b ⟨yk, yn, yg, ys, ⟨p, q, c⟩, ⟨ydp, ydl, ydc⟩⟩ := by rw [← hw8]; exact hv7.setL p q c
    have hvr8 : VCell w8 (w.heap.size + 1) .nil := by rw [← hw8]; exact hvr7.same (setCell_other _ _ _ _ _ (by omega))
    have hbw8 : Below w.heap.size w w8 := by rw [← hw8]; exact below_setCell hbw7 b 4 _ (by omega)
    have hb6lt := Hv6.out.lt
    have hL8 : RdL w8 (fun k => b < k ∧ k < w8.heap.size) ⟨p, q, c⟩ ((bareV v).l.map plainV) := by
      rw [← hw8, size_setC]
      exact (hL7.bound.later (fun k hk => setCell_other _ _ _ _ _ (by have := hk.1; omega))).mono (fun k hk => ⟨by have := hk.1; omega, hk.2⟩)
    have Hw8 := Lib.hid hw8
    have Hv8 := Lib.hid hv8
    have Hvr8 := Lib.hid hvr8
    have Hbw8 := Lib.hid hbw8
    have HL8 := Lib.hid hL8
    have k5 : w8.cell? ⟨b, 5, none⟩ = some (.slice ydp ydl ydc) := hv8.at.2.2.2.2.2
    clear hv7 hvr7 hbw7 hw8 hv8 hvr8 hbw8 hb7 hL7 hL8 k4 c5 z5 hb6lt
    dsimp only
    iterate 7 go_step
    rw [Hw8.out]
    go_wp2_with fail
    refine (Hpa.out w8 Hbw8.out).mono ?_
    rintro e w9 ⟨p2, q2, c2, rfl, hD9, hb9⟩
    have hv9 : VCell w9 b ⟨yk, yn, yg, ys, ⟨p, q, c⟩, ⟨ydp, ydl, ydc⟩⟩ := Hv8.out.later hb9 Hv8.out.lt
    have hvr9 : VCell w9 (w.heap.size + 1) .nil := Hvr8.out.later hb9 Hvr8.out.lt
    have hbw9 : Below w.heap.size w w9 := Hbw8.out.trans (hb9.mono Hbw8.out.size)
    have c9 : w9.cell? ⟨b, 5, none⟩ = some (.slice ydp ydl ydc) := hv9.at.2.2.2.2.2
    have z9 : w9.frozen? ⟨b, 5, none⟩ = false := hv9.free 5
    obtain ⟨wa, hwa⟩ : ∃ wa, w9.setCell ⟨b, 5, none⟩ (.slice p2 q2 c2) = wa := ⟨_, rfl⟩
    have hva : VCell wa b ⟨yk, yn, yg, ys, ⟨p, q, c⟩, ⟨p2, q2, c2⟩⟩ := by rw [← hwa]; exact hv9.setD p2 q2 c2
    have hvra : VCell wa (w.heap.size + 1) .nil := by rw [← hwa]; exact hvr9.same (setCell_other _ _ _ _ _ (by omega))
    have hbwa : Below w.heap.size w wa := by rw [← hwa]; exact below_setCell hbw9 b 5 _ (by omega)
    have hb8lt := Hv8.out.lt
    have hLa : RdL wa (fun k => b < k) ⟨p, q, c⟩ ((bareV v).l.map plainV) := by
      rw [← hwa]
      exact (HL8.out.later (fun k hk => (setCell_other _ _ _ _ _ (by have := hk.1; omega)).trans (hb9.block k hk.2))).mono (fun k hk => hk.1)
    have hDa : RdD wa (fun k => b < k) ⟨p2, q2, c2⟩ (pairsV (mapD plainV (bareV v).d)) := by
      rw [← hwa]
      exact (hD9.later (fun k hk => setCell_other _ _ _ _ _ (by omega))).mono (fun k hk => by omega)
    have Hwa := Lib.hid hwa
    have Hva := Lib.hid hva
    have Hvra := Lib.hid hvra
    have Hbwa := Lib.hid hbwa
    have HLa := Lib.hid hLa
    have HDa := Lib.hid hDa
    clear hv9 hvr9 hbw9 hwa hva hvra hbwa hb9 hD9 hLa hDa k5 c7 z7 hb8lt
    dsimp only
    iterate 7 go_step
    rw [Hwa.out]
    go_wp2_with (first
      | (refine VCell.load rfl (.tmp 3) rfl b _ rfl Hva.out ?_)
      | (refine VCell.store rfl rfl (.tmp 2) (.tmp 18) rfl (w.heap.size + 1) .nil ⟨yk, yn, yg, ys, ⟨p, q, c⟩, ⟨p2, q2, c2⟩⟩ rfl rfl Hvra.out ?_; intro wz HCz HKz HBz HZz; obtain ⟨k0, k1, k2, k3, k4, k5⟩ := HCz.out.at; dsimp only at k0 k1 k2 k3 k4 k5))
    have hRz : Rd wz (fun k => w.heap.size ≤ k) ⟨yk, yn, yg, ys, ⟨p, q, c⟩, ⟨p2, q2, c2⟩⟩ (plainV v) := by
      rw [Hres.out]
      exact rd_iff.2 ⟨⟨rfl, rfl, rfl, rfl⟩, (HLa.out.later (fun k hk => HKz.out k (by omega))).mono (fun k hk => by omega), (HDa.out.later (fun k hk => HKz.out k (by omega))).mono (fun k hk => by omega)⟩
    exact bodyPost_ret (v := .agg #[.int .i64 yk, .int .i64 yn, .int .i64 yg, .string ys, .slice p q c, .slice p2 q2 c2]) (by simp [results, Tryz.results11, go_sem, k0, k1, k2, k3, k4, k5]) rfl
      ⟨⟨yk, yn, yg, ys, ⟨p, q, c⟩, ⟨p2, q2, c2⟩⟩, rfl, hRz, Hbwa.out.trans (HBz.out.mono (by omega))⟩
end Go.Proofs.YtejgcnmbngdkiaaGreatDoor
