/-
  The program's: what stands under a key.
-/
import Derived.Test.YtlmgjhidmipadaaVPPlain
import Derived.StillTailTactics
namespace Go.Proofs.Ytlmgjhidmipadaa
open Go.RowKit
set_option maxRecDepth 100000

theorem setCell_vcell {w : World} {b : Nat} {a : Array Value} (h : w.heap[b]? = some (.cells a 25 (0, 0))) (j : Nat) (v : Value) : (w.setCell ⟨b, j, none⟩ v).heap[b]? = some (.cells (a.setIfInBounds j v) 25 (0, 0)) := heap_setCell_same _ _ j _ _ _ h
theorem vcell_six {w : World} {b : Nat} {x : Hv} (h : VCell w b x) (k n g : Int) (s : ByteArray) (lp dp : Option Addr) (ll lc dl dc : Nat) :
    VCell ((((((w.setCell ⟨b, 0, none⟩ (.int .i64 k)).setCell ⟨b, 1, none⟩ (.int .i64 n)).setCell ⟨b, 2, none⟩ (.int .i64 g)).setCell ⟨b, 3, none⟩ (.string s)).setCell ⟨b, 4, none⟩ (.slice lp ll lc)).setCell ⟨b, 5, none⟩ (.slice dp dl dc)) b ⟨k, n, g, s, ⟨lp, ll, lc⟩, ⟨dp, dl, dc⟩⟩ :=
  setCell_vcell (setCell_vcell (setCell_vcell (setCell_vcell (setCell_vcell (setCell_vcell h 0 _) 1 _) 2 _) 3 _) 4 _) 5 _

set_option maxHeartbeats 8000000 in
theorem pGet_any (v : Val) (key : ByteArray) (x : Hv) (w : World) (S : Nat → Prop) (hR : Rd w S x v) (hS : ∀ k, S k → k < w.heap.size) (hfit : Fit v 4000) :
    Calls Try.prog 21 #[.agg x.arr, .string key] w fun e w' => ∃ y : Hv, e = .returned (.tuple #[.agg y.arr, .bool (getV v key).2]) ∧ Rd w' (fun k => w.heap.size ≤ k) y (getV v key).1 ∧ Below w.heap.size w w' := by
  obtain ⟨-, hL0, hD0⟩ := rd_iff.1 (bare_rd hR)
  have hsub := bareV_sub v
  have hfd : ∀ p ∈ (bareV v).d, Fit p.2 4000 := fun p hp => (hfit.d (hsub.2 p hp)).1
  have Hgv : Hid (getV v key = match firstD key (bareV v).d with | none => (.null, false) | some x => (plainV x, some0 (plainV x))) := Lib.hid rfl
  have Hba := Lib.hid (fun W => bare_any x W)
  obtain ⟨y, hy⟩ : ∃ y, bareH x = y := ⟨_, rfl⟩
  rw [hy] at hD0
  simp only [hy] at Hba
  obtain ⟨D, hDD⟩ : ∃ D, (bareV v).d = D := ⟨_, rfl⟩
  rw [hDD] at hD0 hfd Hgv
  clear hy hDD hsub hL0
  obtain ⟨gv, hgv⟩ : ∃ g, getV v key = g := ⟨_, rfl⟩
  rw [hgv] at Hgv ⊢
  clear hgv hR hfit
  obtain ⟨k, n, g, s, ⟨lp, ll, lc⟩, ⟨dp, dl, dc⟩⟩ := x
  obtain ⟨yk, yn, yg, ys, ⟨ylp, yll, ylc⟩, ⟨ydp, ydl, ydc⟩⟩ := y
  obtain ⟨w1, hw1⟩ : ∃ w1, w.alloc (.cells #[.int .i64 k, .int .i64 n, .int .i64 g, .string s, .slice lp ll lc, .slice dp dl dc] 25) = w1 := ⟨_, rfl⟩
  obtain ⟨w2, hw2⟩ : ∃ w2, w1.alloc (.cells #[.int .i64 0, .int .i64 0, .int .i64 0, .string ⟨#[]⟩, .slice none 0 0, .slice none 0 0] 25) = w2 := ⟨_, rfl⟩
  have hs1 : w1.heap.size = w.heap.size + 1 := by rw [← hw1]; simp
  have hs2 : w2.heap.size = w.heap.size + 1 + 1 := by rw [← hw2]; simp [hs1]
  have hb1 : Below w.heap.size w w1 := by rw [← hw1]; exact (Below.refl _ w).alloc (Nat.le_refl _) _
  have hb2 : Below w1.heap.size w1 w2 := by rw [← hw2]; exact (Below.refl _ w1).alloc (Nat.le_refl _) _
  have hb : Below w.heap.size w w2 := hb1.trans (hb2.mono (by omega))
  have hv1 : VCell w2 w.heap.size ⟨k, n, g, s, ⟨lp, ll, lc⟩, ⟨dp, dl, dc⟩⟩ := (show VCell w1 w.heap.size ⟨k, n, g, s, ⟨lp, ll, lc⟩, ⟨dp, dl, dc⟩⟩ by rw [← hw1]; exact heap_alloc_new w _).later hb2 (by omega)
  have hv2 : VCell w2 (w.heap.size + 1) .nil := by rw [← hs1, ← hw2]; exact heap_alloc_new w1 _
  have HD0 := Lib.hid hD0
  have HS := Lib.hid hS
  have Hfd := Lib.hid hfd
  have Hb := Lib.hid hb
  have Hv1 := Lib.hid hv1
  have Hv2 := Lib.hid hv2
  have Hw1 := Lib.hid hw1
  have Hw2 := Lib.hid hw2
  have Hs2 := Lib.hid hs2
  clear hw1 hw2 hs1 hs2 hb1 hb2 hb hv1 hv2 hS hD0 hfd
  show Calls Try.prog 21 #[.agg #[.int .i64 k, .int .i64 n, .int .i64 g, .string s, .slice lp ll lc, .slice dp dl dc], .string key] w _
  go_enter Try.func21, Try.ntmps21
  iterate 12 go_step
  rw [Hw1.out, Hw2.out]
  go_wp2_with (refine VCell.load rfl (.tmp 2) rfl w.heap.size _ rfl Hv1.out ?_)
  refine (Hba.out w2).mono ?_
  rintro e w3 ⟨he, hb3⟩
  replace he : e = .returned (.agg #[.int .i64 yk, .int .i64 yn, .int .i64 yg, .string ys, .slice ylp yll ylc, .slice ydp ydl ydc]) := he
  subst he
  have hbw3 : Below w.heap.size w w3 := Hb.out.trans (hb3.mono Hb.out.size)
  have HD3 := Lib.hid (HD0.out.later (below_old HS.out hbw3))
  have HS3 := Lib.hid (old_later HS.out hbw3)
  have Hvr := Lib.hid (Hv2.out.later hb3 (by rw [Hs2.out]; omega))
  have hsz3 : w.heap.size + 1 + 1 ≤ w3.heap.size := by rw [← Hs2.out]; exact hb3.size
  have Hsz3 := Lib.hid hsz3
  have Hbw3 := Lib.hid hbw3
  obtain ⟨hdl, hdm⟩ := HD3.out.len_le
  dsimp only at hdl hdm
  unfold maxLen at hdm
  have Hdl := Lib.hid hdl
  have HB0 := Lib.hid (Below.refl w3.heap.size w3)
  clear hb3 hbw3 hdl Hba HD0 Hb Hv1 Hv2 Hw1 Hw2 hsz3
  have hfld : ∀ W, (Instr.field 25 (.agg #[.int .i64 yk, .int .i64 yn, .int .i64 yg, .string ys, .slice ylp yll ylc, .slice ydp ydl ydc]) 5).run Try.prog W = .ok (.slice ydp ydl ydc) W := fun W => by kernel_rfl
  go_wp2_with fail
  clear hfld
  go_loopg [13] ydl (fun f s13 wr => ∃ i : Nat, s13 = .int .i64 i ∧ i ≤ ydl ∧ ydl ≤ f + i ∧ Aside (firstD key (D.drop i) = firstD key D) ∧ Aside (Below w3.heap.size w3 wr))
  case atStart => exact ⟨0, rfl, Nat.zero_le _, Nat.le_refl _, rfl, HB0.out⟩
  case round =>
    obtain ⟨j, rfl, hj, hf, HI, HB⟩ := hrel
    by_cases hjl : j < ydl
    · obtain ⟨lb, lo, ⟨yy, ⟨zk, zn, zg, zs, ⟨zlp, zll, zlc⟩, ⟨zdp, zdl, zdc⟩⟩⟩, hiv, h3, h4, ⟨e0, h5⟩, hky, h6⟩ := (HD3.out.later (below_old HS3.out HB.out)).at hjl
      subst h3
      obtain ⟨e1, e2, e3, e4, e5, e6⟩ := h5
      dsimp only at e0 e1 e2 e3 e4 e5 e6 h6 hky
      have Hst : Hid (firstD key (D.drop j) = if yy = key then some (D[j]).2 else firstD key (D.drop (j + 1))) := Lib.hid (by
        rw [drop_cons hiv, hky]
        generalize D[j] = q
        obtain ⟨a, b⟩ := q
        rw [firstD])
      have hbx : ∀ o : Obj, Below wr.heap.size wr (wr.alloc o) := fun o => (Below.refl _ wr).alloc (Nat.le_refl _) _
      have HBX := Lib.hid hbx
      by_cases hyk : yy = key
      · have Hc := Lib.hid (fun o => pplain_any (D[j]).2 ⟨zk, zn, zg, zs, ⟨zlp, zll, zlc⟩, ⟨zdp, zdl, zdc⟩⟩ (wr.alloc o) S (h6.later (below_old (old_later HS3.out HB.out) (hbx o))) (old_later (old_later HS3.out HB.out) (hbx o)) (Hfd.out _ (List.getElem_mem hiv)))
        subst hyk
        have hgv2 : gv = (plainV (D[j]).2, some0 (plainV (D[j]).2)) := by rw [Hgv.out, ← HI.out, Hst.out, if_pos rfl]
        have Hgv2 := Lib.hid hgv2
        clear hgv2 HI Hst h4 h6 hky hbx
        go_wp2_with fail
        refine (Hc.out _).mono ?_
        rintro e w5 ⟨⟨vk, vn, vg, vs, ⟨vlp, vll, vlc⟩, ⟨vdp, vdl, vdc⟩⟩, he, hy, hb5⟩
        replace he : e = .returned (.agg #[.int .i64 vk, .int .i64 vn, .int .i64 vg, .string vs, .slice vlp vll vlc, .slice vdp vdl vdc]) := he
        subst he
        have hbr5 : Below wr.heap.size wr w5 := (HBX.out _).trans (hb5.mono (HBX.out _).size)
        have hvk : vk = (plainV (D[j]).2).kind := (rd_iff.1 hy).1.1
        obtain ⟨w6, hw6⟩ : ∃ w6, w5.alloc (.cells #[.int .i64 vk, .int .i64 vn, .int .i64 vg, .string vs, .slice vlp vll vlc, .slice vdp vdl vdc] 25) = w6 := ⟨_, rfl⟩
        have hb56 : Below w5.heap.size w5 w6 := by rw [← hw6]; exact (Below.refl _ _).alloc (Nat.le_refl _) _
        have hv6 : VCell w6 w5.heap.size ⟨vk, vn, vg, vs, ⟨vlp, vll, vlc⟩, ⟨vdp, vdl, vdc⟩⟩ := by rw [← hw6]; exact heap_alloc_new w5 _
        have hB6 : Below w3.heap.size w3 w6 := HB.out.trans ((hbr5.trans (hb56.mono hbr5.size)).mono HB.out.size)
        have hvr6 : VCell w6 (w.heap.size + 1) .nil := Hvr.out.later hB6 (by have := Hsz3.out; omega)
        have HY6 : Hid (Rd w6 (fun k => w3.heap.size ≤ k) ⟨vk, vn, vg, vs, ⟨vlp, vll, vlc⟩, ⟨vdp, vdl, vdc⟩⟩ (plainV (D[j]).2)) := Lib.hid (((hy.mono (S' := fun k => wr.heap.size ≤ k) (fun k hk => Nat.le_trans (HBX.out _).size hk)).carry hb56).mono (fun k hk => Nat.le_trans HB.out.size hk.1))
        obtain ⟨f0, f1, f2, f3, f4, f5⟩ := (show VCell w6.drew w5.heap.size ⟨vk, vn, vg, vs, ⟨vlp, vll, vlc⟩, ⟨vdp, vdl, vdc⟩⟩ from hv6).at
        simp only [Nat.zero_add] at f0 f1 f2 f3 f4 f5
        have Hw6 := Lib.hid hw6
        have HB6 := Lib.hid hB6
        have Hvr6 := Lib.hid hvr6
        have Hvk := Lib.hid hvk
        have Hv6 := Lib.hid hv6
        have Hbr5 := Lib.hid hbr5
        clear hw6 hB6 hvr6 hvk hb56 hbr5 hb5 hy hv6 HBX e0 e1 e2 e3 e4 e5 e6
        go_wp2_with fail
        rw [Hw6.out]
        obtain ⟨r0, r1, r2, r3, r4, r5⟩ := Hvr6.out.at
        simp only [Nat.zero_add, Hv.nil] at r0 r1 r2 r3 r4 r5
        have z0 := Hvr6.out.free 0
        have z1 := Hvr6.out.free 1
        have z2 := Hvr6.out.free 2
        have z3 := Hvr6.out.free 3
        have z4 := Hvr6.out.free 4
        have z5 := Hvr6.out.free 5
        have hne : w5.heap.size ≠ w.heap.size + 1 := by
          have h1 := HB.out.size
          have h2 := Hsz3.out
          have h3 := Hbr5.out.size
          omega
        have hne2 : ¬ w.heap.size + 1 = w5.heap.size := fun h => hne h.symm
        obtain ⟨b, hb⟩ : ∃ b, w.heap.size + 1 = b := ⟨_, rfl⟩
        obtain ⟨wc, hwc⟩ : ∃ wc, (((((w6.setCell ⟨b, 0, none⟩ (.int .i64 vk)).setCell ⟨b, 1, none⟩ (.int .i64 vn)).setCell ⟨b, 2, none⟩ (.int .i64 vg)).setCell ⟨b, 3, none⟩ (.string vs)).setCell ⟨b, 4, none⟩ (.slice vlp vll vlc)).setCell ⟨b, 5, none⟩ (.slice vdp vdl vdc) = wc := ⟨_, rfl⟩
        have hKc : ∀ k, k ≠ b → wc.heap[k]? = w6.heap[k]? := fun k hk => by
          rw [← hwc, setCell_other _ _ _ _ _ hk, setCell_other _ _ _ _ _ hk, setCell_other _ _ _ _ _ hk, setCell_other _ _ _ _ _ hk, setCell_other _ _ _ _ _ hk, setCell_other _ _ _ _ _ hk]
        have hBc : ∀ B, B ≤ b → Below B w6 wc := fun B hB => by
          rw [← hwc]
          exact below_setCell (below_setCell (below_setCell (below_setCell (below_setCell (below_setCell (Below.refl _ _) _ _ _ hB) _ _ _ hB) _ _ _ hB) _ _ _ hB) _ _ _ hB) _ _ _ hB
        have hvc : VCell wc b ⟨vk, vn, vg, vs, ⟨vlp, vll, vlc⟩, ⟨vdp, vdl, vdc⟩⟩ := by
          rw [← hwc]
          have hv : VCell w6 b .nil := by rw [← hb]; exact Hvr6.out
          exact vcell_six hv vk vn vg vs vlp vdp vll vlc vdl vdc
        have gc : wc.cell? ⟨w5.heap.size, 0, none⟩ = some (.int .i64 vk) := (Hv6.out.same (hKc _ (by omega))).at.1
        have HKc := Lib.hid hKc
        have HBc := Lib.hid hBc
        have Hvc := Lib.hid hvc
        have Hbb := Lib.hid hb
        rw [← hwc] at gc
        have Hwc := Lib.hid hwc
        rw [hb] at r0 r1 r2 r3 r4 r5 z0 z1 z2 z3 z4 z5
        clear hKc hBc hvc hwc
        rw [hb]
        clear hb hne hne2
        go_region
        rw [Hwc.out]
        clear gc r0 r1 r2 r3 r4 r5 z0 z1 z2 z3 z4 z5 f0 f1 f2 f3 f4 f5 Hwc
        obtain ⟨k0, k1, k2, k3, k4, k5⟩ := (show VCell wc.drew b ⟨vk, vn, vg, vs, ⟨vlp, vll, vlc⟩, ⟨vdp, vdl, vdc⟩⟩ from Hvc.out).at
        simp only [Nat.zero_add] at k0 k1 k2 k3 k4 k5
        go_wp2_with fail
        have hs3 := Hsz3.out
        have hbb := Hbb.out
        have hRz : Rd wc.drew (fun k => w.heap.size ≤ k) ⟨vk, vn, vg, vs, ⟨vlp, vll, vlc⟩, ⟨vdp, vdl, vdc⟩⟩ (plainV (D[j]).2) := (HY6.out.later (w' := wc.drew) (fun k hk => HKc.out k (by omega))).mono (fun k hk => by omega)
        have hbc : Below w.heap.size w6 wc.drew := (HBc.out w.heap.size (by omega)).drew
        have hb0 : (vk != 0) = some0 (plainV (D[j]).2) := by
          rw [Hvk.out, Bool.eq_iff_iff]; simp [some0]
        exact bodyPost_ret (v := .tuple #[.agg #[.int .i64 vk, .int .i64 vn, .int .i64 vg, .string vs, .slice vlp vll vlc, .slice vdp vdl vdc], .bool (vk != 0)]) (by simp [results, Try.results21, go_sem, k0, k1, k2, k3, k4, k5]) rfl
          ⟨⟨vk, vn, vg, vs, ⟨vlp, vll, vlc⟩, ⟨vdp, vdl, vdc⟩⟩, by rw [Hgv2.out, hb0]; rfl, by rw [Hgv2.out]; exact hRz, Hbw3.out.trans ((HB6.out.mono Hbw3.out.size).trans hbc)⟩
      · have hyz1 : ¬ yy.toList = key.toList := by intro e; apply hyk; rw [ByteArray.toList_eq, ByteArray.toList_eq] at e; rcases yy with ⟨⟨a⟩⟩; rcases key with ⟨⟨b⟩⟩; simpa using e
        have hyz2 : (yy.toList == key.toList) = false := by simpa using hyz1
        have HIn : Aside (firstD key (D.drop (j + 1)) = firstD key D) := by show _ = _; rw [← HI.out, Hst.out, if_neg hyk]
        have HBn := Lib.hid (fun o => HB.out.trans ((hbx o).mono HB.out.size))
        clear HI Hst hyk h4 h6 hbx HBX hky
        go_wp2
        go_roundg (ydl - (j + 1))
        case measure => omega
        case rel => exact ⟨j + 1, by go_num, by omega, by omega, HIn, HBn.out _⟩
    · have hgv2 : gv = (.null, false) := by rw [Hgv.out, ← HI.out, List.drop_eq_nil_of_le (by have := Hdl.out; omega)]; rfl
      have Hgv2 := Lib.hid hgv2
      have Hvr6 := Lib.hid (Hvr.out.later HB.out (by have := Hsz3.out; omega))
      clear HI hgv2
      go_wp2_with (refine VCell.store rfl rfl (.tmp 4) (.tmp 29) rfl (w.heap.size + 1) .nil .nil rfl rfl Hvr6.out ?_; intro w5 HC5 HK5 HB5 HZ5; obtain ⟨k0, k1, k2, k3, k4, k5⟩ := HC5.out.at; dsimp only [Hv.nil] at k0 k1 k2 k3 k4 k5)
      have hs3 := Hsz3.out
      exact bodyPost_ret (v := .tuple #[.agg #[.int .i64 0, .int .i64 0, .int .i64 0, .string ⟨#[]⟩, .slice none 0 0, .slice none 0 0], .bool false]) (by simp [results, Try.results21, go_sem, k0, k1, k2, k3, k4, k5]) rfl
          ⟨.nil, by rw [Hgv2.out]; rfl, by rw [Hgv2.out]; exact Rd.null _ _, Hbw3.out.trans ((HB.out.mono Hbw3.out.size).trans (HB5.out.mono (by omega)))⟩
end Go.Proofs.Ytlmgjhidmipadaa
