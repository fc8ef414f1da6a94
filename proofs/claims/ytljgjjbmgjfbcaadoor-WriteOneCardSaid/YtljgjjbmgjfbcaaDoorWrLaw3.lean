/-
  The law on one text a value.
-/
import Derived.Test.YtljgjjbmgjfbcaaDoorWrEx
import Derived.Test.YtljgjjbmgjfbcaaDoorMLow
import Derived.Test.YtljgjjbmgjfbcaaDoorMEq
namespace Go.Proofs.YtljgjjbmgjfbcaaDoor
open Go.RowKit
set_option maxRecDepth 100000
attribute [local go_sem] Hv.arr

theorem writeW_code (v : Val) : (writeW v).2 = checkV v false 0 := by
  by_cases h : checkV v false 0 = 0
  · rw [writeW_ok h, h]
  · rw [writeW_bad h]
theorem writeW_seen (v : Val) : (bytes (writeW v).1).data.toList.all shownB = true := by
  rw [bytes_data]
  by_cases h : checkV v false 0 = 0
  · rw [writeW_ok h]; exact seen_all (textV_seen _)
  · rw [writeW_bad h]; rfl
theorem writeW_plain {v : Val} (h : checkV v false 0 = 0) : writeW (plainV v) = writeW v := by
  rw [writeW_ok h, writeW_ok (check_plain v false 0 h), plain_plain]
theorem writeW_same {v z : Val} (hv : checkV v false 0 = 0) (hz : checkV z false 0 = 0) : ((bytes (writeW v).1).toList == (bytes (writeW z).1).toList) = equalV (plainV v) (plainV z) := by
  rw [Lib.toList_data, Lib.toList_data, bytes_data, bytes_data, writeW_ok hv, writeW_ok hz, Bool.eq_iff_iff, beq_iff_eq, equalV_iff]
  exact text_iff (ok_plain hv) (ok_plain hz)

set_option maxHeartbeats 8000000 in
theorem one_law (v z : Val) (x y : Hv) (w : World) (S : Nat → Prop) (hlaid : Laid w) (hR : Rd w S x v) (hRz : Rd w S y z) (hS : ∀ k, S k → k < w.heap.size) :
    Calls Tryd.prog 5 #[.agg x.arr, .agg y.arr] w fun e w' => e = .returned (.bool true) ∧ Below w.heap.size w w' := by
  obtain ⟨xk, xn, xg, xs, ⟨lp, ll, lc⟩, ⟨dp, dl, dc⟩⟩ := x
  obtain ⟨zk, zn, zg, zs, ⟨zlp, zll, zlc⟩, ⟨zdp, zdl, zdc⟩⟩ := y
  have Hval := Lib.hid (fun W (hb : Below w.heap.size w W) => written_any W (hlaid.later hb))
  obtain ⟨wa, hwa⟩ : ∃ wa, w.alloc (.cells #[.int .i64 xk, .int .i64 xn, .int .i64 xg, .string xs, .slice lp ll lc, .slice dp dl dc] 25) = wa := ⟨_, rfl⟩
  obtain ⟨w1, hw1⟩ : ∃ w1, wa.alloc (.cells #[.int .i64 zk, .int .i64 zn, .int .i64 zg, .string zs, .slice zlp zll zlc, .slice zdp zdl zdc] 25) = w1 := ⟨_, rfl⟩
  have hsa : wa.heap.size = w.heap.size + 1 := by rw [← hwa]; simp
  have hs1 : w1.heap.size = w.heap.size + 1 + 1 := by rw [← hw1]; simp [hsa]
  have hba : Below w.heap.size w wa := by rw [← hwa]; exact (Below.refl _ w).alloc (Nat.le_refl _) _
  have hbb : Below wa.heap.size wa w1 := by rw [← hw1]; exact (Below.refl _ wa).alloc (Nat.le_refl _) _
  have hb1 : Below w.heap.size w w1 := hba.trans (hbb.mono (by omega))
  have hv1 : VCell w1 w.heap.size ⟨xk, xn, xg, xs, ⟨lp, ll, lc⟩, ⟨dp, dl, dc⟩⟩ := (show VCell wa w.heap.size ⟨xk, xn, xg, xs, ⟨lp, ll, lc⟩, ⟨dp, dl, dc⟩⟩ by rw [← hwa]; exact heap_alloc_new w _).later hbb (by omega)
  have hv2 : VCell w1 (w.heap.size + 1) ⟨zk, zn, zg, zs, ⟨zlp, zll, zlc⟩, ⟨zdp, zdl, zdc⟩⟩ := by rw [← hsa, ← hw1]; exact heap_alloc_new wa _
  have HR := Lib.hid (hR.later (below_old hS hb1))
  have HRz := Lib.hid (hRz.later (below_old hS hb1))
  have HS := Lib.hid (old_later hS hb1)
  have HL := Lib.hid (hlaid.later hb1)
  have Hb1 := Lib.hid hb1
  have Hwa := Lib.hid hwa
  have Hw1 := Lib.hid hw1
  have Hv1 := Lib.hid hv1
  have Hv2 := Lib.hid hv2
  have Hs1 := Lib.hid hs1
  -- the two boxes, and the two values, behind whatever calls
  have Hx : Hid (∀ W, Below w1.heap.size w1 W → VCell W w.heap.size ⟨xk, xn, xg, xs, ⟨lp, ll, lc⟩, ⟨dp, dl, dc⟩⟩) := Lib.hid (fun W hb => Hv1.out.later hb (by omega))
  have Hz : Hid (∀ W, Below w1.heap.size w1 W → VCell W (w.heap.size + 1) ⟨zk, zn, zg, zs, ⟨zlp, zll, zlc⟩, ⟨zdp, zdl, zdc⟩⟩) := Lib.hid (fun W hb => Hv2.out.later hb (by omega))
  have Hzc : Hid (∀ W, Below w1.heap.size w1 W → W.cell? ⟨w.heap.size + 1, 0, none⟩ = some (.int .i64 zk) ∧ W.cell? ⟨w.heap.size + 1, 1, none⟩ = some (.int .i64 zn) ∧ W.cell? ⟨w.heap.size + 1, 2, none⟩ = some (.int .i64 zg) ∧ W.cell? ⟨w.heap.size + 1, 3, none⟩ = some (.string zs) ∧ W.cell? ⟨w.heap.size + 1, 4, none⟩ = some (.slice zlp zll zlc) ∧ W.cell? ⟨w.heap.size + 1, 5, none⟩ = some (.slice zdp zdl zdc)) := Lib.hid (fun W hb => by
    obtain ⟨d0, d1, d2, d3, d4, d5⟩ := (Hz.out W hb).at
    simp only [Nat.zero_add] at d0 d1 d2 d3 d4 d5
    exact ⟨d0, d1, d2, d3, d4, d5⟩)
  have Hend : Hid (∀ W, Below w1.heap.size w1 W → Below w.heap.size w W) := Lib.hid (fun W hb => Hb1.out.trans (hb.mono Hb1.out.size))
  have Hwid : Hid (∀ W W', Below w1.heap.size w1 W → Below W.heap.size W W' → Below w1.heap.size w1 W') := Lib.hid (fun W W' hb hb' => hb.trans (hb'.mono hb.size))
  have H0 : Hid (Below w1.heap.size w1 w1) := Lib.hid (Below.refl _ _)
  clear hlaid hR hRz hS hb1 hwa hw1 hv1 hv2 hba hbb hsa hs1
  have Hfx := Lib.hid (fun W (hb : Below w1.heap.size w1 W) => few_any v ⟨xk, xn, xg, xs, ⟨lp, ll, lc⟩, ⟨dp, dl, dc⟩⟩ W S 500 (HR.out.later (below_old HS.out hb)) (old_later HS.out hb) (by omega))
  have Hfz := Lib.hid (fun W (hb : Below w1.heap.size w1 W) => few_any z ⟨zk, zn, zg, zs, ⟨zlp, zll, zlc⟩, ⟨zdp, zdl, zdc⟩⟩ W S 500 (HRz.out.later (below_old HS.out hb)) (old_later HS.out hb) (by omega))
  show Calls Tryd.prog 5 #[.agg #[.int .i64 xk, .int .i64 xn, .int .i64 xg, .string xs, .slice lp ll lc, .slice dp dl dc], .agg #[.int .i64 zk, .int .i64 zn, .int .i64 zg, .string zs, .slice zlp zll zlc, .slice zdp zdl zdc]] w _
  dsimp only [Hv.arr] at Hfx Hfz
  have h500 : ((500 : Nat) : Int) = 500 := rfl
  rw [h500] at Hfx Hfz
  clear h500
  cases hfx : fewV v 500
  · rw [hfx] at Hfx
    clear hfx
    have B0 := H0
    go_enter Tryd.func5, Tryd.ntmps5
    iterate 20 go_step
    rw [Hwa.out, Hw1.out]
    go_wp2_with (first
      | (refine VCell.load rfl (.tmp 2) rfl w.heap.size _ rfl (Hx.out _ B2.out) ?_)
      | (refine VCell.load rfl (.tmp 3) rfl (w.heap.size + 1) _ rfl (Hz.out _ B2.out) ?_)
      | (refine VCell.load rfl (.tmp 2) rfl w.heap.size _ rfl (Hx.out _ B1.out) ?_)
      | (refine VCell.load rfl (.tmp 3) rfl (w.heap.size + 1) _ rfl (Hz.out _ B1.out) ?_)
      | (refine VCell.load rfl (.tmp 2) rfl w.heap.size _ rfl (Hx.out _ B0.out) ?_)
      | (refine VCell.load rfl (.tmp 3) rfl (w.heap.size + 1) _ rfl (Hz.out _ B0.out) ?_)
      | (go_at_call 6; (with_reducible refine (Hfx.out _ B0.out).mono ?_); rintro e w2 ⟨rfl, hb⟩; have B1 := Lib.hid (Hwid.out _ _ B0.out hb); obtain ⟨m0, m1, m2, m3, m4, m5⟩ := Hzc.out _ B1.out; clear hb)
      | (go_at_call 7; (with_reducible refine (Hval.out _ (Hend.out _ B1.out)).mono ?_); rintro e w3 ⟨rfl, hb⟩; have B2 := Lib.hid (Hwid.out _ _ B1.out hb); clear hb))
    go_ret
    exact ⟨rfl, Hend.out _ B2.out⟩
  rw [hfx] at Hfx
  have hfitx : Fit v 4000 := (few_fit hfx).mono (by omega)
  clear hfx
  cases hfz : fewV z 500
  · rw [hfz] at Hfz
    clear hfz
    have B0 := H0
    go_enter Tryd.func5, Tryd.ntmps5
    iterate 20 go_step
    rw [Hwa.out, Hw1.out]
    go_wp2_with (first
      | (refine VCell.load rfl (.tmp 2) rfl w.heap.size _ rfl (Hx.out _ B3.out) ?_)
      | (refine VCell.load rfl (.tmp 3) rfl (w.heap.size + 1) _ rfl (Hz.out _ B3.out) ?_)
      | (refine VCell.load rfl (.tmp 2) rfl w.heap.size _ rfl (Hx.out _ B2.out) ?_)
      | (refine VCell.load rfl (.tmp 3) rfl (w.heap.size + 1) _ rfl (Hz.out _ B2.out) ?_)
      | (refine VCell.load rfl (.tmp 2) rfl w.heap.size _ rfl (Hx.out _ B1.out) ?_)
      | (refine VCell.load rfl (.tmp 3) rfl (w.heap.size + 1) _ rfl (Hz.out _ B1.out) ?_)
      | (refine VCell.load rfl (.tmp 2) rfl w.heap.size _ rfl (Hx.out _ B0.out) ?_)
      | (refine VCell.load rfl (.tmp 3) rfl (w.heap.size + 1) _ rfl (Hz.out _ B0.out) ?_)
      | (go_at_call 6; (with_reducible refine (Hfx.out _ B0.out).mono ?_); rintro e w2 ⟨rfl, hb⟩; have B1 := Lib.hid (Hwid.out _ _ B0.out hb); obtain ⟨m0, m1, m2, m3, m4, m5⟩ := Hzc.out _ B1.out; clear hb)
      | (go_at_call 6; (with_reducible refine (Hfz.out _ B1.out).mono ?_); rintro e w3 ⟨rfl, hb⟩; have B2 := Lib.hid (Hwid.out _ _ B1.out hb); clear hb)
      | (go_at_call 7; (with_reducible refine (Hval.out _ (Hend.out _ B2.out)).mono ?_); rintro e w4 ⟨rfl, hb⟩; have B3 := Lib.hid (Hwid.out _ _ B2.out hb); clear hb))
    go_ret
    exact ⟨rfl, Hend.out _ B3.out⟩
  rw [hfz] at Hfz
  have hfitz : Fit z 4000 := (few_fit hfz).mono (by omega)
  clear hfz
  have htx := fun W (hb : Below w1.heap.size w1 W) => wtext_is v ⟨xk, xn, xg, xs, ⟨lp, ll, lc⟩, ⟨dp, dl, dc⟩⟩ W S (HL.out.later hb) (HR.out.later (below_old HS.out hb)) (old_later HS.out hb) hfitx
  have htz := fun W (hb : Below w1.heap.size w1 W) => wtext_is z ⟨zk, zn, zg, zs, ⟨zlp, zll, zlc⟩, ⟨zdp, zdl, zdc⟩⟩ W S (HL.out.later hb) (HRz.out.later (below_old HS.out hb)) (old_later HS.out hb) hfitz
  have hcx := fun W (hb : Below w1.heap.size w1 W) => pCheck_any v false ⟨xk, xn, xg, xs, ⟨lp, ll, lc⟩, ⟨dp, dl, dc⟩⟩ W S (HR.out.later (below_old HS.out hb)) (old_later HS.out hb) hfitx
  have hcz := fun W (hb : Below w1.heap.size w1 W) => pCheck_any z false ⟨zk, zn, zg, zs, ⟨zlp, zll, zlc⟩, ⟨zdp, zdl, zdc⟩⟩ W S (HRz.out.later (below_old HS.out hb)) (old_later HS.out hb) hfitz
  have hpx := fun W (hb : Below w1.heap.size w1 W) => pplain_any v ⟨xk, xn, xg, xs, ⟨lp, ll, lc⟩, ⟨dp, dl, dc⟩⟩ W S (HR.out.later (below_old HS.out hb)) (old_later HS.out hb) hfitx
  have hsm := fun W (hb : Below w1.heap.size w1 W) => pSame_any v z ⟨xk, xn, xg, xs, ⟨lp, ll, lc⟩, ⟨dp, dl, dc⟩⟩ ⟨zk, zn, zg, zs, ⟨zlp, zll, zlc⟩, ⟨zdp, zdl, zdc⟩⟩ W S (HR.out.later (below_old HS.out hb)) (HRz.out.later (below_old HS.out hb)) (old_later HS.out hb) hfitx hfitz
  have hptx := fun (q : Hv) (W : World) (S3 : Nat → Prop) (hb : Below w1.heap.size w1 W) (hq : Rd W S3 q (plainV v)) => wtext_is (plainV v) q W (fun k => S3 k ∧ k < W.heap.size) (HL.out.later hb) hq.bound (fun k hk => hk.2) (plain_fit hfitx)
  have hsx := fun W => seen_is (bytes (writeW v).1) W (by rw [bytes_size]; have := writeW_length v hfitx; omega) (writeW_seen v)
  have hsz := fun W => seen_is (bytes (writeW z).1) W (by rw [bytes_size]; have := writeW_length z hfitz; omega) (writeW_seen z)
  dsimp only [Hv.arr] at htx htz hcx hcz hpx hsm
  simp only [writeW_code] at htx htz hptx
  clear hfitx hfitz
  by_cases hv0 : checkV v false 0 = 0
  · by_cases hz0 : checkV z false 0 = 0
    · have hone := writeW_same hv0 hz0
      rw [writeW_plain hv0, check_plain v false 0 hv0] at hptx
      rw [hv0] at htx hcx
      rw [hz0] at htz hcz
      obtain ⟨s, hs⟩ : ∃ s, bytes (writeW v).1 = s := ⟨_, rfl⟩
      obtain ⟨t, ht⟩ : ∃ t, bytes (writeW z).1 = t := ⟨_, rfl⟩
      obtain ⟨r, hr⟩ : ∃ r, equalV (plainV v) (plainV z) = r := ⟨_, rfl⟩
      simp only [hs] at htx hsx hptx hone
      simp only [ht] at htz hsz hone
      simp only [hr] at hsm hone
      have Htx := Lib.hid htx
      have Htz := Lib.hid htz
      have Hcx := Lib.hid hcx
      have Hcz := Lib.hid hcz
      have Hpx := Lib.hid hpx
      have Hsm := Lib.hid hsm
      have Hptx := Lib.hid hptx
      have Hsx := Lib.hid hsx
      have Hsz := Lib.hid hsz
      clear htx htz hcx hcz hpx hsm hptx hsx hsz hs ht hr hv0 hz0
      have B0 := H0
      cases r
      · go_enter Tryd.func5, Tryd.ntmps5
        iterate 20 go_step
        rw [Hwa.out, Hw1.out]
        go_wp2_with (first
          | (refine VCell.load rfl (.tmp 2) rfl w.heap.size _ rfl (Hx.out _ B6.out) ?_)
          | (refine VCell.load rfl (.tmp 3) rfl (w.heap.size + 1) _ rfl (Hz.out _ B6.out) ?_)
          | (refine VCell.load rfl (.tmp 2) rfl w.heap.size _ rfl (Hx.out _ B5.out) ?_)
          | (refine VCell.load rfl (.tmp 3) rfl (w.heap.size + 1) _ rfl (Hz.out _ B5.out) ?_)
          | (refine VCell.load rfl (.tmp 2) rfl w.heap.size _ rfl (Hx.out _ B4.out) ?_)
          | (refine VCell.load rfl (.tmp 3) rfl (w.heap.size + 1) _ rfl (Hz.out _ B4.out) ?_)
          | (refine VCell.load rfl (.tmp 2) rfl w.heap.size _ rfl (Hx.out _ B3.out) ?_)
          | (refine VCell.load rfl (.tmp 3) rfl (w.heap.size + 1) _ rfl (Hz.out _ B3.out) ?_)
          | (refine VCell.load rfl (.tmp 2) rfl w.heap.size _ rfl (Hx.out _ B2.out) ?_)
          | (refine VCell.load rfl (.tmp 3) rfl (w.heap.size + 1) _ rfl (Hz.out _ B2.out) ?_)
          | (refine VCell.load rfl (.tmp 2) rfl w.heap.size _ rfl (Hx.out _ B1.out) ?_)
          | (refine VCell.load rfl (.tmp 3) rfl (w.heap.size + 1) _ rfl (Hz.out _ B1.out) ?_)
          | (refine VCell.load rfl (.tmp 2) rfl w.heap.size _ rfl (Hx.out _ B0.out) ?_)
          | (refine VCell.load rfl (.tmp 3) rfl (w.heap.size + 1) _ rfl (Hz.out _ B0.out) ?_)
          | (go_at_call 6; (with_reducible refine (Hfx.out _ B0.out).mono ?_); rintro e w2 ⟨rfl, hb⟩; have B1 := Lib.hid (Hwid.out _ _ B0.out hb); obtain ⟨m0, m1, m2, m3, m4, m5⟩ := Hzc.out _ B1.out; clear hb)
          | (go_at_call 6; (with_reducible refine (Hfz.out _ B1.out).mono ?_); rintro e w3 ⟨rfl, hb⟩; have B2 := Lib.hid (Hwid.out _ _ B1.out hb); clear hb)
          | (go_at_call 8; (with_reducible refine (Htx.out _ B2.out).mono ?_); rintro e w4 ⟨rfl, hb⟩; have B3 := Lib.hid (Hwid.out _ _ B2.out hb); clear hb)
          | (go_at_call 8; (with_reducible refine (Htz.out _ B3.out).mono ?_); rintro e w5 ⟨rfl, hb⟩; have B4 := Lib.hid (Hwid.out _ _ B3.out hb); clear hb)
          | (go_at_call 14; (with_reducible refine (Hcx.out _ B4.out).mono ?_); rintro e w6 ⟨rfl, hb⟩; have B5 := Lib.hid (Hwid.out _ _ B4.out hb); clear m0 m1 m2 m3 m4 m5; obtain ⟨m0, m1, m2, m3, m4, m5⟩ := Hzc.out _ B5.out; clear hb)
          | (go_at_call 14; (with_reducible refine (Hcz.out _ B5.out).mono ?_); rintro e w7 ⟨rfl, hb⟩; have B6 := Lib.hid (Hwid.out _ _ B5.out hb); clear hb)
          | (go_at_call 15; (with_reducible refine (Hsx.out _).mono ?_); rintro e wy ⟨rfl, rfl⟩)
          | (go_at_call 15; (with_reducible refine (Hsz.out _).mono ?_); rintro e wy ⟨rfl, rfl⟩)
          | (refine VCell.load rfl (.tmp 2) rfl w.heap.size _ rfl (Hx.out _ B7.out) ?_)
          | (refine VCell.load rfl (.tmp 2) rfl w.heap.size _ rfl (Hx.out _ B8.out) ?_)
          | (refine VCell.load rfl (.tmp 3) rfl (w.heap.size + 1) _ rfl (Hz.out _ B7.out) ?_)
          | (refine VCell.load rfl (.tmp 3) rfl (w.heap.size + 1) _ rfl (Hz.out _ B8.out) ?_)
          | (go_at_call 16; (with_reducible refine (Hpx.out _ B6.out).mono ?_); rintro e w8 ⟨⟨qk, qn, qg, qs, ⟨qlp, qll, qlc⟩, ⟨qdp, qdl, qdc⟩⟩, he, hq, hb⟩; replace he : e = .returned (.agg #[.int .i64 qk, .int .i64 qn, .int .i64 qg, .string qs, .slice qlp qll qlc, .slice qdp qdl qdc]) := he; subst he; have B7 := Lib.hid (Hwid.out _ _ B6.out hb); have hpt := Hptx.out _ _ _ B7.out hq; dsimp only [Hv.arr] at hpt; have Hpt := Lib.hid hpt; clear hpt hq hb)
          | (go_at_call 8; (with_reducible refine Hpt.out.mono ?_); rintro e w9 ⟨rfl, hb⟩; have B8 := Lib.hid (Hwid.out _ _ B7.out hb); clear hb)
          | (go_at_call 17; (with_reducible refine (Hsm.out _ B8.out).mono ?_); rintro e w10 ⟨rfl, hb⟩; have B9 := Lib.hid (Hwid.out _ _ B8.out hb); clear hb)
          | (go_at_call 7; (with_reducible refine (Hval.out _ (Hend.out _ B9.out)).mono ?_); rintro e w11 ⟨rfl, hb⟩; have B10 := Lib.hid (Hwid.out _ _ B9.out hb); clear hb))
        go_ret
        exact ⟨rfl, Hend.out _ B10.out⟩
      · go_enter Tryd.func5, Tryd.ntmps5
        iterate 20 go_step
        rw [Hwa.out, Hw1.out]
        go_wp2_with (first
          | (refine VCell.load rfl (.tmp 2) rfl w.heap.size _ rfl (Hx.out _ B6.out) ?_)
          | (refine VCell.load rfl (.tmp 3) rfl (w.heap.size + 1) _ rfl (Hz.out _ B6.out) ?_)
          | (refine VCell.load rfl (.tmp 2) rfl w.heap.size _ rfl (Hx.out _ B5.out) ?_)
          | (refine VCell.load rfl (.tmp 3) rfl (w.heap.size + 1) _ rfl (Hz.out _ B5.out) ?_)
          | (refine VCell.load rfl (.tmp 2) rfl w.heap.size _ rfl (Hx.out _ B4.out) ?_)
          | (refine VCell.load rfl (.tmp 3) rfl (w.heap.size + 1) _ rfl (Hz.out _ B4.out) ?_)
          | (refine VCell.load rfl (.tmp 2) rfl w.heap.size _ rfl (Hx.out _ B3.out) ?_)
          | (refine VCell.load rfl (.tmp 3) rfl (w.heap.size + 1) _ rfl (Hz.out _ B3.out) ?_)
          | (refine VCell.load rfl (.tmp 2) rfl w.heap.size _ rfl (Hx.out _ B2.out) ?_)
          | (refine VCell.load rfl (.tmp 3) rfl (w.heap.size + 1) _ rfl (Hz.out _ B2.out) ?_)
          | (refine VCell.load rfl (.tmp 2) rfl w.heap.size _ rfl (Hx.out _ B1.out) ?_)
          | (refine VCell.load rfl (.tmp 3) rfl (w.heap.size + 1) _ rfl (Hz.out _ B1.out) ?_)
          | (refine VCell.load rfl (.tmp 2) rfl w.heap.size _ rfl (Hx.out _ B0.out) ?_)
          | (refine VCell.load rfl (.tmp 3) rfl (w.heap.size + 1) _ rfl (Hz.out _ B0.out) ?_)
          | (go_at_call 6; (with_reducible refine (Hfx.out _ B0.out).mono ?_); rintro e w2 ⟨rfl, hb⟩; have B1 := Lib.hid (Hwid.out _ _ B0.out hb); obtain ⟨m0, m1, m2, m3, m4, m5⟩ := Hzc.out _ B1.out; clear hb)
          | (go_at_call 6; (with_reducible refine (Hfz.out _ B1.out).mono ?_); rintro e w3 ⟨rfl, hb⟩; have B2 := Lib.hid (Hwid.out _ _ B1.out hb); clear hb)
          | (go_at_call 8; (with_reducible refine (Htx.out _ B2.out).mono ?_); rintro e w4 ⟨rfl, hb⟩; have B3 := Lib.hid (Hwid.out _ _ B2.out hb); clear hb)
          | (go_at_call 8; (with_reducible refine (Htz.out _ B3.out).mono ?_); rintro e w5 ⟨rfl, hb⟩; have B4 := Lib.hid (Hwid.out _ _ B3.out hb); clear hb)
          | (go_at_call 14; (with_reducible refine (Hcx.out _ B4.out).mono ?_); rintro e w6 ⟨rfl, hb⟩; have B5 := Lib.hid (Hwid.out _ _ B4.out hb); clear m0 m1 m2 m3 m4 m5; obtain ⟨m0, m1, m2, m3, m4, m5⟩ := Hzc.out _ B5.out; clear hb)
          | (go_at_call 14; (with_reducible refine (Hcz.out _ B5.out).mono ?_); rintro e w7 ⟨rfl, hb⟩; have B6 := Lib.hid (Hwid.out _ _ B5.out hb); clear hb)
          | (go_at_call 15; (with_reducible refine (Hsx.out _).mono ?_); rintro e wy ⟨rfl, rfl⟩)
          | (go_at_call 15; (with_reducible refine (Hsz.out _).mono ?_); rintro e wy ⟨rfl, rfl⟩)
          | (refine VCell.load rfl (.tmp 2) rfl w.heap.size _ rfl (Hx.out _ B7.out) ?_)
          | (refine VCell.load rfl (.tmp 2) rfl w.heap.size _ rfl (Hx.out _ B8.out) ?_)
          | (refine VCell.load rfl (.tmp 3) rfl (w.heap.size + 1) _ rfl (Hz.out _ B7.out) ?_)
          | (refine VCell.load rfl (.tmp 3) rfl (w.heap.size + 1) _ rfl (Hz.out _ B8.out) ?_)
          | (go_at_call 16; (with_reducible refine (Hpx.out _ B6.out).mono ?_); rintro e w8 ⟨⟨qk, qn, qg, qs, ⟨qlp, qll, qlc⟩, ⟨qdp, qdl, qdc⟩⟩, he, hq, hb⟩; replace he : e = .returned (.agg #[.int .i64 qk, .int .i64 qn, .int .i64 qg, .string qs, .slice qlp qll qlc, .slice qdp qdl qdc]) := he; subst he; have B7 := Lib.hid (Hwid.out _ _ B6.out hb); have hpt := Hptx.out _ _ _ B7.out hq; dsimp only [Hv.arr] at hpt; have Hpt := Lib.hid hpt; clear hpt hq hb)
          | (go_at_call 8; (with_reducible refine Hpt.out.mono ?_); rintro e w9 ⟨rfl, hb⟩; have B8 := Lib.hid (Hwid.out _ _ B7.out hb); clear hb)
          | (go_at_call 17; (with_reducible refine (Hsm.out _ B8.out).mono ?_); rintro e w10 ⟨rfl, hb⟩; have B9 := Lib.hid (Hwid.out _ _ B8.out hb); clear hb)
          | (go_at_call 7; (with_reducible refine (Hval.out _ (Hend.out _ B9.out)).mono ?_); rintro e w11 ⟨rfl, hb⟩; have B10 := Lib.hid (Hwid.out _ _ B9.out hb); clear hb))
        go_ret
        exact ⟨rfl, Hend.out _ B10.out⟩
    · rw [hv0] at htx hcx
      obtain ⟨s, hs⟩ : ∃ s, bytes (writeW v).1 = s := ⟨_, rfl⟩
      simp only [hs] at htx hsx
      clear hs
      have ht : bytes (writeW z).1 = ⟨#[]⟩ := by rw [writeW_bad hz0]; rfl
      obtain ⟨d, hd⟩ : ∃ d, checkV z false 0 = d := ⟨_, rfl⟩
      rw [hd] at hz0
      simp only [ht] at htz hsz
      simp only [hd] at htz hcz
      have g1 : (d != 0) = true := by simpa using hz0
      have g2 : (d == 0) = false := by simpa using hz0
      have g3 : decide (d = 0) = false := decide_eq_false hz0
      clear ht hd
      have Htx := Lib.hid htx
      have Htz := Lib.hid htz
      have Hcx := Lib.hid hcx
      have Hcz := Lib.hid hcz
      have Hsx := Lib.hid hsx
      have Hsz := Lib.hid hsz
      clear htx htz hcx hcz hpx hsm hptx hsx hsz hv0 hz0
      have B0 := H0
      go_enter Tryd.func5, Tryd.ntmps5
      iterate 20 go_step
      rw [Hwa.out, Hw1.out]
      go_wp2_with (first
        | (refine VCell.load rfl (.tmp 2) rfl w.heap.size _ rfl (Hx.out _ B7.out) ?_)
        | (refine VCell.load rfl (.tmp 3) rfl (w.heap.size + 1) _ rfl (Hz.out _ B7.out) ?_)
        | (refine VCell.load rfl (.tmp 2) rfl w.heap.size _ rfl (Hx.out _ B6.out) ?_)
        | (refine VCell.load rfl (.tmp 3) rfl (w.heap.size + 1) _ rfl (Hz.out _ B6.out) ?_)
        | (refine VCell.load rfl (.tmp 2) rfl w.heap.size _ rfl (Hx.out _ B5.out) ?_)
        | (refine VCell.load rfl (.tmp 3) rfl (w.heap.size + 1) _ rfl (Hz.out _ B5.out) ?_)
        | (refine VCell.load rfl (.tmp 2) rfl w.heap.size _ rfl (Hx.out _ B4.out) ?_)
        | (refine VCell.load rfl (.tmp 3) rfl (w.heap.size + 1) _ rfl (Hz.out _ B4.out) ?_)
        | (refine VCell.load rfl (.tmp 2) rfl w.heap.size _ rfl (Hx.out _ B3.out) ?_)
        | (refine VCell.load rfl (.tmp 3) rfl (w.heap.size + 1) _ rfl (Hz.out _ B3.out) ?_)
        | (refine VCell.load rfl (.tmp 2) rfl w.heap.size _ rfl (Hx.out _ B2.out) ?_)
        | (refine VCell.load rfl (.tmp 3) rfl (w.heap.size + 1) _ rfl (Hz.out _ B2.out) ?_)
        | (refine VCell.load rfl (.tmp 2) rfl w.heap.size _ rfl (Hx.out _ B1.out) ?_)
        | (refine VCell.load rfl (.tmp 3) rfl (w.heap.size + 1) _ rfl (Hz.out _ B1.out) ?_)
        | (refine VCell.load rfl (.tmp 2) rfl w.heap.size _ rfl (Hx.out _ B0.out) ?_)
        | (refine VCell.load rfl (.tmp 3) rfl (w.heap.size + 1) _ rfl (Hz.out _ B0.out) ?_)
        | (go_at_call 6; (with_reducible refine (Hfx.out _ B0.out).mono ?_); rintro e w2 ⟨rfl, hb⟩; have B1 := Lib.hid (Hwid.out _ _ B0.out hb); obtain ⟨m0, m1, m2, m3, m4, m5⟩ := Hzc.out _ B1.out; clear hb)
        | (go_at_call 6; (with_reducible refine (Hfz.out _ B1.out).mono ?_); rintro e w3 ⟨rfl, hb⟩; have B2 := Lib.hid (Hwid.out _ _ B1.out hb); clear hb)
        | (go_at_call 8; (with_reducible refine (Htx.out _ B2.out).mono ?_); rintro e w4 ⟨rfl, hb⟩; have B3 := Lib.hid (Hwid.out _ _ B2.out hb); clear hb)
        | (go_at_call 8; (with_reducible refine (Htz.out _ B3.out).mono ?_); rintro e w5 ⟨rfl, hb⟩; have B4 := Lib.hid (Hwid.out _ _ B3.out hb); clear hb)
        | (go_at_call 14; (with_reducible refine (Hcx.out _ B4.out).mono ?_); rintro e w6 ⟨rfl, hb⟩; have B5 := Lib.hid (Hwid.out _ _ B4.out hb); clear m0 m1 m2 m3 m4 m5; obtain ⟨m0, m1, m2, m3, m4, m5⟩ := Hzc.out _ B5.out; clear hb)
        | (go_at_call 14; (with_reducible refine (Hcz.out _ B5.out).mono ?_); rintro e w7 ⟨rfl, hb⟩; have B6 := Lib.hid (Hwid.out _ _ B5.out hb); clear hb)
        | (go_at_call 15; (with_reducible refine (Hsx.out _).mono ?_); rintro e wy ⟨rfl, rfl⟩)
        | (go_at_call 15; (with_reducible refine (Hsz.out _).mono ?_); rintro e wy ⟨rfl, rfl⟩)
        | (go_at_call 7; (with_reducible refine (Hval.out _ (Hend.out _ B6.out)).mono ?_); rintro e w8 ⟨rfl, hb⟩; have B7 := Lib.hid (Hwid.out _ _ B6.out hb); clear hb))
      go_ret
      exact ⟨rfl, Hend.out _ B7.out⟩
  · by_cases hz0 : checkV z false 0 = 0
    · have hs : bytes (writeW v).1 = ⟨#[]⟩ := by rw [writeW_bad hv0]; rfl
      obtain ⟨c, hc⟩ : ∃ c, checkV v false 0 = c := ⟨_, rfl⟩
      rw [hc] at hv0
      simp only [hs] at htx hsx
      simp only [hc] at htx hcx
      have f1 : (c != 0) = true := by simpa using hv0
      have f2 : (c == 0) = false := by simpa using hv0
      have f3 : decide (c = 0) = false := decide_eq_false hv0
      clear hs hc
      rw [hz0] at htz hcz
      obtain ⟨t, ht⟩ : ∃ t, bytes (writeW z).1 = t := ⟨_, rfl⟩
      simp only [ht] at htz hsz
      clear ht
      have Htx := Lib.hid htx
      have Htz := Lib.hid htz
      have Hcx := Lib.hid hcx
      have Hcz := Lib.hid hcz
      have Hsx := Lib.hid hsx
      have Hsz := Lib.hid hsz
      clear htx htz hcx hcz hpx hsm hptx hsx hsz hv0 hz0
      have B0 := H0
      go_enter Tryd.func5, Tryd.ntmps5
      iterate 20 go_step
      rw [Hwa.out, Hw1.out]
      go_wp2_with (first
        | (refine VCell.load rfl (.tmp 2) rfl w.heap.size _ rfl (Hx.out _ B7.out) ?_)
        | (refine VCell.load rfl (.tmp 3) rfl (w.heap.size + 1) _ rfl (Hz.out _ B7.out) ?_)
        | (refine VCell.load rfl (.tmp 2) rfl w.heap.size _ rfl (Hx.out _ B6.out) ?_)
        | (refine VCell.load rfl (.tmp 3) rfl (w.heap.size + 1) _ rfl (Hz.out _ B6.out) ?_)
        | (refine VCell.load rfl (.tmp 2) rfl w.heap.size _ rfl (Hx.out _ B5.out) ?_)
        | (refine VCell.load rfl (.tmp 3) rfl (w.heap.size + 1) _ rfl (Hz.out _ B5.out) ?_)
        | (refine VCell.load rfl (.tmp 2) rfl w.heap.size _ rfl (Hx.out _ B4.out) ?_)
        | (refine VCell.load rfl (.tmp 3) rfl (w.heap.size + 1) _ rfl (Hz.out _ B4.out) ?_)
        | (refine VCell.load rfl (.tmp 2) rfl w.heap.size _ rfl (Hx.out _ B3.out) ?_)
        | (refine VCell.load rfl (.tmp 3) rfl (w.heap.size + 1) _ rfl (Hz.out _ B3.out) ?_)
        | (refine VCell.load rfl (.tmp 2) rfl w.heap.size _ rfl (Hx.out _ B2.out) ?_)
        | (refine VCell.load rfl (.tmp 3) rfl (w.heap.size + 1) _ rfl (Hz.out _ B2.out) ?_)
        | (refine VCell.load rfl (.tmp 2) rfl w.heap.size _ rfl (Hx.out _ B1.out) ?_)
        | (refine VCell.load rfl (.tmp 3) rfl (w.heap.size + 1) _ rfl (Hz.out _ B1.out) ?_)
        | (refine VCell.load rfl (.tmp 2) rfl w.heap.size _ rfl (Hx.out _ B0.out) ?_)
        | (refine VCell.load rfl (.tmp 3) rfl (w.heap.size + 1) _ rfl (Hz.out _ B0.out) ?_)
        | (go_at_call 6; (with_reducible refine (Hfx.out _ B0.out).mono ?_); rintro e w2 ⟨rfl, hb⟩; have B1 := Lib.hid (Hwid.out _ _ B0.out hb); obtain ⟨m0, m1, m2, m3, m4, m5⟩ := Hzc.out _ B1.out; clear hb)
        | (go_at_call 6; (with_reducible refine (Hfz.out _ B1.out).mono ?_); rintro e w3 ⟨rfl, hb⟩; have B2 := Lib.hid (Hwid.out _ _ B1.out hb); clear hb)
        | (go_at_call 8; (with_reducible refine (Htx.out _ B2.out).mono ?_); rintro e w4 ⟨rfl, hb⟩; have B3 := Lib.hid (Hwid.out _ _ B2.out hb); clear hb)
        | (go_at_call 8; (with_reducible refine (Htz.out _ B3.out).mono ?_); rintro e w5 ⟨rfl, hb⟩; have B4 := Lib.hid (Hwid.out _ _ B3.out hb); clear hb)
        | (go_at_call 14; (with_reducible refine (Hcx.out _ B4.out).mono ?_); rintro e w6 ⟨rfl, hb⟩; have B5 := Lib.hid (Hwid.out _ _ B4.out hb); clear m0 m1 m2 m3 m4 m5; obtain ⟨m0, m1, m2, m3, m4, m5⟩ := Hzc.out _ B5.out; clear hb)
        | (go_at_call 14; (with_reducible refine (Hcz.out _ B5.out).mono ?_); rintro e w7 ⟨rfl, hb⟩; have B6 := Lib.hid (Hwid.out _ _ B5.out hb); clear hb)
        | (go_at_call 15; (with_reducible refine (Hsx.out _).mono ?_); rintro e wy ⟨rfl, rfl⟩)
        | (go_at_call 15; (with_reducible refine (Hsz.out _).mono ?_); rintro e wy ⟨rfl, rfl⟩)
        | (go_at_call 7; (with_reducible refine (Hval.out _ (Hend.out _ B6.out)).mono ?_); rintro e w8 ⟨rfl, hb⟩; have B7 := Lib.hid (Hwid.out _ _ B6.out hb); clear hb))
      go_ret
      exact ⟨rfl, Hend.out _ B7.out⟩
    · have hs : bytes (writeW v).1 = ⟨#[]⟩ := by rw [writeW_bad hv0]; rfl
      obtain ⟨c, hc⟩ : ∃ c, checkV v false 0 = c := ⟨_, rfl⟩
      rw [hc] at hv0
      simp only [hs] at htx hsx
      simp only [hc] at htx hcx
      have f1 : (c != 0) = true := by simpa using hv0
      have f2 : (c == 0) = false := by simpa using hv0
      have f3 : decide (c = 0) = false := decide_eq_false hv0
      clear hs hc
      have ht : bytes (writeW z).1 = ⟨#[]⟩ := by rw [writeW_bad hz0]; rfl
      obtain ⟨d, hd⟩ : ∃ d, checkV z false 0 = d := ⟨_, rfl⟩
      rw [hd] at hz0
      simp only [ht] at htz hsz
      simp only [hd] at htz hcz
      have g1 : (d != 0) = true := by simpa using hz0
      have g2 : (d == 0) = false := by simpa using hz0
      have g3 : decide (d = 0) = false := decide_eq_false hz0
      clear ht hd
      have Htx := Lib.hid htx
      have Htz := Lib.hid htz
      have Hcx := Lib.hid hcx
      have Hcz := Lib.hid hcz
      have Hsx := Lib.hid hsx
      have Hsz := Lib.hid hsz
      clear htx htz hcx hcz hpx hsm hptx hsx hsz hv0 hz0
      have B0 := H0
      go_enter Tryd.func5, Tryd.ntmps5
      iterate 20 go_step
      rw [Hwa.out, Hw1.out]
      go_wp2_with (first
        | (refine VCell.load rfl (.tmp 2) rfl w.heap.size _ rfl (Hx.out _ B7.out) ?_)
        | (refine VCell.load rfl (.tmp 3) rfl (w.heap.size + 1) _ rfl (Hz.out _ B7.out) ?_)
        | (refine VCell.load rfl (.tmp 2) rfl w.heap.size _ rfl (Hx.out _ B6.out) ?_)
        | (refine VCell.load rfl (.tmp 3) rfl (w.heap.size + 1) _ rfl (Hz.out _ B6.out) ?_)
        | (refine VCell.load rfl (.tmp 2) rfl w.heap.size _ rfl (Hx.out _ B5.out) ?_)
        | (refine VCell.load rfl (.tmp 3) rfl (w.heap.size + 1) _ rfl (Hz.out _ B5.out) ?_)
        | (refine VCell.load rfl (.tmp 2) rfl w.heap.size _ rfl (Hx.out _ B4.out) ?_)
        | (refine VCell.load rfl (.tmp 3) rfl (w.heap.size + 1) _ rfl (Hz.out _ B4.out) ?_)
        | (refine VCell.load rfl (.tmp 2) rfl w.heap.size _ rfl (Hx.out _ B3.out) ?_)
        | (refine VCell.load rfl (.tmp 3) rfl (w.heap.size + 1) _ rfl (Hz.out _ B3.out) ?_)
        | (refine VCell.load rfl (.tmp 2) rfl w.heap.size _ rfl (Hx.out _ B2.out) ?_)
        | (refine VCell.load rfl (.tmp 3) rfl (w.heap.size + 1) _ rfl (Hz.out _ B2.out) ?_)
        | (refine VCell.load rfl (.tmp 2) rfl w.heap.size _ rfl (Hx.out _ B1.out) ?_)
        | (refine VCell.load rfl (.tmp 3) rfl (w.heap.size + 1) _ rfl (Hz.out _ B1.out) ?_)
        | (refine VCell.load rfl (.tmp 2) rfl w.heap.size _ rfl (Hx.out _ B0.out) ?_)
        | (refine VCell.load rfl (.tmp 3) rfl (w.heap.size + 1) _ rfl (Hz.out _ B0.out) ?_)
        | (go_at_call 6; (with_reducible refine (Hfx.out _ B0.out).mono ?_); rintro e w2 ⟨rfl, hb⟩; have B1 := Lib.hid (Hwid.out _ _ B0.out hb); obtain ⟨m0, m1, m2, m3, m4, m5⟩ := Hzc.out _ B1.out; clear hb)
        | (go_at_call 6; (with_reducible refine (Hfz.out _ B1.out).mono ?_); rintro e w3 ⟨rfl, hb⟩; have B2 := Lib.hid (Hwid.out _ _ B1.out hb); clear hb)
        | (go_at_call 8; (with_reducible refine (Htx.out _ B2.out).mono ?_); rintro e w4 ⟨rfl, hb⟩; have B3 := Lib.hid (Hwid.out _ _ B2.out hb); clear hb)
        | (go_at_call 8; (with_reducible refine (Htz.out _ B3.out).mono ?_); rintro e w5 ⟨rfl, hb⟩; have B4 := Lib.hid (Hwid.out _ _ B3.out hb); clear hb)
        | (go_at_call 14; (with_reducible refine (Hcx.out _ B4.out).mono ?_); rintro e w6 ⟨rfl, hb⟩; have B5 := Lib.hid (Hwid.out _ _ B4.out hb); clear m0 m1 m2 m3 m4 m5; obtain ⟨m0, m1, m2, m3, m4, m5⟩ := Hzc.out _ B5.out; clear hb)
        | (go_at_call 14; (with_reducible refine (Hcz.out _ B5.out).mono ?_); rintro e w7 ⟨rfl, hb⟩; have B6 := Lib.hid (Hwid.out _ _ B5.out hb); clear hb)
        | (go_at_call 15; (with_reducible refine (Hsx.out _).mono ?_); rintro e wy ⟨rfl, rfl⟩)
        | (go_at_call 15; (with_reducible refine (Hsz.out _).mono ?_); rintro e wy ⟨rfl, rfl⟩)
        | (go_at_call 7; (with_reducible refine (Hval.out _ (Hend.out _ B6.out)).mono ?_); rintro e w8 ⟨rfl, hb⟩; have B7 := Lib.hid (Hwid.out _ _ B6.out hb); clear hb))
      go_ret
      exact ⟨rfl, Hend.out _ B7.out⟩
end Go.Proofs.YtljgjjbmgjfbcaaDoor
