/-
  The document's answer: what stands under a key.
-/
import Derived.Test.YtlmgjhidmipadaaHRPl
import Derived.Test.YtlmgjhidmipadaaHPlain
namespace Go.Proofs.Ytlmgjhidmipadaa
open Go.RowKit
set_option maxRecDepth 100000

set_option maxHeartbeats 8000000 in
theorem rGet_any (v : Val) (key : ByteArray) (x : Hv) (w : World) (S : Nat → Prop) (hR : Rd w S x v) (hS : ∀ k, S k → k < w.heap.size) (hfit : Fit v 4000) :
    Calls Try.prog 22 #[.agg x.arr, .string key] w fun e w' => ∃ y : Hv, e = .returned (.tuple #[.agg y.arr, .bool (getV v key).2]) ∧ Rd w' (fun k => w.heap.size ≤ k) y (getV v key).1 ∧ Below w.heap.size w w' := by
  rw [getV_find]
  have hlen : (plainV v).d.length ≤ 4000 := by have h1 := sizeD_length (plainV v).d; have h2 := (plain_fit hfit).1; rw [sizeV_eq] at h2; omega
  obtain ⟨p, hp⟩ : ∃ p, plainV v = p := ⟨_, rfl⟩
  rw [hp] at hlen ⊢
  obtain ⟨k, n, g, s, ⟨lp, ll, lc⟩, ⟨dp, dl, dc⟩⟩ := x
  obtain ⟨w1, hw1⟩ : ∃ w1, w.alloc (.cells #[.int .i64 k, .int .i64 n, .int .i64 g, .string s, .slice lp ll lc, .slice dp dl dc] 25) = w1 := ⟨_, rfl⟩
  obtain ⟨w2, hw2⟩ : ∃ w2, w1.alloc (.cells #[.int .i64 0, .int .i64 0, .int .i64 0, .string ⟨#[]⟩, .slice none 0 0, .slice none 0 0] 25) = w2 := ⟨_, rfl⟩
  have hs1 : w1.heap.size = w.heap.size + 1 := by rw [← hw1]; simp
  have hs2 : w2.heap.size = w.heap.size + 1 + 1 := by rw [← hw2]; simp [hs1]
  have hb1 : Below w.heap.size w w1 := by rw [← hw1]; exact (Below.refl _ w).alloc (Nat.le_refl _) _
  have hb2 : Below w1.heap.size w1 w2 := by rw [← hw2]; exact (Below.refl _ w1).alloc (Nat.le_refl _) _
  have hb : Below w.heap.size w w2 := hb1.trans (hb2.mono (by omega))
  have hv1 : VCell w2 w.heap.size ⟨k, n, g, s, ⟨lp, ll, lc⟩, ⟨dp, dl, dc⟩⟩ := (show VCell w1 w.heap.size ⟨k, n, g, s, ⟨lp, ll, lc⟩, ⟨dp, dl, dc⟩⟩ by rw [← hw1]; exact heap_alloc_new w _).later hb2 (by omega)
  have hv2 : VCell w2 (w.heap.size + 1) .nil := by rw [← hs1, ← hw2]; exact heap_alloc_new w1 _
  have hc := rplain_any v _ w2 S (hR.later (below_old hS hb)) (old_later hS hb) hfit
  rw [hp] at hc
  have Hc := Lib.hid hc
  have Hb := Lib.hid hb
  have Hv1 := Lib.hid hv1
  have Hv2 := Lib.hid hv2
  have Hw1 := Lib.hid hw1
  have Hw2 := Lib.hid hw2
  have Hs2 := Lib.hid hs2
  clear hw1 hw2 hs1 hs2 hb1 hb2 hb hv1 hv2 hR hS hfit hc hp
  show Calls Try.prog 22 #[.agg #[.int .i64 k, .int .i64 n, .int .i64 g, .string s, .slice lp ll lc, .slice dp dl dc], .string key] w _
  go_enter Try.func22, Try.ntmps22
  iterate 12 go_step
  rw [Hw1.out, Hw2.out]
  go_wp2_with (refine VCell.load rfl (.tmp 2) rfl w.heap.size _ rfl Hv1.out ?_)
  refine Hc.out.mono ?_
  rintro e w3 ⟨⟨yk, yn, yg, ys, ⟨ylp, yll, ylc⟩, ⟨ydp, ydl, ydc⟩⟩, he, hy, hb3⟩
  replace he : e = .returned (.agg #[.int .i64 yk, .int .i64 yn, .int .i64 yg, .string ys, .slice ylp yll ylc, .slice ydp ydl ydc]) := he
  subst he
  have HY0 : Hid (RdD w3 (fun k => w2.heap.size ≤ k) ⟨ydp, ydl, ydc⟩ p.d) := Lib.hid (rd_iff.1 hy).2.2
  have Hb3 := Lib.hid hb3
  have Hv3 := Lib.hid (Hv2.out.later hb3 (by rw [Hs2.out]; omega))
  clear hb3 hy
  go_wp2_with (refine VCell.store rfl rfl (.tmp 6) (.tmp 9) rfl w3.heap.size .nil ⟨yk, yn, yg, ys, ⟨ylp, yll, ylc⟩, ⟨ydp, ydl, ydc⟩⟩ rfl rfl (heap_alloc_new w3 _) ?_; intro w4 HC4 HK4 HB4 HZ4)
  have hsz3 : w.heap.size + 1 + 1 ≤ w3.heap.size := by rw [← Hs2.out]; exact Hb3.out.size
  have HD4 : Hid (RdD w4 (fun k => w2.heap.size ≤ k ∧ k < w3.heap.size) ⟨ydp, ydl, ydc⟩ p.d) := Lib.hid (HY0.out.bound.later (fun k hk => (HK4.out k (Nat.ne_of_lt hk.2)).trans (push_old rfl hk.2)))
  have Hv4 : Hid (VCell w4 (w.heap.size + 1) .nil) := Lib.hid (Hv3.out.same ((HK4.out _ (by omega)).trans (push_old rfl (by omega))))
  have Hb4 : Hid (Below w.heap.size w w4) := Lib.hid (Hb.out.trans ((Hb3.out.trans (((Below.refl _ w3).alloc (Nat.le_refl _) _).mono Hb3.out.size |>.trans (HB4.out.mono Hb3.out.size))).mono Hb.out.size))
  have c5 : w4.cell? ⟨w3.heap.size, 5, none⟩ = some (.slice ydp ydl ydc) := HC4.out.at.2.2.2.2.2
  obtain ⟨hdl, hdm⟩ := HD4.out.len_le
  dsimp only at hdl hdm
  unfold maxLen at hdm
  have Hdl := Lib.hid hdl
  have Hs3 := Lib.hid hsz3
  clear hdl HC4 HK4 HB4 HZ4 HY0 Hb3 Hv3 Hb Hv1 Hv2 Hw1 Hw2 Hc hsz3
  go_loopg [7] ydl (fun f s7 wr => ∃ i : Nat, s7 = .int .i64 i ∧ i ≤ ydl ∧ ydl ≤ f + i ∧ wr = w4 ∧ Aside (firstD key (p.d.drop i) = firstD key p.d))
  case atStart => exact ⟨0, rfl, Nat.zero_le _, Nat.le_refl _, by first | rfl | assumption, rfl⟩
  case round =>
    obtain ⟨j, rfl, hj, hf, rfl, HI⟩ := hrel
    by_cases hjl : j < ydl
    · obtain ⟨lb, lo, ⟨yy, ⟨zk, zn, zg, zs, ⟨zlp, zll, zlc⟩, ⟨zdp, zdl, zdc⟩⟩⟩, hiv, h3, h4, ⟨e0, h5⟩, hky, h6⟩ := HD4.out.at hjl
      subst h3
      obtain ⟨e1, e2, e3, e4, e5, e6⟩ := h5
      dsimp only at e0 e1 e2 e3 e4 e5 e6 h6 hky
      have Hst : Hid (firstD key (p.d.drop j) = if yy = key then some (p.d[j]).2 else firstD key (p.d.drop (j + 1))) := Lib.hid (by
        rw [drop_cons hiv, hky]
        generalize p.d[j] = q
        obtain ⟨a, b⟩ := q
        rw [firstD])
      have H6 := Lib.hid h6
      clear h4 h6 hky
      by_cases hyk : yy = key
      · subst hyk
        have hfd : Hid (firstD yy p.d = some (p.d[j]).2) := Lib.hid (by rw [← HI.out, Hst.out, if_pos rfl])
        clear HI Hst
        go_wp2_with (refine VCell.store rfl rfl (.tmp 4) (.tmp 30) rfl (w.heap.size + 1) .nil ⟨zk, zn, zg, zs, ⟨zlp, zll, zlc⟩, ⟨zdp, zdl, zdc⟩⟩ rfl rfl Hv4.out ?_; intro w5 HC5 HK5 HB5 HZ5; obtain ⟨k0, k1, k2, k3, k4, k5⟩ := HC5.out.at; dsimp only at k0 k1 k2 k3 k4 k5)
        have hs3 := Hs3.out
        have hs2 := Hs2.out
        have hRR := (H6.out.later (w' := w5) (fun k hk => HK5.out k (by have := hk.1; omega))).mono (S' := fun k => w.heap.size ≤ k) (fun k hk => by have := hk.1; omega)
        exact bodyPost_ret (v := .tuple #[.agg #[.int .i64 zk, .int .i64 zn, .int .i64 zg, .string zs, .slice zlp zll zlc, .slice zdp zdl zdc], .bool true]) (by simp [results, Try.results22, go_sem, k0, k1, k2, k3, k4, k5]) rfl
          ⟨⟨zk, zn, zg, zs, ⟨zlp, zll, zlc⟩, ⟨zdp, zdl, zdc⟩⟩, by unfold findV; rw [hfd.out]; rfl, by unfold findV; rw [hfd.out]; exact hRR, Hb4.out.trans (HB5.out.mono (by omega))⟩
      · have hyz1 : ¬ yy.toList = key.toList := by intro e; apply hyk; rw [ByteArray.toList_eq, ByteArray.toList_eq] at e; rcases yy with ⟨⟨a⟩⟩; rcases key with ⟨⟨b⟩⟩; simpa using e
        have hyz2 : (yy.toList == key.toList) = false := by simpa using hyz1
        have HIn : Aside (firstD key (p.d.drop (j + 1)) = firstD key p.d) := by show _ = _; rw [← HI.out, Hst.out, if_neg hyk]
        clear HI Hst hyk H6
        go_wp2
        go_roundg (ydl - (j + 1))
        case measure => omega
        case rel => exact ⟨j + 1, by go_num, by omega, by omega, rfl, HIn⟩
    · have hfd : Hid (firstD key p.d = none) := Lib.hid (by rw [← HI.out, List.drop_eq_nil_of_le (by have := Hdl.out; omega)]; rfl)
      clear HI
      go_wp2_with (refine VCell.store rfl rfl (.tmp 4) (.tmp 31) rfl (w.heap.size + 1) .nil .nil rfl rfl Hv4.out ?_; intro w5 HC5 HK5 HB5 HZ5; obtain ⟨k0, k1, k2, k3, k4, k5⟩ := HC5.out.at; dsimp only [Hv.nil] at k0 k1 k2 k3 k4 k5)
      have hs3 := Hs3.out
      exact bodyPost_ret (v := .tuple #[.agg #[.int .i64 0, .int .i64 0, .int .i64 0, .string ⟨#[]⟩, .slice none 0 0, .slice none 0 0], .bool false]) (by simp [results, Try.results22, go_sem, k0, k1, k2, k3, k4, k5]) rfl
          ⟨.nil, by unfold findV; rw [hfd.out]; rfl, by unfold findV; rw [hfd.out]; exact Rd.null _ _, Hb4.out.trans (HB5.out.mono (by omega))⟩
end Go.Proofs.Ytlmgjhidmipadaa
