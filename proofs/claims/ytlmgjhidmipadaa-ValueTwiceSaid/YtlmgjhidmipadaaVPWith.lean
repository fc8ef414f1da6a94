/-
  The program's: a value with another one under a key.
-/
import Derived.Test.YtlmgjhidmipadaaVPPlain
import Derived.Test.YtlmgjhidmipadaaVRWith
namespace Go.Proofs.Ytlmgjhidmipadaa
open Go.RowKit
set_option maxRecDepth 100000
attribute [local go_sem] Hv.arr

/-- A row of the call's own whose pairs are read. -/
theorem OwnP.readS {w : World} {B : Nat} {p : Option Addr} {cap : Nat} {xs : List Hp} {vs : Prs} {S : Nat → Prop} (h : OwnP w B p cap xs) (hl : xs.length = vs.length) (hS : ∀ k, B ≤ k → S k)
    (hr : ∀ i (hi : i < xs.length) (hi' : i < vs.length), (xs[i]).key = (vs[i]).1 ∧ Rd w S (xs[i]).v (vs[i]).2) : RdD w S ⟨p, xs.length, cap⟩ vs := by
  obtain ⟨h1, g, h2, h3⟩ := h.form
  refine ⟨hl, h1, g, 0, fun i => (xs[i]?).getD ⟨⟨#[]⟩, .nil⟩, fun hn => ⟨(h2 hn).1, hS _ (h2 hn).2⟩, fun i hi => ?_, fun i hi => ?_⟩
  · have hi' : i < xs.length := by rw [hl]; exact hi
    dsimp only
    rw [List.getElem?_eq_getElem hi']
    exact h3 i hi'
  · have hi' : i < xs.length := by rw [hl]; exact hi
    dsimp only
    rw [List.getElem?_eq_getElem hi']
    exact hr i hi' hi
theorem with_rowsS {w3 w5 : World} {S : Nat → Prop} {B : Nat} {p : Option Addr} {cap : Nat} {key : ByteArray} {y : Hv} {u v : Val} {ys : List Hp} (hO : OwnP w5 B p cap ([⟨key, y⟩] ++ ys)) (hyd : ys.length = v.d.length)
    (hold : ∀ k, S k → w5.heap[k]? = w3.heap[k]?)
    (hyr : ∀ i (hi : i < ys.length) (hi' : i < v.d.length), (ys[i]).key = (v.d[i]).1 ∧ Rd w3 S (ys[i]).v (v.d[i]).2) (hu : Rd w3 S y u) : RdD w5 (fun k => S k ∨ B ≤ k) ⟨p, 1 + ys.length, cap⟩ ((key, u) :: v.d) := by
  have h := hO.readS (vs := (key, u) :: v.d) (S := fun k => S k ∨ B ≤ k) (by simp [hyd]) (fun k hk => .inr hk) (fun i hi hi' => by
    cases i with
    | zero => exact ⟨rfl, (hu.later hold).mono (fun k hk => .inl hk)⟩
    | succ i =>
      have h2 := hyr i (by simp at hi; omega) (by simp at hi'; omega)
      exact ⟨h2.1, (h2.2.later hold).mono (fun k hk => .inl hk)⟩)
  rw [List.length_append] at h
  exact h

set_option maxHeartbeats 8000000 in
theorem pWith_any (v u : Val) (key : ByteArray) (x y : Hv) (w : World) (S : Nat → Prop) (hR : Rd w S x v) (hRu : Rd w S y u) (hS : ∀ k, S k → k < w.heap.size) (hfit : Fit v 2000) (hfitu : Fit u 2000) (hkey : key.size ≤ 3000) :
    Calls Try.prog 23 #[.agg x.arr, .string key, .agg y.arr] w fun e w' => ∃ z : Hv, e = .returned (.agg z.arr) ∧ Rd w' (fun k => w.heap.size ≤ k) z (withV v key u) ∧ Below w.heap.size w w' := by
  obtain ⟨w1, hw1⟩ : ∃ w1, w.alloc (.cells x.arr 25) = w1 := ⟨_, rfl⟩
  obtain ⟨w2, hw2⟩ : ∃ w2, w1.alloc (.cells y.arr 25) = w2 := ⟨_, rfl⟩
  obtain ⟨w3, hw3⟩ : ∃ w3, w2.alloc (.cells Hv.nil.arr 25) = w3 := ⟨_, rfl⟩
  obtain ⟨hs3, hb3, hv1, hv2, hv3⟩ := boxes3 hw1 hw2 hw3
  have Hw1 := Lib.hid hw1
  have Hw2 := Lib.hid hw2
  have Hw3 := Lib.hid hw3
  have Hs3 := Lib.hid hs3
  have Hb3 := Lib.hid hb3
  have Hv1 := Lib.hid hv1
  have Hv2 := Lib.hid hv2
  have Hv3 := Lib.hid hv3
  have HR := Lib.hid (hR.later (below_old hS hb3))
  have HRu := Lib.hid (hRu.later (below_old hS hb3))
  have HS0 := Lib.hid hS
  have HS := Lib.hid (old_later hS hb3)
  have hwv : withV v key u = plainV (.mk v.kind v.n v.g v.s v.l ((key, u) :: v.d)) := rfl
  rw [hwv]
  have Hft := Lib.hid (put_fit (key := key) hfit hfitu hkey v.kind v.n v.g v.s v.l (.inl rfl) rfl)
  have Hkk := Lib.hid (rd_iff.1 hR).1
  have HLL := Lib.hid (rd_iff.1 HR.out).2.1
  have hfv := hfit.1
  rw [sizeV_eq] at hfv
  have hdl := sizeD_length v.d
  obtain ⟨k, n, g, s, ⟨lp, ll, lc⟩, ⟨dp, dl, dc⟩⟩ := x
  obtain ⟨k', n', g', s', ⟨lp', ll', lc'⟩, ⟨dp', dl', dc'⟩⟩ := y
  obtain ⟨ys, hyl, hyd, hyc, hyr⟩ := (rd_iff.1 HR.out).2.2.list
  subst hyl
  have hys : ys.length ≤ 2000 := by omega
  have Hyd := Lib.hid hyd
  have Hyr := Lib.hid hyr
  have Hyc4 : Hid (∀ o : Obj, 0 < ys.length → ∃ b off, dp = some ⟨b, off, none⟩ ∧ ∀ i (hi : i < ys.length), HpAt (w3.alloc o) b (off + i * 7) (ys[i])) := Lib.hid (fun o h => by
    obtain ⟨b, off, e, hb, hc⟩ := hyc h
    exact ⟨b, off, e, fun i hi => (hc i hi).same (heap_alloc_old _ _ (HS.out _ hb))⟩)
  clear hw1 hw2 hw3 hs3 hb3 hv1 hv2 hv3 hR hRu hS hfit hfitu hkey hfv hdl hyd hyr hyc hwv
  dsimp only [Hv.arr, Hv.nil] at Hw1 Hw2 Hw3
  have c5 : w3.cell? ⟨w.heap.size, 5, none⟩ = some (.slice dp ys.length dc) := Hv1.out.at.2.2.2.2.2
  have hb4 : ∀ o : Obj, Below w3.heap.size w3 (w3.alloc o) := fun o => (Below.refl _ w3).alloc (Nat.le_refl _) _
  have Hb4 := Lib.hid hb4
  have hlt : w.heap.size < w3.heap.size := by have := Hs3.out; omega
  clear hb4
  show Calls Try.prog 23 #[.agg #[.int .i64 k, .int .i64 n, .int .i64 g, .string s, .slice lp ll lc, .slice dp ys.length dc], .string key, .agg #[.int .i64 k', .int .i64 n', .int .i64 g', .string s', .slice lp' ll' lc', .slice dp' dl' dc']] w _
  go_enter Try.func23, Try.ntmps23
  iterate 12 go_step
  rw [Hw1.out, Hw2.out, Hw3.out]
  go_wp2_with (first
    | (refine VCell.load rfl (.tmp 5) rfl (w.heap.size + 1) _ rfl Hv2.out ?_)
    | (at_builtin; refine wpList_append_Ps rfl (.tmp 10) (.tmp 12) rfl w3.heap.size _ _ [⟨key, ⟨k', n', g', s', ⟨lp', ll', lc'⟩, ⟨dp', dl', dc'⟩⟩⟩] rfl (OwnP.one (Nat.le_refl _) ⟨key, ⟨k', n', g', s', ⟨lp', ll', lc'⟩, ⟨dp', dl', dc'⟩⟩⟩) _ dc ys rfl (Hyc4.out _) (by show 1 ≤ _; omega) (by omega) w3 (Hb4.out _) (by simp) ?_; intro p' cap' w5 HO5 HB5 HK5 HZ5; have hv5 := Hv1.out.later HB5.out hlt; have x5 : w5.cell? ⟨w.heap.size, 5, none⟩ = some (.slice dp ys.length dc) := hv5.at.2.2.2.2.2; have z5 : w5.frozen? ⟨w.heap.size, 5, none⟩ = false := hv5.free 5; obtain ⟨w6, hw6⟩ : ∃ w6, w5.setCell ⟨w.heap.size, 5, none⟩ (.slice p' (1 + ys.length) cap') = w6 := ⟨_, rfl⟩; have Hw6 := Lib.hid hw6; have Hv5 := Lib.hid hv5; clear hw6 hv5)
    | (refine VCell.load rfl (.tmp 3) rfl w.heap.size _ rfl (Hv5.out.setD p' (1 + ys.length) cap') ?_))
  rw [Hw6.out]
  have hs3 := Hs3.out
  have hs5 := HB5.out.size
  have hv6 : VCell w6 w.heap.size ⟨k, n, g, s, ⟨lp, ll, lc⟩, ⟨p', 1 + ys.length, cap'⟩⟩ := by rw [← Hw6.out]; exact Hv5.out.setD p' (1 + ys.length) cap'
  have hk6 : ∀ j, j ≠ w.heap.size → w6.heap[j]? = w5.heap[j]? := fun j hj => by rw [← Hw6.out, Below.heap_setCell]; exact hj
  have hb56 : Below w.heap.size w5 w6 := by rw [← Hw6.out]; exact (Below.refl w.heap.size w5).setCell (p := ⟨w.heap.size, 5, none⟩) (Nat.le_refl _) _
  have hb6 : Below w.heap.size w w6 := Hb3.out.trans ((HB5.out.mono (by omega)).trans hb56)
  have hsz6 : w6.heap.size = w5.heap.size := by rw [← Hw6.out]; simp
  have hD5 := with_rowsS (v := v) HO5.out Hyd.out (below_old HS.out HB5.out) Hyr.out HRu.out
  have hD6 : RdD w6 (fun j => S j ∨ w3.heap.size ≤ j) ⟨p', 1 + ys.length, cap'⟩ ((key, u) :: v.d) := hD5.later (fun j hj => hk6 j (hj.elim (fun h => Nat.ne_of_lt (HS0.out j h)) (fun h => by omega)))
  have hL6 : RdL w6 (fun j => S j ∨ w3.heap.size ≤ j) ⟨lp, ll, lc⟩ v.l := ((HLL.out.later (below_old HS.out HB5.out)).later (fun j hj => hk6 j (Nat.ne_of_lt (HS0.out j hj)))).mono (fun j hj => .inl hj)
  have hR6 : Rd w6 (fun j => (S j ∨ w3.heap.size ≤ j) ∧ j < w6.heap.size) ⟨k, n, g, s, ⟨lp, ll, lc⟩, ⟨p', 1 + ys.length, cap'⟩⟩ (.mk v.kind v.n v.g v.s v.l ((key, u) :: v.d)) :=
    (rd_iff.2 ⟨⟨Hkk.out.1, Hkk.out.2.1, Hkk.out.2.2.1, Hkk.out.2.2.2⟩, hL6, hD6⟩).bound
  have Hc := Lib.hid (pplain_any _ _ w6 _ hR6 (fun j hj => hj.2) (Hft.out.mono (by omega)))
  have Hvr6 := Lib.hid ((Hv3.out.later HB5.out (by omega)).same (hk6 _ (by omega)))
  have Hb6 := Lib.hid hb6
  clear hv6 hk6 hb56 hb6 hD5 hD6 hL6 hR6 c5 x5 z5
  refine Hc.out.mono ?_
  rintro e w7 ⟨⟨zk, zn, zg, zs, ⟨zlp, zll, zlc⟩, ⟨zdp, zdl, zdc⟩⟩, he, hy, hb7⟩
  replace he : e = .returned (.agg #[.int .i64 zk, .int .i64 zn, .int .i64 zg, .string zs, .slice zlp zll zlc, .slice zdp zdl zdc]) := he
  subst he
  have HY := Lib.hid hy
  have Hb7 := Lib.hid hb7
  have Hv7 := Lib.hid (Hvr6.out.later hb7 Hvr6.out.lt)
  clear hb7 hy
  go_wp2_with (refine VCell.store rfl rfl (.tmp 6) (.tmp 16) rfl (w.heap.size + 1 + 1) .nil ⟨zk, zn, zg, zs, ⟨zlp, zll, zlc⟩, ⟨zdp, zdl, zdc⟩⟩ rfl rfl Hv7.out ?_; intro w8 HC8 HK8 HB8 HZ8; obtain ⟨k0, k1, k2, k3, k4, k5⟩ := HC8.out.at; dsimp only at k0 k1 k2 k3 k4 k5)
  have hRR := (HY.out.later (w' := w8) (fun j hj => HK8.out j (by omega))).mono (S' := fun j => w.heap.size ≤ j) (fun j hj => by omega)
  exact bodyPost_ret (v := .agg #[.int .i64 zk, .int .i64 zn, .int .i64 zg, .string zs, .slice zlp zll zlc, .slice zdp zdl zdc]) (by simp [results, Try.results23, go_sem, k0, k1, k2, k3, k4, k5]) rfl
    ⟨⟨zk, zn, zg, zs, ⟨zlp, zll, zlc⟩, ⟨zdp, zdl, zdc⟩⟩, rfl, hRR, Hb6.out.trans ((Hb7.out.mono Hb6.out.size).trans (HB8.out.mono (by omega)))⟩
end Go.Proofs.Ytlmgjhidmipadaa
