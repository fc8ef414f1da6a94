/-
  The document's answer: a value with another one under a key.
-/
import Derived.Test.YtlmgjhidmipadaaHRPl
import Derived.Test.YtlmgjhidmipadaaHPlain
import Derived.Test.YtlmgjhidmipadaaHRow
namespace Go.Proofs.Ytlmgjhidmipadaa
open Go.RowKit
set_option maxRecDepth 100000

attribute [local go_sem] Hv.arr
/-- Pairs in memory, as a list. -/
theorem RdD.list {w : World} {S : Nat → Prop} {p : Option Addr} {len cap : Nat} {d : Prs} (h : RdD w S ⟨p, len, cap⟩ d) :
    ∃ ys : List Hp, ys.length = len ∧ ys.length = d.length ∧ (0 < ys.length → ∃ b off, p = some ⟨b, off, none⟩ ∧ S b ∧ ∀ i (hi : i < ys.length), HpAt w b (off + i * 7) (ys[i])) ∧
      ∀ i (hi : i < ys.length) (hi' : i < d.length), (ys[i]).key = (d[i]).1 ∧ Rd w S (ys[i]).v (d[i]).2 := by
  obtain ⟨h1, h2, b, o, ds, h3, h4, h5⟩ := h
  dsimp only at h1 h2 h3
  refine ⟨(List.range len).map ds, by simp, by simpa using h1, fun hp => ?_, fun i hi hi' => ?_⟩
  · rw [List.length_map, List.length_range] at hp
    obtain ⟨e, hb⟩ := h3 (by omega)
    refine ⟨b, o, e, hb, fun i hi => ?_⟩
    rw [List.getElem_map, List.getElem_range]
    exact h4 i (by simp at hi; omega)
  · rw [List.getElem_map, List.getElem_range]
    exact h5 i hi'
/-- A row of the call's own whose pairs are read anywhere in memory. -/
theorem OwnP.read {w : World} {B : Nat} {p : Option Addr} {cap : Nat} {xs : List Hp} {vs : Prs} (h : OwnP w B p cap xs) (hl : xs.length = vs.length)
    (hr : ∀ i (hi : i < xs.length) (hi' : i < vs.length), (xs[i]).key = (vs[i]).1 ∧ Rd w (fun k => k < w.heap.size) (xs[i]).v (vs[i]).2) : RdD w (fun k => k < w.heap.size) ⟨p, xs.length, cap⟩ vs := by
  obtain ⟨h1, g, h2, h3⟩ := h.form
  refine ⟨hl, h1, g, 0, fun i => (xs[i]?).getD ⟨⟨#[]⟩, .nil⟩, fun hn => ?_, fun i hi => ?_, fun i hi => ?_⟩
  · have h4 := (h2 hn).1
    exact ⟨h4, (h.lt _ h4).2⟩
  · have hi' : i < xs.length := by rw [hl]; exact hi
    dsimp only
    rw [List.getElem?_eq_getElem hi']
    exact h3 i hi'
  · have hi' : i < xs.length := by rw [hl]; exact hi
    dsimp only
    rw [List.getElem?_eq_getElem hi']
    exact hr i hi' hi

/-- The new pair ahead of a value's own. -/
theorem with_rows {w3 w5 : World} {S : Nat → Prop} {B : Nat} {p : Option Addr} {cap : Nat} {key : ByteArray} {y : Hv} {u v : Val} {ys : List Hp} (hO : OwnP w5 B p cap ([⟨key, y⟩] ++ ys)) (hyd : ys.length = v.d.length)
    (hold : ∀ k, S k → w5.heap[k]? = w3.heap[k]?) (hS : ∀ k, S k → k < w3.heap.size) (hsz : w3.heap.size ≤ w5.heap.size)
    (hyr : ∀ i (hi : i < ys.length) (hi' : i < v.d.length), (ys[i]).key = (v.d[i]).1 ∧ Rd w3 S (ys[i]).v (v.d[i]).2) (hu : Rd w3 S y u) : RdD w5 (fun k => k < w5.heap.size) ⟨p, 1 + ys.length, cap⟩ ((key, u) :: v.d) := by
  have hm : ∀ k, S k → k < w5.heap.size := fun k hk => Nat.lt_of_lt_of_le (hS k hk) hsz
  have h := hO.read (vs := (key, u) :: v.d) (by simp [hyd]) (fun i hi hi' => by
    cases i with
    | zero => exact ⟨rfl, (hu.later hold).mono hm⟩
    | succ i =>
      have h2 := hyr i (by simp at hi; omega) (by simp at hi'; omega)
      exact ⟨h2.1, (h2.2.later hold).mono hm⟩)
  rw [List.length_append] at h
  exact h

/-- Boxes for a value, another one, and the result. -/
theorem boxes3 {w w1 w2 w3 : World} {x y : Hv} (hw1 : w.alloc (.cells x.arr 25) = w1) (hw2 : w1.alloc (.cells y.arr 25) = w2) (hw3 : w2.alloc (.cells Hv.nil.arr 25) = w3) :
    w3.heap.size = w.heap.size + 1 + 1 + 1 ∧ Below w.heap.size w w3 ∧ VCell w3 w.heap.size x ∧ VCell w3 (w.heap.size + 1) y ∧ VCell w3 (w.heap.size + 1 + 1) .nil := by
  subst hw1 hw2 hw3
  have hb3 : ∀ (u : World) (o : Obj), Below u.heap.size u (u.alloc o) := fun u o => (Below.refl _ u).alloc (Nat.le_refl _) _
  refine ⟨by simp, (hb3 _ _).trans (((hb3 _ _).trans ((hb3 _ _).mono (by simp))).mono (by simp)), ?_, ?_, ?_⟩
  · exact ((VCell.new w x).later (hb3 _ _) (by simp)).later (hb3 _ _) (by simp; omega)
  · have h := (VCell.new (w.alloc (.cells x.arr 25)) y).later (hb3 _ (.cells Hv.nil.arr 25)) (by simp)
    simpa using h
  · have h := VCell.new ((w.alloc (.cells x.arr 25)).alloc (.cells y.arr 25)) .nil
    simpa using h

set_option maxHeartbeats 8000000 in
theorem rWith_any (v u : Val) (key : ByteArray) (x y : Hv) (w : World) (S : Nat → Prop) (hR : Rd w S x v) (hRu : Rd w S y u) (hS : ∀ k, S k → k < w.heap.size) (hfit : Fit v 2000) (hfitu : Fit u 2000) (hkey : key.size ≤ 3000) :
    Calls Try.prog 24 #[.agg x.arr, .string key, .agg y.arr] w fun e w' => ∃ z : Hv, e = .returned (.agg z.arr) ∧ Rd w' (fun k => w.heap.size ≤ k) z (withV v key u) ∧ Below w.heap.size w w' := by
  obtain ⟨w1, hw1⟩ : ∃ w1, w.alloc (.cells x.arr 25) = w1 := ⟨_, rfl⟩
  obtain ⟨w2, hw2⟩ : ∃ w2, w1.alloc (.cells y.arr 25) = w2 := ⟨_, rfl⟩
  obtain ⟨w3, hw3⟩ : ∃ w3, w2.alloc (.cells Hv.nil.arr 25) = w3 := ⟨_, rfl⟩
  obtain ⟨hs3, hb3, hv1, hv2, hv3⟩ := boxes3 hw1 hw2 hw3
  have Hw1 := Lib.hid hw1
  have Hw2 := Lib.hid hw2
  have Hw3 := Lib.hid hw3
  have Hs3 := Lib.hid hs3
  have Hb3 := Lib.hid hb3
  have Hv1 := Lib.hid hv1
  have Hv2 := Lib.hid hv2
  have Hv3 := Lib.hid hv3
  have HR := Lib.hid (hR.later (below_old hS hb3))
  have HRu := Lib.hid (hRu.later (below_old hS hb3))
  have HS := Lib.hid (old_later hS hb3)
  have Hfit := Lib.hid hfit
  have Hfitu := Lib.hid hfitu
  have Hkey := Lib.hid hkey
  have Hkk := Lib.hid (rd_iff.1 hR).1
  obtain ⟨k, n, g, s, ⟨lp, ll, lc⟩, ⟨dp, dl, dc⟩⟩ := x
  obtain ⟨k', n', g', s', ⟨lp', ll', lc'⟩, ⟨dp', dl', dc'⟩⟩ := y
  clear hw1 hw2 hw3 hs3 hb3 hv1 hv2 hv3 hR hRu hS hfit hfitu hkey
  dsimp only [Hv.arr, Hv.nil] at Hw1 Hw2 Hw3
  have c0 : w3.cell? ⟨w.heap.size, 0, none⟩ = some (.int .i64 k) := Hv1.out.at.1
  show Calls Try.prog 24 #[.agg #[.int .i64 k, .int .i64 n, .int .i64 g, .string s, .slice lp ll lc, .slice dp dl dc], .string key, .agg #[.int .i64 k', .int .i64 n', .int .i64 g', .string s', .slice lp' ll' lc', .slice dp' dl' dc']] w _
  by_cases hh : ¬ (k = 6 ∨ k = 8)
  · have h6 : (k != 6) = true := by simp; omega
    have h8 : (k != 8) = true := by simp; omega
    have hwv : withV v key u = plainV v := withV_not key u (by rw [← Hkk.out.1]; exact hh)
    rw [hwv]
    have Hc := Lib.hid (rplain_any v _ w3 S HR.out HS.out (Hfit.out.mono (by omega)))
    clear hh hwv
    go_enter Try.func24, Try.ntmps24
    iterate 12 go_step
    rw [Hw1.out, Hw2.out, Hw3.out]
    go_wp2_with (refine VCell.load rfl (.tmp 3) rfl w.heap.size _ rfl Hv1.out ?_)
    refine Hc.out.mono ?_
    rintro e w4 ⟨⟨zk, zn, zg, zs, ⟨zlp, zll, zlc⟩, ⟨zdp, zdl, zdc⟩⟩, he, hy, hb4⟩
    replace he : e = .returned (.agg #[.int .i64 zk, .int .i64 zn, .int .i64 zg, .string zs, .slice zlp zll zlc, .slice zdp zdl zdc]) := he
    subst he
    have HY := Lib.hid hy
    have Hb4 := Lib.hid hb4
    have Hv4 := Lib.hid (Hv3.out.later hb4 (by rw [Hs3.out]; omega))
    clear hb4 hy c0
    go_wp2_with (refine VCell.store rfl rfl (.tmp 6) (.tmp 17) rfl (w.heap.size + 1 + 1) .nil ⟨zk, zn, zg, zs, ⟨zlp, zll, zlc⟩, ⟨zdp, zdl, zdc⟩⟩ rfl rfl Hv4.out ?_; intro w5 HC5 HK5 HB5 HZ5; obtain ⟨k0, k1, k2, k3, k4, k5⟩ := HC5.out.at; dsimp only at k0 k1 k2 k3 k4 k5)
    have hs3 := Hs3.out
    have hRR := (HY.out.later (w' := w5) (fun k hk => HK5.out k (by omega))).mono (S' := fun k => w.heap.size ≤ k) (fun k hk => by omega)
    exact bodyPost_ret (v := .agg #[.int .i64 zk, .int .i64 zn, .int .i64 zg, .string zs, .slice zlp zll zlc, .slice zdp zdl zdc]) (by simp [results, Try.results24, go_sem, k0, k1, k2, k3, k4, k5]) rfl
      ⟨⟨zk, zn, zg, zs, ⟨zlp, zll, zlc⟩, ⟨zdp, zdl, zdc⟩⟩, rfl, hRR, Hb3.out.trans ((Hb4.out.mono Hb3.out.size).trans (HB5.out.mono (by omega)))⟩
  · replace hh := Decidable.not_not.1 hh
    obtain ⟨ys, hyl, hyd, hyc, hyr⟩ := (rd_iff.1 HR.out).2.2.list
    subst hyl
    have hfv := Hfit.out.1
    rw [sizeV_eq] at hfv
    have hdl := sizeD_length v.d
    have hys : ys.length ≤ 2000 := by omega
    have hwv : withV v key u = plainV (.mk k 0 0 s [] ((key, u) :: v.d)) := by
      rw [withV_holds key u (by rw [← Hkk.out.1]; exact hh), ← Hkk.out.1, ← Hkk.out.2.2.2]
    rw [hwv]
    have hft : Fit (.mk k 0 0 s [] ((key, u) :: v.d)) 4000 := put_fit Hfit.out Hfitu.out Hkey.out k 0 0 s [] (.inr rfl) Hkk.out.2.2.2
    have Hft := Lib.hid hft
    have Hyd := Lib.hid hyd
    have Hyc := Lib.hid hyc
    have Hyr := Lib.hid hyr
    clear hwv hfv hdl hft hyd hyc hyr
    have c3 : w3.cell? ⟨w.heap.size, 3, none⟩ = some (.string s) := Hv1.out.at.2.2.2.1
    have c5 : w3.cell? ⟨w.heap.size, 5, none⟩ = some (.slice dp ys.length dc) := Hv1.out.at.2.2.2.2.2
    have hb4 : ∀ o : Obj, Below w3.heap.size w3 (w3.alloc o) := fun o => (Below.refl _ w3).alloc (Nat.le_refl _) _
    have Hb4 := Lib.hid hb4
    obtain ⟨w4, hw4⟩ : ∃ w4, w3.alloc (.cells #[.string key, .int .i64 k', .int .i64 n', .int .i64 g', .string s', .slice lp' ll' lc', .slice dp' dl' dc'] 50) = w4 := ⟨_, rfl⟩
    have HO4 : Hid (OwnP w4 w3.heap.size (some ⟨w3.heap.size, 0, none⟩) 1 [⟨key, ⟨k', n', g', s', ⟨lp', ll', lc'⟩, ⟨dp', dl', dc'⟩⟩⟩]) := Lib.hid (by rw [← hw4]; exact OwnP.one (Nat.le_refl _) ⟨key, ⟨k', n', g', s', ⟨lp', ll', lc'⟩, ⟨dp', dl', dc'⟩⟩⟩)
    have Hbb4 : Hid (Below w3.heap.size w3 w4) := Lib.hid (by rw [← hw4]; exact hb4 _)
    have hlt : w.heap.size < w3.heap.size := by have := Hs3.out; omega
    have d0 := (Hbb4.out.cell (p := ⟨w.heap.size, 0, none⟩) hlt).trans c0
    have d3 := (Hbb4.out.cell (p := ⟨w.heap.size, 3, none⟩) hlt).trans c3
    have d5 := (Hbb4.out.cell (p := ⟨w.heap.size, 5, none⟩) hlt).trans c5
    have Hw4 := Lib.hid hw4
    clear hb4 hw4
    have Hc0 := Lib.hid c0
    have Hc3 := Lib.hid c3
    have Hyc4 : Hid (∀ o : Obj, 0 < ys.length → ∃ b off, dp = some ⟨b, off, none⟩ ∧ ∀ i (hi : i < ys.length), HpAt (w3.alloc o) b (off + i * 7) (ys[i])) := Lib.hid (fun o h => by
      obtain ⟨b, off, e, hb, hc⟩ := Hyc.out h
      exact ⟨b, off, e, fun i hi => (hc i hi).same (heap_alloc_old _ _ (HS.out _ hb))⟩)
    rcases hh with h | h
    · subst h
      go_enter Try.func24, Try.ntmps24
      iterate 12 go_step
      rw [Hw1.out, Hw2.out, Hw3.out]
      go_wp2_with (first
        | (refine VCell.load rfl (.tmp 5) rfl (w.heap.size + 1) _ rfl Hv2.out ?_)
        | (at_builtin; refine wpList_append_Ps rfl (.tmp 22) (.tmp 24) rfl w3.heap.size _ _ [⟨key, ⟨k', n', g', s', ⟨lp', ll', lc'⟩, ⟨dp', dl', dc'⟩⟩⟩] rfl (OwnP.one (Nat.le_refl _) ⟨key, ⟨k', n', g', s', ⟨lp', ll', lc'⟩, ⟨dp', dl', dc'⟩⟩⟩) _ dc ys rfl (Hyc4.out _) (by show 1 ≤ _; omega) (by omega) w3 (Hb4.out _) (by simp) ?_; intro p' cap' w5 HO5 HB5 HK5 HZ5; have x0 := (HB5.out.cell (p := ⟨w.heap.size, 0, none⟩) hlt).trans Hc0.out; have x3 := (HB5.out.cell (p := ⟨w.heap.size, 3, none⟩) hlt).trans Hc3.out))
      have HR5 : Hid (RdD w5 (fun k => k < w5.heap.size) ⟨p', 1 + ys.length, cap'⟩ ((key, u) :: v.d)) := Lib.hid (with_rows HO5.out Hyd.out (below_old HS.out HB5.out) HS.out HB5.out.size Hyr.out HRu.out)
      have hb5 : Below w.heap.size w w5 := Hb3.out.trans (HB5.out.mono Hb3.out.size)
      have Hc := Lib.hid (rplain_any (.mk 6 0 0 s [] ((key, u) :: v.d)) ⟨6, 0, 0, s, ⟨none, 0, 0⟩, ⟨p', 1 + ys.length, cap'⟩⟩ w5 (fun k => k < w5.heap.size) (rd_iff.2 ⟨⟨rfl, rfl, rfl, rfl⟩, RdL.nil _ _ none 0 (Nat.zero_le _), HR5.out⟩) (fun _ h => h) Hft.out)
      refine Hc.out.mono ?_
      rintro e w6 ⟨⟨zk, zn, zg, zs, ⟨zlp, zll, zlc⟩, ⟨zdp, zdl, zdc⟩⟩, he, hy, hb6⟩
      replace he : e = .returned (.agg #[.int .i64 zk, .int .i64 zn, .int .i64 zg, .string zs, .slice zlp zll zlc, .slice zdp zdl zdc]) := he
      subst he
      have HY := Lib.hid hy
      have Hb6 := Lib.hid hb6
      have hs3 := Hs3.out
      have hs5 := HB5.out.size
      have Hv6 := Lib.hid ((Hv3.out.later HB5.out (by omega)).later hb6 (by omega))
      clear hb6 hy x0 x3 c0 c3 c5 d0 d3 d5
      go_wp2_with (refine VCell.store rfl rfl (.tmp 6) (.tmp 32) rfl (w.heap.size + 1 + 1) .nil ⟨zk, zn, zg, zs, ⟨zlp, zll, zlc⟩, ⟨zdp, zdl, zdc⟩⟩ rfl rfl Hv6.out ?_; intro w7 HC7 HK7 HB7 HZ7; obtain ⟨k0, k1, k2, k3, k4, k5⟩ := HC7.out.at; dsimp only at k0 k1 k2 k3 k4 k5)
      have hRR := (HY.out.later (w' := w7) (fun k hk => HK7.out k (by omega))).mono (S' := fun k => w.heap.size ≤ k) (fun k hk => by omega)
      exact bodyPost_ret (v := .agg #[.int .i64 zk, .int .i64 zn, .int .i64 zg, .string zs, .slice zlp zll zlc, .slice zdp zdl zdc]) (by simp [results, Try.results24, go_sem, k0, k1, k2, k3, k4, k5]) rfl
        ⟨⟨zk, zn, zg, zs, ⟨zlp, zll, zlc⟩, ⟨zdp, zdl, zdc⟩⟩, rfl, hRR, hb5.trans ((Hb6.out.mono hb5.size).trans (HB7.out.mono (by omega)))⟩
    · subst h
      go_enter Try.func24, Try.ntmps24
      iterate 12 go_step
      rw [Hw1.out, Hw2.out, Hw3.out]
      go_wp2_with (first
        | (refine VCell.load rfl (.tmp 5) rfl (w.heap.size + 1) _ rfl Hv2.out ?_)
        | (at_builtin; refine wpList_append_Ps rfl (.tmp 22) (.tmp 24) rfl w3.heap.size _ _ [⟨key, ⟨k', n', g', s', ⟨lp', ll', lc'⟩, ⟨dp', dl', dc'⟩⟩⟩] rfl (OwnP.one (Nat.le_refl _) ⟨key, ⟨k', n', g', s', ⟨lp', ll', lc'⟩, ⟨dp', dl', dc'⟩⟩⟩) _ dc ys rfl (Hyc4.out _) (by show 1 ≤ _; omega) (by omega) w3 (Hb4.out _) (by simp) ?_; intro p' cap' w5 HO5 HB5 HK5 HZ5; have x0 := (HB5.out.cell (p := ⟨w.heap.size, 0, none⟩) hlt).trans Hc0.out; have x3 := (HB5.out.cell (p := ⟨w.heap.size, 3, none⟩) hlt).trans Hc3.out))
      have HR5 : Hid (RdD w5 (fun k => k < w5.heap.size) ⟨p', 1 + ys.length, cap'⟩ ((key, u) :: v.d)) := Lib.hid (with_rows HO5.out Hyd.out (below_old HS.out HB5.out) HS.out HB5.out.size Hyr.out HRu.out)
      have hb5 : Below w.heap.size w w5 := Hb3.out.trans (HB5.out.mono Hb3.out.size)
      have Hc := Lib.hid (rplain_any (.mk 8 0 0 s [] ((key, u) :: v.d)) ⟨8, 0, 0, s, ⟨none, 0, 0⟩, ⟨p', 1 + ys.length, cap'⟩⟩ w5 (fun k => k < w5.heap.size) (rd_iff.2 ⟨⟨rfl, rfl, rfl, rfl⟩, RdL.nil _ _ none 0 (Nat.zero_le _), HR5.out⟩) (fun _ h => h) Hft.out)
      refine Hc.out.mono ?_
      rintro e w6 ⟨⟨zk, zn, zg, zs, ⟨zlp, zll, zlc⟩, ⟨zdp, zdl, zdc⟩⟩, he, hy, hb6⟩
      replace he : e = .returned (.agg #[.int .i64 zk, .int .i64 zn, .int .i64 zg, .string zs, .slice zlp zll zlc, .slice zdp zdl zdc]) := he
      subst he
      have HY := Lib.hid hy
      have Hb6 := Lib.hid hb6
      have hs3 := Hs3.out
      have hs5 := HB5.out.size
      have Hv6 := Lib.hid ((Hv3.out.later HB5.out (by omega)).later hb6 (by omega))
      clear hb6 hy x0 x3 c0 c3 c5 d0 d3 d5
      go_wp2_with (refine VCell.store rfl rfl (.tmp 6) (.tmp 32) rfl (w.heap.size + 1 + 1) .nil ⟨zk, zn, zg, zs, ⟨zlp, zll, zlc⟩, ⟨zdp, zdl, zdc⟩⟩ rfl rfl Hv6.out ?_; intro w7 HC7 HK7 HB7 HZ7; obtain ⟨k0, k1, k2, k3, k4, k5⟩ := HC7.out.at; dsimp only at k0 k1 k2 k3 k4 k5)
      have hRR := (HY.out.later (w' := w7) (fun k hk => HK7.out k (by omega))).mono (S' := fun k => w.heap.size ≤ k) (fun k hk => by omega)
      exact bodyPost_ret (v := .agg #[.int .i64 zk, .int .i64 zn, .int .i64 zg, .string zs, .slice zlp zll zlc, .slice zdp zdl zdc]) (by simp [results, Try.results24, go_sem, k0, k1, k2, k3, k4, k5]) rfl
        ⟨⟨zk, zn, zg, zs, ⟨zlp, zll, zlc⟩, ⟨zdp, zdl, zdc⟩⟩, rfl, hRR, hb5.trans ((Hb6.out.mono hb5.size).trans (HB7.out.mono (by omega)))⟩
end Go.Proofs.Ytlmgjhidmipadaa
