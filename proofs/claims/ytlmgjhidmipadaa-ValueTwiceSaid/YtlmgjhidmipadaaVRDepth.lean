/-
  The document's answer: how deep a value is.
-/
import Derived.Test.YtlmgjhidmipadaaHZero
namespace Go.Proofs.Ytlmgjhidmipadaa
open Go.RowKit
set_option maxRecDepth 100000

theorem depthL_le {l : List Val} (h : ∀ x ∈ l, depthV x ≤ sizeV x) : depthL l ≤ sizeL l := by
  induction l with
  | nil => exact Nat.le_refl _
  | cons v t ih =>
    rw [depthL, sizeL]
    have h1 := h v (List.mem_cons_self ..)
    have h2 := ih (fun x hx => h x (List.mem_cons_of_mem _ hx))
    omega
theorem depthD_le {d : Prs} (h : ∀ p ∈ d, depthV p.2 ≤ sizeV p.2) : depthD d ≤ sizeD d := by
  induction d with
  | nil => exact Nat.le_refl _
  | cons p t ih =>
    obtain ⟨k, v⟩ := p
    rw [depthD, sizeD]
    have h1 := h (k, v) (List.mem_cons_self ..)
    have h2 := ih (fun x hx => h x (List.mem_cons_of_mem _ hx))
    dsimp only at h1
    omega
theorem depth_le (v : Val) : depthV v ≤ sizeV v := by
  induction v using Val.ind with
  | h v hl hd =>
    have h1 := depthL_le hl
    have h2 := depthD_le hd
    rw [depthV_eq, sizeV_eq]
    split <;> omega

set_option maxHeartbeats 8000000 in
theorem rdepth_any (v : Val) : ∀ (x : Hv) (w : World) (S : Nat → Prop), Rd w S x v → (∀ k, S k → k < w.heap.size) → sizeV v ≤ 100000 →
    Calls Try.prog 13 #[.agg x.arr] w fun e w' => e = .returned (.int .i64 (depthV v : Nat)) ∧ Below w.heap.size w w' := by
  induction v using Val.ind with
  | h v ihl ihd =>
    intro x w S hR hS hsz
    obtain ⟨⟨hk, -, -, -⟩, hL, hD⟩ := rd_iff.1 hR
    have hdl1 := depthL_le (fun x (_ : x ∈ v.l) => depth_le x)
    have hdd1 := depthD_le (fun p (_ : p ∈ v.d) => depth_le p.2)
    have hmx : max (depthL v.l) (depthD v.d) ≤ 100000 := by rw [sizeV_eq] at hsz; omega
    have hml : depthL v.l ≤ max (depthL v.l) (depthD v.d) := Nat.le_max_left _ _
    have hfl : ∀ y ∈ v.l, sizeV y ≤ 100000 := fun y hy => by have := sizeV_l hy; omega
    have hfd : ∀ p ∈ v.d, sizeV p.2 ≤ 100000 := fun p hp => by have := sizeV_d hp; omega
    have Hfl := Lib.hid hfl
    have Hfd := Lib.hid hfd
    obtain ⟨k, n, g, s, ⟨lp, ll, lc⟩, ⟨dp, dl, dc⟩⟩ := x
    dsimp only at hk
    have Hres : Hid (depthV v = if holderV k = true then max (depthL v.l) (depthD v.d) + 1 else 0) := Lib.hid (by rw [depthV_eq, hk])
    clear hk hfl hfd hdl1 hdd1 hR hsz
    obtain ⟨mm, hmm⟩ : ∃ mm, max (depthL v.l) (depthD v.d) = mm := ⟨_, rfl⟩
    rw [hmm] at Hres hmx hml
    have Hmm := Lib.hid hmm
    have Hml := Lib.hid hml
    clear hmm hml
    obtain ⟨t, ht⟩ : ∃ t, depthV v = t := ⟨_, rfl⟩
    rw [ht] at Hres ⊢
    clear ht
    obtain ⟨w1, hw1⟩ : ∃ w1, w.alloc (.cells #[.int .i64 k, .int .i64 n, .int .i64 g, .string s, .slice lp ll lc, .slice dp dl dc] 25) = w1 := ⟨_, rfl⟩
    have hb1 : Below w.heap.size w w1 := by rw [← hw1]; exact (Below.refl _ w).alloc (Nat.le_refl _) _
    have hc0 : w1.cell? ⟨w.heap.size, 0, none⟩ = some (.int .i64 k) := by rw [← hw1]; simp
    have hc4 : w1.cell? ⟨w.heap.size, 4, none⟩ = some (.slice lp ll lc) := by rw [← hw1]; simp
    have hc5 : w1.cell? ⟨w.heap.size, 5, none⟩ = some (.slice dp dl dc) := by rw [← hw1]; simp
    have hlt : w.heap.size < w1.heap.size := by rw [← hw1]; simp
    have hL1 := hL.later (below_old hS hb1)
    have hD1 := hD.later (below_old hS hb1)
    have hS1 := old_later hS hb1
    have HB0 : Aside (Below w1.heap.size w1 w1) := Below.refl _ _
    have Hb1 := Lib.hid hb1
    have HL1 := Lib.hid hL1
    have HD1 := Lib.hid hD1
    have HS1 := Lib.hid hS1
    have Hihl := Lib.hid ihl
    have Hihd := Lib.hid ihd
    have Hw1 := Lib.hid hw1
    obtain ⟨hll, hlm⟩ := hL.len_le
    obtain ⟨hdl, hdm⟩ := hD.len_le
    dsimp only at hll hlm hdl hdm
    unfold maxLen at hlm hdm
    have Hll := Lib.hid hll
    have Hdl := Lib.hid hdl
    clear hb1 hL1 hD1 hL hD hS hS1 ihl ihd hll hdl hw1
    show Calls Try.prog 13 #[.agg #[.int .i64 k, .int .i64 n, .int .i64 g, .string s, .slice lp ll lc, .slice dp dl dc]] w _
    go_enter Try.func13, Try.ntmps13
    go_wp2
    rw [Hw1.out]
    clear Hw1
    go_loopg [3, 4] ll (fun f s3 s4 wr => ∃ i a : Nat, s4 = .int .i64 i ∧ s3 = .int .i64 a ∧ i ≤ ll ∧ ll ≤ f + i ∧ Aside (max a (depthL (v.l.drop i)) = depthL v.l) ∧ Aside (Below w1.heap.size w1 wr))
    case atStart => exact ⟨0, 0, rfl, rfl, Nat.zero_le _, Nat.le_refl _, Nat.zero_max _, HB0⟩
    case round =>
      obtain ⟨i, a, rfl, rfl, hi, hf, HI, HB⟩ := hrel
      have c4 := (HB.out.cell (p := ⟨w.heap.size, 4, none⟩) hlt).trans hc4
      have c5 := (HB.out.cell (p := ⟨w.heap.size, 5, none⟩) hlt).trans hc5
      by_cases hil : i < ll
      · obtain ⟨lb, lo, ⟨yk, yn, yg, ys, ⟨ylp, yll, ylc⟩, ⟨ydp, ydl, ydc⟩⟩, hiv, h3, h4, h5, h6⟩ := (HL1.out.later (below_old HS1.out HB.out)).at hil
        subst h3
        obtain ⟨e0, e1, e2, e3, e4, e5⟩ := h5
        dsimp only at e0 e1 e2 e3 e4 e5
        have hc := Lib.hid (Hihl.out _ (List.getElem_mem hiv) _ wr S h6 (old_later HS1.out HB.out) (Hfl.out _ (List.getElem_mem hiv)))
        have Hst : Hid (depthL (v.l.drop i) = max (depthV v.l[i]) (depthL (v.l.drop (i + 1)))) := Lib.hid (by rw [drop_cons hiv, depthL])
        obtain ⟨r, hr⟩ : ∃ r, depthV v.l[i] = r := ⟨_, rfl⟩
        rw [hr] at hc Hst
        clear hr h4 h6
        go_wp2_with fail
        refine hc.out.mono ?_
        rintro e w2 ⟨rfl, hb⟩
        have HB2 : Aside (Below w1.heap.size w1 w2) := HB.out.trans (hb.mono HB.out.size)
        clear hb hc HB e0 e1 e2 e3 e4 e5 c4 c5
        by_cases har : a < r
        · have HIn : Aside (max r (depthL (v.l.drop (i + 1))) = depthL v.l) := by show _ = _; rw [← HI.out, Hst.out, ← Nat.max_assoc, Nat.max_eq_right (Nat.le_of_lt har)]
          go_wp2
          go_roundg (ll - (i + 1))
          case measure => omega
          case rel => exact ⟨i + 1, r, by go_num, rfl, by omega, by omega, HIn, HB2⟩
        · have HIn : Aside (max a (depthL (v.l.drop (i + 1))) = depthL v.l) := by show _ = _; rw [← HI.out, Hst.out, ← Nat.max_assoc, Nat.max_eq_left (Nat.not_lt.1 har)]
          go_wp2
          go_roundg (ll - (i + 1))
          case measure => omega
          case rel => exact ⟨i + 1, a, by go_num, rfl, by omega, by omega, HIn, HB2⟩
      · have hlT : Hid (depthL v.l = a) := Lib.hid (by rw [← HI.out, List.drop_eq_nil_of_le (by have := Hll.out; omega)]; exact Nat.max_zero _)
        have HB3 : Aside (Below w1.heap.size w1 wr) := HB
        have HI0 : Aside (max a (depthD v.d) = mm) := by show _ = _; rw [← Hmm.out, hlT.out]
        clear HI
        go_wp2
        go_loopg [3, 5] dl (fun f s3 s5 wr => ∃ i a : Nat, s5 = .int .i64 i ∧ s3 = .int .i64 a ∧ i ≤ dl ∧ dl ≤ f + i ∧ Aside (max a (depthD (v.d.drop i)) = mm) ∧ Aside (Below w1.heap.size w1 wr))
        case atStart => exact ⟨0, a, rfl, rfl, Nat.zero_le _, Nat.le_refl _, HI0, HB3⟩
        case round =>
          clear c4 c5 HB HB3 HI0 hlT
          obtain ⟨j, a, rfl, rfl, hj, hfj, HI, HB⟩ := hrel
          have c5 := (HB.out.cell (p := ⟨w.heap.size, 5, none⟩) hlt).trans hc5
          have c0 := (HB.out.cell (p := ⟨w.heap.size, 0, none⟩) hlt).trans hc0
          by_cases hjl : j < dl
          · obtain ⟨lb, lo, ⟨yy, ⟨yk, yn, yg, ys, ⟨ylp, yll, ylc⟩, ⟨ydp, ydl, ydc⟩⟩⟩, hiv, h3, h4, ⟨e0, h5⟩, hky, h6⟩ := (HD1.out.later (below_old HS1.out HB.out)).at hjl
            subst h3
            obtain ⟨e1, e2, e3, e4, e5, e6⟩ := h5
            dsimp only at e0 e1 e2 e3 e4 e5 e6 h6
            have hc := Lib.hid (Hihd.out _ (List.getElem_mem hiv) _ wr S h6 (old_later HS1.out HB.out) (Hfd.out _ (List.getElem_mem hiv)))
            have Hst : Hid (depthD (v.d.drop j) = max (depthV (v.d[j]).2) (depthD (v.d.drop (j + 1)))) := Lib.hid (by rw [drop_cons hiv]; rfl)
            obtain ⟨r, hr⟩ : ∃ r, depthV (v.d[j]).2 = r := ⟨_, rfl⟩
            rw [hr] at hc Hst
            clear hr h4 h6 hky
            go_wp2_with fail
            refine hc.out.mono ?_
            rintro e w2 ⟨rfl, hb⟩
            have HB2 : Aside (Below w1.heap.size w1 w2) := HB.out.trans (hb.mono HB.out.size)
            clear hb hc HB e0 e1 e2 e3 e4 e5 e6 c5 c0
            by_cases har : a < r
            · have HIn : Aside (max r (depthD (v.d.drop (j + 1))) = mm) := by show _ = _; rw [← HI.out, Hst.out, ← Nat.max_assoc, Nat.max_eq_right (Nat.le_of_lt har)]
              go_wp2
              go_roundg (dl - (j + 1))
              case measure => omega
              case rel => exact ⟨j + 1, r, by go_num, rfl, by omega, by omega, HIn, HB2⟩
            · have HIn : Aside (max a (depthD (v.d.drop (j + 1))) = mm) := by show _ = _; rw [← HI.out, Hst.out, ← Nat.max_assoc, Nat.max_eq_left (Nat.not_lt.1 har)]
              go_wp2
              go_roundg (dl - (j + 1))
              case measure => omega
              case rel => exact ⟨j + 1, a, by go_num, rfl, by omega, by omega, HIn, HB2⟩
          · have hdT : Hid (a = mm) := Lib.hid (by rw [← HI.out, List.drop_eq_nil_of_le (by have := Hdl.out; omega)]; exact (Nat.max_zero _).symm)
            have ham : a ≤ 100000 := by rw [hdT.out]; exact hmx
            obtain ⟨hv, hhv⟩ : ∃ hv, holderV k = hv := ⟨_, rfl⟩
            have hh := holder_any k wr
            rw [hhv] at Hres hh
            have Hh := Lib.hid hh
            clear HI hhv hh
            go_wp2_with (go_at_call 36; refine Hh.out.mono ?_; rintro e w2 ⟨rfl, rfl⟩)
            · go_ret
              exact ⟨by show Ending.returned (Value.int .i64 ((a : Int) + 1)) = _; rw [Hres.out, hdT.out]; simp [*], (Hb1.out).trans (HB.out.mono Hb1.out.size)⟩
            · go_ret
              exact ⟨by show Ending.returned (Value.int .i64 0) = _; rw [Hres.out]; simp [*], (Hb1.out).trans (HB.out.mono Hb1.out.size)⟩
end Go.Proofs.Ytlmgjhidmipadaa
