/-
  The document's answer: what a value names.
-/
import Derived.Test.YtlmgjhidmipadaaHRPl
import Derived.Test.YtlmgjhidmipadaaHPlain
import Derived.Test.YtlmgjhidmipadaaHRow
namespace Go.Proofs.Ytlmgjhidmipadaa
open Go.RowKit
set_option maxRecDepth 100000

theorem plain_l {v y : Val} (h : y ∈ (plainV v).l) : plainV y = y := by
  rw [plainV_bare, Val.l_mk] at h
  obtain ⟨z, _, rfl⟩ := List.mem_map.1 h
  exact plain_plain z
theorem plain_d {v : Val} {p : ByteArray × Val} (h : p ∈ (plainV v).d) : plainV p.2 = p.2 := by
  rw [plainV_d] at h
  obtain ⟨q, _, rfl⟩ := List.mem_map.1 (List.mem_filter.1 h).1
  exact plain_plain q.2
theorem plain_link {v : Val} (h : (plainV v).kind = 7) : (plainV v).l = [] ∧ (plainV v).d = [] := by
  rw [plainV_bare] at h ⊢
  rw [Val.kind_mk] at h
  rw [Val.l_mk, Val.d_mk]
  cases v with
  | mk k n g s l d =>
    rw [bareV] at h ⊢
    by_cases h1 : k = 1 ∨ k = 2
    · rw [if_pos h1] at h; simp at h; omega
    by_cases h2 : k = 3 ∨ k = 4
    · rw [if_neg h1, if_pos h2] at h; simp at h; omega
    by_cases h3 : k = 5
    · rw [if_neg h1, if_neg h2, if_pos h3] at h; simp at h; omega
    by_cases h4 : k = 6
    · rw [if_neg h1, if_neg h2, if_neg h3, if_pos h4] at h; simp at h; omega
    by_cases h5 : k = 7
    · rw [if_neg h1, if_neg h2, if_neg h3, if_neg h4, if_pos h5]; exact ⟨rfl, rfl⟩
    by_cases h6 : k = 8
    · rw [if_neg h1, if_neg h2, if_neg h3, if_neg h4, if_neg h5, if_pos h6] at h; simp at h; omega
    rw [if_neg h1, if_neg h2, if_neg h3, if_neg h4, if_neg h5, if_neg h6]; exact ⟨rfl, rfl⟩
theorem linksL_le {l : List Val} (h : ∀ x ∈ l, (linksV x).length ≤ sizeV x) : (linksL l).length ≤ sizeL l := by
  induction l with
  | nil => exact Nat.le_refl _
  | cons v t ih =>
    rw [linksL, sizeL, List.length_append]
    have h1 := h v (List.mem_cons_self ..)
    have h2 := ih (fun x hx => h x (List.mem_cons_of_mem _ hx))
    omega
theorem linksD_le {d : Prs} (h : ∀ p ∈ d, (linksV p.2).length ≤ sizeV p.2) : (linksD d).length ≤ sizeD d := by
  induction d with
  | nil => exact Nat.le_refl _
  | cons p t ih =>
    obtain ⟨k, v⟩ := p
    rw [linksD, sizeD, List.length_append]
    have h1 := h (k, v) (List.mem_cons_self ..)
    have h2 := ih (fun x hx => h x (List.mem_cons_of_mem _ hx))
    dsimp only at h1
    omega
theorem links_le (v : Val) : (linksV v).length ≤ sizeV v := by
  induction v using Val.ind with
  | h v hl hd =>
    have h1 := linksL_le hl
    have h2 := linksD_le hd
    rw [linksV_eq, sizeV_eq, List.length_append, List.length_append]
    split <;> simp <;> omega

set_option maxHeartbeats 8000000 in
theorem rlinks_of (m : Nat) : ∀ (v : Val), sizeV v ≤ m → ∀ (x : Hv) (w : World) (S : Nat → Prop), Rd w S x v → (∀ k, S k → k < w.heap.size) → Fit v 4000 →
    Calls Try.prog 27 #[.agg x.arr] w fun e w' => ∃ p cap, e = .returned (.slice p (linksV (plainV v)).length cap) ∧ OwnR w' w.heap.size p cap (linksV (plainV v)) ∧ Below w.heap.size w w' := by
  induction m with
  | zero => intro v hm; have := sizeV_pos v; omega
  | succ m ih =>
    intro v hm x w S hR hS hfit
    have hihl : ∀ y ∈ (plainV v).l, ∀ (x : Hv) (w : World) (S : Nat → Prop), Rd w S x y → (∀ k, S k → k < w.heap.size) →
        Calls Try.prog 27 #[.agg x.arr] w fun e w' => ∃ p cap, e = .returned (.slice p (linksV y).length cap) ∧ OwnR w' w.heap.size p cap (linksV y) ∧ Below w.heap.size w w' := by
      intro y hy x w S h1 h2
      have h3 := ih y (by have := sizeV_l hy; have := plain_size v; omega) x w S h1 h2 ((plain_fit hfit).l hy)
      rwa [plain_l hy] at h3
    have hihd : ∀ q ∈ (plainV v).d, ∀ (x : Hv) (w : World) (S : Nat → Prop), Rd w S x q.2 → (∀ k, S k → k < w.heap.size) →
        Calls Try.prog 27 #[.agg x.arr] w fun e w' => ∃ p cap, e = .returned (.slice p (linksV q.2).length cap) ∧ OwnR w' w.heap.size p cap (linksV q.2) ∧ Below w.heap.size w w' := by
      intro y hy x w S h1 h2
      have h3 := ih y.2 (by have := sizeV_d hy; have := plain_size v; omega) x w S h1 h2 ((plain_fit hfit).d hy).1
      rwa [plain_d hy] at h3
    have hlink := fun h => plain_link (v := v) h
    have hfp := (plain_fit hfit).1
    have hle := links_le (plainV v)
    have hpl := fun W S x h1 h2 => rplain_any v x W S h1 h2 hfit
    obtain ⟨p, hp⟩ : ∃ p, plainV v = p := ⟨_, rfl⟩
    simp only [hp] at hihl hihd hlink hfp hle hpl ⊢
    have hlen : (linksV p).length ≤ 4000 := Nat.le_trans hle hfp
    clear ih hm hle hfp hfit hp
    have Hihl := Lib.hid hihl
    have Hihd := Lib.hid hihd
    obtain ⟨k, n, g, s, ⟨lp, ll, lc⟩, ⟨dp, dl, dc⟩⟩ := x
    obtain ⟨w1, hw1⟩ : ∃ w1, w.alloc (.cells #[.int .i64 k, .int .i64 n, .int .i64 g, .string s, .slice lp ll lc, .slice dp dl dc] 25) = w1 := ⟨_, rfl⟩
    have hv1 : VCell w1 w.heap.size ⟨k, n, g, s, ⟨lp, ll, lc⟩, ⟨dp, dl, dc⟩⟩ := by rw [← hw1]; exact heap_alloc_new w _
    have hb1 : Below w.heap.size w w1 := by rw [← hw1]; exact (Below.refl _ w).alloc (Nat.le_refl _) _
    have hs1 : w1.heap.size = w.heap.size + 1 := by rw [← hw1]; simp
    have Hc := Lib.hid (hpl w1 S _ (hR.later (below_old hS hb1)) (old_later hS hb1))
    have Hw1 := Lib.hid hw1
    have Hv1 := Lib.hid hv1
    have Hb1 := Lib.hid hb1
    clear hw1 hv1 hb1 hR hS hihl hihd hpl hs1
    show Calls Try.prog 27 #[.agg #[.int .i64 k, .int .i64 n, .int .i64 g, .string s, .slice lp ll lc, .slice dp dl dc]] w _
    go_enter Try.func27, Try.ntmps27
    iterate 10 go_step
    rw [Hw1.out]
    go_wp2_with (refine VCell.load rfl (.tmp 1) rfl w.heap.size _ rfl Hv1.out ?_)
    refine Hc.out.mono ?_
    rintro e w2 ⟨⟨yk, yn, yg, ys, ⟨ylp, yll, ylc⟩, ⟨ydp, ydl, ydc⟩⟩, he, hy, hb2⟩
    replace he : e = .returned (.agg #[.int .i64 yk, .int .i64 yn, .int .i64 yg, .string ys, .slice ylp yll ylc, .slice ydp ydl ydc]) := he
    subst he
    have HY := Lib.hid hy
    have Hb2 := Lib.hid hb2
    clear hb2 hy
    have Hkk := Lib.hid (rd_iff.1 HY.out).1
    dsimp only at Hkk
    have hbX : ∀ (u : World) (o : Obj), Below u.heap.size u (u.alloc o) := fun u o => (Below.refl _ u).alloc (Nat.le_refl _) _
    have HbX := Lib.hid hbX
    clear hbX
    by_cases hk7 : yk = 7
    · have hpk : p.kind = 7 := by rw [← Hkk.out.1, hk7]
      have hpe := hlink hpk
      have hlv : linksV p = [(yn, yg)] := by rw [linksV_eq, if_pos hpk, hpe.1, hpe.2, ← Hkk.out.2.1, ← Hkk.out.2.2.1]; rfl
      obtain ⟨hll, -⟩ := (rd_iff.1 HY.out).2.1.len_le
      obtain ⟨hdl, -⟩ := (rd_iff.1 HY.out).2.2.len_le
      dsimp only at hll hdl
      rw [hpe.1] at hll
      rw [hpe.2] at hdl
      simp only [List.length_nil] at hll hdl
      subst hll hdl hk7
      have Hlv := Lib.hid hlv
      clear hlink hpk hpe hlv hlen
      go_wp2_with (first
        | (refine VCell.store rfl rfl (.tmp 3) (.tmp 8) rfl w2.heap.size .nil ⟨7, yn, yg, ys, ⟨ylp, 0, ylc⟩, ⟨ydp, 0, ydc⟩⟩ rfl rfl (heap_alloc_new w2 _) ?_; intro w3 HC3 HK3 HB3 HZ3; obtain ⟨k0, k1, k2, k3, k4, k5⟩ := HC3.out.at; dsimp only [Nat.zero_add] at k0 k1 k2 k3 k4 k5; have hlt3 : w2.heap.size < w3.heap.size := HC3.out.lt)
        | (at_builtin; (refine wpList_append_Rs rfl (.tmp 13) (.tmp 19) rfl w3.heap.size (some ⟨w3.heap.size, 0, none⟩) 0 0 [] rfl rfl ((OwnR.made w3 (Nat.le_refl _)).later (HbX.out _ _)) (some ⟨(w3.alloc (.cells #[] 40)).heap.size, 0, none⟩) 1 1 [(yn, yg)] rfl (by simp; rfl) (fun _ => ⟨_, 0, rfl, ref_made _ (yn, yg)⟩) (Nat.zero_le _) (by show 1 ≤ _; omega) w3 ((HbX.out w3 _).trans ((HbX.out _ _).mono (by simp))) (by simp; omega) ?_); intro p' cap' w5 HO5 HB5 HK5 HZ5; have x4 := (HB5.out.cell (p := ⟨w2.heap.size, 4, none⟩) hlt3).trans k4; have x5 := (HB5.out.cell (p := ⟨w2.heap.size, 5, none⟩) hlt3).trans k5))
      have Hbw : Hid (Below w.heap.size w w5) := Lib.hid (Hb1.out.trans ((Hb2.out.mono Hb1.out.size).trans (((HbX.out w2 _).mono (Nat.le_trans Hb1.out.size Hb2.out.size)).trans ((HB3.out.mono (Nat.le_trans Hb1.out.size Hb2.out.size)).trans (HB5.out.mono (by have := Hb1.out.size; have := Hb2.out.size; omega))))))
      clear k0 k1 k2 k3 k4 k5 HC3 HK3 HB3 HZ3 HK5
      go_loopg [4, 5] 0 (fun f s4 s5 wr => s4 = .slice p' 1 cap' ∧ s5 = .int .i64 0 ∧ wr = w5)
      case atStart => exact ⟨rfl, rfl, rfl⟩
      case round =>
        obtain ⟨rfl, rfl, rfl⟩ := hrel
        go_wp2
        go_loopg [4, 6] 0 (fun f s4 s6 wr' => s4 = .slice p' 1 cap' ∧ s6 = .int .i64 0 ∧ wr' = wr)
        case atStart => exact ⟨rfl, rfl, rfl⟩
        case round =>
          obtain ⟨rfl, rfl, rfl⟩ := hrel
          go_wp2
          go_ret
          exact ⟨p', cap', by rw [Hlv.out]; rfl, by rw [Hlv.out]; exact HO5.out.low (by have := Hb1.out.size; have := Hb2.out.size; omega), Hbw.out⟩
    · have hpk : ¬ p.kind = 7 := by rw [← Hkk.out.1]; exact hk7
      have hlv : linksV p = linksL p.l ++ linksD p.d := by rw [linksV_eq, if_neg hpk]; rfl
      rw [hlv] at hlen
      have Hlv := Lib.hid hlv
      have Hlen := Lib.hid hlen
      have Hlen1 : Hid ((linksL p.l).length ≤ 4000) := Lib.hid (by rw [List.length_append] at hlen; omega)
      obtain ⟨hll, hlm⟩ := (rd_iff.1 HY.out).2.1.len_le
      obtain ⟨hdl, hdm⟩ := (rd_iff.1 HY.out).2.2.len_le
      dsimp only at hll hlm hdl hdm
      unfold maxLen at hlm hdm
      have Hll := Lib.hid hll
      have Hdl := Lib.hid hdl
      have hk72 : (yk == 7) = false := by simpa using hk7
      clear hlink hpk hlv hlen hll hdl
      go_wp2_with (first
        | (refine VCell.store rfl rfl (.tmp 3) (.tmp 8) rfl w2.heap.size .nil ⟨yk, yn, yg, ys, ⟨ylp, yll, ylc⟩, ⟨ydp, ydl, ydc⟩⟩ rfl rfl (heap_alloc_new w2 _) ?_; intro w3 HC3 HK3 HB3 HZ3; obtain ⟨k0, k1, k2, k3, k4, k5⟩ := HC3.out.at; dsimp only [Nat.zero_add] at k0 k1 k2 k3 k4 k5; have hlt3 : w2.heap.size < w3.heap.size := HC3.out.lt))
      have HRL : Hid (RdL w3 (fun k => w1.heap.size ≤ k ∧ k < w3.heap.size) ⟨ylp, yll, ylc⟩ p.l) := Lib.hid (((rd_iff.1 HY.out).2.1.bound.later (fun k hk => (HK3.out k (Nat.ne_of_lt hk.2)).trans (push_old rfl hk.2))).mono (fun k hk => ⟨hk.1, Nat.lt_trans hk.2 hlt3⟩))
      have HRD : Hid (RdD w3 (fun k => w1.heap.size ≤ k ∧ k < w3.heap.size) ⟨ydp, ydl, ydc⟩ p.d) := Lib.hid (((rd_iff.1 HY.out).2.2.bound.later (fun k hk => (HK3.out k (Nat.ne_of_lt hk.2)).trans (push_old rfl hk.2))).mono (fun k hk => ⟨hk.1, Nat.lt_trans hk.2 hlt3⟩))
      have Hbw : Hid (Below w.heap.size w w3) := Lib.hid (Hb1.out.trans ((Hb2.out.mono Hb1.out.size).trans (((HbX.out w2 _).mono (Nat.le_trans Hb1.out.size Hb2.out.size)).trans (HB3.out.mono (Nat.le_trans Hb1.out.size Hb2.out.size)))))
      have HO0 : Hid (OwnR (w3.alloc (.cells #[] 40)) w3.heap.size (some ⟨w3.heap.size, 0, none⟩) 0 []) := Lib.hid (OwnR.made w3 (Nat.le_refl _))
      have HB0 := Lib.hid (HbX.out w3 (.cells #[] 40))
      have Hlt3 := Lib.hid hlt3
      clear k0 k1 k2 k3 HC3 HK3 HB3 HZ3 HY Hkk Hv1 Hw1 Hc Hb1 Hb2
      go_loopg [4, 5] yll (fun f s4 s5 wr => ∃ (i : Nat) (p' : Option Addr) (cap : Nat) (xs : List (Int × Int)), s5 = .int .i64 i ∧ s4 = .slice p' xs.length cap ∧ i ≤ yll ∧ yll ≤ f + i ∧ Aside (OwnR wr w3.heap.size p' cap xs) ∧ Aside (xs ++ linksL (p.l.drop i) = linksL p.l) ∧ Aside (Below w3.heap.size w3 wr))
      case atStart => exact ⟨0, _, _, [], rfl, rfl, Nat.zero_le _, Nat.le_refl _, HO0.out, rfl, HB0.out⟩
      case round =>
        obtain ⟨i, p0, cap, xs, rfl, rfl, hi, hf, HO, HI, HB⟩ := hrel
        have c4 := (HB.out.cell (p := ⟨w2.heap.size, 4, none⟩) hlt3).trans k4
        have c5 := (HB.out.cell (p := ⟨w2.heap.size, 5, none⟩) hlt3).trans k5
        by_cases hil : i < yll
        · obtain ⟨lb, lo, ⟨zk, zn, zg, zs, ⟨zlp, zll, zlc⟩, ⟨zdp, zdl, zdc⟩⟩, hiv, h3, h4, h5, h6⟩ := (HRL.out.later (fun k hk => HB.out.block k hk.2)).at hil
          subst h3
          obtain ⟨e0, e1, e2, e3, e4, e5⟩ := h5
          dsimp only at e0 e1 e2 e3 e4 e5
          obtain ⟨q, hq⟩ : ∃ q, p.l[i] = q := ⟨_, rfl⟩
          have hc := Hihl.out _ (List.getElem_mem hiv) ⟨zk, zn, zg, zs, ⟨zlp, zll, zlc⟩, ⟨zdp, zdl, zdc⟩⟩ wr _ h6 (fun k hk => Nat.lt_of_lt_of_le hk.2 HB.out.size)
          have Hst : Hid (linksL (p.l.drop i) = linksV q ++ linksL (p.l.drop (i + 1))) := Lib.hid (by rw [drop_cons hiv, ← hq]; rfl)
          rw [hq] at hc
          have Hc2 := Lib.hid hc
          have hql : (xs.length + (linksV q).length) ≤ 4000 := by
            have h := congrArg List.length HI.out
            rw [Hst.out, List.length_append, List.length_append] at h
            have := Hlen1.out
            omega
          clear hc h4 h6 hq
          go_wp2_with fail
          refine Hc2.out.mono ?_
          rintro e w5 ⟨q2, cap2, rfl, hO2, hb5⟩
          have HO2 := Lib.hid hO2
          have Hb5 := Lib.hid hb5
          have HB5 := Lib.hid (HB.out.trans (hb5.mono HB.out.size))
          have Hq2 : Hid (0 < (linksV q).length → ∃ b off, q2 = some ⟨b, off, none⟩ ∧ ∀ i (h : i < (linksV q).length), RefAt w5 b (off + i * 2) ((linksV q)[i])) := Lib.hid (fun h => by
            obtain ⟨_, g, h1, h2⟩ := hO2.form
            exact ⟨g, 0, (h1 (by omega)).1, h2⟩)
          obtain ⟨n2, hn2⟩ : ∃ n2, (linksV q).length = n2 := ⟨_, rfl⟩
          rw [hn2]
          have Hn2 := Lib.hid hn2.symm
          have hqm : xs.length + n2 ≤ 4000 := by rw [← hn2]; exact hql
          clear hO2 hb5 hn2 hql e0 e1 e2 e3 e4 e5 c4 c5
          go_wp2_with (at_builtin; refine wpList_append_Rs rfl (.tmp 28) (.tmp 34) rfl w3.heap.size _ _ _ xs rfl rfl (HO.out.later Hb5.out) _ _ _ (linksV q) Hn2.out rfl Hq2.out (by omega) (by rw [← Hn2.out]; omega) w3 HB5.out HB5.out.size ?_; intro p' cap' w6 HO6 HB6 HK6 HZ6)
          have e : (xs ++ linksV q).length = xs.length + n2 := by rw [List.length_append, ← Hn2.out]
          go_roundg (yll - (i + 1))
          case measure => omega
          case rel => exact ⟨i + 1, p', cap', _, by go_num, by rw [e], by omega, by omega, HO6.out, (show Aside _ from (by show _ = _; rw [← HI.out, Hst.out, List.append_assoc])), HB6.out⟩
        · have hxs : xs = linksL p.l := by rw [← HI.out, List.drop_eq_nil_of_le (by have := Hll.out; omega)]; exact (List.append_nil _).symm
          have HOx := Lib.hid HO.out
          have HBx := Lib.hid HB.out
          have HIx : Hid (xs ++ linksD p.d = linksL p.l ++ linksD p.d) := Lib.hid (by rw [hxs])
          clear HI hxs HO HB
          go_wp2
          go_loopg [4, 6] ydl (fun f s4 s6 wr => ∃ (i : Nat) (p' : Option Addr) (cap : Nat) (xs : List (Int × Int)), s6 = .int .i64 i ∧ s4 = .slice p' xs.length cap ∧ i ≤ ydl ∧ ydl ≤ f + i ∧ Aside (OwnR wr w3.heap.size p' cap xs) ∧ Aside (xs ++ linksD (p.d.drop i) = linksL p.l ++ linksD p.d) ∧ Aside (Below w3.heap.size w3 wr))
          case atStart => exact ⟨0, _, _, xs, rfl, rfl, Nat.zero_le _, Nat.le_refl _, HOx.out, HIx.out, HBx.out⟩
          case round =>
            clear c4 c5 HOx HBx HIx
            obtain ⟨i, p0, cap, xs, rfl, rfl, hi, hf, HO, HI, HB⟩ := hrel
            have c5 := (HB.out.cell (p := ⟨w2.heap.size, 5, none⟩) hlt3).trans k5
            by_cases hil : i < ydl
            · obtain ⟨lb, lo, ⟨zz, ⟨zk, zn, zg, zs, ⟨zlp, zll, zlc⟩, ⟨zdp, zdl, zdc⟩⟩⟩, hiv, h3, h4, ⟨e0, h5⟩, hky, h6⟩ := (HRD.out.later (fun k hk => HB.out.block k hk.2)).at hil
              subst h3
              obtain ⟨e1, e2, e3, e4, e5, e6⟩ := h5
              dsimp only at e0 e1 e2 e3 e4 e5 e6 h6
              obtain ⟨q, hq⟩ : ∃ q, (p.d[i]).2 = q := ⟨_, rfl⟩
              have hc := Hihd.out _ (List.getElem_mem hiv) ⟨zk, zn, zg, zs, ⟨zlp, zll, zlc⟩, ⟨zdp, zdl, zdc⟩⟩ wr _ h6 (fun k hk => Nat.lt_of_lt_of_le hk.2 HB.out.size)
              have Hst : Hid (linksD (p.d.drop i) = linksV q ++ linksD (p.d.drop (i + 1))) := Lib.hid (by rw [drop_cons hiv, ← hq]; rfl)
              rw [hq] at hc
              have Hc2 := Lib.hid hc
              have hql : (xs.length + (linksV q).length) ≤ 4000 := by
                have h := congrArg List.length HI.out
                rw [Hst.out, List.length_append, List.length_append] at h
                have := Hlen.out
                omega
              clear hc h4 h6 hq hky
              go_wp2_with fail
              refine Hc2.out.mono ?_
              rintro e w5 ⟨q2, cap2, rfl, hO2, hb5⟩
              have HO2 := Lib.hid hO2
              have Hb5 := Lib.hid hb5
              have HB5 := Lib.hid (HB.out.trans (hb5.mono HB.out.size))
              have Hq2 : Hid (0 < (linksV q).length → ∃ b off, q2 = some ⟨b, off, none⟩ ∧ ∀ i (h : i < (linksV q).length), RefAt w5 b (off + i * 2) ((linksV q)[i])) := Lib.hid (fun h => by
                obtain ⟨_, g, h1, h2⟩ := hO2.form
                exact ⟨g, 0, (h1 (by omega)).1, h2⟩)
              obtain ⟨n2, hn2⟩ : ∃ n2, (linksV q).length = n2 := ⟨_, rfl⟩
              rw [hn2]
              have Hn2 := Lib.hid hn2.symm
              have hqm : xs.length + n2 ≤ 4000 := by rw [← hn2]; exact hql
              clear hO2 hb5 hn2 hql e0 e1 e2 e3 e4 e5 e6 c5
              go_wp2_with (at_builtin; refine wpList_append_Rs rfl (.tmp 43) (.tmp 50) rfl w3.heap.size _ _ _ xs rfl rfl (HO.out.later Hb5.out) _ _ _ (linksV q) Hn2.out rfl Hq2.out (by omega) (by rw [← Hn2.out]; omega) w3 HB5.out HB5.out.size ?_; intro p' cap' w6 HO6 HB6 HK6 HZ6)
              have e : (xs ++ linksV q).length = xs.length + n2 := by rw [List.length_append, ← Hn2.out]
              go_roundg (ydl - (i + 1))
              case measure => omega
              case rel => exact ⟨i + 1, p', cap', _, by go_num, by rw [e], by omega, by omega, HO6.out, (show Aside _ from (by show _ = _; rw [← HI.out, Hst.out, List.append_assoc])), HB6.out⟩
            · have hxs : Hid (xs = linksV p) := Lib.hid (by rw [Hlv.out, ← HI.out, List.drop_eq_nil_of_le (by have := Hdl.out; omega)]; exact (List.append_nil _).symm)
              clear HI
              go_wp2
              go_ret
              exact ⟨p0, cap, by rw [← hxs.out]; rfl, by rw [← hxs.out]; exact HO.out.low Hbw.out.size, Hbw.out.trans (HB.out.mono Hbw.out.size)⟩

theorem rlinks_any (v : Val) (x : Hv) (w : World) (S : Nat → Prop) (hR : Rd w S x v) (hS : ∀ k, S k → k < w.heap.size) (hfit : Fit v 4000) :
    Calls Try.prog 27 #[.agg x.arr] w fun e w' => ∃ p cap, e = .returned (.slice p (linksV (plainV v)).length cap) ∧ OwnR w' w.heap.size p cap (linksV (plainV v)) ∧ Below w.heap.size w w' :=
  rlinks_of (sizeV v) v (Nat.le_refl _) x w S hR hS hfit
end Go.Proofs.Ytlmgjhidmipadaa
