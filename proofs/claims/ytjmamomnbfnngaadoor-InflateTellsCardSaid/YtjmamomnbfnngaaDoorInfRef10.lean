/-
  The contract of the document's coded.
-/
import Derived.Test.YtjmamomnbfnngaaDoorInfRef9
namespace Go.Proofs.YtjmamomnbfnngaaDoor
open Go.RowKit

theorem wpList_append_row8 {ops : Array Oper} {rest : List Oper} {o : Oper} {a : Act} {w : World} {Q : Exit → Act → World → Prop} (hgd : o.guard = none) (s x : Operand)
    (ho : o.op = .call { callee := .builtin .append, args := #[s, x], argTypes := #[35, 35] })
    (v : Value) (l : List UInt8) (hs : a.eval s = v) (hown : Row8 w v l)
    (ad : Addr) (c : Nat) (x8 : UInt8) (hx : a.eval x = .slice (some ad) 1 c) (hnews : ∀ j (h : j < [x8].length), w.cell? (ad.add j) = some (.int .u8 ([x8][j].toNat : Int)))
    (hlen : l.length + 1 ≤ 140737488355328) (H : Nat) (hH : w.heap.size = H)
    (h : ∀ v' w', Hid (Row8 w' v' (l ++ [x8])) → Hid (w.grownBy w' v.ownBlock) → Hid (∀ k, v'.ownBlock = some k → v.ownBlock = some k ∨ k = H) → (∃ g cap, v' = .slice (some ⟨g, 0, none⟩) (l.length + 1) cap) → wpList Tryd.prog ops Q rest (a.put o.dst v') w') : wpList Tryd.prog ops Q (o :: rest) a w := by
  refine wpList_plain hgd fun K hK => ?_
  have hw : Region.wanted o (yielded ops a.tmps) = true := by simp [Region.wanted, hgd]
  have := step_append_row8 (ops := ops) (K := K) (Q := Q) (E := True) hgd s x ho v l hs hown ad c x8 hx hnews hlen H hH (fun v' w' h1 h2 h3 h4 => hK _ _ (h v' w' h1 h2 h3 h4))
  rwa [if_pos hw] at this

set_option maxRecDepth 100000 in
set_option maxHeartbeats 4000000 in
theorem rCoded_any (s : ByteArray) (pb : Option Addr) (cb : Nat) (vo : Value) (most : Nat) (x : St) (p1 p2 : Option Addr) (c1 c2 n1 n2 nb : Nat) (lit dist : List Nat) (w : World) (ho1 : vo.oneCell' = true) (hp : x.at' ≤ 8 * s.size) (hs : s.size ≤ 100000)
    (hM : most ≤ 100000) (hol : x.out.length ≤ 100000) (hrow : Row8 w vo x.out) (he1 : refusedZ (intsOf lit) = 0) (he2 : refusedZ (intsOf dist) = 0) (hn1 : n1 = lit.length) (hn2 : n2 = dist.length) (hnb : nb = 8 * s.size)
    (hq1 : Reads w vo w.heap.size p1 (intsOf lit)) (hq2 : Reads w vo w.heap.size p2 (intsOf dist)) (hq3 : Reads w vo w.heap.size pb (asZ (bitsOf s.data.toList))) :
    Calls Tryd.prog 17 #[.agg (stV s (.slice pb nb cb) vo most x), .slice p1 n1 c1, .slice p2 n2 c2] w (Handed10 w vo.ownBlock.toList s (.slice pb nb cb) most (codedS s.data.toList lit dist most FUEL x)) := by
  have hsz : s.data.toList.length = s.size := by rw [← size_data]
  have Hsz := Lib.hid hsz
  obtain ⟨hl1, h151⟩ := refused_facts he1
  obtain ⟨hl2, h152⟩ := refused_facts he2
  obtain ⟨F, hF⟩ : ∃ F, FUEL = F := ⟨_, rfl⟩
  have hF8 : 8 * s.size + 1 ≤ F := by rw [← hF]; unfold FUEL; omega
  have HF8 := Lib.hid hF8
  rw [hF]
  obtain ⟨fin, hfin⟩ : ∃ fin, codedS s.data.toList lit dist most F x = fin := ⟨_, rfl⟩
  have Hfin := Lib.hid hfin
  rw [hfin]
  have Hcode1 := Lib.hid (fun W (hb : Below w.heap.size w W) => rCodesN_any p1 c1 n1 lit W hn1 (hq1.nums.later hb) he1)
  have Hcode2 := Lib.hid (fun W (hb : Below w.heap.size w W) => rCodesN_any p2 c2 n2 dist W hn2 (hq2.nums.later hb) he2)
  have hsym : ∀ (y : St) (v : Value) (W : World) (g2 k2 : Nat), v.oneCell' = true → y.at' ≤ 8 * s.size → Nums W p1 (intsOf lit) → Nums W (some ⟨g2, 0, none⟩) (asZ (codesN lit)) → Nums W pb (asZ (bitsOf s.data.toList)) → _ := fun y v W g2 k2 hv hy h1 h2 h3 => rSymS_any s pb cb v most y p1 (some ⟨g2, 0, none⟩) c1 k2 n1 n1 nb lit W hv hy hs (by omega) h151 hn1 hn1 hnb h1 h2 h3
  have Hsym := Lib.hid hsym
  have hcop : ∀ (y : St) (v : Value) (k : Nat) (W : World) (g2 k2 : Nat), v.oneCell' = true → y.at' ≤ 8 * s.size → k ≤ 28 → y.out.length ≤ 100000 → Row8 W v y.out → Nums W p2 (intsOf dist) → Nums W (some ⟨g2, 0, none⟩) (asZ (codesN dist)) → Nums W pb (asZ (bitsOf s.data.toList)) → _ := fun y v k W g2 k2 hv hy hk ho hr h1 h2 h3 => rCopied_any s pb cb v most k y p2 (some ⟨g2, 0, none⟩) c2 k2 n2 n2 nb dist W hv hy hs hk (by omega) hr (by omega) h152 hn2 hn2 hnb h1 h2 h3
  have Hcop := Lib.hid hcop
  obtain ⟨vb, hvb⟩ : ∃ vb, Value.slice pb nb cb = vb := ⟨_, rfl⟩
  have hb1 : vb.oneCell' = true := by rw [← hvb]; rfl
  rw [hvb] at Hsym Hcop
  rw [hvb]
  have HWk := Lib.hid (Work.begun (s := s) (vb := vb) (most := most) hrow)
  have Hlt := Lib.hid hrow.lt
  have HQ := Lib.hid (And.intro hq1 (And.intro hq2 hq3))
  obtain ⟨W, hW, H1, H2, HB⟩ := boxes_is w s vb vo most x
  rw [hW] at HWk
  unfold boxes at hW
  have Hw2 : Hid (w.heap.size + 1 < W.heap.size) := Lib.hid H2.out.lt
  have HcW := Lib.hid (Hcode1.out W HB.out)
  obtain ⟨Post, hPost⟩ : ∃ Post, Handed10 w vo.ownBlock.toList s vb most fin = Post := ⟨_, rfl⟩
  rw [hPost]
  have HPost := Lib.hid hPost
  clear hsym hcop hsz hvb hq1 hq2 hq3 hn1 hn2 hnb h151 h152 hl1 hl2 he1 he2 hfin hF8 hF Hcode1 hPost hrow
  go_enter Tryd.func17, Tryd.ntmps17
  go_wp2_with fail
  refine HcW.out.mono ?_
  rintro e w1 ⟨g1, k1, rfl, hG1, hb1', hg1⟩
  have HB1 : Hid (Below w.heap.size w w1) := Lib.hid (HB.out.trans (hb1'.mono HB.out.size))
  have HW1 := Lib.hid (HWk.out.call hb1')
  have HG1 := Lib.hid hG1
  have Hg1 : Hid (w.heap.size + 1 < g1) := Lib.hid (by have := Hw2.out; omega)
  have Hc2 := Lib.hid (Hcode2.out w1 HB1.out)
  have Hw1 : Hid (w.heap.size + 1 < w1.heap.size) := Lib.hid (by have := Hw2.out; have := hb1'.size; omega)
  clear hG1 hb1' hg1 HcW Hcode2
  go_wp2_with fail
  refine Hc2.out.mono ?_
  rintro e w2 ⟨g2, k2, rfl, hG2, hb2', hg2⟩
  have HB2 : Hid (Below w.heap.size w w2) := Lib.hid (HB1.out.trans (hb2'.mono HB1.out.size))
  have HW2 := Lib.hid (HW1.out.call hb2')
  have HK2 : Hid (Keep5 w2 vo w.heap.size p1 p2 (some ⟨g1, 0, none⟩) (some ⟨g2, 0, none⟩) pb (intsOf lit) (intsOf dist) (asZ (codesN lit)) (asZ (codesN dist)) (asZ (bitsOf s.data.toList))) := Lib.hid (by
    have hk : ∀ b, b < w.heap.size → vo.ownBlock ≠ some b → b ≠ w.heap.size → w2.heap[b]? = w.heap[b]? := fun b h _ _ => HB2.out.block b h
    have hv : ∀ k, vo.ownBlock = some k → vo.ownBlock = some k ∨ w.heap.size ≤ k := fun k h => .inl h
    have h1 := Hg1.out
    have h2 := Hw1.out
    exact ⟨HQ.out.1.next HB2.out.size hk hv, HQ.out.2.1.next HB2.out.size hk hv, Reads.bits (HG1.out.later hb2') (fun e => by have := Hlt.out _ e; omega) (by omega), Reads.bits hG2 (fun e => by have := Hlt.out _ e; omega) (by omega), HQ.out.2.2.next HB2.out.size hk hv⟩)
  clear hG2 hb2' hg2 Hc2
  go_wp2_with fail
  go_loopg [11, 12] F (fun g s11 s12 wx => ∃ (y : St) (v : Value), v.oneCell' = true ∧ Aside (Work w wx vo.ownBlock.toList s vb v most y) ∧ Aside (Keep5 wx v w.heap.size p1 p2 (some ⟨g1, 0, none⟩) (some ⟨g2, 0, none⟩) pb (intsOf lit) (intsOf dist) (asZ (codesN lit)) (asZ (codesN dist)) (asZ (bitsOf s.data.toList))) ∧ Aside (codedS s.data.toList lit dist most g y = fin) ∧ Aside (y.code = 0 → y.at' ≤ 8 * s.size ∧ 8 * s.size + 1 ≤ g + y.at' ∧ y.out.length ≤ 100000))
  case atStart => exact ⟨x, vo, ho1, HW2.out, HK2.out, Hfin.out, fun _ => ⟨hp, by have := HF8.out; omega, hol⟩⟩
  case round =>
    obtain ⟨y, v, hv1, HW, HK, Hy, HY⟩ := hrel
    have D1 := Lib.hid HW.out.1
    have D2 := Lib.hid HW.out.2.1
    have k5 := D1.out.code
    by_cases h0 : y.code = 0
    · obtain ⟨hy1, hy2, hy3⟩ := HY.out h0
      obtain ⟨g, rfl⟩ : ∃ f, gk = f + 1 := ⟨gk - 1, by omega⟩
      obtain ⟨yb, n, hb⟩ : ∃ yb n, symS s.data.toList y lit = (yb, n) := ⟨_, _, rfl⟩
      have fb := symS_facts (l := s.data.toList) (x := y) (ns := lit) (by rw [Hsz.out]; exact hy1)
      have fm : yb.code = 0 → y.at' < yb.at' := by
        have h1 := symS_more (l := s.data.toList) (ns := lit) h0
        rw [hb] at h1; exact h1
      rw [hb, Hsz.out] at fb
      have Hsy := Lib.hid (Hsym.out y v wr g1 k1 hv1 hy1 HK.out.1.nums HK.out.2.2.1.nums HK.out.2.2.2.2.nums)
      rw [hb] at Hsy
      obtain ⟨bd, hbd⟩ : ∃ bd, decide (285 < n) = bd := ⟨_, rfl⟩
      have hbz : decide ((285 : Int) < (n : Int)) = bd := by rw [← hbd, decide_eq_decide]; omega
      obtain ⟨c, hc⟩ : ∃ c, failS yb bd 4 = c := ⟨_, rfl⟩
      have fc := failS_facts yb bd 4
      rw [hc] at fc
      have Hfc := Lib.hid (fun W => rFail_any s vb v most yb bd 4 W hb1 hv1)
      rw [hc] at Hfc
      have Fc : Hid (c.at' ≤ 8 * s.size ∧ c.out = y.out ∧ yb.out = y.out ∧ c.out = yb.out ∧ (c.code = 0 → y.at' < c.at' ∧ n ≤ 285)) := Lib.hid ⟨by rw [fc.1]; exact fb.1, fc.2.trans fb.2, fb.2, fc.2, fun h => by
        have h1 := failS_zero (x := yb) (c := bd) (e := 4) (by decide) (by rw [hc]; exact h)
        refine ⟨by rw [fc.1]; exact fm h1.2.1, ?_⟩
        rw [h1.1] at hbd
        have := of_decide_eq_false hbd
        omega⟩
      have HYf := Lib.hid (And.intro hy1 (And.intro hy2 hy3))
      have Hb := Lib.hid hb
      have Hbd := Lib.hid hbd
      have Hc := Lib.hid hc
      have H0 := Lib.hid h0
      have k50 : wr.cell? ⟨w.heap.size, 5, none⟩ = some (.int .i64 0) := by rw [k5, h0]
      clear hb fb fm hc fc h0 k5 hy1 hy2 hy3 hbd
      go_wp2_with (with_reducible first
        | refine StCell.load rfl (.tmp 3) rfl w.heap.size _ _ _ _ _ rfl D1.out ?_)
      refine Hsy.out.mono ?_
      rintro e w3 ⟨rfl, hb3⟩
      have HW3 := Lib.hid (HW.out.call hb3)
      have HK3 := Lib.hid (HK.out.later hb3)
      have Ea := Lib.hid (zero_new w3)
      have Ba : Hid (Below w3.heap.size w3 (w3.alloc (.cells #[.string ⟨#[]⟩, .slice none 0 0, .int .i64 0, .slice none 0 0, .int .i64 0, .int .i64 0] 47))) := Lib.hid ((Below.refl _ _).alloc (Nat.le_refl _) _)
      clear hb3 Hsy k50
      go_upto_region 5 with (with_reducible first
        | (refine StCell.store rfl rfl (.tmp 11) (.tmp 31) rfl w3.heap.size _ _ _ _ _ _ _ _ _ _ hb1 hv1 rfl rfl Ea.out w3.heap.size w3 Ba.out (Nat.le_refl _) ?_; intro w4 Hs4 Hb4 Ho4))
      have HW4 := Lib.hid (HW3.out.call Hb4.out)
      have HK4 := Lib.hid (HK3.out.later Hb4.out)
      go_wp2_with (with_reducible first
        | refine StCell.load rfl (.tmp 11) rfl w3.heap.size _ _ _ _ _ rfl Hs4.out ?_)
      refine (Hfc.out _).mono ?_
      rintro e w5 ⟨rfl, hb5⟩
      have HW5 := Lib.hid (HW4.out.call hb5)
      have HK5 := Lib.hid (HK4.out.later hb5)
      have D5 := Lib.hid HW5.out.1
      clear hb5 Hfc
      go_upto_region 6 with (with_reducible first
        | (refine StCell.store rfl rfl (.tmp 3) (.tmp 36) rfl w.heap.size _ _ _ _ _ _ _ _ _ _ hb1 hv1 rfl rfl D5.out w.heap.size w5 (Below.refl _ _) (Nat.le_refl _) ?_; intro w6 Hs6 Hb6 Ho6))
      have HW6 := Lib.hid (HW5.out.store Fc.out.2.1 Hs6.out Hb6.out Ho6.out)
      have HK6 := Lib.hid (HK5.out.store Hb6.out.size Ho6.out)
      have D6 := Lib.hid HW6.out.2.1
      have k6 := Hs6.out.code
      clear D1 D2 HW HK HW3 HK3 Ea Ba Hs4 Hb4 Ho4 HW4 HK4 HW5 HK5 D5
      have hcase : (c.code ≠ 0 ∨ n = 256) ∨ (c.code = 0 ∧ n < 256) ∨ (c.code = 0 ∧ ∃ k, n = k + 257) := by
        by_cases h1 : c.code = 0
        · have h2 : n = 256 ∨ n < 256 ∨ 256 < n := by omega
          rcases h2 with h2 | h2 | h2
          · exact .inl (.inr h2)
          · exact .inr (.inl ⟨h1, h2⟩)
          · exact .inr (.inr ⟨h1, n - 257, by omega⟩)
        · exact .inl (.inl h1)
      rcases hcase with hstop | ⟨hc0, hn⟩ | ⟨hc0, k, hk⟩
      · have Hr : Hid (c = fin) := Lib.hid (by rw [← Hy.out, codedS_stop H0.out Hb.out (by rw [Hbd.out]; exact Hc.out) hstop])
        have hcase2 : (c.code != 0) = true ∨ ((c.code != 0) = false ∧ ((n : Int) == 256) = true) := by
          by_cases h1 : c.code = 0
          · rcases hstop with h2 | h2
            · exact absurd h1 h2
            · exact .inr ⟨by simpa using h1, by rw [h2]; rfl⟩
          · exact .inl (by simpa using h1)
        clear hstop
        rcases hcase2 with h1 | ⟨h1, h2⟩
        all_goals
          go_wp2_with (with_reducible first
            | refine StCell.load rfl (.tmp 3) rfl w.heap.size _ _ _ _ _ rfl Hs6.out ?_
            | (refine StCell.store rfl rfl (.tmp 6) (.tmp 44) rfl (w.heap.size + 1) _ _ _ _ _ _ _ _ _ _ hb1 hv1 rfl rfl D6.out w.heap.size w6 (Below.refl _ _) (by omega) ?_; intro w9 Hs9 Hb9 Ho9))
          exact bodyPost_ret (results_st rfl _ _ (w.heap.size + 1) _ _ _ _ _ rfl Hs9.out) rfl (by rw [← HPost.out, ← Hr.out]; exact HW6.out.done hv1 Hb9.out Ho9.out)
      · have h1 : (c.code != 0) = false := by simpa using hc0
        have h2 : ((n : Int) == 256) = false := by rw [beq_eq_false_iff_ne]; omega
        have h3 : (n : Int) < 256 := by omega
        have hnw : IntKind.u8.wrap (n : Int) = (n : Int) := IntWalk.u8_in _ (by omega)
        have hnz : (n : Int) = ((UInt8.ofNat n).toNat : Int) := by rw [UInt8.toNat_ofNat', Nat.mod_eq_of_lt hn]
        have Hnz := Lib.hid hnz
        have HW6e : Hid (Work w w6 vo.ownBlock.toList s vb v most ⟨c.at', c.out, c.code⟩) := Lib.hid HW6.out
        have R6 := Lib.hid HW6.out.2.2.1
        obtain ⟨ln, hln⟩ : ∃ ln, c.out.length = ln := ⟨_, rfl⟩
        have hlen8 : c.out.length + 1 ≤ 140737488355328 := by rw [Fc.out.2.1]; have := HYf.out.2.2; omega
        have k3 := Hs6.out.out
        obtain ⟨bm, hbm⟩ : ∃ bm, decide (most < ln + 1) = bm := ⟨_, rfl⟩
        have hbm1 : decide ((most : Int) < (ln : Int) + 1) = bm := by rw [← hbm, decide_eq_decide]; omega
        obtain ⟨d, hd⟩ : ∃ d, failS ⟨c.at', c.out ++ [UInt8.ofNat n], c.code⟩ bm 7 = d := ⟨_, rfl⟩
        have Hnx : Hid (codedS s.data.toList lit dist most g d = fin) := Lib.hid (by rw [← Hy.out, codedS_byte (d := d) H0.out Hb.out (by rw [Hbd.out]; exact Hc.out) hc0 hn (by rw [hln, hbm]; exact hd)])
        have Hgood : Hid (d.code = 0 → d.at' ≤ 8 * s.size ∧ 8 * s.size + 1 ≤ g + d.at' ∧ d.out.length ≤ 100000) := Lib.hid fun hd0 => by
          have f1 := failS_zero (x := ⟨c.at', c.out ++ [UInt8.ofNat n], c.code⟩) (c := bm) (e := 7) (by decide) (by rw [hd]; exact hd0)
          have e1 : d = ⟨c.at', c.out ++ [UInt8.ofNat n], c.code⟩ := hd.symm.trans f1.2.2
          have e2 := f1.1
          rw [← hbm] at e2
          have e3 := of_decide_eq_false e2
          have := (Fc.out.2.2.2.2 hc0).1
          have := HYf.out.2.1
          rw [e1]
          refine ⟨Fc.out.1, by show _ ≤ g + c.at'; omega, ?_⟩
          show (c.out ++ [UInt8.ofNat n]).length ≤ 100000
          rw [List.length_append, hln, List.length_singleton]; omega
        have Hlen8 := Lib.hid hlen8
        have Hln := Lib.hid hln
        have fd := failS_facts ⟨c.at', c.out ++ [UInt8.ofNat n], c.code⟩ bm 7
        rw [hd] at fd
        have Fd := Lib.hid fd
        have Hfd := Lib.hid (fun (v' : Value) W (hv' : v'.oneCell' = true) => rFail_any s vb v' most ⟨c.at', c.out ++ [UInt8.ofNat n], c.code⟩ bm 7 W hb1 hv')
        rw [hd] at Hfd
        clear hc0 hnz hln hlen8 hd fd hbm
        go_upto_region 10 with (first
          | (at_builtin; refine wpList_append_row8 rfl (.tmp 48) (.tmp 51) rfl _ c.out rfl (R6.out.move fun k hk => Below.heap_alloc _ _ _ (R6.out.lt k hk)) _ _ (UInt8.ofNat n) rfl (cells_new1_y _ rfl _ _ Hnz.out) Hlen8.out _ rfl ?_; intro v9 w9 Hr9 Hg9 Hv9 hf9; rw [Hln.out] at hf9; obtain ⟨g9, cap9, rfl⟩ := hf9; have HW9 := Lib.hid (HW6e.out.append Hr9.out Hg9.out Hv9.out); have c39 := HW6e.out.cell3 Hg9.out; have f39 := HW6e.out.free3 Hg9.out))
        have HK9 : Hid (Keep5 (w9.setCell ⟨w.heap.size, 3, none⟩ (.slice (some ⟨g9, 0, none⟩) (ln + 1) cap9)) (.slice (some ⟨g9, 0, none⟩) (ln + 1) cap9) w.heap.size p1 p2 (some ⟨g1, 0, none⟩) (some ⟨g2, 0, none⟩) pb (intsOf lit) (intsOf dist) (asZ (codesN lit)) (asZ (codesN dist)) (asZ (bitsOf s.data.toList))) := Lib.hid (HK6.out.next (by have := Hg9.out.size; simp [World.setCell] at this ⊢; omega) (fun b hb' hn' hne => by
          rw [heap_setCell_other _ ⟨w.heap.size, 3, none⟩ b _ hne, Hg9.out.block b (by simp; omega) (fun e => hn' e.symm)]
          exact Below.heap_alloc _ _ _ hb') (fun k' hk' => by
          rcases Hv9.out k' hk' with h | h
          · exact .inl h
          · exact .inr (by simp at h; omega)))
        clear c39 f39 k3
        obtain ⟨W9, hW9⟩ : ∃ W9, w9.setCell ⟨w.heap.size, 3, none⟩ (.slice (some ⟨g9, 0, none⟩) (ln + 1) cap9) = W9 := ⟨_, rfl⟩
        rw [hW9] at HW9 HK9
        rw [hW9]
        have C9 := Lib.hid HW9.out.1
        have j3 := C9.out.out
        have j4 := C9.out.most
        clear hW9
        go_wp2_with (with_reducible first
          | refine StCell.load rfl (.tmp 3) rfl w.heap.size _ _ _ _ _ rfl C9.out ?_)
        refine (Hfd.out _ _ rfl).mono ?_
        rintro e w10 ⟨rfl, hb10⟩
        have HW10 := Lib.hid (HW9.out.call hb10)
        have HK10 := Lib.hid (HK9.out.later hb10)
        have C10 := Lib.hid HW10.out.1
        clear hb10 j3 j4
        go_wp2_with (with_reducible first
          | (refine StCell.store rfl rfl (.tmp 3) (.tmp 61) rfl w.heap.size _ _ _ _ _ _ _ _ _ _ hb1 rfl rfl rfl C10.out w.heap.size w10 (Below.refl _ _) (Nat.le_refl _) ?_; intro w11 Hs11 Hb11 Ho11))
        go_roundg g
        case measure => omega
        case rel => exact ⟨d, _, rfl, HW10.out.store Fd.out.2 Hs11.out Hb11.out Ho11.out, HK10.out.store Hb11.out.size Ho11.out, Hnx.out, Hgood.out⟩
      · have h1 : (c.code != 0) = false := by simpa using hc0
        have h2 : ((n : Int) == 256) = false := by rw [beq_eq_false_iff_ne]; omega
        have h3 : ¬ (n : Int) < 256 := by omega
        have hk28 : k ≤ 28 := by have := (Fc.out.2.2.2.2 hc0).2; omega
        have hnk : (n : Int) - 257 = (k : Int) := by omega
        obtain ⟨d, hd⟩ : ∃ d, copiedS s.data.toList dist most k c = d := ⟨_, rfl⟩
        have Hcp := Lib.hid (Hcop.out c v k w6 g2 k2 hv1 Fc.out.1 hk28 (by rw [Fc.out.2.1]; exact HYf.out.2.2) HW6.out.2.2.1 HK6.out.2.1.nums HK6.out.2.2.2.1.nums HK6.out.2.2.2.2.nums)
        rw [hd] at Hcp
        have Hnx : Hid (codedS s.data.toList lit dist most g d = fin) := Lib.hid (by rw [← Hy.out, codedS_copy H0.out Hb.out (by rw [Hbd.out]; exact Hc.out) hc0 hk hd])
        have Hgood : Hid (d.code = 0 → d.at' ≤ 8 * s.size ∧ 8 * s.size + 1 ≤ g + d.at' ∧ d.out.length ≤ 100000) := Lib.hid fun hd0 => by
          have g1' := copiedS_good (l := s.data.toList) (dist := dist) (M := most) hk28 hc0 (by rw [Hsz.out]; exact Fc.out.1) (by rw [hd]; exact hd0)
          have g2' := copiedS_room (l := s.data.toList) (dist := dist) (M := most) (k := k) (x := c) (by rw [hd]; exact hd0)
          rw [hd] at g1' g2'
          rw [Hsz.out] at g1'
          have := (Fc.out.2.2.2.2 hc0).1
          have := HYf.out.2.1
          exact ⟨g1'.2, by omega, by omega⟩
        clear hc0 hk hd
        go_wp2_with (with_reducible first
          | refine StCell.load rfl (.tmp 3) rfl w.heap.size _ _ _ _ _ rfl Hs6.out ?_)
        refine Hcp.out.mono ?_
        rintro e w7 ⟨v2, rfl, hv2, hr2, ht2⟩
        have D7 := Lib.hid (HW6.out.still ht2)
        have HK7 := Lib.hid (HK6.out.touch ht2)
        have Ht2 := Lib.hid ht2
        have Hr2 := Lib.hid hr2
        clear ht2 hr2 Hcp
        go_wp2_with (with_reducible first
          | (refine StCell.store rfl rfl (.tmp 3) (.tmp 67) rfl w.heap.size _ _ _ _ _ _ _ _ _ _ hb1 hv2 rfl rfl D7.out w.heap.size w7 (Below.refl _ _) (Nat.le_refl _) ?_; intro w8 Hs8 Hb8 Ho8))
        go_roundg g
        case measure => omega
        case rel => exact ⟨d, v2, hv2, HW6.out.handed Ht2.out Hr2.out Hs8.out Hb8.out Ho8.out, HK7.out.store Hb8.out.size Ho8.out, Hnx.out, Hgood.out⟩
    · have hz : (y.code == 0) = false := by simpa using h0
      have Hr : Hid (y = fin) := Lib.hid (by rw [← Hy.out, codedS_bad h0])
      clear h0
      go_wp2_with (with_reducible first
        | refine StCell.load rfl (.tmp 3) rfl w.heap.size _ _ _ _ _ rfl D1.out ?_
        | (refine StCell.store rfl rfl (.tmp 6) (.tmp 68) rfl (w.heap.size + 1) _ _ _ _ _ _ _ _ _ _ hb1 hv1 rfl rfl D2.out w.heap.size wr (Below.refl _ _) (by omega) ?_; intro w9 Hs9 Hb9 Ho9))
      exact bodyPost_ret (results_st rfl _ _ (w.heap.size + 1) _ _ _ _ _ rfl Hs9.out) rfl (by rw [← HPost.out, ← Hr.out]; exact HW.out.done hv1 Hb9.out Ho9.out)

end Go.Proofs.YtjmamomnbfnngaaDoor
