/-
  The contract of the document's row.
-/
import Derived.Test.YtjmamomnbfnngaaDoorInfRef7
import Derived.Test.YtjmamomnbfnngaaDoorGCodeR
import Derived.Deep.CutBlock
namespace Go.Proofs.YtjmamomnbfnngaaDoor
open Go.RowKit

theorem bitsS_more {l : List UInt8} {x : St} {k : Nat} (hk : k ≤ 16) : x.at' ≤ (bitsS l x k).1.at' := by
  by_cases h0 : x.code = 0
  · rcases bitsS_ok (l := l) h0 hk with ⟨n, _, h2⟩ | ⟨_, _, h3, _⟩
    · rw [h2]; exact Nat.le_add_right _ _
    · rw [h3]; exact Nat.le_refl _
  · rw [bitsS_bad h0]; exact Nat.le_refl _
theorem bitsS_still {l : List UInt8} {x : St} {k : Nat} (h : (bitsS l x k).1.code = 0) : x.code = 0 := by
  by_cases h0 : x.code = 0
  · exact h0
  · rw [bitsS_bad h0] at h; exact h
theorem failS_still {x : St} {c : Bool} {e : Int} (he : e ≠ 0) (h : (failS x c e).code = 0) : x.code = 0 := (failS_zero he h).2.1
theorem symS_more {l : List UInt8} {x : St} {ns : List Nat} (hx : x.code = 0) (h : (symS l x ns).1.code = 0) : x.at' < (symS l x ns).1.at' := by
  rcases symS_ok (l := l) (ns := ns) hx with ⟨n, tt, h1, h2⟩ | ⟨e, he, _, h2, _⟩
  · rw [h2]
    unfold symP at h1
    obtain ⟨sy, m, e, hr⟩ : ∃ sy m e, readC (intsOf ns) (codesN ns) (longN ns) 0 0 ((bitsOf l).drop x.at') = (sy, m, e) := ⟨_, _, _, rfl⟩
    rw [hr] at h1
    simp only at h1
    split at h1
    · rename_i he
      have := readC_pos _ _ _ _ _ _ _ _ (he ▸ hr)
      have h3 := (Prod.mk.inj (Except.ok.inj h1)).2
      show x.at' < tt
      omega
    · cases h1
  · rw [h2] at h; exact absurd h he
theorem timesS_facts {l : List UInt8} {out : List Nat} {y : St} {n : Nat} (hy : y.at' ≤ 8 * l.length) : y.at' ≤ (timesS l out y n).1.at' ∧ (timesS l out y n).1.at' ≤ 8 * l.length ∧ (timesS l out y n).2.1 ≤ 65600 ∧ ((timesS l out y n).1.code = 0 → y.code = 0) := by
  unfold timesS
  split
  · have f := failS_facts y (decide (out.length = 0)) 4
    have b := bitsS_facts (l := l) (x := failS y (decide (out.length = 0)) 4) (k := 2) (by omega) (by rw [f.1]; exact hy)
    have m := bitsS_more (l := l) (x := failS y (decide (out.length = 0)) 4) (k := 2) (by omega)
    rw [f.1] at m
    exact ⟨m, b.1, by show _ + 3 ≤ _; omega, fun h => failS_still (by decide) (bitsS_still h)⟩
  · split
    · have b := bitsS_facts (l := l) (x := y) (k := 3) (by omega) hy
      exact ⟨bitsS_more (by omega), b.1, by show _ + 3 ≤ _; omega, bitsS_still⟩
    · split
      · have b := bitsS_facts (l := l) (x := y) (k := 7) (by omega) hy
        exact ⟨bitsS_more (by omega), b.1, by show _ + 11 ≤ _; omega, bitsS_still⟩
      · exact ⟨Nat.le_refl _, hy, by show 1 ≤ _; omega, id⟩
theorem rowS_stop {l : List UInt8} {ls : List Nat} {many f : Nat} {out : List Nat} {x : St} (h : x.code ≠ 0) : rowS l ls many f out x = (x, out) := by
  cases f
  · unfold rowS; rw [if_pos h]
  · unfold rowS; rw [if_pos (.inl h)]
theorem rowS_full {l : List UInt8} {ls : List Nat} {many f : Nat} {out : List Nat} {x : St} (h : many ≤ out.length) : rowS l ls many (f + 1) out x = (x, out) := by
  unfold rowS; rw [if_pos (.inr h)]
theorem rowS_next {l : List UInt8} {ls : List Nat} {many f : Nat} {out : List Nat} {x ya z c : St} {n t v : Nat} (h0 : x.code = 0) (hm : out.length < many) (h1 : symS l x ls = (ya, n)) (h2 : timesS l out ya n = (z, t, v)) (h3 : failS z (decide (many < out.length + t)) 4 = c) :
    rowS l ls many (f + 1) out x = if c.code ≠ 0 then (c, out) else rowS l ls many f (out ++ List.replicate t v) c := by
  conv => lhs; unfold rowS
  rw [if_neg (by rintro (h | h) <;> omega)]
  simp only
  rw [h1]
  simp only
  rw [h2]
  simp only
  rw [h3]
theorem results_row (tmps : Array Value) (w : World) (b : Nat) (s : ByteArray) (vb vo : Value) (most : Nat) (x : St) (v : Value) (hp : tmps.getD 6 undef = .pointer (some ⟨b, 0, none⟩)) (he : tmps.getD 7 undef = v) (hg : StCell w b s vb vo most x) :
    (results Tryd.f32 tmps).run Tryd.prog w = .ok (.tuple #[.agg (stV s vb vo most x), v]) w := by
  have hp' : tmps[6]?.getD undef = .pointer (some ⟨b, 0, none⟩) := by simpa using hp
  have he' : tmps[7]?.getD undef = v := by simpa using he
  simp [results, Tryd.results32, hp', he', asAddr, load_st hg]

theorem Own64.low {w : World} {B B' : Nat} {v : Value} {l : List Int} (h : Own64 w B v l) (hB : B' ≤ B) : Own64 w B' v l := by
  refine ⟨⟨h.1.1, ?_⟩, h.2⟩
  rcases h.1.2 with h2 | ⟨g, c, cur, hv, h3, hg, hr⟩
  · exact .inl h2
  · exact .inr ⟨g, c, cur, hv, Nat.le_trans hB h3, hg, hr⟩
theorem Own64.move {w w' : World} {B : Nat} {v : Value} {l : List Int} (h : Own64 w B v l) (hk : ∀ k, v.ownBlock = some k → w'.heap[k]? = w.heap[k]?) : Own64 w' B v l := ⟨owns_move h.1 hk, h.2⟩
theorem nats_ints (ns : List Nat) : natsOf (intsOf ns) = ns := by
  unfold natsOf intsOf
  rw [List.map_map]
  exact (List.map_congr_left fun n _ => Int.toNat_natCast n).trans (List.map_id ns)
theorem rCodesN_any (p : Option Addr) (cap n : Nat) (ns : List Nat) (w : World) (hn : n = ns.length) (hp : Nums w p (intsOf ns)) (he : refusedZ (intsOf ns) = 0) :
    Calls Tryd.prog 27 #[.slice p n cap] w fun en w' => ∃ g' cap', en = .returned (.tuple #[.slice (some ⟨g', 0, none⟩) n cap', .int .i64 0]) ∧ BitsAt w' g' (codesN ns) ∧ Below w.heap.size w w' ∧ w.heap.size ≤ g' := by
  have h := rCodes_good p cap (intsOf ns) w hp he
  rw [intsOf_length, nats_ints, ← hn] at h
  exact h
theorem refused_facts {ns : List Nat} (he : refusedZ (intsOf ns) = 0) : ns.length ≤ 320 ∧ ∀ n ∈ ns, n ≤ 15 := by
  obtain ⟨h1, h2, _⟩ := refusedZ_zero he
  rw [intsOf_length] at h1
  refine ⟨h1, fun n hn => ?_⟩
  have := h2 (n : Int) (by unfold intsOf; exact List.mem_map.2 ⟨n, hn, rfl⟩)
  omega

/-- What stays beside the state while a row is read. -/
def RowKeep (w0 : World) (Bo gc : Nat) (ns out : List Nat) (v : Value) (w : World) : Prop := StCell w (w0.heap.size + 1) ⟨#[]⟩ (.slice none 0 0) (.slice none 0 0) 0 ⟨0, [], 0⟩ ∧ BitsAt w gc (codesN ns) ∧ Own64 w Bo v (asZ out) ∧ Below w0.heap.size w0 w
theorem RowKeep.later {w0 w w' : World} {Bo gc : Nat} {ns out : List Nat} {v : Value} (h : RowKeep w0 Bo gc ns out v w) (hb : Below w.heap.size w w') : RowKeep w0 Bo gc ns out v w' :=
  ⟨h.1.later hb, h.2.1.later hb, h.2.2.1.later hb, h.2.2.2.trans (hb.mono h.2.2.2.size)⟩
theorem RowKeep.store {w0 w w' : World} {Bo gc : Nat} {ns out : List Nat} {v : Value} (h : RowKeep w0 Bo gc ns out v w) (hgc : w0.heap.size < gc) (hBo : w0.heap.size < Bo) (hb : Below w0.heap.size w w') (ho : ∀ k, k ≠ w0.heap.size → w'.heap[k]? = w.heap[k]?) : RowKeep w0 Bo gc ns out v w' :=
  ⟨(ho _ (by omega)).trans h.1, h.2.1.move (ho gc (by omega)), h.2.2.1.move fun k hk => ho k (by have := (h.2.2.1.1.lt k hk).1; omega), h.2.2.2.trans hb⟩

theorem RowKeep.append {w0 w w' : World} {Bo gc : Nat} {ns out : List Nat} {v v' : Value} {a : Nat} (h : RowKeep w0 Bo gc ns out v w) (hgc : gc < Bo) (hBo : w0.heap.size + 1 < Bo) (hb : Below Bo w w') (ho : Own64 w' Bo v' (asZ out ++ [(a : Int)])) : RowKeep w0 Bo gc ns (out ++ [a]) v' w' :=
  ⟨(hb.block _ hBo).trans h.1, h.2.1.move (hb.block gc hgc), by rw [asZ_snoc]; exact ho, h.2.2.2.trans (hb.mono (by omega))⟩

set_option maxRecDepth 100000 in
set_option maxHeartbeats 4000000 in
theorem rRow_any (s : ByteArray) (pb : Option Addr) (cb : Nat) (vo : Value) (most : Nat) (x : St) (p1 : Option Addr) (c1 n1 nb many : Nat) (ns : List Nat) (w : World) (ho1 : vo.oneCell' = true) (hp : x.at' ≤ 8 * s.size) (hs : s.size ≤ 100000) (hmany : many ≤ 1000)
    (he : refusedZ (intsOf ns) = 0) (hn1 : n1 = ns.length) (hnb : nb = 8 * s.size) (hq1 : Nums w p1 (intsOf ns)) (hq3 : Nums w pb (asZ (bitsOf s.data.toList))) :
    Calls Tryd.prog 32 #[.agg (stV s (.slice pb nb cb) vo most x), .slice p1 n1 c1, .int .i64 (many : Int)] w fun en w' => ∃ v, en = .returned (.tuple #[.agg (stV s (.slice pb nb cb) vo most (rowS s.data.toList ns many FUEL [] x).1), v]) ∧ Own64 w' w.heap.size v (asZ (rowS s.data.toList ns many FUEL [] x).2) ∧ Below w.heap.size w w' := by
  have hsz : s.data.toList.length = s.size := by rw [← size_data]
  have Hsz := Lib.hid hsz
  obtain ⟨hlen, h15⟩ := refused_facts he
  obtain ⟨F, hF⟩ : ∃ F, FUEL = F := ⟨_, rfl⟩
  have hF8 : 8 * s.size + 1 ≤ F := by rw [← hF]; unfold FUEL; omega
  rw [hF]
  obtain ⟨fx, fl, hf⟩ : ∃ fx fl, rowS s.data.toList ns many F [] x = (fx, fl) := ⟨_, _, rfl⟩
  have Hf := Lib.hid hf
  have HF8 := Lib.hid hF8
  rw [hf]
  have Hcodes := Lib.hid (fun W (hb : Below w.heap.size w W) => rCodesN_any p1 c1 n1 ns W hn1 (hq1.later hb) he)
  have hsym : ∀ (y : St) (W : World) (g2 c2 : Nat), y.at' ≤ 8 * s.size → Below w.heap.size w W → BitsAt W g2 (codesN ns) → _ := fun y W g2 c2 hy hb hg => rSymS_any s pb cb vo most y p1 (some ⟨g2, 0, none⟩) c1 c2 n1 n1 nb ns W ho1 hy hs (by omega) h15 hn1 hn1 hnb (hq1.later hb) hg.nums (hq3.later hb)
  have Hsym := Lib.hid hsym
  obtain ⟨vb, hvb⟩ : ∃ vb, Value.slice pb nb cb = vb := ⟨_, rfl⟩
  have hb1 : vb.oneCell' = true := by rw [← hvb]; rfl
  rw [hvb] at Hsym
  rw [hvb]
  obtain ⟨W, hW, H1, H2, HB⟩ := boxes_is w s vb vo most x
  unfold boxes at hW
  have HcW := Lib.hid (Hcodes.out W HB.out)
  clear hsym hsz hvb hq1 hq3 hn1 hnb h15 hlen he hf hF8 hF Hcodes
  go_enter Tryd.func32, Tryd.ntmps32
  go_wp2_with fail
  refine HcW.out.mono ?_
  rintro e w1 ⟨gc, capc, rfl, hG, hbc, hgc⟩
  have C1 := Lib.hid (H1.out.later hbc)
  have C2 := Lib.hid (H2.out.later hbc)
  have HG := Lib.hid hG
  have HB1 := Lib.hid (HB.out.trans (hbc.mono HB.out.size))
  have Hgc : Hid (w.heap.size + 1 < gc ∧ gc < w1.heap.size) := Lib.hid ⟨by have := H2.out.lt; omega, hG.1⟩
  obtain ⟨Bo, hBo⟩ : ∃ Bo, w1.heap.size = Bo := ⟨_, rfl⟩
  have HBo := Lib.hid hBo
  clear hG hbc hgc HcW
  go_wp2_with fail
  go_loopg [10, 11, 12, 13, 14, 15] F (fun g s10 s11 s12 s13 s14 s15 wx => ∃ (y : St) (out : List Nat), Aside (StCell wx w.heap.size s vb vo most y ∧ StCell wx (w.heap.size + 1) ⟨#[]⟩ (.slice none 0 0) (.slice none 0 0) 0 ⟨0, [], 0⟩ ∧ BitsAt wx gc (codesN ns) ∧ Own64 wx Bo s10 (asZ out) ∧ rowS s.data.toList ns many g out y = (fx, fl)) ∧ Aside (y.at' ≤ 8 * s.size ∧ (y.code = 0 → 8 * s.size + 1 ≤ g + y.at') ∧ out.length ≤ many) ∧ Below w.heap.size w wx)
  case atStart =>
    have ha : Below w1.heap.size w1 (w1.alloc (.cells #[] 3)) := (Below.refl _ _).alloc (Nat.le_refl _) _
    exact ⟨x, [], ⟨C1.out.later ha, C2.out.later ha, HG.out.later ha, (by have h := Own64.made (B := Bo) w1 0 #[] (by have := HBo.out; omega) (by decide) rfl; rw [HBo.out] at h; exact h), Hf.out⟩, ⟨hp, fun _ => by have := HF8.out; omega, Nat.zero_le _⟩, HB1.out.trans (ha.mono HB1.out.size)⟩
  case round =>
    obtain ⟨y, out, HI, HY, hb⟩ := hrel
    have Hb := Lib.hid hb
    clear hb
    obtain ⟨g3, cap3, hv3⟩ := HI.out.2.2.2.1.2
    rw [asZ_length] at hv3
    obtain ⟨ln, hln⟩ : ∃ ln, out.length = ln := ⟨_, rfl⟩
    have Hln := Lib.hid hln
    rw [hln] at hv3
    subst hv3
    have D1 := Lib.hid HI.out.1
    have D2 := Lib.hid HI.out.2.1
    have k5 := D1.out.code
    clear hln
    have hcase : (y.code ≠ 0 ∨ many ≤ ln) ∨ (y.code = 0 ∧ ln < many) := by omega
    rcases hcase with hstop | ⟨h0, hmore⟩
    · have Hfin : Hid (y = fx ∧ out = fl) := Lib.hid (by
        have h1 := HI.out.2.2.2.2
        by_cases h0 : y.code = 0
        · obtain ⟨f, rfl⟩ : ∃ f, gk = f + 1 := ⟨gk - 1, by have := HY.out.2.1 h0; have := HY.out.1; omega⟩
          rw [rowS_full (by rw [Hln.out]; omega)] at h1
          exact Prod.mk.inj h1
        · rw [rowS_stop h0] at h1
          exact Prod.mk.inj h1)
      have hcase2 : ¬ (ln : Int) < (many : Int) ∨ ((ln : Int) < (many : Int) ∧ (y.code == 0) = false) := by
        by_cases h : (ln : Int) < (many : Int)
        · exact .inr ⟨h, by rw [beq_eq_false_iff_ne]; omega⟩
        · exact .inl h
      clear hstop
      rcases hcase2 with h1 | ⟨h1, h2⟩
      all_goals
        go_wp2_with (with_reducible first
          | refine StCell.load rfl (.tmp 3) rfl w.heap.size _ _ _ _ _ rfl D1.out ?_
          | (refine StCell.store rfl rfl (.tmp 6) (.tmp 104) rfl (w.heap.size + 1) _ _ _ _ _ _ _ _ _ _ hb1 ho1 rfl rfl D2.out w.heap.size wr (Below.refl _ _) (by omega) ?_; intro w9 Hs9 Hb9 Ho9))
        refine bodyPost_ret (results_row _ _ (w.heap.size + 1) _ _ _ _ _ _ rfl rfl Hs9.out) rfl ⟨_, by rw [Hfin.out.1], ?_, Hb.out.trans Hb9.out⟩
        rw [← Hfin.out.2]
        have hB2 : w.heap.size + 1 < Bo := by have := Hgc.out; have := HBo.out; omega
        exact (HI.out.2.2.2.1.low (by omega)).move fun k hk => Ho9.out k (by have := (HI.out.2.2.2.1.1.lt k hk).1; omega)
    · have hmz : (ln : Int) < (many : Int) := by omega
      obtain ⟨g, rfl⟩ : ∃ f, gk = f + 1 := ⟨gk - 1, by have := HY.out.2.1 h0; have := HY.out.1; omega⟩
      obtain ⟨ya, n, ha⟩ : ∃ ya n, symS s.data.toList y ns = (ya, n) := ⟨_, _, rfl⟩
      have fa := symS_facts (l := s.data.toList) (x := y) (ns := ns) (by rw [Hsz.out]; exact HY.out.1)
      have fm : ya.code = 0 → y.at' < ya.at' := by
        have h1 := symS_more (l := s.data.toList) (ns := ns) h0
        rw [ha] at h1; exact h1
      rw [ha, Hsz.out] at fa
      have Fa : Hid (ya.at' ≤ 8 * s.size ∧ (ya.code = 0 → y.at' < ya.at')) := Lib.hid ⟨fa.1, fm⟩
      have Hsy := Lib.hid (Hsym.out y wr gc capc HY.out.1 Hb.out HI.out.2.2.1)
      rw [ha] at Hsy
      obtain ⟨z, t, v, hz⟩ : ∃ z t v, timesS s.data.toList out ya n = (z, t, v) := ⟨_, _, _, rfl⟩
      have ft := timesS_facts (l := s.data.toList) (out := out) (y := ya) (n := n) (by rw [Hsz.out]; exact fa.1)
      rw [hz, Hsz.out] at ft
      have Ft := Lib.hid ft
      have ht : t ≤ 65600 := ft.2.2.1
      obtain ⟨c, hc⟩ : ∃ c, failS z (decide (many < out.length + t)) 4 = c := ⟨_, rfl⟩
      have Hnext := Lib.hid (rowS_next (f := g) h0 (by rw [Hln.out]; exact hmore) ha hz hc)
      rw [Hln.out] at hc
      have Hz := Lib.hid hz
      have Hc := Lib.hid hc
      have Hy0 := Lib.hid h0
      have k50 : wr.cell? ⟨w.heap.size, 5, none⟩ = some (.int .i64 0) := by rw [k5, h0]
      clear ha fa fm hz ft hc k5 h0
      go_wp2_with (with_reducible first
        | refine StCell.load rfl (.tmp 3) rfl w.heap.size _ _ _ _ _ rfl D1.out ?_)
      refine Hsy.out.mono ?_
      rintro e w2 ⟨rfl, hb2⟩
      have HB2 := Lib.hid hb2
      have E1 := Lib.hid (D1.out.later hb2)
      have E2 := Lib.hid (D2.out.later hb2)
      have HG3 := Lib.hid (HI.out.2.2.1.later hb2)
      have HO3 := Lib.hid (HI.out.2.2.2.1.later hb2)
      have Ea := Lib.hid (zero_new w2)
      have Ba : Hid (Below w2.heap.size w2 (w2.alloc (.cells #[.string ⟨#[]⟩, .slice none 0 0, .int .i64 0, .slice none 0 0, .int .i64 0, .int .i64 0] 47))) := Lib.hid ((Below.refl _ _).alloc (Nat.le_refl _) _)
      clear hb2 Hsy k50
      go_upto_region 5 with (with_reducible first
        | (refine StCell.store rfl rfl (.tmp 11) (.tmp 36) rfl w2.heap.size _ _ _ _ _ _ _ _ _ _ hb1 ho1 rfl rfl Ea.out w2.heap.size w2 Ba.out (Nat.le_refl _) ?_; intro w3 Hs3 Hb3 Ho3))
      have F1 := Lib.hid (E1.out.later Hb3.out)
      have F2 := Lib.hid (E2.out.later Hb3.out)
      have HG4 := Lib.hid (HG3.out.later Hb3.out)
      have HO4 := Lib.hid (HO3.out.later Hb3.out)
      have HB3 : Hid (Below w.heap.size w w3) := Lib.hid ((Hb.out.trans (HB2.out.mono Hb.out.size)).trans (Hb3.out.mono (Nat.le_trans Hb.out.size HB2.out.size)))
      have hB2 : w.heap.size + 1 < Bo := by have := Hgc.out; have := HBo.out; omega
      have hgB : w.heap.size < gc ∧ w.heap.size < Bo := ⟨by have := Hgc.out; omega, by omega⟩
      have HX3 : Hid (RowKeep w Bo gc ns out (.slice (some ⟨g3, 0, none⟩) ln cap3) w3) := Lib.hid ⟨F2.out, HG4.out, HO4.out, HB3.out⟩
      clear HG4 HO4 HG3 HO3 HB3 F2 E1 E2 D1 D2
      go_upto_region 6 with (with_reducible first
        | refine StCell.load rfl (.tmp 11) rfl w2.heap.size _ _ _ _ _ rfl Hs3.out ?_
        | (refine StCell.store rfl rfl (.tmp 3) (.tmp 38) rfl w.heap.size _ _ _ _ _ _ _ _ _ _ hb1 ho1 rfl rfl F1.out w.heap.size w3 (Below.refl _ _) (Nat.le_refl _) ?_; intro w4 Hs4 Hb4 Ho4))
      have HX4 := Lib.hid (HX3.out.store hgB.1 hgB.2 Hb4.out Ho4.out)
      have Hrow := Lib.hid HI.out.2.2.2.2
      clear F1 Ea Ba Ho4 Hb4 Hs3 Hb3 Ho3 HX3 HB2 HI
      go_upto_block 2 with fail
      go_cut [13, 14] from 40 to 81 (fun s13 s14 wx => s13 = .int .i64 (t : Int) ∧ s14 = .int .i64 (v : Int) ∧ Aside (StCell wx w.heap.size s vb vo most z) ∧ Aside (RowKeep w Bo gc ns out (.slice (some ⟨g3, 0, none⟩) ln cap3) wx))
      case first =>
        have hcase : n = 16 ∨ n = 17 ∨ n = 18 ∨ (n ≠ 16 ∧ n ≠ 17 ∧ n ≠ 18) := by omega
        rcases hcase with hcase | hcase | hcase | hcase
        · have q1 : ((n : Int) == 16) = true := by rw [hcase]; rfl
          obtain ⟨b, hb⟩ : ∃ b, decide (ln = 0) = b := ⟨_, rfl⟩
          have hbz : ((ln : Int) == 0) = b := by
            rw [← hb]
            by_cases h : ln = 0
            · rw [decide_eq_true h, h]; rfl
            · rw [decide_eq_false h, beq_eq_false_iff_ne]; omega
          obtain ⟨yf, hyf⟩ : ∃ yf, failS ya b 4 = yf := ⟨_, rfl⟩
          have fy := failS_facts ya b 4
          rw [hyf] at fy
          obtain ⟨zz, k, hzk⟩ : ∃ zz k, bitsS s.data.toList yf 2 = (zz, k) := ⟨_, _, rfl⟩
          have hz := Hz.out
          unfold timesS at hz
          rw [if_pos hcase, Hln.out, hb, hyf, hzk] at hz
          obtain ⟨e1, e2⟩ := Prod.mk.inj hz
          obtain ⟨e2, e3⟩ := Prod.mk.inj e2
          simp only at e1 e2
          have htz : (k : Int) + 3 = (t : Int) := by omega
          have Hfa := Lib.hid (fun W => rFail_any s vb vo most ya b 4 W hb1 ho1)
          rw [hyf] at Hfa
          have Hba := Lib.hid (fun W => rBitsS_any s vb vo most yf 2 W hb1 ho1 (by omega) (by rw [fy.1]; exact Fa.out.1) (by omega))
          rw [hzk, e1] at Hba
          have Hv := Lib.hid e3
          clear hz hzk e1 e2 e3 hcase hb hyf fy
          go_wp2_with (with_reducible first
            | refine StCell.load rfl (.tmp 3) rfl w.heap.size _ _ _ _ _ rfl Hs4.out ?_)
          refine (Hfa.out _).mono ?_
          rintro e w5 ⟨rfl, hb5⟩
          have HX5 := Lib.hid (HX4.out.later hb5)
          have Hs5 := Lib.hid (Hs4.out.later hb5)
          clear hb5
          go_wp2_with (with_reducible first
            | (refine StCell.store rfl rfl (.tmp 3) (.tmp 47) rfl w.heap.size _ _ _ _ _ _ _ _ _ _ hb1 ho1 rfl rfl Hs5.out w.heap.size w5 (Below.refl _ _) (Nat.le_refl _) ?_; intro w6 Hs6 Hb6 Ho6)
            | refine StCell.load rfl (.tmp 3) rfl w.heap.size _ _ _ _ _ rfl Hs6.out ?_)
          refine (Hba.out _).mono ?_
          rintro e w7 ⟨rfl, hb7⟩
          have HX6 := Lib.hid (HX5.out.store hgB.1 hgB.2 Hb6.out Ho6.out)
          have HX7 := Lib.hid (HX6.out.later hb7)
          have Hs7 := Lib.hid (Hs6.out.later hb7)
          clear hb7
          go_upto_region 12 with (with_reducible first
            | (refine StCell.store rfl rfl (.tmp 3) (.tmp 51) rfl w.heap.size _ _ _ _ _ _ _ _ _ _ hb1 ho1 rfl rfl Hs7.out w.heap.size w7 (Below.refl _ _) (Nat.le_refl _) ?_; intro w8 Hs8 Hb8 Ho8))
          have HX8 := Lib.hid (HX7.out.store hgB.1 hgB.2 Hb8.out Ho8.out)
          by_cases hl0 : ln = 0
          · have hlz : ¬ (0 : Int) < (ln : Int) := by omega
            have Hv2 : Hid (n = v) := Lib.hid (by have := Hv.out; rwa [if_neg (by omega)] at this)
            clear hl0
            go_wp2_with fail
            go_meet
            exact ⟨rfl, by rw [← Hv2.out], Hs8.out, HX8.out⟩
          · have hlz : (0 : Int) < (ln : Int) := by omega
            have Hv2 : Hid (out[ln - 1]?.getD 0 = v) := Lib.hid (by have := Hv.out; rwa [if_pos (by omega)] at this)
            obtain ⟨j, hj⟩ : ∃ j, ln = j + 1 := ⟨ln - 1, by omega⟩
            have hjz : (ln : Int) - 1 = (j : Int) := by omega
            have hj0 : (0 : Int) ≤ (j : Int) := by omega
            have hjl : (j : Int) < (ln : Int) := by omega
            have kj : w8.cell? ⟨g3, j, none⟩ = some (.int .i64 (v : Int)) := by
              obtain ⟨g', cap', hv', _, hc'⟩ := HX8.out.2.2.1.at
              have hjo : j < out.length := by have := Hln.out; omega
              have h1 := hc' j (by rw [asZ_length]; exact hjo)
              have h2 : g3 = g' := by injection hv' with e1 _ _; injection e1 with e1; injection e1
              rw [h2, h1, asZ_get]
              have h3 := Hv2.out
              rw [show ln - 1 = j by omega, List.getElem?_eq_getElem hjo] at h3
              simp only [Option.getD_some] at h3
              rw [h3]
            clear hl0 hj
            go_wp2_with fail
            go_meet
            exact ⟨rfl, rfl, Hs8.out, HX8.out⟩
        · have q1 : ((n : Int) == 16) = false := by rw [beq_eq_false_iff_ne]; omega
          have q2 : ((n : Int) == 17) = true := by rw [hcase]; rfl
          obtain ⟨zz, k, hzk⟩ : ∃ zz k, bitsS s.data.toList ya 3 = (zz, k) := ⟨_, _, rfl⟩
          have hz := Hz.out
          unfold timesS at hz
          rw [if_neg (by omega), if_pos hcase, hzk] at hz
          obtain ⟨e1, e2⟩ := Prod.mk.inj hz
          obtain ⟨e2, e3⟩ := Prod.mk.inj e2
          simp only at e1 e2 e3
          have htz : (k : Int) + 3 = (t : Int) := by omega
          have Hba := Lib.hid (fun W => rBitsS_any s vb vo most ya 3 W hb1 ho1 (by omega) Fa.out.1 (by omega))
          rw [hzk, e1] at Hba
          have Hv := Lib.hid e3
          clear hz hzk e1 e2 e3 hcase
          go_wp2_with (with_reducible first
            | refine StCell.load rfl (.tmp 3) rfl w.heap.size _ _ _ _ _ rfl Hs4.out ?_)
          refine (Hba.out _).mono ?_
          rintro e w5 ⟨rfl, hb5⟩
          have HX5 := Lib.hid (HX4.out.later hb5)
          have Hs5 := Lib.hid (Hs4.out.later hb5)
          clear hb5
          go_wp2_with (with_reducible first
            | (refine StCell.store rfl rfl (.tmp 3) (.tmp 69) rfl w.heap.size _ _ _ _ _ _ _ _ _ _ hb1 ho1 rfl rfl Hs5.out w.heap.size w5 (Below.refl _ _) (Nat.le_refl _) ?_; intro w6 Hs6 Hb6 Ho6))
          go_meet
          exact ⟨rfl, by rw [← Hv.out]; rfl, Hs6.out, HX5.out.store hgB.1 hgB.2 Hb6.out Ho6.out⟩
        · have q1 : ((n : Int) == 16) = false := by rw [beq_eq_false_iff_ne]; omega
          have q2 : ((n : Int) == 17) = false := by rw [beq_eq_false_iff_ne]; omega
          have q3 : ((n : Int) == 18) = true := by rw [hcase]; rfl
          obtain ⟨zz, k, hzk⟩ : ∃ zz k, bitsS s.data.toList ya 7 = (zz, k) := ⟨_, _, rfl⟩
          have hz := Hz.out
          unfold timesS at hz
          rw [if_neg (by omega), if_neg (by omega), if_pos hcase, hzk] at hz
          obtain ⟨e1, e2⟩ := Prod.mk.inj hz
          obtain ⟨e2, e3⟩ := Prod.mk.inj e2
          simp only at e1 e2 e3
          have htz : (k : Int) + 11 = (t : Int) := by omega
          have Hba := Lib.hid (fun W => rBitsS_any s vb vo most ya 7 W hb1 ho1 (by omega) Fa.out.1 (by omega))
          rw [hzk, e1] at Hba
          have Hv := Lib.hid e3
          clear hz hzk e1 e2 e3 hcase
          go_wp2_with (with_reducible first
            | refine StCell.load rfl (.tmp 3) rfl w.heap.size _ _ _ _ _ rfl Hs4.out ?_)
          refine (Hba.out _).mono ?_
          rintro e w5 ⟨rfl, hb5⟩
          have HX5 := Lib.hid (HX4.out.later hb5)
          have Hs5 := Lib.hid (Hs4.out.later hb5)
          clear hb5
          go_wp2_with (with_reducible first
            | (refine StCell.store rfl rfl (.tmp 3) (.tmp 78) rfl w.heap.size _ _ _ _ _ _ _ _ _ _ hb1 ho1 rfl rfl Hs5.out w.heap.size w5 (Below.refl _ _) (Nat.le_refl _) ?_; intro w6 Hs6 Hb6 Ho6))
          go_meet
          exact ⟨rfl, by rw [← Hv.out]; rfl, Hs6.out, HX5.out.store hgB.1 hgB.2 Hb6.out Ho6.out⟩
        · have q1 : ((n : Int) == 16) = false := by rw [beq_eq_false_iff_ne]; omega
          have q2 : ((n : Int) == 17) = false := by rw [beq_eq_false_iff_ne]; omega
          have q3 : ((n : Int) == 18) = false := by rw [beq_eq_false_iff_ne]; omega
          have hz := Hz.out
          unfold timesS at hz
          rw [if_neg hcase.1, if_neg hcase.2.1, if_neg hcase.2.2] at hz
          obtain ⟨e1, e2⟩ := Prod.mk.inj hz
          obtain ⟨e2, e3⟩ := Prod.mk.inj e2
          have E := Lib.hid (And.intro e1 (And.intro e2 e3))
          clear hz e1 e2 e3 hcase
          go_wp2_with fail
          go_meet
          exact ⟨by rw [← E.out.2.1]; rfl, by rw [← E.out.2.2], by rw [← E.out.1]; exact Hs4.out, HX4.out⟩
      case rest =>
        obtain ⟨rfl, rfl, HS, HK⟩ := hcut
        obtain ⟨bm, hbm⟩ : ∃ bm, decide (many < ln + t) = bm := ⟨_, rfl⟩
        have hbz1 : decide ((many : Int) < (ln : Int) + (t : Int)) = bm := by rw [← hbm, decide_eq_decide]; omega
        have Hc2 := Lib.hid Hc.out
        rw [hbm] at Hc2
        have Hbm := Lib.hid hbm
        have Hff := Lib.hid (fun W => rFail_any s vb vo most z bm 4 W hb1 ho1)
        rw [Hc2.out] at Hff
        have fc := failS_facts z bm 4
        rw [Hc2.out] at fc
        have Fc := Lib.hid fc
        have HS2 := Lib.hid HS.out
        have HK2 := Lib.hid HK.out
        clear fc HS HK
        go_wp2_with (with_reducible first
          | refine StCell.load rfl (.tmp 3) rfl w.heap.size _ _ _ _ _ rfl HS2.out ?_)
        refine (Hff.out _).mono ?_
        rintro e w6 ⟨rfl, hb6⟩
        have HS6 := Lib.hid (HS2.out.later hb6)
        have HK6 := Lib.hid (HK2.out.later hb6)
        clear hb6
        go_upto_region 21 with (with_reducible first
          | (refine StCell.store rfl rfl (.tmp 3) (.tmp 89) rfl w.heap.size _ _ _ _ _ _ _ _ _ _ hb1 ho1 rfl rfl HS6.out w.heap.size w6 (Below.refl _ _) (Nat.le_refl _) ?_; intro w7 Hs7 Hb7 Ho7))
        have HK7 := Lib.hid (HK6.out.store hgB.1 hgB.2 Hb7.out Ho7.out)
        have hgo : gc < Bo := by have := Hgc.out; have := HBo.out; omega
        have Hmany : Hid (out.length ≤ many) := Lib.hid (by rw [Hln.out]; omega)
        clear hbm hbz1
        by_cases hc0 : c.code = 0
        · have hz0 := failS_zero (x := z) (c := bm) (e := 4) (by decide) (by rw [Hc2.out]; exact hc0)
          have hbf := Hbm.out
          rw [hz0.1] at hbf
          have hroom : ln + t ≤ many := by have := of_decide_eq_false hbf; omega
          have Hrow2 : Hid (rowS s.data.toList ns many g (out ++ List.replicate t v) c = (fx, fl)) := Lib.hid (by
            have h1 := Hrow.out
            rw [Hnext.out, if_neg (by simp [hc0])] at h1
            exact h1)
          have Hat : Hid (c.at' ≤ 8 * s.size ∧ y.at' < c.at') := Lib.hid (by
            rw [Fc.out.1]
            have h1 := Fa.out.2 (Ft.out.2.2.2 hz0.2.1)
            exact ⟨Ft.out.2.1, by have := Ft.out.1; omega⟩)
          have Hc0 := Lib.hid hc0
          clear hz0 hbf hc0
          go_wp2_with fail
          go_loopg [10, 15] t (fun gi s10 s15 wx => ∃ j : Nat, j + gi = t ∧ s15 = .int .i64 (j : Int) ∧ Aside (StCell wx w.heap.size s vb vo most c) ∧ Aside (RowKeep w Bo gc ns (out ++ List.replicate j v) s10 wx))
          case atStart => exact ⟨0, by omega, rfl, Hs7.out, by rw [List.replicate_zero, List.append_nil]; exact HK7.out⟩
          case round =>
            obtain ⟨j, hjg, rfl, HS, HK⟩ := hrel
            have k5 : wr.cell? ⟨w.heap.size, 5, none⟩ = some (.int .i64 0) := by rw [← Hc0.out]; exact HS.out.code
            cases gk with
            | zero =>
              obtain rfl : j = t := by omega
              clear hjg
              go_wp2_with fail
              go_roundg g
              case measure => omega
              case rel => exact ⟨c, _, ⟨HS.out, HK.out.1, HK.out.2.1, HK.out.2.2.1, Hrow2.out⟩, ⟨Hat.out.1, fun _ => by have := HY.out.2.1 Hy0.out; have := Hat.out.2; omega, by rw [List.length_append, List.length_replicate, Hln.out]; exact hroom⟩, HK.out.2.2.2⟩
            | succ gi =>
              have hjz : (j : Int) < (t : Int) := by omega
              have hlen : Hid ((asZ (out ++ List.replicate j v)).length ≤ 1000) := Lib.hid (by rw [asZ_length, List.length_append, List.length_replicate, Hln.out]; omega)
              have Hwr : Hid (Bo ≤ wr.heap.size) := Lib.hid (by
                obtain ⟨g', cap', hv', hlt, _⟩ := HK.out.2.2.1.at
                have := (HK.out.2.2.1.1.lt g' (by rw [hv']; rfl)).1
                omega)
              have Hown := Lib.hid (show Own64 wr Bo _ (asZ (out ++ List.replicate j v)) from HK.out.2.2.1)
              go_wp2_with (at_builtin; refine wpList_append64 rfl (.tmp 100) (.tmp 102) rfl Bo _ (asZ (out ++ List.replicate j v)) rfl (Hown.out.alloc _) ⟨wr.heap.size, 0, none⟩ 1 [(v : Int)] rfl (cells_newZ _ _) (by simp) (by simp; have := hlen.out; omega) wr ((Below.refl _ wr).alloc (by have := Hwr.out; omega) _) (by have := Hwr.out; simp; omega) ?_; intro v3 w3 Ho3 Hb3 _)
              go_roundg gi
              case measure => omega
              case rel => exact ⟨j + 1, by omega, by go_num, (Hb3.out.block _ (by omega)).trans HS.out, by rw [List.replicate_succ', ← List.append_assoc]; exact HK.out.append hgo hB2 Hb3.out Ho3.out⟩
        · have hz0 : (c.code == 0) = false := by simpa using hc0
          have Hrow2 : Hid (c = fx ∧ out = fl) := Lib.hid (by
            have h1 := Hrow.out
            rw [Hnext.out, if_pos hc0] at h1
            exact Prod.mk.inj h1)
          have Hat : Hid (c.at' ≤ 8 * s.size) := Lib.hid (by rw [Fc.out.1]; exact Ft.out.2.1)
          have Hc0 := Lib.hid hc0
          have k5 := Hs7.out.code
          clear hc0
          go_wp2_with fail
          go_loopg [10, 15] 0 (fun gi s10 s15 wx => s10 = .slice (some ⟨g3, 0, none⟩) ln cap3 ∧ s15 = .int .i64 0 ∧ w7 = wx)
          case atStart => exact ⟨rfl, rfl, rfl⟩
          case round =>
            obtain ⟨rfl, rfl, rfl⟩ := hrel
            by_cases h0t : (0 : Int) < (t : Int)
            all_goals
              go_wp2_with fail
              go_roundg g
              case measure => omega
              case rel => exact ⟨c, out, ⟨Hs7.out, HK7.out.1, HK7.out.2.1, HK7.out.2.2.1, by rw [rowS_stop Hc0.out, Hrow2.out.1, Hrow2.out.2]⟩, ⟨Hat.out, fun h => absurd h Hc0.out, Hmany.out⟩, HK7.out.2.2.2⟩

end Go.Proofs.YtjmamomnbfnngaaDoor
