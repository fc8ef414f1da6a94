/-
  The contract of the document's copied.
-/
import Derived.Test.YtjmamomnbfnngaaDoorInfRef2
import Derived.Deep.RegionLaw
import Derived.Deep.RegionHeld3
import Derived.Deep.MidRow
namespace Go.Proofs.YtjmamomnbfnngaaDoor
open Go.RowKit

theorem bitsS_facts {l : List UInt8} {x : St} {k : Nat} (hk : k ≤ 16) (hx : x.at' ≤ 8 * l.length) : (bitsS l x k).1.at' ≤ 8 * l.length ∧ (bitsS l x k).1.out = x.out ∧ (bitsS l x k).2 < 65536 := by
  by_cases h0 : x.code = 0
  · rcases bitsS_ok (l := l) h0 hk with ⟨n, h1, h2⟩ | ⟨_, h2, h3, h4⟩
    · obtain ⟨g1, g2, _⟩ := bitsP_ok h1
      rw [h2]
      refine ⟨g1, rfl, ?_⟩
      have h5 := numB_lt (((bitsOf l).drop x.at').take k) fun b hb => bitsOf_two l b (List.mem_of_mem_drop (List.mem_of_mem_take hb))
      have h6 : (((bitsOf l).drop x.at').take k).length ≤ k := by rw [List.length_take]; omega
      have h7 : (2 : Nat) ^ (((bitsOf l).drop x.at').take k).length ≤ 2 ^ 16 := Nat.pow_le_pow_right (by omega) (by omega)
      rw [g2]; omega
    · refine ⟨by rw [h3]; exact hx, h4, ?_⟩
      unfold bitsS
      rw [if_neg (by simp [h0])]
      by_cases hle : x.at' + k ≤ 8 * l.length
      · have := getB_ok (l := l) (pos := x.at') hk hle
        unfold bitsS at h2
        rw [if_neg (by simp [h0]), this] at h2
        cases h2
      · rw [getB_short hk (by omega)]; show (0 : Int).toNat < 65536; decide
  · rw [bitsS_bad h0]
    exact ⟨hx, rfl, by omega⟩
theorem symS_facts {l : List UInt8} {x : St} {ns : List Nat} (hx : x.at' ≤ 8 * l.length) : (symS l x ns).1.at' ≤ 8 * l.length ∧ (symS l x ns).1.out = x.out := by
  by_cases h0 : x.code = 0
  · unfold symS
    rw [if_neg (by simp [h0])]
    have := readC_le (intsOf ns) (codesN ns) (longN ns) 0 0 ((bitsOf l).drop x.at')
    rw [List.length_drop, bitsOf_length] at this
    exact ⟨by show x.at' + _ ≤ _; omega, rfl⟩
  · rw [symS_bad h0]; exact ⟨hx, rfl⟩
theorem failS_facts (x : St) (c : Bool) (e : Int) : (failS x c e).at' = x.at' ∧ (failS x c e).out = x.out := by
  unfold failS; split <;> exact ⟨rfl, rfl⟩
/-- Where nothing failed nothing was asked. -/
theorem failS_zero {x : St} {c : Bool} {e : Int} (he : e ≠ 0) (h : (failS x c e).code = 0) : c = false ∧ x.code = 0 ∧ failS x c e = x := by
  unfold failS at h ⊢
  split at h
  · exact absurd h he
  · rename_i hc
    rw [if_neg hc]
    refine ⟨?_, h, rfl⟩
    cases c
    · rfl
    · exact absurd ⟨rfl, h⟩ hc

/-- The working memory of a step: the state, room for what is handed back, the bytes that came out. -/
def Work (w0 W : World) (F : List Nat) (s : ByteArray) (vb vo : Value) (most : Nat) (y : St) : Prop :=
  StCell W w0.heap.size s vb vo most y ∧ StCell W (w0.heap.size + 1) ⟨#[]⟩ (.slice none 0 0) (.slice none 0 0) 0 ⟨0, [], 0⟩ ∧ Row8 W vo y.out ∧ Touches F vo.ownBlock.toList w0 W ∧ ∀ k, vo.ownBlock = some k → k ≠ w0.heap.size ∧ k ≠ w0.heap.size + 1
theorem Work.begun {w : World} {s : ByteArray} {vb vo : Value} {most : Nat} {x : St} (h : Row8 w vo x.out) : Work w (boxes w s vb vo most x) vo.ownBlock.toList s vb vo most x := by
  have hb := boxes_below w s vb vo most x
  refine ⟨boxes_one .., boxes_two .., h.move fun k hk => hb.block k (h.lt k hk), Touches.of_below hb, fun k hk => ?_⟩
  have := h.lt k hk
  omega
theorem Work.call {w0 W w1 : World} {F : List Nat} {s : ByteArray} {vb vo : Value} {most : Nat} {y : St} (h : Work w0 W F s vb vo most y) (hb : Below W.heap.size W w1) : Work w0 w1 F s vb vo most y :=
  ⟨h.1.later hb, h.2.1.later hb, h.2.2.1.move fun k hk => hb.block k (h.2.2.1.lt k hk), h.2.2.2.1.trans (Touches.of_below hb), h.2.2.2.2⟩
theorem Work.store {w0 W w1 : World} {F : List Nat} {s : ByteArray} {vb vo : Value} {most : Nat} {y z : St} (h : Work w0 W F s vb vo most y) (hz : z.out = y.out) (h1 : StCell w1 w0.heap.size s vb vo most z) (hb : Below w0.heap.size W w1) (ho : ∀ k, k ≠ w0.heap.size → w1.heap[k]? = W.heap[k]?) : Work w0 w1 F s vb vo most z := by
  refine ⟨h1, (ho _ (by omega)).trans h.2.1, ?_, ?_, h.2.2.2.2⟩
  · rw [hz]; exact h.2.2.1.move fun k hk => ho k (h.2.2.2.2 k hk).1
  · exact ⟨hb.os.trans h.2.2.2.1.1, hb.tape.trans h.2.2.2.1.2.1, hb.output.trans h.2.2.2.1.2.2.1, Nat.le_trans h.2.2.2.1.size hb.size, fun k hk hF => (hb.block k hk).trans (h.2.2.2.1.2.2.2.2.1 k hk hF), h.2.2.2.1.2.2.2.2.2⟩
/-- What is handed back. -/
def Handed10 (w : World) (F : List Nat) (s : ByteArray) (vb : Value) (most : Nat) (y : St) (en : Ending) (w' : World) : Prop :=
  ∃ vo, en = .returned (.agg (stV s vb vo most y)) ∧ vo.oneCell' = true ∧ Row8 w' vo y.out ∧ Touches F vo.ownBlock.toList w w'
theorem Work.done {w0 W w1 : World} {F : List Nat} {s : ByteArray} {vb vo : Value} {most : Nat} {y : St} (h : Work w0 W F s vb vo most y) (ho1 : vo.oneCell' = true) (hb : Below w0.heap.size W w1) (ho : ∀ k, k ≠ w0.heap.size + 1 → w1.heap[k]? = W.heap[k]?) : Handed10 w0 F s vb most y (.returned (.agg (stV s vb vo most y))) w1 := by
  refine ⟨vo, rfl, ho1, h.2.2.1.move fun k hk => ho k (h.2.2.2.2 k hk).2, ?_⟩
  exact ⟨hb.os.trans h.2.2.2.1.1, hb.tape.trans h.2.2.2.1.2.1, hb.output.trans h.2.2.2.1.2.2.1, Nat.le_trans h.2.2.2.1.size hb.size, fun k hk hF => (hb.block k hk).trans (h.2.2.2.1.2.2.2.2.1 k hk hF), h.2.2.2.1.2.2.2.2.2⟩

theorem Row8.bytes {w : World} {v : Value} {l : List UInt8} (h : Row8 w v l) (h0 : 0 < l.length) : ∃ g cap, v = .slice (some ⟨g, 0, none⟩) l.length cap ∧ g < w.heap.size ∧ ∀ j c, l[j]? = some c → w.cell? ⟨g, j, none⟩ = some (.int .u8 (c.toNat : Int)) := by
  have h' := h
  rcases h.2 with ⟨_, h2⟩ | ⟨g, cap, cur, rfl, _⟩
  · omega
  · refine ⟨g, cap, rfl, (World.ownsRow.lt h' g rfl).2, fun j c hj => ?_⟩
    obtain ⟨h1, h2⟩ := List.getElem?_eq_some_iff.1 hj
    have := World.ownsRow.cells h' (g := g) rfl j _ (cellsB_at h1)
    have e : (⟨g, 0, none⟩ : Addr).add j = ⟨g, j, none⟩ := by unfold Addr.add; split <;> simp_all
    rw [e, h2] at this
    exact this
theorem cells_new1_y (W : World) {g : Nat} (hg : W.heap.size = g) (c : UInt8) (z : Int) (hz : z = (c.toNat : Int)) : ∀ j (h : j < [c].length), (W.alloc (.cells #[.int .u8 z] 5)).cell? ((⟨g, 0, none⟩ : Addr).add j) = some (.int .u8 ([c][j].toNat : Int)) := by
  subst hg; subst hz
  intro j h
  simp at h
  subst h
  rw [show (⟨W.heap.size, 0, none⟩ : Addr).add 0 = ⟨W.heap.size, 0, none⟩ from rfl, World.cell?_alloc_new]
  rfl
theorem Work.out3 {w0 W w1 : World} {F : List Nat} {s : ByteArray} {vb vo : Value} {most : Nat} {y : St} {o : Obj} (h : Work w0 W F s vb vo most y) (hg : (W.alloc o).grownBy w1 vo.ownBlock) : StCell w1 w0.heap.size s vb vo most y ∧ StCell w1 (w0.heap.size + 1) ⟨#[]⟩ (.slice none 0 0) (.slice none 0 0) 0 ⟨0, [], 0⟩ := by
  have hsz : (W.alloc o).heap.size = W.heap.size + 1 := by simp
  have e : ∀ k, k < W.heap.size → (∀ j, vo.ownBlock = some j → j ≠ k) → w1.heap[k]? = W.heap[k]? := fun k hk hn => by
    rw [hg.block k (by omega) (fun e => hn k e.symm rfl)]
    exact Below.heap_alloc _ _ _ hk
  exact ⟨(e _ h.1.lt fun j hj => (h.2.2.2.2 j hj).1).trans h.1, (e _ h.2.1.lt fun j hj => (h.2.2.2.2 j hj).2).trans h.2.1⟩
theorem Work.cell3 {w0 W w1 : World} {F : List Nat} {s : ByteArray} {vb vo : Value} {most : Nat} {y : St} {o : Obj} (h : Work w0 W F s vb vo most y) (hg : (W.alloc o).grownBy w1 vo.ownBlock) : w1.cell? ⟨w0.heap.size, 3, none⟩ = some vo := (h.out3 hg).1.out
theorem Work.free3 {w0 W w1 : World} {F : List Nat} {s : ByteArray} {vb vo : Value} {most : Nat} {y : St} {o : Obj} (h : Work w0 W F s vb vo most y) (hg : (W.alloc o).grownBy w1 vo.ownBlock) : w1.frozen? ⟨w0.heap.size, 3, none⟩ = false := (h.out3 hg).1.free 3
theorem Work.append {w0 W w1 : World} {F : List Nat} {s : ByteArray} {vb vo v' : Value} {most a : Nat} {out : List UInt8} {e : Int} {c : List UInt8} {o : Obj} (h : Work w0 W F s vb vo most ⟨a, out, e⟩) (hr : Row8 w1 v' (out ++ c)) (hg : (W.alloc o).grownBy w1 vo.ownBlock) (hv : ∀ k, v'.ownBlock = some k → vo.ownBlock = some k ∨ k = (W.alloc o).heap.size) :
    Work w0 (w1.setCell ⟨w0.heap.size, 3, none⟩ v') F s vb v' most ⟨a, out ++ c, e⟩ := by
  have hsz : (W.alloc o).heap.size = W.heap.size + 1 := by simp
  obtain ⟨s1, s2⟩ := h.out3 hg
  have l1 := h.1.lt
  have l2 := h.2.1.lt
  have hne : ∀ k, v'.ownBlock = some k → k ≠ w0.heap.size ∧ k ≠ w0.heap.size + 1 := fun k hk => by
    rcases hv k hk with h1 | h1
    · exact h.2.2.2.2 k h1
    · omega
  refine ⟨s1.putOut v' (out ++ c), (heap_setCell_other _ _ _ _ (by simp)).trans s2, hr.move fun k hk => heap_setCell_other _ ⟨w0.heap.size, 3, none⟩ k _ (hne k hk).1, ?_, hne⟩
  have h1 := (h.2.2.2.1.alloc o).grown (F'' := v'.ownBlock.toList) hg (fun k hk => by simp [hk]) (fun k hk => by
    rcases hv k (by simpa using hk) with e | e
    · exact .inl (by simp [e])
    · exact .inr (by omega))
  exact ⟨h1.1, h1.2.1, h1.2.2.1, by have := h1.size; simp [World.setCell]; exact this, fun k hk hF => (heap_setCell_other _ ⟨w0.heap.size, 3, none⟩ k _ (by simp; omega)).trans (h1.2.2.2.2.1 k hk hF), h1.2.2.2.2.2⟩
theorem distN_pos : ∀ d, 0 < distN d
  | 0 => by decide
  | d + 1 => by rw [distN]; exact Nat.add_pos_left (distN_pos d) _

set_option maxRecDepth 100000 in
set_option maxHeartbeats 4000000 in
theorem rCopied_any (s : ByteArray) (pb : Option Addr) (cb : Nat) (vo : Value) (most k : Nat) (x : St) (p1 p2 : Option Addr) (c1 c2 n1 n2 nb : Nat) (ns : List Nat) (w : World) (ho1 : vo.oneCell' = true) (hp : x.at' ≤ 8 * s.size) (hs : s.size ≤ 100000)
    (hk : k ≤ 28) (hol : x.out.length ≤ 1000000) (hrow : Row8 w vo x.out)
    (hl : ns.length ≤ 1000) (h15 : ∀ n ∈ ns, n ≤ 15) (hn1 : n1 = ns.length) (hn2 : n2 = ns.length) (hnb : nb = 8 * s.size) (hq1 : Nums w p1 (intsOf ns)) (hq2 : Nums w p2 (asZ (codesN ns))) (hq3 : Nums w pb (asZ (bitsOf s.data.toList))) :
    Calls Tryd.prog 29 #[.agg (stV s (.slice pb nb cb) vo most x), .int .i64 (k : Int), .slice p1 n1 c1, .slice p2 n2 c2] w (Handed10 w vo.ownBlock.toList s (.slice pb nb cb) most (copiedS s.data.toList ns most k x)) := by
  have hsz : s.data.toList.length = s.size := by rw [← size_data]
  have hsym : ∀ (y : St) (W : World), y.at' ≤ 8 * s.size → Below w.heap.size w W → _ := fun y W hy hb => rSymS_any s pb cb vo most y p1 p2 c1 c2 n1 n2 nb ns W ho1 hy hs hl h15 hn1 hn2 hnb (hq1.later hb) (hq2.later hb) (hq3.later hb)
  have Hsym := Lib.hid hsym
  have Hsz := Lib.hid hsz
  obtain ⟨vb, hvb⟩ : ∃ vb, Value.slice pb nb cb = vb := ⟨_, rfl⟩
  have hb1 : vb.oneCell' = true := by rw [← hvb]; rfl
  rw [hvb] at Hsym
  rw [hvb]
  have HWk := Lib.hid (Work.begun (s := s) (vb := vb) (most := most) hrow)
  obtain ⟨W, hW, H1, H2, HB⟩ := boxes_is w s vb vo most x
  rw [hW] at HWk
  unfold boxes at hW
  clear hsym hsz hvb hrow hq1 hq2 hq3 hn1 hn2 hnb h15 hl
  obtain ⟨wd, hwd⟩ : ∃ wd, (if k = 28 then 0 else extraN k 8 4) = wd := ⟨_, rfl⟩
  have hwd16 : wd ≤ 16 := by rw [← hwd]; exact extra_wide hk
  obtain ⟨ex, hex⟩ : ∃ ex, extraN k 8 4 = ex := ⟨_, rfl⟩
  have Hex := Lib.hid (fun W => rExtra_any k 8 4 W (by omega) (by omega) (by omega) (by omega))
  rw [hex] at Hex
  obtain ⟨Post, hPost⟩ : ∃ Post, Handed10 w vo.ownBlock.toList s vb most (copiedS s.data.toList ns most k x) = Post := ⟨_, rfl⟩
  rw [hPost]
  have HPost := Lib.hid hPost
  clear hPost
  go_enter Tryd.func29, Tryd.ntmps29
  go_wp2_with fail
  refine (Hex.out _).mono ?_
  rintro e w1 ⟨rfl, rfl⟩
  go_upto_if 18 with fail
  go_cut [9] (fun s9 wx => s9 = .int .i64 (wd : Int) ∧ W = wx)
  case first =>
    by_cases h28 : k = 28
    · have hkz : ((k : Int) == 28) = true := by rw [h28]; rfl
      have hw0 : wd = 0 := by rw [← hwd, if_pos h28]
      subst hw0
      clear hwd hex Hex hwd16 h28 hW
      go_wp2_with fail
      go_meet
      exact ⟨rfl, rfl⟩
    · have hkz : ((k : Int) == 28) = false := by rw [beq_eq_false_iff_ne]; omega
      have hw0 : wd = ex := by rw [← hwd, if_neg h28, hex]
      subst hw0
      clear hwd hex Hex hwd16 h28 hW
      go_wp2_with fail
      go_meet
      exact ⟨rfl, rfl⟩
  case rest =>
    obtain ⟨rfl, rfl⟩ := hcut
    clear hW hex Hex
    obtain ⟨xa, na, ha⟩ : ∃ xa na, bitsS s.data.toList x wd = (xa, na) := ⟨_, _, rfl⟩
    have fa := bitsS_facts (l := s.data.toList) (x := x) hwd16 (by rw [Hsz.out]; exact hp)
    rw [ha, Hsz.out] at fa
    simp only at fa
    obtain ⟨fa1, fa2, fa3⟩ := fa
    have Hba := Lib.hid (rBitsS_any s vb vo most x wd W hb1 ho1 hwd16 hp (by omega))
    rw [ha] at Hba
    have C0 := Lib.hid HWk.out.1
    go_wp2_with (with_reducible first
      | refine StCell.load rfl (.tmp 4) rfl w.heap.size _ _ _ _ _ rfl C0.out ?_)
    refine Hba.out.mono ?_
    rintro e w2 ⟨rfl, hb⟩
    have HW2 := Lib.hid (HWk.out.call hb)
    have C2 := Lib.hid HW2.out.1
    have B2 : Hid (Below w.heap.size w w2) := Lib.hid (HB.out.trans (hb.mono HB.out.size))
    clear hb
    have HL := Lib.hid (fun W => rLength_any k W hk)
    obtain ⟨ln, hln⟩ : ∃ ln, lengthN k = ln := ⟨_, rfl⟩
    have hln2 : ln ≤ 1000 := by rw [← hln]; exact lengthN_le hk
    rw [hln] at HL
    go_wp2_with (with_reducible first
      | (refine StCell.store rfl rfl (.tmp 4) (.tmp 23) rfl w.heap.size _ _ _ _ _ _ _ _ _ _ hb1 ho1 rfl rfl C2.out w.heap.size w2 (Below.refl _ _) (Nat.le_refl _) ?_; intro w3 Hs3 Hb3 Ho3))
    have HW3 := Lib.hid (HW2.out.store fa2 Hs3.out Hb3.out Ho3.out)
    have B3 : Hid (Below w.heap.size w w3) := Lib.hid (B2.out.trans Hb3.out)
    refine (HL.out _).mono ?_
    rintro e w4 ⟨rfl, rfl⟩
    obtain ⟨xb, d, hxb⟩ : ∃ xb d, symS s.data.toList xa ns = (xb, d) := ⟨_, _, rfl⟩
    have fb := symS_facts (l := s.data.toList) (x := xa) (ns := ns) (by rw [Hsz.out]; exact fa1)
    rw [hxb, Hsz.out] at fb
    obtain ⟨fb1, fb2⟩ := fb
    simp only at fb1 fb2
    have Hsy := Lib.hid (Hsym.out xa w3 fa1 B3.out)
    rw [hxb] at Hsy
    have C3 := Lib.hid HW3.out.1
    clear HL
    go_wp2_with (with_reducible first
      | refine StCell.load rfl (.tmp 4) rfl w.heap.size _ _ _ _ _ rfl C3.out ?_)
    refine Hsy.out.mono ?_
    rintro e w5 ⟨rfl, hb⟩
    have HW5 := Lib.hid (HW3.out.call hb)
    have B5 : Hid (Below w.heap.size w w5) := Lib.hid (B3.out.trans (hb.mono B3.out.size))
    have C5 := Lib.hid HW5.out.1
    clear hb Hsy
    obtain ⟨bd, hbd⟩ : ∃ bd, decide (29 < d) = bd := ⟨_, rfl⟩
    have hbz : decide (29 < (d : Int)) = bd := by rw [← hbd, decide_eq_decide]; omega
    have Hf := Lib.hid (fun W => rFail_any s vb vo most xb bd 4 W hb1 ho1)
    obtain ⟨xc, hxc⟩ : ∃ xc, failS xb bd 4 = xc := ⟨_, rfl⟩
    rw [hxc] at Hf
    have fc := failS_facts xb bd 4
    rw [hxc] at fc
    go_wp2_with (with_reducible first
      | (refine StCell.store rfl rfl (.tmp 4) (.tmp 34) rfl w.heap.size _ _ _ _ _ _ _ _ _ _ hb1 ho1 rfl rfl C5.out w.heap.size w5 (Below.refl _ _) (Nat.le_refl _) ?_; intro w6 Hs6 Hb6 Ho6)
      | refine StCell.load rfl (.tmp 4) rfl w.heap.size _ _ _ _ _ rfl Hs6.out ?_)
    have HW6 := Lib.hid (HW5.out.store fb2 Hs6.out Hb6.out Ho6.out)
    have B6 : Hid (Below w.heap.size w w6) := Lib.hid (B5.out.trans Hb6.out)
    refine (Hf.out _).mono ?_
    rintro e w7 ⟨rfl, hb⟩
    have HW7 := Lib.hid (HW6.out.call hb)
    have B7 : Hid (Below w.heap.size w w7) := Lib.hid (B6.out.trans (hb.mono B6.out.size))
    have C7 := Lib.hid HW7.out.1
    clear hb Hf
    go_upto_region 8 with (with_reducible first
      | (refine StCell.store rfl rfl (.tmp 4) (.tmp 39) rfl w.heap.size _ _ _ _ _ _ _ _ _ _ hb1 ho1 rfl rfl C7.out w.heap.size w7 (Below.refl _ _) (Nat.le_refl _) ?_; intro w8 Hs8 Hb8 Ho8))
    have HW8 := Lib.hid (HW7.out.store fc.2 Hs8.out Hb8.out Ho8.out)
    have B8 : Hid (Below w.heap.size w w8) := Lib.hid (B7.out.trans Hb8.out)
    have c85 := Hs8.out.code
    have hpart : copiedS s.data.toList ns most k x = if xc.code ≠ 0 then xc else
        copyS (failS (failS (bitsS s.data.toList xc (extraN d 4 2)).1 (decide ((bitsS s.data.toList xc (extraN d 4 2)).1.out.length < distN d + (bitsS s.data.toList xc (extraN d 4 2)).2)) 3) (decide (most < (failS (bitsS s.data.toList xc (extraN d 4 2)).1 (decide ((bitsS s.data.toList xc (extraN d 4 2)).1.out.length < distN d + (bitsS s.data.toList xc (extraN d 4 2)).2)) 3).out.length + (ln + na))) 7) (distN d + (bitsS s.data.toList xc (extraN d 4 2)).2) (ln + na) := by
      unfold copiedS
      simp only
      rw [hwd, ha]
      simp only
      rw [hxb]
      simp only
      rw [hbd, hxc, hln]
    by_cases hc0 : xc.code = 0
    · rw [if_neg (by simp [hc0])] at hpart
      have hcz : (xc.code != 0) = false := by simpa using hc0
      have hd29 : d ≤ 29 := by
        have h1 := failS_zero (x := xb) (c := bd) (e := 4) (by decide) (by rw [hxc]; exact hc0)
        rw [← hbd] at h1
        have := of_decide_eq_false h1.1
        omega
      obtain ⟨ed, hed⟩ : ∃ ed, extraN d 4 2 = ed := ⟨_, rfl⟩
      have hed16 : ed ≤ 16 := by rw [← hed]; have := extra_dist hd29; omega
      rw [hed] at hpart
      obtain ⟨xd, nd, hxd⟩ : ∃ xd nd, bitsS s.data.toList xc ed = (xd, nd) := ⟨_, _, rfl⟩
      have fd := bitsS_facts (l := s.data.toList) (x := xc) hed16 (by rw [Hsz.out, fc.1]; exact fb1)
      rw [hxd, Hsz.out] at fd
      simp only at fd
      obtain ⟨fd1, fd2, fd3⟩ := fd
      rw [hxd] at hpart
      simp only at hpart
      have Hpart := Lib.hid hpart
      have Hex2 := Lib.hid (fun W => rExtra_any d 4 2 W (by omega) (by omega) (by omega) (by omega))
      rw [hed] at Hex2
      have HWd : Hid (Work w w8.drew vo.ownBlock.toList s vb vo most xc) := Lib.hid (HW8.out.call (Below.refl _ _).drew)
      have Bd : Hid (Below w.heap.size w w8.drew) := Lib.hid B8.out.drew
      have C8 : Hid (StCell w8.drew w.heap.size s vb vo most xc) := Lib.hid HWd.out.1
      have Hbd := Lib.hid (rBitsS_any s vb vo most xc ed w8.drew hb1 ho1 hed16 (by rw [fc.1]; exact fb1) (by omega))
      rw [hxd] at Hbd
      obtain ⟨wd8, hwd8⟩ : ∃ wd8, w8.drew = wd8 := ⟨_, rfl⟩
      rw [hwd8] at HWd Bd C8 Hbd
      clear hpart hc0 hwd ha hxb hbd hxc hln hed hxd
      go_upto_region 10 with fail
      go_cut [10] (fun s10 wx => s10 = .int .i64 (nd : Int) ∧ Aside (Work w wx vo.ownBlock.toList s vb vo most xd) ∧ Aside (Below w.heap.size w wx))
      case first =>
        clear hcz c85
        refine wp_region_held_drew (S := fun _ => True) (by kernel_rfl) trivial ?_
        rw [hwd8]
        clear hwd8
        intro _
        refine wpAnyH_take (i := 1) (v := .int .i64 (d : Int)) rfl (by kernel_rfl) (by kernel_rfl) (by kernel_rfl) (fun _ _ _ h => h) (Or.inl ⟨by rfl, fun w hw => by go_simp⟩) trivial ?_
        try simp only [Act.put, List.setIfInBounds_toArray, List.set_cons_zero, List.set_cons_succ, List.getElem_toArray, List.getElem_cons_zero, List.getElem_cons_succ]
        refine wpAnyH_ready (rs := [0, 2]) (by kernel_rfl) (by simp) ?_
        refine AllReadyH.cons rfl (fun K hK => ?_) (AllReadyH.cons rfl (fun K hK => ?_) AllReadyH.nil)
        · simp only [List.getElem_toArray, List.getElem_cons_zero]
          rw [if_pos (by rfl)]
          refine wp_load_row _ (.tmp 4) rfl w.heap.size rfl _ _ _ _ C8.out Tryd.underlying47 rfl info_st ?_
          refine hK.out _ _ trivial ?_
          clear hK
          intro _
          try simp only [Act.put, List.setIfInBounds_toArray, List.set_cons_zero, List.set_cons_succ]
          refine wpAnyH_ready (rs := [2]) (by kernel_rfl) (by simp) ?_
          refine AllReadyH.cons rfl (fun K hK => ?_) AllReadyH.nil
          simp only [List.getElem_toArray, List.getElem_cons_zero, List.getElem_cons_succ]
          go_simp
          go_at_call 52
          refine (Hex2.out _).mono ?_
          rintro e wx ⟨rfl, rfl⟩
          refine hK.out _ _ trivial ?_
          clear hK
          intro _
          try simp only [Act.put, List.setIfInBounds_toArray, List.set_cons_zero, List.set_cons_succ, List.getElem_toArray, List.getElem_cons_zero, List.getElem_cons_succ]
          refine wpAnyH_ready (rs := [3]) (by kernel_rfl) (by simp) ?_
          refine AllReadyH.cons rfl (fun K hK => ?_) AllReadyH.nil
          simp only [List.getElem_toArray, List.getElem_cons_zero, List.getElem_cons_succ]
          go_simp
          go_at_call 13
          refine Hbd.out.mono ?_
          rintro e w9 ⟨rfl, hb⟩
          have HW9 := Lib.hid (HWd.out.call hb)
          have B9 : Hid (Below w.heap.size w w9) := Lib.hid (Bd.out.trans (hb.mono Bd.out.size))
          clear hb
          refine hK.out _ _ trivial ?_
          clear hK
          intro _
          try simp only []
          refine wpAnyH_take (i := 4) (v := .tuple #[.agg (stV s vb vo most xd), .int .i64 (nd : Int)]) rfl (by kernel_rfl) (by kernel_rfl) (by kernel_rfl) (fun _ _ _ h => h) (Or.inl ⟨by rfl, fun w hw => by go_simp⟩) trivial ?_
          try simp only [Act.put, List.setIfInBounds_toArray, List.set_cons_zero, List.set_cons_succ, List.getElem_toArray, List.getElem_cons_zero, List.getElem_cons_succ]
          refine wpAnyH_take (i := 5) (v := .agg (stV s vb vo most xd)) rfl (by kernel_rfl) (by kernel_rfl) (by kernel_rfl) (fun _ _ _ h => h) (Or.inl ⟨by rfl, fun w hw => by go_simp⟩) trivial ?_
          try simp only [Act.put, List.setIfInBounds_toArray, List.set_cons_zero, List.set_cons_succ, List.getElem_toArray, List.getElem_cons_zero, List.getElem_cons_succ]
          refine wpAnyH_take (i := 6) (v := .int .i64 (nd : Int)) rfl (by kernel_rfl) (by kernel_rfl) (by kernel_rfl) (fun _ _ _ h => h) (Or.inl ⟨by rfl, fun w hw => by go_simp⟩) trivial ?_
          try simp only [Act.put, List.setIfInBounds_toArray, List.set_cons_zero, List.set_cons_succ, List.getElem_toArray, List.getElem_cons_zero, List.getElem_cons_succ]
          refine wpAnyH_ready (rs := [7]) (by kernel_rfl) (by simp) ?_
          refine AllReadyH.cons rfl (fun K hK => ?_) AllReadyH.nil
          simp only [List.getElem_toArray, List.getElem_cons_zero, List.getElem_cons_succ]
          rw [if_pos (by rfl)]
          refine wp_store_row _ (.tmp 4) (.tmp 49) rfl w.heap.size (stV s vb vo most xd) rfl rfl _ _ HW9.out.1 info_st rfl (stV_one hb1 ho1) ?_
          have Hs10 : Hid (StCell (w9.setRow w.heap.size (stV s vb vo most xd)) w.heap.size s vb vo most xd) := Lib.hid (setRow_heap _ _ _ _ _ _ HW9.out.1)
          have Hb10 : Hid (Below w.heap.size w9 (w9.setRow w.heap.size (stV s vb vo most xd))) := Lib.hid ⟨rfl, rfl, rfl, by simp, fun k hk => setRow_other _ _ _ _ (by omega)⟩
          have Ho10 : Hid (∀ k, k ≠ w.heap.size → (w9.setRow w.heap.size (stV s vb vo most xd)).heap[k]? = w9.heap[k]?) := Lib.hid fun k hk => setRow_other _ _ _ _ hk
          obtain ⟨w10, hw10⟩ : ∃ w10, w9.setRow w.heap.size (stV s vb vo most xd) = w10 := ⟨_, rfl⟩
          rw [hw10] at Hs10 Hb10 Ho10
          rw [hw10]
          refine hK.out _ _ trivial ?_
          clear hK hw10
          intro _
          try simp only [Act.put]
          refine wpAnyH_take (i := 8) (v := .int .i64 (nd : Int)) rfl (by kernel_rfl) (by kernel_rfl) (by kernel_rfl) (fun _ _ _ h => h) (Or.inl ⟨by rfl, fun w hw => by go_simp⟩) trivial ?_
          try simp only [Act.put, List.setIfInBounds_toArray, List.set_cons_zero, List.set_cons_succ, List.getElem_toArray, List.getElem_cons_zero, List.getElem_cons_succ]
          refine wpAnyH_done (by kernel_rfl) ?_ _
          go_wp2_with fail
          go_meet
          exact ⟨rfl, HW9.out.store fd2 Hs10.out Hb10.out Ho10.out, B9.out.trans Hb10.out⟩

        · simp only [List.getElem_toArray, List.getElem_cons_zero, List.getElem_cons_succ]
          go_simp
          go_at_call 52
          refine (Hex2.out _).mono ?_
          rintro e wx ⟨rfl, rfl⟩
          refine hK.out _ _ trivial ?_
          clear hK
          intro _
          try simp only [Act.put, List.setIfInBounds_toArray, List.set_cons_zero, List.set_cons_succ, List.getElem_toArray, List.getElem_cons_zero, List.getElem_cons_succ]
          refine wpAnyH_ready (rs := [0]) (by kernel_rfl) (by simp) ?_
          refine AllReadyH.cons rfl (fun K hK => ?_) AllReadyH.nil
          simp only [List.getElem_toArray, List.getElem_cons_zero]
          rw [if_pos (by rfl)]
          refine wp_load_row _ (.tmp 4) rfl w.heap.size rfl _ _ _ _ C8.out Tryd.underlying47 rfl info_st ?_
          refine hK.out _ _ trivial ?_
          clear hK
          intro _
          try simp only [Act.put, List.setIfInBounds_toArray, List.set_cons_zero, List.set_cons_succ]
          refine wpAnyH_ready (rs := [3]) (by kernel_rfl) (by simp) ?_
          refine AllReadyH.cons rfl (fun K hK => ?_) AllReadyH.nil
          simp only [List.getElem_toArray, List.getElem_cons_zero, List.getElem_cons_succ]
          go_simp
          go_at_call 13
          refine Hbd.out.mono ?_
          rintro e w9 ⟨rfl, hb⟩
          have HW9 := Lib.hid (HWd.out.call hb)
          have B9 : Hid (Below w.heap.size w w9) := Lib.hid (Bd.out.trans (hb.mono Bd.out.size))
          clear hb
          refine hK.out _ _ trivial ?_
          clear hK
          intro _
          try simp only []
          refine wpAnyH_take (i := 4) (v := .tuple #[.agg (stV s vb vo most xd), .int .i64 (nd : Int)]) rfl (by kernel_rfl) (by kernel_rfl) (by kernel_rfl) (fun _ _ _ h => h) (Or.inl ⟨by rfl, fun w hw => by go_simp⟩) trivial ?_
          try simp only [Act.put, List.setIfInBounds_toArray, List.set_cons_zero, List.set_cons_succ, List.getElem_toArray, List.getElem_cons_zero, List.getElem_cons_succ]
          refine wpAnyH_take (i := 5) (v := .agg (stV s vb vo most xd)) rfl (by kernel_rfl) (by kernel_rfl) (by kernel_rfl) (fun _ _ _ h => h) (Or.inl ⟨by rfl, fun w hw => by go_simp⟩) trivial ?_
          try simp only [Act.put, List.setIfInBounds_toArray, List.set_cons_zero, List.set_cons_succ, List.getElem_toArray, List.getElem_cons_zero, List.getElem_cons_succ]
          refine wpAnyH_take (i := 6) (v := .int .i64 (nd : Int)) rfl (by kernel_rfl) (by kernel_rfl) (by kernel_rfl) (fun _ _ _ h => h) (Or.inl ⟨by rfl, fun w hw => by go_simp⟩) trivial ?_
          try simp only [Act.put, List.setIfInBounds_toArray, List.set_cons_zero, List.set_cons_succ, List.getElem_toArray, List.getElem_cons_zero, List.getElem_cons_succ]
          refine wpAnyH_ready (rs := [7]) (by kernel_rfl) (by simp) ?_
          refine AllReadyH.cons rfl (fun K hK => ?_) AllReadyH.nil
          simp only [List.getElem_toArray, List.getElem_cons_zero, List.getElem_cons_succ]
          rw [if_pos (by rfl)]
          refine wp_store_row _ (.tmp 4) (.tmp 49) rfl w.heap.size (stV s vb vo most xd) rfl rfl _ _ HW9.out.1 info_st rfl (stV_one hb1 ho1) ?_
          have Hs10 : Hid (StCell (w9.setRow w.heap.size (stV s vb vo most xd)) w.heap.size s vb vo most xd) := Lib.hid (setRow_heap _ _ _ _ _ _ HW9.out.1)
          have Hb10 : Hid (Below w.heap.size w9 (w9.setRow w.heap.size (stV s vb vo most xd))) := Lib.hid ⟨rfl, rfl, rfl, by simp, fun k hk => setRow_other _ _ _ _ (by omega)⟩
          have Ho10 : Hid (∀ k, k ≠ w.heap.size → (w9.setRow w.heap.size (stV s vb vo most xd)).heap[k]? = w9.heap[k]?) := Lib.hid fun k hk => setRow_other _ _ _ _ hk
          obtain ⟨w10, hw10⟩ : ∃ w10, w9.setRow w.heap.size (stV s vb vo most xd) = w10 := ⟨_, rfl⟩
          rw [hw10] at Hs10 Hb10 Ho10
          rw [hw10]
          refine hK.out _ _ trivial ?_
          clear hK hw10
          intro _
          try simp only [Act.put]
          refine wpAnyH_take (i := 8) (v := .int .i64 (nd : Int)) rfl (by kernel_rfl) (by kernel_rfl) (by kernel_rfl) (fun _ _ _ h => h) (Or.inl ⟨by rfl, fun w hw => by go_simp⟩) trivial ?_
          try simp only [Act.put, List.setIfInBounds_toArray, List.set_cons_zero, List.set_cons_succ, List.getElem_toArray, List.getElem_cons_zero, List.getElem_cons_succ]
          refine wpAnyH_done (by kernel_rfl) ?_ _
          go_wp2_with fail
          go_meet
          exact ⟨rfl, HW9.out.store fd2 Hs10.out Hb10.out Ho10.out, B9.out.trans Hb10.out⟩
      case rest =>
        obtain ⟨rfl, HW10, B10⟩ := hcut
        have HDi := Lib.hid (fun W => rDistance_any d W hd29)
        obtain ⟨dn, hdn⟩ : ∃ dn, distN d = dn := ⟨_, rfl⟩
        have hdn2 : dn ≤ 40000 := by rw [← hdn]; exact distN_le (by omega)
        have hdn1 : 0 < dn := by rw [← hdn]; exact distN_pos d
        have Hdn := Lib.hid hdn
        rw [hdn] at HDi
        clear hdn
        obtain ⟨ad, cap, hvo, hvn⟩ : ∃ ad cap, vo = .slice ad xd.out.length cap ∧ True := by
          obtain ⟨ad, cap, h⟩ := HW10.out.2.2.1.form
          exact ⟨ad, cap, h, trivial⟩
        have hxo : xd.out.length ≤ 1000000 := by rw [fd2, fc.2, fb2, fa2]; exact hol
        obtain ⟨fr, hfr⟩ : ∃ fr, dn + nd = fr := ⟨_, rfl⟩
        have hfz : (dn : Int) + (nd : Int) = (fr : Int) := by omega
        have hfr2 : fr ≤ 200000 := by omega
        have hfr1 : 0 < fr := by omega
        obtain ⟨n, hn⟩ : ∃ n, ln + na = n := ⟨_, rfl⟩
        have hnz : (ln : Int) + (na : Int) = (n : Int) := by omega
        have hn2 : n ≤ 100000 := by omega
        obtain ⟨bf, hbf⟩ : ∃ bf, decide (xd.out.length < fr) = bf := ⟨_, rfl⟩
        obtain ⟨ol, hdl⟩ : ∃ ol, xd.out.length = ol := ⟨_, rfl⟩
        have hbfn : decide (ol < fr) = bf := by rw [← hdl]; exact hbf
        have hbfz : decide ((ol : Int) < (fr : Int)) = bf := by rw [← hbfn, decide_eq_decide]; omega
        obtain ⟨xe, hxe⟩ : ∃ xe, failS xd bf 3 = xe := ⟨_, rfl⟩
        have fe := failS_facts xd bf 3
        rw [hxe] at fe
        have Hfe := Lib.hid (fun W => rFail_any s vb vo most xd bf 3 W hb1 ho1)
        rw [hxe] at Hfe
        obtain ⟨bm, hbm⟩ : ∃ bm, decide (most < xe.out.length + n) = bm := ⟨_, rfl⟩
        have hbmz : decide ((most : Int) < (ol : Int) + (n : Int)) = bm := by rw [← hbm, decide_eq_decide, fe.2, hdl]; omega
        obtain ⟨xf, hxf⟩ : ∃ xf, failS xe bm 7 = xf := ⟨_, rfl⟩
        have ff := failS_facts xe bm 7
        rw [hxf] at ff
        have Hff := Lib.hid (fun W => rFail_any s vb vo most xe bm 7 W hb1 ho1)
        rw [hxf] at Hff
        have Hcopy : Hid (copiedS s.data.toList ns most k x = copyS xf fr n) := Lib.hid (by rw [Hpart.out, Hdn.out, hfr, hbf, hxe, hn, hbm, hxf])
        have Hfar : Hid (xf.code = 0 → fr ≤ xf.out.length) := Lib.hid fun h => by
          have h1 := failS_zero (x := xe) (c := bm) (e := 7) (by decide) (by rw [hxf]; exact h)
          have h2 := failS_zero (x := xd) (c := bf) (e := 3) (by decide) (by rw [hxe]; exact h1.2.1)
          rw [ff.2, fe.2]
          rw [← hbf] at h2
          have := of_decide_eq_false h2.1
          omega
        have C10 := Lib.hid HW10.out.1
        have Hvo : Hid (vo = .slice ad ol cap) := Lib.hid (by rw [hvo, hdl])
        have o10 : wc.cell? ⟨w.heap.size, 3, none⟩ = some (.slice ad ol cap) := by rw [C10.out.out, Hvo.out]
        have m10 := C10.out.most
        have Ffe := Lib.hid fe
        have Fff := Lib.hid ff
        have Hdl := Lib.hid hdl
        rw [hdl] at hxo
        clear hvo hvn hbf hxe hbm hxf hfr hn hdl fd1 fd2 fc fb1 fb2 fa1 fa2 fe ff hd29 hk hol hp
        go_wp2_with fail
        refine (HDi.out _).mono ?_
        rintro e w11 ⟨rfl, rfl⟩
        go_wp2_with (with_reducible first
          | refine StCell.load rfl (.tmp 4) rfl w.heap.size _ _ _ _ _ rfl C10.out ?_)
        refine (Hfe.out _).mono ?_
        rintro e w12 ⟨rfl, hb⟩
        have HW12 := Lib.hid (HW10.out.call hb)
        have C12 := Lib.hid HW12.out.1
        clear hb
        go_wp2_with (with_reducible first
          | (refine StCell.store rfl rfl (.tmp 4) (.tmp 61) rfl w.heap.size _ _ _ _ _ _ _ _ _ _ hb1 ho1 rfl rfl C12.out w.heap.size w12 (Below.refl _ _) (Nat.le_refl _) ?_; intro w13 Hs13 Hb13 Ho13; have o13 : w13.cell? ⟨w.heap.size, 3, none⟩ = some (.slice ad ol cap) := (by rw [Hs13.out.out, Hvo.out]); have m13 := Hs13.out.most)
          | refine StCell.load rfl (.tmp 4) rfl w.heap.size _ _ _ _ _ rfl Hs13.out ?_)
        have HW13 := Lib.hid (HW12.out.store Ffe.out.2 Hs13.out Hb13.out Ho13.out)
        refine (Hff.out _).mono ?_
        rintro e w14 ⟨rfl, hb⟩
        have HW14 := Lib.hid (HW13.out.call hb)
        have C14 := Lib.hid HW14.out.1
        clear hb o10 m10 o13 m13
        go_wp2_with (with_reducible first
          | (refine StCell.store rfl rfl (.tmp 4) (.tmp 71) rfl w.heap.size _ _ _ _ _ _ _ _ _ _ hb1 ho1 rfl rfl C14.out w.heap.size w14 (Below.refl _ _) (Nat.le_refl _) ?_; intro w15 Hs15 Hb15 Ho15))
        have HW15 := Lib.hid (HW14.out.store Fff.out.2 Hs15.out Hb15.out Ho15.out)
        by_cases hxf0 : xf.code = 0
        · have hfar := Hfar.out hxf0
          have Hend : Hid (copyS xf fr n = ⟨xf.at', copyB fr n xf.out, 0⟩) := Lib.hid (by unfold copyS; rw [if_pos hxf0])
          have hxfl : xf.out.length = ol := by rw [Fff.out.2, Ffe.out.2, Hdl.out]
          have Hstart : Hid (Work w w15 vo.ownBlock.toList s vb vo most ⟨xf.at', xf.out, 0⟩) := Lib.hid (by
            have : xf = ⟨xf.at', xf.out, 0⟩ := by rw [← hxf0]
            rw [← this]; exact HW15.out)
          clear hxf0
          go_loopg [14] n (fun g s14 wx => ∃ (j : Nat) (v : Value) (o : List UInt8), j + g = n ∧ s14 = .int .i64 (j : Int) ∧ o.length = ol + j ∧ Aside (Work w wx vo.ownBlock.toList s vb v most ⟨xf.at', o, 0⟩ ∧ v.oneCell' = true ∧ copyB fr g o = copyB fr n xf.out))
          case atStart => exact ⟨0, vo, xf.out, by omega, rfl, by omega, Hstart.out, ho1, rfl⟩
          case round =>
            obtain ⟨j, v, o, hjg, rfl, hol, HI⟩ := hrel
            have k5 := HI.out.1.1.code
            cases gk with
            | zero =>
              obtain rfl : j = n := by omega
              have Ho : Hid (o = copyB fr j xf.out) := Lib.hid HI.out.2.2
              have I1 := Lib.hid HI.out.1.1
              have I2 := Lib.hid HI.out.1.2.1
              have hv1 := HI.out.2.1
              go_wp2_with (with_reducible first
                | refine StCell.load rfl (.tmp 4) rfl w.heap.size _ _ _ _ _ rfl I1.out ?_
                | (refine StCell.store rfl rfl (.tmp 8) (.tmp 96) rfl (w.heap.size + 1) _ _ _ _ _ _ _ _ _ _ hb1 hv1 rfl rfl I2.out w.heap.size wr (Below.refl _ _) (by omega) ?_; intro w16 Hs16 Hb16 Ho16))
              exact bodyPost_ret (results_st rfl _ _ (w.heap.size + 1) _ _ _ _ _ rfl Hs16.out) rfl (by
                rw [← HPost.out, Hcopy.out, Hend.out, ← Ho.out]; exact HI.out.1.done hv1 Hb16.out Ho16.out)
            | succ g =>
              have hjz : (j : Int) < (n : Int) := by omega
              have hfo : fr ≤ o.length := by omega
              obtain ⟨g8, cap8, hv8, hg8, hc8⟩ := HI.out.1.2.2.1.bytes (show 0 < o.length by omega)
              obtain ⟨y, hy⟩ : ∃ y, o[o.length - fr]? = some y := ⟨_, List.getElem?_eq_getElem (by omega)⟩
              have hcy := hc8 _ _ hy
              obtain ⟨q, hq⟩ : ∃ q, o.length = q := ⟨_, rfl⟩
              have Hq := Lib.hid hq
              have hqn : q = ol + j := by omega
              have Hqn := Lib.hid hqn
              have Hcopy2 : Hid (copyB fr g (o ++ [y]) = copyB fr n xf.out) := Lib.hid (by
                have := HI.out.2.2
                rw [copyB, hy] at this; exact this)
              have c3 := HI.out.1.1.out
              rw [hq] at hv8 hcy hy hfo
              rw [hv8] at c3
              have hne8 : g8 ≠ w.heap.size := (HI.out.1.2.2.2.2 g8 (by rw [hv8]; rfl)).1
              have hlt := HI.out.1.1.lt
              have c3a : ∀ u, (wr.drew.alloc u).cell? ⟨w.heap.size, 3, none⟩ = some (.slice (some ⟨g8, 0, none⟩) q cap8) := fun u => (World.cell?_of_block (w := wr.drew) (Below.heap_alloc _ u _ hlt)).trans c3
              have hcya : ∀ u, (wr.drew.alloc u).cell? ⟨g8, q - fr, none⟩ = some (.int .u8 (y.toNat : Int)) := fun u => (World.cell?_of_block (w := wr.drew) (Below.heap_alloc _ u _ hg8)).trans hcy
              obtain ⟨ix, hix⟩ : ∃ ix, q - fr = ix := ⟨_, rfl⟩
              rw [hix] at hcy hcya hy
              have hixz : (q : Int) - (fr : Int) = (ix : Int) := by omega
              have hix2 : (ix : Int) < (q : Int) := by omega
              have hix0 : (0 : Int) ≤ (ix : Int) := by omega
              have hlen8 : o.length + 1 ≤ 140737488355328 := by omega
              have hlen9 : q ≤ 1000000000 := by omega
              have hixw : IntKind.i64.wrap (ix : Int) = (ix : Int) := IntWalk.i64_in _ (by omega)
              have HI8 : Hid (Work w wr.drew vo.ownBlock.toList s vb v most ⟨xf.at', o, 0⟩) := Lib.hid (HI.out.1.call (Below.refl _ _).drew)
              have hv8' := hv8
              subst hv8'
              clear hc8 hy hix hfo hq hol hqn
              go_wp2_with fail
              go_region_law (refine step_append_row8 rfl (.tmp 83) (.tmp 93) rfl _ o rfl (HI8.out.2.2.1.move fun k hk => Below.heap_alloc _ _ _ (HI8.out.2.2.1.lt k hk)) _ _ y rfl (cells_new1_y _ rfl _ _ rfl) hlen8 _ rfl ?_; intro v9 w9 Hr9 Hg9 Hv9 hf9; obtain ⟨g9, cap9, rfl⟩ := hf9; have HW9 := Lib.hid (HI8.out.append Hr9.out Hg9.out Hv9.out); have c39 := HI8.out.cell3 Hg9.out; have f39 := HI8.out.free3 Hg9.out)
              all_goals
                go_wp2_with fail
                go_roundg g
                case measure => omega
                case rel => exact ⟨j + 1, _, o ++ [y], by omega, by go_num, by rw [List.length_append, Hq.out, Hqn.out]; rfl, HW9.out, rfl, Hcopy2.out⟩
        · have hz : (xf.code == 0) = false := by simpa using hxf0
          have Hend : Hid (copyS xf fr n = xf) := Lib.hid (by unfold copyS; rw [if_neg hxf0])
          have k5 := HW15.out.1.code
          have I1 := Lib.hid HW15.out.1
          have I2 := Lib.hid HW15.out.2.1
          clear hxf0
          go_loopg [14] 0 (fun g s14 wx => s14 = .int .i64 0 ∧ w15 = wx)
          case atStart => exact ⟨rfl, rfl⟩
          case round =>
            obtain ⟨rfl, rfl⟩ := hrel
            by_cases hn0 : (0 : Int) < (n : Int)
            all_goals
              go_wp2_with (with_reducible first
                | refine StCell.load rfl (.tmp 4) rfl w.heap.size _ _ _ _ _ rfl I1.out ?_
                | (refine StCell.store rfl rfl (.tmp 8) (.tmp 96) rfl (w.heap.size + 1) _ _ _ _ _ _ _ _ _ _ hb1 ho1 rfl rfl I2.out w.heap.size w15 (Below.refl _ _) (by omega) ?_; intro w16 Hs16 Hb16 Ho16))
              exact bodyPost_ret (results_st rfl _ _ (w.heap.size + 1) _ _ _ _ _ rfl Hs16.out) rfl (by
                rw [← HPost.out, Hcopy.out, Hend.out]; exact HW15.out.done ho1 Hb16.out Ho16.out)
    · have hcz : (xc.code != 0) = true := by simpa using hc0
      rw [if_pos hc0] at hpart
      have Hpart := Lib.hid hpart
      have D8 := Lib.hid HW8.out.2.1
      clear hpart hc0 hwd ha hxb hbd hxc hln
      go_wp2_with (with_reducible first
        | refine StCell.load rfl (.tmp 4) rfl w.heap.size _ _ _ _ _ rfl Hs8.out ?_
        | (refine StCell.store rfl rfl (.tmp 8) (.tmp 43) rfl (w.heap.size + 1) _ _ _ _ _ _ _ _ _ _ hb1 ho1 rfl rfl D8.out w.heap.size w8 (Below.refl _ _) (by omega) ?_; intro w9 Hs9 Hb9 Ho9))
      exact bodyPost_ret (results_st rfl _ _ (w.heap.size + 1) _ _ _ _ _ rfl Hs9.out) rfl (by rw [← HPost.out, Hpart.out]; exact HW8.out.done ho1 Hb9.out Ho9.out)

end Go.Proofs.YtjmamomnbfnngaaDoor
