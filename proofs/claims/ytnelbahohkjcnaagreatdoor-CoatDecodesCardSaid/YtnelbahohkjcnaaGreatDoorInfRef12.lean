/-
  The contract of the document's Inflate.
-/
import Derived.Test.YtnelbahohkjcnaaGreatDoorInfRef11
namespace Go.Proofs.YtnelbahohkjcnaaGreatDoor
open Go.RowKit
set_option maxRecDepth 100000
structure Ifl (w0 w : World) (T gb : Nat) (s : ByteArray) (vb vo : Value) (M : Nat) (y : St) : Prop where
  cell : StCell w T s vb vo M y
  row : Row8 w vo y.out
  bits : BitsAt w gb (bitsOf s.data.toList)
  ne : gb ≠ T
  own : ∀ k, vo.ownBlock = some k → k ≠ T ∧ k ≠ gb ∧ w0.heap.size ≤ k
  hT : w0.heap.size ≤ T
  hb : Below w0.heap.size w0 w
section
variable {w0 w w' w2 : World} {T gb : Nat} {s : ByteArray} {vb vo v2 : Value} {M : Nat} {y z d : St}
theorem Ifl.call (h : Ifl w0 w T gb s vb vo M y) (hb : Below w.heap.size w w') : Ifl w0 w' T gb s vb vo M y :=
  ⟨h.cell.later hb, h.row.move fun k hk => hb.block k (h.row.lt k hk), h.bits.later hb, h.ne, h.own, h.hT, h.hb.trans (hb.mono h.hb.size)⟩
theorem Ifl.store (h : Ifl w0 w T gb s vb vo M y) (hz : z.out = y.out) (hc : StCell w' T s vb vo M z) (hb : Below w0.heap.size w w') (ho : ∀ k, k ≠ T → w'.heap[k]? = w.heap[k]?) : Ifl w0 w' T gb s vb vo M z :=
  ⟨hc, by rw [hz]; exact h.row.move fun k hk => ho k (h.own k hk).1, h.bits.move (ho gb h.ne), h.ne, h.own, h.hT, h.hb.trans hb⟩
theorem Ifl.still (h : Ifl w0 w T gb s vb vo M y) (ht : Touches vo.ownBlock.toList v2.ownBlock.toList w w') : StCell w' T s vb vo M y :=
  (ht.out h.cell.lt fun hm => (h.own T (by simpa using hm)).1 rfl).1.trans h.cell
theorem Ifl.handed (h : Ifl w0 w T gb s vb vo M y) (ht : Touches vo.ownBlock.toList v2.ownBlock.toList w w') (hr : Row8 w' v2 d.out) (hc : StCell w2 T s vb v2 M d) (hb : Below w0.heap.size w' w2) (ho : ∀ k, k ≠ T → w2.heap[k]? = w'.heap[k]?) : Ifl w0 w2 T gb s vb v2 M d := by
  have l1 := h.cell.lt
  have l2 := h.bits.1
  have l3 := h.hb.size
  have hv : ∀ k, v2.ownBlock = some k → k ≠ T ∧ k ≠ gb ∧ w0.heap.size ≤ k := fun k hk => by
    rcases ht.2.2.2.2.2 k (by simp [hk]) with e | e
    · exact h.own k (by simpa using e)
    · exact ⟨by omega, by omega, by omega⟩
  have hg := ht.out l2 (fun hm => (h.own gb (by simpa using hm)).2.1 rfl)
  have hB : Below w0.heap.size w w' := ht.below l3 fun k hk => (h.own k (by simpa using hk)).2.2
  exact ⟨hc, hr.move fun k hk => ho k (hv k hk).1, (h.bits.block ht.size hg.1).move (ho gb h.ne), h.ne, hv, h.hT, (h.hb.trans hB).trans hb⟩
theorem Ifl.reads (h : Ifl w0 w T gb s vb vo M y) : Reads w vo w.heap.size (some ⟨gb, 0, none⟩) (asZ (bitsOf s.data.toList)) :=
  Reads.bits h.bits (fun e => (h.own gb e).2.1 rfl) (by have := h.bits.1; omega)
end
theorem block_good {l : List UInt8} {M kind : Nat} {x d : St} (hx : x.code = 0) (hp : x.at' ≤ 8 * l.length) (hM : x.out.length ≤ M) (hd : blockS l M kind x = d) (hc : d.code = 0) : x.at' ≤ d.at' ∧ d.at' ≤ 8 * l.length ∧ d.out.length ≤ M := by
  have T := blockS_tells (l := l) (M := M) (kind := kind) hx
  rw [hd] at T
  cases hq : blockP M kind x.out l x.at' with
  | error e =>
    rw [hq] at T
    obtain ⟨t1, t2⟩ := T
    exact absurd hc (by rw [t1]; exact t2)
  | ok r =>
    obtain ⟨o', z⟩ := r
    rw [hq] at T
    obtain ⟨_, rfl, rfl⟩ := T
    have h1 := (Lefty.block _ _ _).le hq hp
    refine ⟨h1.1, h1.2, ?_⟩
    by_cases h : d.out.length ≤ M
    · exact h
    · have h3 : blockP M kind x.out l x.at' = .error 7 := (Roomy.block kind x.out M l x.at' d.out d.at' hq).2.2 M hM (by omega)
      rw [hq] at h3
      cases h3
theorem inflS_step {l : List UInt8} {M f a b : Nat} {x xa xb c : St} (hx : x.code = 0) (h1 : bitsS l x 1 = (xa, a)) (h2 : bitsS l xa 2 = (xb, b)) (h3 : failS xb (decide (b = 3)) 4 = c) : inflS l M (f + 1) x = if c.code ≠ 0 then c else if a = 0 then inflS l M f (blockS l M b c) else blockS l M b c := by
  conv => lhs; unfold inflS
  rw [if_neg (by simp [hx])]
  simp only [h1, h2, h3]
theorem blockS_0 (l : List UInt8) (M : Nat) (x : St) : blockS l M 0 x = storedS l M x := by unfold blockS; rw [if_pos rfl]
theorem blockS_1 (l : List UInt8) (M : Nat) (x : St) : blockS l M 1 x = codedS l fixedLit fixedDist M FUEL x := by unfold blockS; rw [if_neg (by decide), if_pos rfl]
theorem blockS_own {l : List UInt8} {M k : Nat} {x : St} (h0 : k ≠ 0) (h1 : k ≠ 1) : blockS l M k x = ownS l M x := by unfold blockS; rw [if_neg h0, if_neg h1]
set_option maxHeartbeats 1000000 in
theorem rInflate_neg (s : ByteArray) (most : Int) (w : World) (hm : most < 0) :
    Calls Tryz.prog 69 #[.string s, .int .i64 most] w fun en w' => en = .returned (.tuple #[.string ⟨#[]⟩, .int .i64 0, .int .i64 2]) ∧ Below w.heap.size w w' := by
  go_enter Tryz.func69, Tryz.ntmps69
  go_wp2_with fail
  refine bodyPost_ret (by simp [results, Tryz.results69, go_sem]; rfl) rfl ?_
  exact ⟨rfl, below_same _⟩
def EndsS (w : World) (y : St) (en : Ending) (w' : World) : Prop := en = .returned (if y.code ≠ 0 then .tuple #[.string ⟨#[]⟩, .int .i64 0, .int .i64 y.code] else .tuple #[.string (bytes y.out), .int .i64 ((wholeN y.at' / 8 : Nat) : Int), .int .i64 0]) ∧ Below w.heap.size w w'
theorem EndsS.bad {w w' : World} {y : St} (h : y.code ≠ 0) (hb : Below w.heap.size w w') : EndsS w y (.returned (.tuple #[.string ⟨#[]⟩, .int .i64 0, .int .i64 y.code])) w' := ⟨by rw [if_pos h], hb⟩
theorem EndsS.good {w w' : World} {y : St} {z : Int} (h : y.code = 0) (hz : z = ((wholeN y.at' / 8 : Nat) : Int)) (hb : Below w.heap.size w w') : EndsS w y (.returned (.tuple #[.string (bytes y.out), .int .i64 z, .int .i64 0])) w' := ⟨by rw [if_neg (by simp [h]), hz], hb⟩
set_option maxHeartbeats 16000000 in
theorem rInflate_any (s : ByteArray) (M : Nat) (w : World) (F : Nat) (hs : s.size ≤ 100000) (hM : M ≤ 100000) (hF : 8 * s.size + 1 ≤ F) {fin : St} (hfin : inflS s.data.toList M F ⟨0, [], 0⟩ = fin) :
    Calls Tryz.prog 69 #[.string s, .int .i64 (M : Int)] w (EndsS w fin) := by
  have Hfin := Lib.hid hfin
  have Hsz : Hid (s.data.toList.length = s.size) := Lib.hid (by rw [← size_data])
  have HBi := Lib.hid (rBits_any s w hs)
  have hM0 : ¬ (M : Int) < 0 := by omega
  have HM := Lib.hid hM
  have hb0 : (Value.slice none 0 0).oneCell' = true := rfl
  clear hfin
  go_enter Tryz.func69, Tryz.ntmps69
  go_wp2_with fail
  refine HBi.out.mono ?_
  rintro en w1 ⟨gb, cb, rfl, hbt, hbw, hgn⟩
  have hbl : (bitsOf s.data.toList).length = 8 * s.size := by rw [bitsOf_length, Hsz.out]
  rw [hbl]
  obtain ⟨nb, hnb⟩ : ∃ nb, 8 * s.size = nb := ⟨_, rfl⟩
  rw [hnb]
  have Hnb : Hid (nb = 8 * s.size) := Lib.hid hnb.symm
  have hb1 : (Value.slice (some ⟨gb, 0, none⟩) nb cb).oneCell' = true := rfl
  have HI0 : Hid (Ifl w (w1.alloc (.cells #[.string s, .slice (some ⟨gb, 0, none⟩) nb cb, .int .i64 0, .slice none 0 0, .int .i64 (M : Int), .int .i64 0] 114)) w1.heap.size gb s (.slice (some ⟨gb, 0, none⟩) nb cb) (.slice none 0 0) M ⟨0, [], 0⟩) := Lib.hid (by
    have hB : Below w1.heap.size w1 (w1.alloc (.cells #[.string s, .slice (some ⟨gb, 0, none⟩) nb cb, .int .i64 0, .slice none 0 0, .int .i64 (M : Int), .int .i64 0] 114)) := (Below.refl _ _).alloc (Nat.le_refl _) _
    exact ⟨heap_alloc_new w1 _, Row8.nil _, hbt.later hB, by have := hbt.1; omega, (fun k e => by cases e), hbw.size, hbw.trans (hB.mono hbw.size)⟩)
  obtain ⟨T, hT⟩ : ∃ T, w1.heap.size = T := ⟨_, rfl⟩
  obtain ⟨W1, hW1⟩ : ∃ W1, w1.alloc (.cells #[.string s, .slice (some ⟨gb, 0, none⟩) nb cb, .int .i64 0, .slice none 0 0, .int .i64 (M : Int), .int .i64 0] 114) = W1 := ⟨_, rfl⟩
  rw [hW1, hT] at HI0
  have HHT := Lib.hid hT
  have HW1 := Lib.hid hW1
  clear hbt hbw hgn hbl hnb hT hW1 HBi
  go_wp2_with fail
  rw [HHT.out, HW1.out]
  go_loopg [8] F (fun g s8 wx => ∃ (y : St) (vo : Value) (last : Nat), s8 = .int .i64 (last : Int) ∧ vo.oneCell' = true ∧ Aside (Ifl w wx T gb s (.slice (some ⟨gb, 0, none⟩) nb cb) vo M y) ∧
    ((last = 0 ∧ Aside (inflS s.data.toList M g y = fin) ∧ Aside (y.code = 0 → y.at' ≤ 8 * s.size ∧ 8 * s.size + 1 ≤ g + y.at' ∧ y.out.length ≤ M)) ∨ (last ≠ 0 ∧ last < 65536 ∧ Aside (y = fin ∧ (y.code = 0 → y.at' ≤ 8 * s.size)))))
  case atStart => exact ⟨⟨0, [], 0⟩, .slice none 0 0, 0, rfl, rfl, HI0.out, .inl ⟨rfl, Hfin.out, fun _ => ⟨by simp, by simpa using hF, by simp⟩⟩⟩
  case round =>
    obtain ⟨y, vo, last, rfl, ho1, HI, hcase⟩ := hrel
    have HJ := Lib.hid HI.out
    have CJ := Lib.hid HJ.out.cell
    have hexit : ((last : Int) == 0) = false ∨ (last = 0 ∧ y.code ≠ 0) ∨ (last = 0 ∧ y.code = 0) := by
      by_cases h : last = 0
      · by_cases h2 : y.code = 0
        · exact .inr (.inr ⟨h, h2⟩)
        · exact .inr (.inl ⟨h, h2⟩)
      · exact .inl (by rw [beq_eq_false_iff_ne]; omega)
    have k5 := CJ.out.code
    rcases hexit with hl0 | ⟨rfl, hy⟩ | ⟨rfl, hy⟩
    · have hl1 : last ≠ 0 := fun e => by rw [e] at hl0; cases hl0
      obtain ⟨_, HF2⟩ : last < 65536 ∧ Hid (y = fin ∧ (y.code = 0 → y.at' ≤ 8 * s.size)) := by
        rcases hcase with ⟨h, _⟩ | ⟨_, h2, h3⟩
        · exact absurd h hl1
        · exact ⟨h2, Lib.hid h3.out⟩
      clear hcase
      by_cases hy0 : y.code = 0
      · have hz : (y.code != 0) = false := by simpa using hy0
        have hyat := HF2.out.2 hy0
        have k2 := CJ.out.at'
        have k3 := CJ.out.out
        have HWh := Lib.hid (rWhole_any y.at' wr.drew (by omega))
        have hconv : (convert 57 9 vo).run Tryz.prog wr.drew = .ok (.string (bytes y.out)) wr.drew := Row8.text (w := wr.drew) HJ.out.row
        have HBl : Hid (Below w.heap.size w wr.drew) := Lib.hid HJ.out.hb.drew
        have Hy0 := Lib.hid hy0
        have hwn : (wholeN y.at' : Int) / 8 = ((wholeN y.at' / 8 : Nat) : Int) := by omega
        have hwl : wholeN y.at' ≤ 1000000 := by unfold wholeN; omega
        obtain ⟨wn, hwn2⟩ : ∃ wn, wholeN y.at' = wn := ⟨_, rfl⟩
        rw [hwn2] at HWh hwn hwl
        have Hwn := Lib.hid hwn2
        have Hwz := Lib.hid hwn
        have Hwl := Lib.hid hwl
        clear hy0 hwn2 hwn hwl
        go_wp2_with fail
        go_region_with (go_at_call 101; refine HWh.out.mono ?_; rintro e wx ⟨rfl, rfl⟩)
        all_goals
          go_wp2_with fail
          refine bodyPost_ret (by simp [results, Tryz.results69, go_sem]; rfl) rfl ?_
          have h1 := HF2.out.1
          subst h1
          exact EndsS.good Hy0.out (by rw [Hwn.out]; rw [IntKind.wrap_i64]; have := Hwz.out; have := Hwl.out; omega) HBl.out
      · have hz : (y.code != 0) = true := by simpa using hy0
        have Hy0 := Lib.hid hy0
        clear hy0
        go_wp2_with fail
        go_region
        all_goals
          go_wp2_with fail
          refine bodyPost_ret (by simp [results, Tryz.results69, go_sem]; rfl) rfl ?_
          have h1 := HF2.out.1
          subst h1
          exact EndsS.bad Hy0.out HJ.out.hb.drew
    · have hz : (y.code != 0) = true := by simpa using hy
      have hz2 : (y.code == 0) = false := by simpa using hy
      have HF2 : Hid (y = fin) := Lib.hid (by
        rcases hcase with ⟨_, h, _⟩ | ⟨h, _⟩
        · rw [← h.out, inflS_bad hy]
        · exact absurd rfl h)
      have Hy0 := Lib.hid hy
      clear hy hcase
      go_wp2_with fail
      go_region
      all_goals
        go_wp2_with fail
        refine bodyPost_ret (by simp [results, Tryz.results69, go_sem]; rfl) rfl ?_
        have h1 := HF2.out
        subst h1
        exact EndsS.bad Hy0.out HJ.out.hb.drew
    · obtain ⟨Hin, hy1, hy2, hy3⟩ : Hid (inflS s.data.toList M gk y = fin) ∧ y.at' ≤ 8 * s.size ∧ 8 * s.size + 1 ≤ gk + y.at' ∧ y.out.length ≤ M := by
        rcases hcase with ⟨_, h1, h2⟩ | ⟨h, _⟩
        · exact ⟨Lib.hid h1.out, h2.out hy⟩
        · exact absurd rfl h
      clear hcase
      obtain ⟨g, rfl⟩ : ∃ f, gk = f + 1 := ⟨gk - 1, by omega⟩
      obtain ⟨xa, a, ha⟩ : ∃ xa a, bitsS s.data.toList y 1 = (xa, a) := ⟨_, _, rfl⟩
      have fa := bitsS_facts (l := s.data.toList) (x := y) (k := 1) (by omega) (by rw [Hsz.out]; exact hy1)
      rw [ha, Hsz.out] at fa
      obtain ⟨fa1, fa2, fa3⟩ := fa
      simp only at fa1 fa2 fa3
      have ga : xa.code = 0 → y.at' + 1 ≤ xa.at' := fun h => by
        rcases bitsS_ok (l := s.data.toList) (w := 1) hy (by omega) with ⟨n, _, h2⟩ | ⟨_, h2, _⟩
        · rw [ha] at h2
          rw [(Prod.mk.inj h2).1]
          exact Nat.le_refl _
        · rw [ha] at h2
          simp only at h2
          rw [h] at h2
          exact absurd h2 (by decide)
      obtain ⟨xb, b, hb⟩ : ∃ xb b, bitsS s.data.toList xa 2 = (xb, b) := ⟨_, _, rfl⟩
      have fb := bitsS_facts (l := s.data.toList) (x := xa) (k := 2) (by omega) (by rw [Hsz.out]; exact fa1)
      rw [hb, Hsz.out] at fb
      obtain ⟨fb1, fb2, fb3⟩ := fb
      simp only at fb1 fb2 fb3
      have gb1 : xa.at' ≤ xb.at' := by
        have h := bitsS_more (l := s.data.toList) (x := xa) (k := 2) (by omega)
        rw [hb] at h; exact h
      have gb2 : xb.code = 0 → xa.code = 0 := fun h => bitsS_still (l := s.data.toList) (k := 2) (by rw [hb]; exact h)
      obtain ⟨bd, hbd⟩ : ∃ bd, decide (b = 3) = bd := ⟨_, rfl⟩
      have hbz : ((b : Int) == 3) = bd := by
        rw [← hbd]
        by_cases h : b = 3
        · subst h; rfl
        · rw [decide_eq_false h, beq_eq_false_iff_ne]; omega
      obtain ⟨c, hc⟩ : ∃ c, failS xb bd 4 = c := ⟨_, rfl⟩
      have fc := failS_facts xb bd 4
      rw [hc] at fc
      have gc : c.code = 0 → y.at' + 1 ≤ c.at' := fun h => by
        have h1 := failS_zero (x := xb) (c := bd) (e := 4) (by decide) (by rw [hc]; exact h)
        have := ga (gb2 h1.2.1)
        rw [fc.1]; omega
      have Fc : Hid (c.at' ≤ 8 * s.size ∧ c.out = xb.out ∧ xb.out = xa.out ∧ xa.out = y.out ∧ c.out.length ≤ M ∧ (c.code = 0 → y.at' + 1 ≤ c.at')) := Lib.hid ⟨by rw [fc.1]; exact fb1, fc.2, fb2, fa2, by rw [fc.2, fb2, fa2]; exact hy3, gc⟩
      have Hstep : Hid (inflS s.data.toList M (g + 1) y = if c.code ≠ 0 then c else if a = 0 then inflS s.data.toList M g (blockS s.data.toList M b c) else blockS s.data.toList M b c) := Lib.hid (inflS_step hy ha hb (by rw [hbd]; exact hc))
      have Hba := Lib.hid (fun W => rBitsS_any s (.slice (some ⟨gb, 0, none⟩) nb cb) vo M y 1 W hb1 ho1 (by omega) hy1 (by omega))
      have Hbb := Lib.hid (fun W => rBitsS_any s (.slice (some ⟨gb, 0, none⟩) nb cb) vo M xa 2 W hb1 ho1 (by omega) fa1 (by omega))
      have Hfc := Lib.hid (fun W => rFail_any s (.slice (some ⟨gb, 0, none⟩) nb cb) vo M xb bd 4 W hb1 ho1)
      rw [ha] at Hba
      rw [hb] at Hbb
      rw [hc] at Hfc
      have HT : Hid (w.heap.size ≤ T) := Lib.hid HI0.out.hT
      have HYf := Lib.hid (And.intro hy1 (And.intro hy2 hy3))
      have Ha3 := Lib.hid fa3
      have k50 : wr.cell? ⟨T, 5, none⟩ = some (.int .i64 0) := by rw [k5, hy]
      clear k5 hy hy1 hy2 hy3 ha hb hc hbd fa1 fa2 fa3 fb1 fb2 fb3 fc ga gb1 gb2 gc HI0 HHT HW1 Hfin HI
      go_wp2_with (with_reducible first
        | refine StCell.load rfl (.tmp 7) rfl T _ _ _ _ _ rfl CJ.out ?_)
      refine (Hba.out _).mono ?_
      rintro e w2 ⟨rfl, hbw⟩
      have HI2 := Lib.hid (HJ.out.call hbw)
      have C2 := Lib.hid HI2.out.cell
      clear hbw k50 Hba CJ HJ
      go_wp2_with (with_reducible first
        | (refine StCell.store rfl rfl (.tmp 7) (.tmp 29) rfl T _ _ _ _ _ _ _ _ _ _ hb1 ho1 rfl rfl C2.out w.heap.size w2 (Below.refl _ _) HT.out ?_; intro w3 Hs3 Hb3 Ho3)
        | refine StCell.load rfl (.tmp 7) rfl T _ _ _ _ _ rfl Hs3.out ?_)
      refine (Hbb.out _).mono ?_
      rintro e w4 ⟨rfl, hbw⟩
      have HI3 := Lib.hid (HI2.out.store Fc.out.2.2.2.1 Hs3.out Hb3.out Ho3.out)
      have HI4 := Lib.hid (HI3.out.call hbw)
      have C4 := Lib.hid HI4.out.cell
      clear hbw Hbb HI2 C2 Hs3 Hb3 Ho3 HI3
      go_wp2_with (with_reducible first
        | (refine StCell.store rfl rfl (.tmp 7) (.tmp 34) rfl T _ _ _ _ _ _ _ _ _ _ hb1 ho1 rfl rfl C4.out w.heap.size w4 (Below.refl _ _) HT.out ?_; intro w5 Hs5 Hb5 Ho5)
        | refine StCell.load rfl (.tmp 7) rfl T _ _ _ _ _ rfl Hs5.out ?_)
      refine (Hfc.out _).mono ?_
      rintro e w6 ⟨rfl, hbw⟩
      have HI5 := Lib.hid (HI4.out.store Fc.out.2.2.1 Hs5.out Hb5.out Ho5.out)
      have HI6 := Lib.hid (HI5.out.call hbw)
      have C6 := Lib.hid HI6.out.cell
      clear hbw Hfc HI4 C4 Hs5 Hb5 Ho5 HI5
      go_upto_region 10 with (with_reducible first
        | (refine StCell.store rfl rfl (.tmp 7) (.tmp 39) rfl T _ _ _ _ _ _ _ _ _ _ hb1 ho1 rfl rfl C6.out w.heap.size w6 (Below.refl _ _) HT.out ?_; intro w7 Hs7 Hb7 Ho7))
      have HI7 := Lib.hid (HI6.out.store Fc.out.2.1 Hs7.out Hb7.out Ho7.out)
      have C7 := Lib.hid HI7.out.cell
      have k5 := C7.out.code
      clear HI6 C6 Hs7 Hb7 Ho7 hbz
      by_cases hc0 : c.code = 0
      · have hcz : (c.code != 0) = false := by simpa using hc0
        obtain ⟨d, hd⟩ : ∃ d, blockS s.data.toList M b c = d := ⟨_, rfl⟩
        have Hnx : Hid ((a = 0 ∧ Aside (inflS s.data.toList M g d = fin) ∧ Aside (d.code = 0 → d.at' ≤ 8 * s.size ∧ 8 * s.size + 1 ≤ g + d.at' ∧ d.out.length ≤ M)) ∨ (a ≠ 0 ∧ a < 65536 ∧ Aside (d = fin ∧ (d.code = 0 → d.at' ≤ 8 * s.size)))) := Lib.hid (by
          have hgd : d.code = 0 → c.at' ≤ d.at' ∧ d.at' ≤ 8 * s.size ∧ d.out.length ≤ M := fun h => by
            have h1 := block_good (l := s.data.toList) (M := M) (kind := b) hc0 (by rw [Hsz.out]; exact Fc.out.1) Fc.out.2.2.2.2.1 hd h
            rw [Hsz.out] at h1; exact h1
          have hst := Hstep.out
          rw [Hin.out, if_neg (by simp [hc0]), hd] at hst
          by_cases h : a = 0
          · rw [if_pos h] at hst
            exact .inl ⟨h, hst.symm, fun h1 => by
              have h2 := hgd h1
              have h3 := Fc.out.2.2.2.2.2 hc0
              have h4 := HYf.out.2.1
              exact ⟨h2.2.1, by omega, h2.2.2⟩⟩
          · rw [if_neg h] at hst
            exact .inr ⟨h, Ha3.out, hst.symm, fun h1 => (hgd h1).2.1⟩)
        have Hol : Hid (c.out.length ≤ 100000) := Lib.hid (by have := Fc.out.2.2.2.2.1; have := HM.out; omega)
        have hb3 : b = 0 ∨ b = 1 ∨ (b ≠ 0 ∧ b ≠ 1) := by omega
        rcases hb3 with h0 | h1 | ⟨h0, h1⟩
        · have hz0 : ((b : Int) == 0) = true := by rw [h0]; rfl
          rw [h0, blockS_0] at hd
          have hst := rStored_any s (.slice (some ⟨gb, 0, none⟩) nb cb) vo M c w7 hb1 ho1 Fc.out.1 hs (by have := Hol.out; omega) HI7.out.row
          rw [hd] at hst
          have Hst := Lib.hid hst
          clear hst hd hc0 h0 Hstep
          go_wp2_with (with_reducible first
            | refine StCell.load rfl (.tmp 7) rfl T _ _ _ _ _ rfl C7.out ?_)
          refine Hst.out.mono ?_
          rintro e w8 ⟨v2, rfl, hv2, hr2, ht2⟩
          have D8 := Lib.hid (HI7.out.still ht2)
          have Ht2 := Lib.hid ht2
          have Hr2 := Lib.hid hr2
          clear ht2 hr2 Hst k5
          go_wp2_with (with_reducible first
            | (refine StCell.store rfl rfl (.tmp 7) (.tmp 51) rfl T _ _ _ _ _ _ _ _ _ _ hb1 hv2 rfl rfl D8.out w.heap.size w8 (Below.refl _ _) HT.out ?_; intro w9 Hs9 Hb9 Ho9))
          go_roundg g
          case measure => omega
          case rel => exact ⟨d, v2, a, rfl, hv2, HI7.out.handed Ht2.out Hr2.out Hs9.out Hb9.out Ho9.out, Hnx.out⟩
        · have hz0 : ((b : Int) == 0) = false := by rw [h1]; rfl
          have hz1 : ((b : Int) == 1) = true := by rw [h1]; rfl
          rw [h1, blockS_1] at hd
          have hfx := rFixed_any w7
          obtain ⟨n1, hn1⟩ : ∃ n, fixedLit.length = n := ⟨_, rfl⟩
          obtain ⟨n2, hn2⟩ : ∃ n, fixedDist.length = n := ⟨_, rfl⟩
          unfold Rows2 at hfx
          rw [hn1, hn2] at hfx
          have Hfx := Lib.hid hfx
          have Hn1 := Lib.hid hn1
          have Hn2 := Lib.hid hn2
          have Hd := Lib.hid hd
          clear hfx hd hn1 hn2 hc0 h1 Hstep
          go_wp2_with fail
          refine Hfx.out.mono ?_
          rintro e w8 ⟨g1, c1, g2, c2, rfl, hr1, hr2, hbw, hg1, hg2⟩
          have HI8 := Lib.hid (HI7.out.call hbw)
          have C8 := Lib.hid HI8.out.cell
          have hlt := HI7.out.row.lt
          have hcd := rCoded_any s (some ⟨gb, 0, none⟩) cb vo M c (some ⟨g1, 0, none⟩) (some ⟨g2, 0, none⟩) c1 c2 n1 n2 nb fixedLit fixedDist w8 ho1 Fc.out.1 hs HM.out Hol.out HI8.out.row fixed_good.1 fixed_good.2 Hn1.out.symm Hn2.out.symm Hnb.out
            (Reads.bits hr1 (fun e => by have := hlt _ e; omega) (by have := hr1.1; omega)) (Reads.bits hr2 (fun e => by have := hlt _ e; omega) (by have := hr2.1; omega)) HI8.out.reads
          rw [Hd.out] at hcd
          have Hcd := Lib.hid hcd
          clear hcd hr1 hr2 hbw hg1 hg2 hlt Hfx k5 HI7 C7
          go_wp2_with (with_reducible first
            | refine StCell.load rfl (.tmp 7) rfl T _ _ _ _ _ rfl C8.out ?_)
          refine Hcd.out.mono ?_
          rintro e w9 ⟨v2, rfl, hv2, hr2, ht2⟩
          have D9 := Lib.hid (HI8.out.still ht2)
          have Ht2 := Lib.hid ht2
          have Hr2 := Lib.hid hr2
          clear ht2 hr2 Hcd
          go_wp2_with (with_reducible first
            | (refine StCell.store rfl rfl (.tmp 7) (.tmp 61) rfl T _ _ _ _ _ _ _ _ _ _ hb1 hv2 rfl rfl D9.out w.heap.size w9 (Below.refl _ _) HT.out ?_; intro wz Hsz9 Hbz Hoz))
          go_roundg g
          case measure => omega
          case rel => exact ⟨d, v2, a, rfl, hv2, HI8.out.handed Ht2.out Hr2.out Hsz9.out Hbz.out Hoz.out, Hnx.out⟩
        · have hz0 : ((b : Int) == 0) = false := by rw [beq_eq_false_iff_ne]; omega
          have hz1 : ((b : Int) == 1) = false := by rw [beq_eq_false_iff_ne]; omega
          rw [blockS_own h0 h1] at hd
          have hst := rOwn_any s (some ⟨gb, 0, none⟩) nb cb vo M c w7 Fc.out.1 hs HM.out Hol.out HI7.out.row Hnb.out HI7.out.reads
          rw [hd] at hst
          have Hst := Lib.hid hst
          clear hst hd hc0 h0 h1 Hstep
          go_wp2_with (with_reducible first
            | refine StCell.load rfl (.tmp 7) rfl T _ _ _ _ _ rfl C7.out ?_)
          refine Hst.out.mono ?_
          rintro e w8 ⟨v2, rfl, hv2, hr2, ht2⟩
          have D8 := Lib.hid (HI7.out.still ht2)
          have Ht2 := Lib.hid ht2
          have Hr2 := Lib.hid hr2
          clear ht2 hr2 Hst k5
          go_wp2_with (with_reducible first
            | (refine StCell.store rfl rfl (.tmp 7) (.tmp 47) rfl T _ _ _ _ _ _ _ _ _ _ hb1 hv2 rfl rfl D8.out w.heap.size w8 (Below.refl _ _) HT.out ?_; intro w9 Hs9 Hb9 Ho9))
          go_roundg g
          case measure => omega
          case rel => exact ⟨d, v2, a, rfl, hv2, HI7.out.handed Ht2.out Hr2.out Hs9.out Hb9.out Ho9.out, Hnx.out⟩
      · have hcz : (c.code != 0) = true := by simpa using hc0
        have HF2 : Hid (c = fin) := Lib.hid (by
          have hst := Hstep.out
          rw [Hin.out, if_pos hc0] at hst
          exact hst.symm)
        have Hc0 := Lib.hid hc0
        clear hc0 Hstep
        go_wp2_with fail
        go_region
        all_goals
          go_wp2_with fail
          refine bodyPost_ret (by simp [results, Tryz.results69, go_sem]; rfl) rfl ?_
          have h1 := HF2.out
          subst h1
          exact EndsS.bad Hc0.out HI7.out.hb.drew
end Go.Proofs.YtnelbahohkjcnaaGreatDoor
