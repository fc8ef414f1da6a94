/-
  The contract of the document's heads.
-/
import Derived.Test.YtjmamomnbfnngaaDoorGRef
import Derived.Test.YtjmamomnbfnngaaDoorInfState3
import Derived.Test.YtjmamomnbfnngaaDoorGCodeR
namespace Go.Proofs.YtjmamomnbfnngaaDoor
open Go.RowKit

theorem order_at : ∀ i : Fin 19, orderL[i.val]?.getD 0 < 19 ∧ orderL[i.val]? = some (orderL[i.val]?.getD 0) := by decide +kernel
theorem headsS_length (l : List UInt8) : ∀ (c i : Nat) (ls : List Nat) (x : St), (headsS l c i ls x).2.length = ls.length
  | 0, _, _, _ => rfl
  | c + 1, i, ls, x => by rw [headsS, headsS_length l c]; simp
theorem headsS_at {l : List UInt8} : ∀ (c i : Nat) (ls : List Nat) (x : St), x.at' ≤ 8 * l.length → (headsS l c i ls x).1.at' ≤ 8 * l.length ∧ (headsS l c i ls x).1.out = x.out
  | 0, _, _, _, h => ⟨h, rfl⟩
  | c + 1, i, ls, x, h => by
    rw [headsS]
    obtain ⟨h1, h2, _⟩ := bitsS_facts (l := l) (x := x) (k := 3) (by omega) h
    obtain ⟨h3, h4⟩ := headsS_at c (i + 1) (ls.set (orderL[i]?.getD 0) (bitsS l x 3).2) _ h1
    exact ⟨h3, by rw [h4, h2]⟩
theorem results_heads (tmps : Array Value) (w : World) (b : Nat) (s : ByteArray) (vb vo : Value) (most : Nat) (x : St) (v : Value) (hp : tmps.getD 4 undef = .pointer (some ⟨b, 0, none⟩)) (he : tmps.getD 5 undef = v) (hg : StCell w b s vb vo most x) :
    (results Tryd.f30 tmps).run Tryd.prog w = .ok (.tuple #[.agg (stV s vb vo most x), v]) w := by
  have hp' : tmps[4]?.getD undef = .pointer (some ⟨b, 0, none⟩) := by simpa using hp
  have he' : tmps[5]?.getD undef = v := by simpa using he
  simp [results, Tryd.results30, hp', he', asAddr, load_st hg]

theorem BitsAt.move {w w' : World} {g : Nat} {row : List Nat} (h : BitsAt w g row) (hk : w'.heap[g]? = w.heap[g]?) : BitsAt w' g row := by
  refine ⟨?_, fun j hj => ?_⟩
  · have h1 : w.heap[g]? ≠ none := by rw [Array.getElem?_eq_getElem h.1]; simp
    rw [← hk] at h1
    rcases Nat.lt_or_ge g w'.heap.size with h2 | h2
    · exact h2
    · exact absurd (Array.getElem?_eq_none h2) h1
  · rw [← h.2 j hj]
    unfold World.cell?
    simp only [hk]
theorem zero_new (w : World) : StCell (w.alloc (.cells #[.string ⟨#[]⟩, .slice none 0 0, .int .i64 0, .slice none 0 0, .int .i64 0, .int .i64 0] 47)) w.heap.size ⟨#[]⟩ (.slice none 0 0) (.slice none 0 0) 0 ⟨0, [], 0⟩ := heap_alloc_new w _

set_option maxRecDepth 100000 in
set_option maxHeartbeats 2000000 in
theorem rHeads_any (s : ByteArray) (vb vo : Value) (most : Nat) (x : St) (many : Nat) (w : World) (hb1 : vb.oneCell' = true) (ho1 : vo.oneCell' = true) (hp : x.at' ≤ 8 * s.size) (hs : s.size ≤ 100000) (hm : many ≤ 19) :
    Calls Tryd.prog 30 #[.agg (stV s vb vo most x), .int .i64 (many : Int)] w fun en w' => ∃ g, en = .returned (.tuple #[.agg (stV s vb vo most (headsS s.data.toList many 0 (List.replicate 19 0) x).1), .slice (some ⟨g, 0, none⟩) 19 19]) ∧ RowAt w' g (headsS s.data.toList many 0 (List.replicate 19 0) x).2 ∧ Below w.heap.size w w' ∧ w.heap.size ≤ g := by
  have hsz : s.data.toList.length = s.size := by rw [← size_data]
  have Hsz := Lib.hid hsz
  obtain ⟨fx, fl, hf⟩ : ∃ fx fl, headsS s.data.toList many 0 (List.replicate 19 0) x = (fx, fl) := ⟨_, _, rfl⟩
  have Hf := Lib.hid hf
  rw [hf]
  obtain ⟨W, hW, H1, H2, HB⟩ := boxes_is w s vb vo most x
  unfold boxes at hW
  obtain ⟨W1, hW1⟩ : ∃ W1, W.alloc (.cells (cellsZ (asZ (List.replicate 19 0))).toArray 3) = W1 := ⟨_, rfl⟩
  have hmake : (Instr.makeSlice 44 (.int .i64 19) (.int .i64 19)).run Tryd.prog W = .ok (.slice (some ⟨W.heap.size, 0, none⟩) 19 19) W1 := by rw [← hW1]; exact make_row 19 W (by omega)
  obtain ⟨gr, hgr⟩ : ∃ gr, W.heap.size = gr := ⟨_, rfl⟩
  have HR1 : Hid (RowAt W1 gr (List.replicate 19 0)) := Lib.hid (by rw [← hW1, ← hgr]; exact heap_alloc_new W _)
  have HB1 : Hid (Below W.heap.size W W1) := Lib.hid (by rw [← hW1]; exact (Below.refl _ W).alloc (Nat.le_refl _) _)
  rw [hgr] at hmake
  have hord := rOrder_any W1
  unfold RowNew at hord
  rw [show orderL.length = 19 from rfl] at hord
  have Hord := Lib.hid hord
  have Hgn : Hid (w.heap.size + 1 < gr) := Lib.hid (by have := H2.out.lt; omega)
  clear hsz hf hW1 hgr hord
  go_enter Tryd.func30, Tryd.ntmps30
  go_wp2_with fail
  refine Hord.out.mono ?_
  rintro e w1 ⟨go, capo, rfl, hO, hbo, hgo⟩
  have C1 := Lib.hid ((H1.out.later HB1.out).later hbo)
  have C2 := Lib.hid ((H2.out.later HB1.out).later hbo)
  have HR2 := Lib.hid (HR1.out.later hbo)
  have HO := Lib.hid hO
  have Hgo : Hid (gr < go) := Lib.hid (by have := HR1.out.lt; omega)
  have HB2 : Hid (Below w.heap.size w w1) := Lib.hid ((HB.out.trans (HB1.out.mono HB.out.size)).trans (hbo.mono (Nat.le_trans HB.out.size HB1.out.size)))
  clear hbo hgo hO hmake
  go_wp2_with fail
  go_loopg [8, 9, 10] many (fun g s8 s9 s10 wx => ∃ (i : Nat) (y : St) (ls : List Nat), i + g = many ∧ s8 = .int .i64 (i : Int) ∧ Aside (StCell wx w.heap.size s vb vo most y ∧ StCell wx (w.heap.size + 1) ⟨#[]⟩ (.slice none 0 0) (.slice none 0 0) 0 ⟨0, [], 0⟩ ∧ RowAt wx gr ls ∧ BitsAt wx go orderL ∧ headsS s.data.toList g i ls y = (fx, fl) ∧ ls.length = 19) ∧ Aside (y.at' ≤ 8 * s.size) ∧ Below w.heap.size w wx)
  case atStart => exact ⟨0, x, _, by omega, rfl, ⟨C1.out, C2.out, HR2.out, HO.out, Hf.out, by simp⟩, hp, HB2.out⟩
  case round =>
    obtain ⟨i, y, ls, hig, rfl, HI, hy, hb⟩ := hrel
    have Hb := Lib.hid hb
    have Hy := Lib.hid hy
    clear hb hy
    have D1 := Lib.hid HI.out.1
    have D2 := Lib.hid HI.out.2.1
    cases gk with
    | zero =>
      obtain rfl : i = many := by omega
      have Hfin : Hid (y = fx ∧ ls = fl) := Lib.hid (by have := HI.out.2.2.2.2.1; rw [headsS] at this; exact Prod.mk.inj this)
      go_wp2_with (with_reducible first
        | refine StCell.load rfl (.tmp 2) rfl w.heap.size _ _ _ _ _ rfl D1.out ?_
        | (refine StCell.store rfl rfl (.tmp 4) (.tmp 35) rfl (w.heap.size + 1) _ _ _ _ _ _ _ _ _ _ hb1 ho1 rfl rfl D2.out w.heap.size wr (Below.refl _ _) (by omega) ?_; intro w9 Hs9 Hb9 Ho9))
      refine bodyPost_ret (results_heads _ _ (w.heap.size + 1) _ _ _ _ _ _ rfl rfl Hs9.out) rfl ⟨gr, by rw [Hfin.out.1]; rfl, ?_, Hb.out.trans Hb9.out, by have := Hgn.out; omega⟩
      rw [← Hfin.out.2]
      exact (Ho9.out gr (by have := Hgn.out; omega)).trans HI.out.2.2.1
    | succ g =>
      have hiz : (i : Int) < (many : Int) := by omega
      have hi19 : (i : Int) < 19 := by omega
      obtain ⟨ya, n, ha⟩ : ∃ ya n, bitsS s.data.toList y 3 = (ya, n) := ⟨_, _, rfl⟩
      have fa := bitsS_facts (l := s.data.toList) (x := y) (k := 3) (by omega) (by rw [Hsz.out]; exact Hy.out)
      rw [ha, Hsz.out] at fa
      have Fa := Lib.hid fa
      have Hba := Lib.hid (rBitsS_any s vb vo most y 3 wr hb1 ho1 (by omega) Hy.out (by omega))
      rw [ha] at Hba
      have Ha := Lib.hid ha
      clear ha fa
      go_wp2_with (with_reducible first
        | refine StCell.load rfl (.tmp 2) rfl w.heap.size _ _ _ _ _ rfl D1.out ?_)
      refine Hba.out.mono ?_
      rintro e w2 ⟨rfl, hb2⟩
      obtain ⟨q, hq⟩ : ∃ q, orderL[i]?.getD 0 = q := ⟨_, rfl⟩
      obtain ⟨hq19, hqs⟩ := order_at ⟨i, by omega⟩
      simp only [hq] at hq19 hqs
      have Hq := Lib.hid hq
      have HB2 := Lib.hid hb2
      have E1 := Lib.hid (D1.out.later hb2)
      have E2 := Lib.hid (D2.out.later hb2)
      have HR3 := Lib.hid (HI.out.2.2.1.later hb2)
      have HO3 := Lib.hid (HI.out.2.2.2.1.move (hb2.block go HI.out.2.2.2.1.1))
      have Ea := Lib.hid (zero_new w2)
      have Ba : Hid (Below w2.heap.size w2 (w2.alloc (.cells #[.string ⟨#[]⟩, .slice none 0 0, .int .i64 0, .slice none 0 0, .int .i64 0, .int .i64 0] 47))) := Lib.hid ((Below.refl _ _).alloc (Nat.le_refl _) _)
      clear hb2 hq
      go_upto_region 7 with (with_reducible first
        | (refine StCell.store rfl rfl (.tmp 9) (.tmp 25) rfl w2.heap.size _ _ _ _ _ _ _ _ _ _ hb1 ho1 rfl rfl Ea.out w2.heap.size w2 Ba.out (Nat.le_refl _) ?_; intro w3 Hs3 Hb3 Ho3))
      have F1 := Lib.hid (E1.out.later Hb3.out)
      have F2 := Lib.hid (E2.out.later Hb3.out)
      have HR4 := Lib.hid (HR3.out.later Hb3.out)
      have HO4 := Lib.hid (HO3.out.move (Hb3.out.block go HO3.out.1))
      go_upto_region 8 with (with_reducible first
        | refine StCell.load rfl (.tmp 9) rfl w2.heap.size _ _ _ _ _ rfl Hs3.out ?_
        | (refine StCell.store rfl rfl (.tmp 2) (.tmp 27) rfl w.heap.size _ _ _ _ _ _ _ _ _ _ hb1 ho1 rfl rfl F1.out w.heap.size w3 (Below.refl _ _) (Nat.le_refl _) ?_; intro w4 Hs4 Hb4 Ho4))
      have HR5 : Hid (RowAt w4 gr ls) := Lib.hid ((Ho4.out gr (by have := Hgn.out; omega)).trans HR4.out)
      have HO5 := Lib.hid (HO4.out.move (Ho4.out go (by have := Hgn.out; have := Hgo.out; omega)))
      have G2 : Hid (StCell w4 (w.heap.size + 1) ⟨#[]⟩ (.slice none 0 0) (.slice none 0 0) 0 ⟨0, [], 0⟩) := Lib.hid ((Ho4.out _ (by omega)).trans F2.out)
      have hql : q < ls.length := by rw [HI.out.2.2.2.2.2]; exact hq19
      obtain ⟨old, hold⟩ : ∃ old, ls[q]? = some old := ⟨_, List.getElem?_eq_getElem hql⟩
      have kq := HR5.out.cell hold
      have fq := HR5.out.free q
      have ko : w4.cell? ⟨go, i, none⟩ = some (.int .i64 (q : Int)) := by
        have hio : i < orderL.length := by show i < 19; omega
        have h1 := HO5.out.2 i hio
        rw [List.getElem?_eq_getElem hio] at hqs
        rw [h1, Option.some.inj hqs]
      have hqz : (q : Int) < 19 := by omega
      have hq0 : (0 : Int) ≤ (q : Int) := by omega
      have HB5 : Hid (Below w.heap.size w w4) := Lib.hid (((Hb.out.trans (HB2.out.mono Hb.out.size)).trans (Hb3.out.mono (Nat.le_trans Hb.out.size HB2.out.size))).trans Hb4.out)
      clear hqs hql hold
      go_wp2_with fail
      go_roundg g
      case measure => omega
      case rel => exact ⟨i + 1, ya, ls.set q n, by omega, by go_num, ⟨Hs4.out.other _ (by show w.heap.size ≠ gr; have := Hgn.out; omega), G2.out.other _ (by show w.heap.size + 1 ≠ gr; have := Hgn.out; omega), HR5.out.put q n, HO5.out.move (heap_setCell_other _ _ _ _ (by show go ≠ gr; have := Hgo.out; omega)), by (have h1 := HI.out.2.2.2.2.1; rw [headsS, Ha.out, Hq.out] at h1; exact h1), by rw [List.length_set]; exact HI.out.2.2.2.2.2⟩, Fa.out.1, HB5.out.setCell (by show w.heap.size ≤ gr; have := Hgn.out; omega) _⟩

end Go.Proofs.YtjmamomnbfnngaaDoor
