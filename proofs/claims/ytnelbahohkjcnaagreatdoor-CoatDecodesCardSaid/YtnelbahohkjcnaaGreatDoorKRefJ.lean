/-
  InfState3, InfRef7, InfRef8, InfRef9, InfRef10: texts merged.
-/
import Derived.Test.YtnelbahohkjcnaaGreatDoorKPlain
import Derived.Test.YtnelbahohkjcnaaGreatDoorKRefI
import Derived.Test.YtnelbahohkjcnaaGreatDoorKCodeR
import Derived.Deep.CutBlock
/-
  The document's way of reading deflated bytes, to the end: own, a block, Inflate as states: plain facts, no program in sight.
-/
namespace Go.Proofs.YtnelbahohkjcnaaGreatDoor
section
def ownS (l : List UInt8) (M : Nat) (x : St) : St :=
  let a := bitsS l x 5
  let b := bitsS l a.1 5
  let c := bitsS l b.1 4
  let d := failS c.1 (decide (29 < a.2) || decide (29 < b.2)) 4
  if d.code ≠ 0 then d else
  let h := headsS l (c.2 + 4) 0 (List.replicate 19 0) d
  let e := failS h.1 (checkZ (intsOf h.2) != 0) 4
  if e.code ≠ 0 then e else
  let r := rowS l h.2 (a.2 + b.2 + 258) FUEL [] e
  if r.1.code ≠ 0 then r.1 else
  let g := failS r.1 (checkZ (intsOf (r.2.take (a.2 + 257))) != 0 || (r.2.take (a.2 + 257))[256]?.getD 0 == 0 || !farB (r.2.drop (a.2 + 257))) 4
  if g.code ≠ 0 then g else
  codedS l (r.2.take (a.2 + 257)) (r.2.drop (a.2 + 257)) M FUEL g
theorem ownS_tells {l : List UInt8} {M : Nat} {x : St} (hx : x.code = 0) : Tells (ownS l M x) (ownP M x.out l x.at') := by
  unfold ownS ownP
  simp only
  rcases bitsS_ok (l := l) (w := 5) hx (by omega) with ⟨a, h1, h2⟩ | ⟨h1, h2, _, _⟩
  · rw [pbind_of h1, h2]
    simp only
    rcases bitsS_ok (l := l) (x := ⟨x.at' + 5, x.out, 0⟩) (w := 5) rfl (by omega) with ⟨b, i1, i2⟩ | ⟨i1, i2, _, _⟩
    · rw [pbind_of i1, i2]
      simp only
      rcases bitsS_ok (l := l) (x := ⟨x.at' + 5 + 5, x.out, 0⟩) (w := 4) rfl (by omega) with ⟨c, j1, j2⟩ | ⟨j1, j2, _, _⟩
      · rw [pbind_of j1, j2]
        simp only
        cases hf : (decide (29 < a) || decide (29 < b)) with
        | true =>
          rw [pbind_err pfail_true, failS_yes rfl, if_pos (show (4 : Int) ≠ 0 by decide)]
          exact ⟨rfl, by decide⟩
        | false =>
          rw [pbind_of pfail_false, failS_no]
          simp only [ne_eq, not_true, if_false]
          have T := headsS_tells (l := l) (c + 4) 0 (List.replicate 19 0) (x := ⟨x.at' + 5 + 5 + 4, x.out, 0⟩) rfl
          obtain ⟨hx1, hl, hh⟩ : ∃ hx1 hl, headsS l (c + 4) 0 (List.replicate 19 0) ⟨x.at' + 5 + 5 + 4, x.out, 0⟩ = (hx1, hl) := ⟨_, _, rfl⟩
          rw [hh] at T ⊢
          simp only at T ⊢
          cases hr : headsP (c + 4) 0 (List.replicate 19 0) l (x.at' + 5 + 5 + 4) with
          | error e =>
            rw [hr] at T
            obtain ⟨t1, t2⟩ := T
            have hne : hx1.code ≠ 0 := by rw [t1]; exact t2
            rw [pbind_err hr, failS_bad hne, if_pos hne]
            exact ⟨t1, t2⟩
          | ok r =>
            obtain ⟨hl', t3⟩ := r
            rw [hr] at T
            obtain ⟨rfl, rfl⟩ := T
            rw [pbind_of hr]
            cases hk : (checkZ (intsOf hl) != 0) with
            | true =>
              rw [pbind_err pfail_true, failS_yes rfl, if_pos (show (4 : Int) ≠ 0 by decide)]
              exact ⟨rfl, by decide⟩
            | false =>
              rw [pbind_of pfail_false, failS_no]
              simp only [not_true, if_false]
              have T := rowS_tells (l := l) (ls := hl) (many := a + b + 258) FUEL [] (x := ⟨t3, x.out, 0⟩) rfl
              obtain ⟨rx, rl, hh2⟩ : ∃ rx rl, rowS l hl (a + b + 258) FUEL [] ⟨t3, x.out, 0⟩ = (rx, rl) := ⟨_, _, rfl⟩
              rw [hh2] at T ⊢
              simp only at T ⊢
              cases hr2 : rowP hl (a + b + 258) FUEL [] l t3 with
              | error e =>
                rw [hr2] at T
                obtain ⟨t1, t2⟩ := T
                have hne : rx.code ≠ 0 := by rw [t1]; exact t2
                rw [pbind_err hr2, if_pos hne]
                exact ⟨t1, t2⟩
              | ok r =>
                obtain ⟨rl', t4⟩ := r
                rw [hr2] at T
                obtain ⟨rfl, rfl⟩ := T
                rw [pbind_of hr2]
                simp only [not_true, if_false]
                cases hg : (checkZ (intsOf (rl.take (a + 257))) != 0 || (rl.take (a + 257))[256]?.getD 0 == 0 || !farB (rl.drop (a + 257))) with
                | true =>
                  rw [pbind_err pfail_true, failS_yes rfl, if_pos (show (4 : Int) ≠ 0 by decide)]
                  exact ⟨rfl, by decide⟩
                | false =>
                  rw [pbind_of pfail_false, failS_no]
                  simp only [not_true, if_false]
                  generalize FUEL = f
                  exact codedS_tells f (x := ⟨t4, x.out, 0⟩) rfl
      · rw [pbind_err j1]
        have hne : (bitsS l ⟨x.at' + 5 + 5, x.out, 0⟩ 4).1.code ≠ 0 := by rw [j2]; decide
        rw [failS_bad hne, if_pos hne]
        exact ⟨j2, by decide⟩
    · rw [pbind_err i1]
      have hne : (bitsS l ⟨x.at' + 5, x.out, 0⟩ 5).1.code ≠ 0 := by rw [i2]; decide
      rw [bitsS_bad hne]
      simp only
      rw [failS_bad hne, if_pos hne]
      exact ⟨i2, by decide⟩
  · rw [pbind_err h1]
    have hne : (bitsS l x 5).1.code ≠ 0 := by rw [h2]; decide
    rw [bitsS_bad hne]
    simp only
    rw [bitsS_bad hne]
    simp only
    rw [failS_bad hne, if_pos hne]
    exact ⟨h2, by decide⟩
def blockS (l : List UInt8) (M kind : Nat) (x : St) : St :=
  if kind = 0 then storedS l M x else if kind = 1 then codedS l fixedLit fixedDist M FUEL x else ownS l M x
theorem blockS_tells {l : List UInt8} {M kind : Nat} {x : St} (hx : x.code = 0) : Tells (blockS l M kind x) (blockP M kind x.out l x.at') := by
  unfold blockS blockP
  by_cases h0 : kind = 0
  · rw [if_pos h0, if_pos h0]; exact storedS_tells hx
  · rw [if_neg h0, if_neg h0]
    by_cases h1 : kind = 1
    · rw [if_pos h1, if_pos h1]
      generalize FUEL = f
      exact codedS_tells f hx
    · rw [if_neg h1, if_neg h1]; exact ownS_tells hx
def inflS (l : List UInt8) (M : Nat) : Nat → St → St
  | 0, x => if x.code ≠ 0 then x else ⟨x.at', x.out, -1⟩
  | f + 1, x => if x.code ≠ 0 then x else
    let a := bitsS l x 1
    let b := bitsS l a.1 2
    let c := failS b.1 (decide (b.2 = 3)) 4
    if c.code ≠ 0 then c else
    if a.2 = 0 then inflS l M f (blockS l M b.2 c) else blockS l M b.2 c
theorem inflS_bad {l : List UInt8} {M f : Nat} {x : St} (h : x.code ≠ 0) : inflS l M f x = x := by
  cases f <;> (unfold inflS; rw [if_pos h])
theorem inflS_tells {l : List UInt8} {M : Nat} : ∀ (f : Nat) {x : St}, x.code = 0 → Tells (inflS l M f x) (inflP M f x.out l x.at')
  | 0, x, hx => by
    unfold inflS inflP
    rw [if_neg (by simp [hx])]
    exact ⟨rfl, by decide⟩
  | f + 1, x, hx => by
    unfold inflS inflP
    rw [if_neg (by simp [hx])]
    simp only
    rcases bitsS_ok (l := l) (w := 1) hx (by omega) with ⟨a, h1, h2⟩ | ⟨h1, h2, _, _⟩
    · rw [pbind_of h1, h2]
      simp only
      rcases bitsS_ok (l := l) (x := ⟨x.at' + 1, x.out, 0⟩) (w := 2) rfl (by omega) with ⟨b, i1, i2⟩ | ⟨i1, i2, _, _⟩
      · rw [pbind_of i1, i2]
        simp only
        by_cases h3 : b = 3
        · rw [decide_eq_true h3, pbind_err pfail_true, failS_yes rfl, if_pos (show (4 : Int) ≠ 0 by decide)]
          exact ⟨rfl, by decide⟩
        · rw [decide_eq_false h3, pbind_of pfail_false, failS_no]
          simp only [ne_eq, not_true, if_false]
          have T := blockS_tells (l := l) (M := M) (kind := b) (x := ⟨x.at' + 1 + 2, x.out, 0⟩) rfl
          obtain ⟨y, hy⟩ : ∃ y, blockS l M b ⟨x.at' + 1 + 2, x.out, 0⟩ = y := ⟨_, rfl⟩
          rw [hy] at T ⊢
          simp only at T
          cases hr : blockP M b x.out l (x.at' + 1 + 2) with
          | error e =>
            rw [hr] at T
            obtain ⟨t1, t2⟩ := T
            rw [pbind_err hr, inflS_bad (by rw [t1]; exact t2)]
            split <;> exact ⟨t1, t2⟩
          | ok r =>
            obtain ⟨o', t3⟩ := r
            rw [hr] at T
            obtain ⟨t1, t2, t4⟩ := T
            rw [pbind_of hr]
            split
            · rw [← t2, ← t4]; exact inflS_tells f t1
            · exact ⟨t1, t2, t4⟩
      · rw [pbind_err i1]
        have hne : (bitsS l ⟨x.at' + 1, x.out, 0⟩ 2).1.code ≠ 0 := by rw [i2]; decide
        rw [failS_bad hne, if_pos hne]
        exact ⟨i2, by decide⟩
    · rw [pbind_err h1]
      have hne : (bitsS l x 1).1.code ≠ 0 := by rw [h2]; decide
      rw [bitsS_bad hne]
      simp only
      rw [failS_bad hne, if_pos hne]
      exact ⟨h2, by decide⟩
theorem inflZ_state (l : List UInt8) (M : Nat) : inflZ l (M : Int) = if (inflS l M FUEL ⟨0, [], 0⟩).code ≠ 0 then ([], 0, (inflS l M FUEL ⟨0, [], 0⟩).code) else ((inflS l M FUEL ⟨0, [], 0⟩).out, wholeN (inflS l M FUEL ⟨0, [], 0⟩).at' / 8, 0) := by
  have T := inflS_tells (l := l) (M := M) FUEL (x := ⟨0, [], 0⟩) rfl
  obtain ⟨y, hy⟩ : ∃ y, inflS l M FUEL ⟨0, [], 0⟩ = y := ⟨_, rfl⟩
  rw [hy] at T ⊢
  simp only at T
  unfold inflZ
  rw [if_neg (by omega), Int.toNat_natCast]
  cases hr : inflP M FUEL [] l 0 with
  | error e =>
    rw [hr] at T
    obtain ⟨t1, t2⟩ := T
    rw [if_pos (by rw [t1]; exact t2), t1]
  | ok r =>
    obtain ⟨o', t3⟩ := r
    rw [hr] at T
    obtain ⟨t1, t2, t4⟩ := T
    rw [if_neg (by simp [t1]), t2, t4]
end
end Go.Proofs.YtnelbahohkjcnaaGreatDoor
/-
  The contract of the document's heads.
-/
namespace Go.Proofs.YtnelbahohkjcnaaGreatDoor
section
open Go.RowKit
theorem order_at : ∀ i : Fin 19, orderL[i.val]?.getD 0 < 19 ∧ orderL[i.val]? = some (orderL[i.val]?.getD 0) := by decide +kernel
theorem headsS_length (l : List UInt8) : ∀ (c i : Nat) (ls : List Nat) (x : St), (headsS l c i ls x).2.length = ls.length
  | 0, _, _, _ => rfl
  | c + 1, i, ls, x => by rw [headsS, headsS_length l c]; simp
theorem headsS_at {l : List UInt8} : ∀ (c i : Nat) (ls : List Nat) (x : St), x.at' ≤ 8 * l.length → (headsS l c i ls x).1.at' ≤ 8 * l.length ∧ (headsS l c i ls x).1.out = x.out
  | 0, _, _, _, h => ⟨h, rfl⟩
  | c + 1, i, ls, x, h => by
    rw [headsS]
    obtain ⟨h1, h2, _⟩ := bitsS_facts (l := l) (x := x) (k := 3) (by omega) h
    obtain ⟨h3, h4⟩ := headsS_at c (i + 1) (ls.set (orderL[i]?.getD 0) (bitsS l x 3).2) _ h1
    exact ⟨h3, by rw [h4, h2]⟩
theorem results_heads (tmps : Array Value) (w : World) (b : Nat) (s : ByteArray) (vb vo : Value) (most : Nat) (x : St) (v : Value) (hp : tmps.getD 4 undef = .pointer (some ⟨b, 0, none⟩)) (he : tmps.getD 5 undef = v) (hg : StCell w b s vb vo most x) :
    (results Tryz.f126 tmps).run Tryz.prog w = .ok (.tuple #[.agg (stV s vb vo most x), v]) w := by
  have hp' : tmps[4]?.getD undef = .pointer (some ⟨b, 0, none⟩) := by simpa using hp
  have he' : tmps[5]?.getD undef = v := by simpa using he
  simp [results, Tryz.results126, hp', he', asAddr, load_st hg]
theorem BitsAt.move {w w' : World} {g : Nat} {row : List Nat} (h : BitsAt w g row) (hk : w'.heap[g]? = w.heap[g]?) : BitsAt w' g row := by
  refine ⟨?_, fun j hj => ?_⟩
  · have h1 : w.heap[g]? ≠ none := by rw [Array.getElem?_eq_getElem h.1]; simp
    rw [← hk] at h1
    rcases Nat.lt_or_ge g w'.heap.size with h2 | h2
    · exact h2
    · exact absurd (Array.getElem?_eq_none h2) h1
  · rw [← h.2 j hj]
    unfold World.cell?
    simp only [hk]
theorem zero_new (w : World) : StCell (w.alloc (.cells #[.string ⟨#[]⟩, .slice none 0 0, .int .i64 0, .slice none 0 0, .int .i64 0, .int .i64 0] 114)) w.heap.size ⟨#[]⟩ (.slice none 0 0) (.slice none 0 0) 0 ⟨0, [], 0⟩ := heap_alloc_new w _
set_option maxRecDepth 100000 in
set_option maxHeartbeats 2000000 in
theorem rHeads_any (s : ByteArray) (vb vo : Value) (most : Nat) (x : St) (many : Nat) (w : World) (hb1 : vb.oneCell' = true) (ho1 : vo.oneCell' = true) (hp : x.at' ≤ 8 * s.size) (hs : s.size ≤ 100000) (hm : many ≤ 19) :
    Calls Tryz.prog 126 #[.agg (stV s vb vo most x), .int .i64 (many : Int)] w fun en w' => ∃ g, en = .returned (.tuple #[.agg (stV s vb vo most (headsS s.data.toList many 0 (List.replicate 19 0) x).1), .slice (some ⟨g, 0, none⟩) 19 19]) ∧ RowAt w' g (headsS s.data.toList many 0 (List.replicate 19 0) x).2 ∧ Below w.heap.size w w' ∧ w.heap.size ≤ g := by
  have hsz : s.data.toList.length = s.size := by rw [← size_data]
  have Hsz := Lib.hid hsz
  obtain ⟨fx, fl, hf⟩ : ∃ fx fl, headsS s.data.toList many 0 (List.replicate 19 0) x = (fx, fl) := ⟨_, _, rfl⟩
  have Hf := Lib.hid hf
  rw [hf]
  obtain ⟨W, hW, H1, H2, HB⟩ := boxes_is w s vb vo most x
  unfold boxes at hW
  obtain ⟨W1, hW1⟩ : ∃ W1, W.alloc (.cells (cellsZ (asZ (List.replicate 19 0))).toArray 3) = W1 := ⟨_, rfl⟩
  have hmake : (Instr.makeSlice 88 (.int .i64 19) (.int .i64 19)).run Tryz.prog W = .ok (.slice (some ⟨W.heap.size, 0, none⟩) 19 19) W1 := by rw [← hW1]; exact make_row 19 W (by omega)
  obtain ⟨gr, hgr⟩ : ∃ gr, W.heap.size = gr := ⟨_, rfl⟩
  have HR1 : Hid (RowAt W1 gr (List.replicate 19 0)) := Lib.hid (by rw [← hW1, ← hgr]; exact heap_alloc_new W _)
  have HB1 : Hid (Below W.heap.size W W1) := Lib.hid (by rw [← hW1]; exact (Below.refl _ W).alloc (Nat.le_refl _) _)
  rw [hgr] at hmake
  have hord := rOrder_any W1
  unfold RowNew at hord
  rw [show orderL.length = 19 from rfl] at hord
  have Hord := Lib.hid hord
  have Hgn : Hid (w.heap.size + 1 < gr) := Lib.hid (by have := H2.out.lt; omega)
  clear hsz hf hW1 hgr hord
  go_enter Tryz.func126, Tryz.ntmps126
  go_wp2_with fail
  refine Hord.out.mono ?_
  rintro e w1 ⟨go, capo, rfl, hO, hbo, hgo⟩
  have C1 := Lib.hid ((H1.out.later HB1.out).later hbo)
  have C2 := Lib.hid ((H2.out.later HB1.out).later hbo)
  have HR2 := Lib.hid (HR1.out.later hbo)
  have HO := Lib.hid hO
  have Hgo : Hid (gr < go) := Lib.hid (by have := HR1.out.lt; omega)
  have HB2 : Hid (Below w.heap.size w w1) := Lib.hid ((HB.out.trans (HB1.out.mono HB.out.size)).trans (hbo.mono (Nat.le_trans HB.out.size HB1.out.size)))
  clear hbo hgo hO hmake
  go_wp2_with fail
  go_loopg [8, 9, 10] many (fun g s8 s9 s10 wx => ∃ (i : Nat) (y : St) (ls : List Nat), i + g = many ∧ s8 = .int .i64 (i : Int) ∧ Aside (StCell wx w.heap.size s vb vo most y ∧ StCell wx (w.heap.size + 1) ⟨#[]⟩ (.slice none 0 0) (.slice none 0 0) 0 ⟨0, [], 0⟩ ∧ RowAt wx gr ls ∧ BitsAt wx go orderL ∧ headsS s.data.toList g i ls y = (fx, fl) ∧ ls.length = 19) ∧ Aside (y.at' ≤ 8 * s.size) ∧ Below w.heap.size w wx)
  case atStart => exact ⟨0, x, _, by omega, rfl, ⟨C1.out, C2.out, HR2.out, HO.out, Hf.out, by simp⟩, hp, HB2.out⟩
  case round =>
    obtain ⟨i, y, ls, hig, rfl, HI, hy, hb⟩ := hrel
    have Hb := Lib.hid hb
    have Hy := Lib.hid hy
    clear hb hy
    have D1 := Lib.hid HI.out.1
    have D2 := Lib.hid HI.out.2.1
    cases gk with
    | zero =>
      obtain rfl : i = many := by omega
      have Hfin : Hid (y = fx ∧ ls = fl) := Lib.hid (by have := HI.out.2.2.2.2.1; rw [headsS] at this; exact Prod.mk.inj this)
      go_wp2_with (with_reducible first
        | refine StCell.load rfl (.tmp 2) rfl w.heap.size _ _ _ _ _ rfl D1.out ?_
        | (refine StCell.store rfl rfl (.tmp 4) (.tmp 35) rfl (w.heap.size + 1) _ _ _ _ _ _ _ _ _ _ hb1 ho1 rfl rfl D2.out w.heap.size wr (Below.refl _ _) (by omega) ?_; intro w9 Hs9 Hb9 Ho9))
      refine bodyPost_ret (results_heads _ _ (w.heap.size + 1) _ _ _ _ _ _ rfl rfl Hs9.out) rfl ⟨gr, by rw [Hfin.out.1]; rfl, ?_, Hb.out.trans Hb9.out, by have := Hgn.out; omega⟩
      rw [← Hfin.out.2]
      exact (Ho9.out gr (by have := Hgn.out; omega)).trans HI.out.2.2.1
    | succ g =>
      have hiz : (i : Int) < (many : Int) := by omega
      have hi19 : (i : Int) < 19 := by omega
      obtain ⟨ya, n, ha⟩ : ∃ ya n, bitsS s.data.toList y 3 = (ya, n) := ⟨_, _, rfl⟩
      have fa := bitsS_facts (l := s.data.toList) (x := y) (k := 3) (by omega) (by rw [Hsz.out]; exact Hy.out)
      rw [ha, Hsz.out] at fa
      have Fa := Lib.hid fa
      have Hba := Lib.hid (rBitsS_any s vb vo most y 3 wr hb1 ho1 (by omega) Hy.out (by omega))
      rw [ha] at Hba
      have Ha := Lib.hid ha
      clear ha fa
      go_wp2_with (with_reducible first
        | refine StCell.load rfl (.tmp 2) rfl w.heap.size _ _ _ _ _ rfl D1.out ?_)
      refine Hba.out.mono ?_
      rintro e w2 ⟨rfl, hb2⟩
      obtain ⟨q, hq⟩ : ∃ q, orderL[i]?.getD 0 = q := ⟨_, rfl⟩
      obtain ⟨hq19, hqs⟩ := order_at ⟨i, by omega⟩
      simp only [hq] at hq19 hqs
      have Hq := Lib.hid hq
      have HB2 := Lib.hid hb2
      have E1 := Lib.hid (D1.out.later hb2)
      have E2 := Lib.hid (D2.out.later hb2)
      have HR3 := Lib.hid (HI.out.2.2.1.later hb2)
      have HO3 := Lib.hid (HI.out.2.2.2.1.move (hb2.block go HI.out.2.2.2.1.1))
      have Ea := Lib.hid (zero_new w2)
      have Ba : Hid (Below w2.heap.size w2 (w2.alloc (.cells #[.string ⟨#[]⟩, .slice none 0 0, .int .i64 0, .slice none 0 0, .int .i64 0, .int .i64 0] 114))) := Lib.hid ((Below.refl _ _).alloc (Nat.le_refl _) _)
      clear hb2 hq
      go_upto_region 7 with (with_reducible first
        | (refine StCell.store rfl rfl (.tmp 9) (.tmp 25) rfl w2.heap.size _ _ _ _ _ _ _ _ _ _ hb1 ho1 rfl rfl Ea.out w2.heap.size w2 Ba.out (Nat.le_refl _) ?_; intro w3 Hs3 Hb3 Ho3))
      have F1 := Lib.hid (E1.out.later Hb3.out)
      have F2 := Lib.hid (E2.out.later Hb3.out)
      have HR4 := Lib.hid (HR3.out.later Hb3.out)
      have HO4 := Lib.hid (HO3.out.move (Hb3.out.block go HO3.out.1))
      go_upto_region 8 with (with_reducible first
        | refine StCell.load rfl (.tmp 9) rfl w2.heap.size _ _ _ _ _ rfl Hs3.out ?_
        | (refine StCell.store rfl rfl (.tmp 2) (.tmp 27) rfl w.heap.size _ _ _ _ _ _ _ _ _ _ hb1 ho1 rfl rfl F1.out w.heap.size w3 (Below.refl _ _) (Nat.le_refl _) ?_; intro w4 Hs4 Hb4 Ho4))
      have HR5 : Hid (RowAt w4 gr ls) := Lib.hid ((Ho4.out gr (by have := Hgn.out; omega)).trans HR4.out)
      have HO5 := Lib.hid (HO4.out.move (Ho4.out go (by have := Hgn.out; have := Hgo.out; omega)))
      have G2 : Hid (StCell w4 (w.heap.size + 1) ⟨#[]⟩ (.slice none 0 0) (.slice none 0 0) 0 ⟨0, [], 0⟩) := Lib.hid ((Ho4.out _ (by omega)).trans F2.out)
      have hql : q < ls.length := by rw [HI.out.2.2.2.2.2]; exact hq19
      obtain ⟨old, hold⟩ : ∃ old, ls[q]? = some old := ⟨_, List.getElem?_eq_getElem hql⟩
      have kq := HR5.out.cell hold
      have fq := HR5.out.free q
      have ko : w4.cell? ⟨go, i, none⟩ = some (.int .i64 (q : Int)) := by
        have hio : i < orderL.length := by show i < 19; omega
        have h1 := HO5.out.2 i hio
        rw [List.getElem?_eq_getElem hio] at hqs
        rw [h1, Option.some.inj hqs]
      have hqz : (q : Int) < 19 := by omega
      have hq0 : (0 : Int) ≤ (q : Int) := by omega
      have HB5 : Hid (Below w.heap.size w w4) := Lib.hid (((Hb.out.trans (HB2.out.mono Hb.out.size)).trans (Hb3.out.mono (Nat.le_trans Hb.out.size HB2.out.size))).trans Hb4.out)
      clear hqs hql hold
      go_wp2_with fail
      go_roundg g
      case measure => omega
      case rel => exact ⟨i + 1, ya, ls.set q n, by omega, by go_num, ⟨Hs4.out.other _ (by show w.heap.size ≠ gr; have := Hgn.out; omega), G2.out.other _ (by show w.heap.size + 1 ≠ gr; have := Hgn.out; omega), HR5.out.put q n, HO5.out.move (heap_setCell_other _ _ _ _ (by show go ≠ gr; have := Hgo.out; omega)), by (have h1 := HI.out.2.2.2.2.1; rw [headsS, Ha.out, Hq.out] at h1; exact h1), by rw [List.length_set]; exact HI.out.2.2.2.2.2⟩, Fa.out.1, HB5.out.setCell (by show w.heap.size ≤ gr; have := Hgn.out; omega) _⟩
end
end Go.Proofs.YtnelbahohkjcnaaGreatDoor
/-
  The contract of the document's row.
-/
namespace Go.Proofs.YtnelbahohkjcnaaGreatDoor
section
open Go.RowKit
theorem bitsS_more {l : List UInt8} {x : St} {k : Nat} (hk : k ≤ 16) : x.at' ≤ (bitsS l x k).1.at' := by
  by_cases h0 : x.code = 0
  · rcases bitsS_ok (l := l) h0 hk with ⟨n, _, h2⟩ | ⟨_, _, h3, _⟩
    · rw [h2]; exact Nat.le_add_right _ _
    · rw [h3]; exact Nat.le_refl _
  · rw [bitsS_bad h0]; exact Nat.le_refl _
theorem bitsS_still {l : List UInt8} {x : St} {k : Nat} (h : (bitsS l x k).1.code = 0) : x.code = 0 := by
  by_cases h0 : x.code = 0
  · exact h0
  · rw [bitsS_bad h0] at h; exact h
theorem failS_still {x : St} {c : Bool} {e : Int} (he : e ≠ 0) (h : (failS x c e).code = 0) : x.code = 0 := (failS_zero he h).2.1
theorem symS_more {l : List UInt8} {x : St} {ns : List Nat} (hx : x.code = 0) (h : (symS l x ns).1.code = 0) : x.at' < (symS l x ns).1.at' := by
  rcases symS_ok (l := l) (ns := ns) hx with ⟨n, tt, h1, h2⟩ | ⟨e, he, _, h2, _⟩
  · rw [h2]
    unfold symP at h1
    obtain ⟨sy, m, e, hr⟩ : ∃ sy m e, readC (intsOf ns) (codesN ns) (longN ns) 0 0 ((bitsOf l).drop x.at') = (sy, m, e) := ⟨_, _, _, rfl⟩
    rw [hr] at h1
    simp only at h1
    split at h1
    · rename_i he
      have := readC_pos _ _ _ _ _ _ _ _ (he ▸ hr)
      have h3 := (Prod.mk.inj (Except.ok.inj h1)).2
      show x.at' < tt
      omega
    · cases h1
  · rw [h2] at h; exact absurd h he
theorem timesS_facts {l : List UInt8} {out : List Nat} {y : St} {n : Nat} (hy : y.at' ≤ 8 * l.length) : y.at' ≤ (timesS l out y n).1.at' ∧ (timesS l out y n).1.at' ≤ 8 * l.length ∧ (timesS l out y n).2.1 ≤ 65600 ∧ ((timesS l out y n).1.code = 0 → y.code = 0) := by
  unfold timesS
  split
  · have f := failS_facts y (decide (out.length = 0)) 4
    have b := bitsS_facts (l := l) (x := failS y (decide (out.length = 0)) 4) (k := 2) (by omega) (by rw [f.1]; exact hy)
    have m := bitsS_more (l := l) (x := failS y (decide (out.length = 0)) 4) (k := 2) (by omega)
    rw [f.1] at m
    exact ⟨m, b.1, by show _ + 3 ≤ _; omega, fun h => failS_still (by decide) (bitsS_still h)⟩
  · split
    · have b := bitsS_facts (l := l) (x := y) (k := 3) (by omega) hy
      exact ⟨bitsS_more (by omega), b.1, by show _ + 3 ≤ _; omega, bitsS_still⟩
    · split
      · have b := bitsS_facts (l := l) (x := y) (k := 7) (by omega) hy
        exact ⟨bitsS_more (by omega), b.1, by show _ + 11 ≤ _; omega, bitsS_still⟩
      · exact ⟨Nat.le_refl _, hy, by show 1 ≤ _; omega, id⟩
theorem rowS_stop {l : List UInt8} {ls : List Nat} {many f : Nat} {out : List Nat} {x : St} (h : x.code ≠ 0) : rowS l ls many f out x = (x, out) := by
  cases f
  · unfold rowS; rw [if_pos h]
  · unfold rowS; rw [if_pos (.inl h)]
theorem rowS_full {l : List UInt8} {ls : List Nat} {many f : Nat} {out : List Nat} {x : St} (h : many ≤ out.length) : rowS l ls many (f + 1) out x = (x, out) := by
  unfold rowS; rw [if_pos (.inr h)]
theorem rowS_next {l : List UInt8} {ls : List Nat} {many f : Nat} {out : List Nat} {x ya z c : St} {n t v : Nat} (h0 : x.code = 0) (hm : out.length < many) (h1 : symS l x ls = (ya, n)) (h2 : timesS l out ya n = (z, t, v)) (h3 : failS z (decide (many < out.length + t)) 4 = c) :
    rowS l ls many (f + 1) out x = if c.code ≠ 0 then (c, out) else rowS l ls many f (out ++ List.replicate t v) c := by
  conv => lhs; unfold rowS
  rw [if_neg (by rintro (h | h) <;> omega)]
  simp only
  rw [h1]
  simp only
  rw [h2]
  simp only
  rw [h3]
theorem results_row (tmps : Array Value) (w : World) (b : Nat) (s : ByteArray) (vb vo : Value) (most : Nat) (x : St) (v : Value) (hp : tmps.getD 6 undef = .pointer (some ⟨b, 0, none⟩)) (he : tmps.getD 7 undef = v) (hg : StCell w b s vb vo most x) :
    (results Tryz.f128 tmps).run Tryz.prog w = .ok (.tuple #[.agg (stV s vb vo most x), v]) w := by
  have hp' : tmps[6]?.getD undef = .pointer (some ⟨b, 0, none⟩) := by simpa using hp
  have he' : tmps[7]?.getD undef = v := by simpa using he
  simp [results, Tryz.results128, hp', he', asAddr, load_st hg]
theorem Own64.low {w : World} {B B' : Nat} {v : Value} {l : List Int} (h : Own64 w B v l) (hB : B' ≤ B) : Own64 w B' v l := by
  refine ⟨⟨h.1.1, ?_⟩, h.2⟩
  rcases h.1.2 with h2 | ⟨g, c, cur, hv, h3, hg, hr⟩
  · exact .inl h2
  · exact .inr ⟨g, c, cur, hv, Nat.le_trans hB h3, hg, hr⟩
theorem Own64.move {w w' : World} {B : Nat} {v : Value} {l : List Int} (h : Own64 w B v l) (hk : ∀ k, v.ownBlock = some k → w'.heap[k]? = w.heap[k]?) : Own64 w' B v l := ⟨owns_move h.1 hk, h.2⟩
theorem nats_ints (ns : List Nat) : natsOf (intsOf ns) = ns := by
  unfold natsOf intsOf
  rw [List.map_map]
  exact (List.map_congr_left fun n _ => Int.toNat_natCast n).trans (List.map_id ns)
theorem rCodesN_any (p : Option Addr) (cap n : Nat) (ns : List Nat) (w : World) (hn : n = ns.length) (hp : Nums w p (intsOf ns)) (he : refusedZ (intsOf ns) = 0) :
    Calls Tryz.prog 83 #[.slice p n cap] w fun en w' => ∃ g' cap', en = .returned (.tuple #[.slice (some ⟨g', 0, none⟩) n cap', .int .i64 0]) ∧ BitsAt w' g' (codesN ns) ∧ Below w.heap.size w w' ∧ w.heap.size ≤ g' := by
  have h := rCodes_good p cap (intsOf ns) w hp he
  rw [intsOf_length, nats_ints, ← hn] at h
  exact h
theorem refused_facts {ns : List Nat} (he : refusedZ (intsOf ns) = 0) : ns.length ≤ 320 ∧ ∀ n ∈ ns, n ≤ 15 := by
  obtain ⟨h1, h2, _⟩ := refusedZ_zero he
  rw [intsOf_length] at h1
  refine ⟨h1, fun n hn => ?_⟩
  have := h2 (n : Int) (by unfold intsOf; exact List.mem_map.2 ⟨n, hn, rfl⟩)
  omega
def RowKeep (w0 : World) (Bo gc : Nat) (ns out : List Nat) (v : Value) (w : World) : Prop := StCell w (w0.heap.size + 1) ⟨#[]⟩ (.slice none 0 0) (.slice none 0 0) 0 ⟨0, [], 0⟩ ∧ BitsAt w gc (codesN ns) ∧ Own64 w Bo v (asZ out) ∧ Below w0.heap.size w0 w
theorem RowKeep.later {w0 w w' : World} {Bo gc : Nat} {ns out : List Nat} {v : Value} (h : RowKeep w0 Bo gc ns out v w) (hb : Below w.heap.size w w') : RowKeep w0 Bo gc ns out v w' :=
  ⟨h.1.later hb, h.2.1.later hb, h.2.2.1.later hb, h.2.2.2.trans (hb.mono h.2.2.2.size)⟩
theorem RowKeep.store {w0 w w' : World} {Bo gc : Nat} {ns out : List Nat} {v : Value} (h : RowKeep w0 Bo gc ns out v w) (hgc : w0.heap.size < gc) (hBo : w0.heap.size < Bo) (hb : Below w0.heap.size w w') (ho : ∀ k, k ≠ w0.heap.size → w'.heap[k]? = w.heap[k]?) : RowKeep w0 Bo gc ns out v w' :=
  ⟨(ho _ (by omega)).trans h.1, h.2.1.move (ho gc (by omega)), h.2.2.1.move fun k hk => ho k (by have := (h.2.2.1.1.lt k hk).1; omega), h.2.2.2.trans hb⟩
theorem RowKeep.append {w0 w w' : World} {Bo gc : Nat} {ns out : List Nat} {v v' : Value} {a : Nat} (h : RowKeep w0 Bo gc ns out v w) (hgc : gc < Bo) (hBo : w0.heap.size + 1 < Bo) (hb : Below Bo w w') (ho : Own64 w' Bo v' (asZ out ++ [(a : Int)])) : RowKeep w0 Bo gc ns (out ++ [a]) v' w' :=
  ⟨(hb.block _ hBo).trans h.1, h.2.1.move (hb.block gc hgc), by rw [asZ_snoc]; exact ho, h.2.2.2.trans (hb.mono (by omega))⟩
set_option maxRecDepth 100000 in
set_option maxHeartbeats 4000000 in
theorem rRow_any (s : ByteArray) (pb : Option Addr) (cb : Nat) (vo : Value) (most : Nat) (x : St) (p1 : Option Addr) (c1 n1 nb many : Nat) (ns : List Nat) (w : World) (ho1 : vo.oneCell' = true) (hp : x.at' ≤ 8 * s.size) (hs : s.size ≤ 100000) (hmany : many ≤ 1000)
    (he : refusedZ (intsOf ns) = 0) (hn1 : n1 = ns.length) (hnb : nb = 8 * s.size) (hq1 : Nums w p1 (intsOf ns)) (hq3 : Nums w pb (asZ (bitsOf s.data.toList))) :
    Calls Tryz.prog 128 #[.agg (stV s (.slice pb nb cb) vo most x), .slice p1 n1 c1, .int .i64 (many : Int)] w fun en w' => ∃ v, en = .returned (.tuple #[.agg (stV s (.slice pb nb cb) vo most (rowS s.data.toList ns many FUEL [] x).1), v]) ∧ Own64 w' w.heap.size v (asZ (rowS s.data.toList ns many FUEL [] x).2) ∧ Below w.heap.size w w' := by
  have hsz : s.data.toList.length = s.size := by rw [← size_data]
  have Hsz := Lib.hid hsz
  obtain ⟨hlen, h15⟩ := refused_facts he
  obtain ⟨F, hF⟩ : ∃ F, FUEL = F := ⟨_, rfl⟩
  have hF8 : 8 * s.size + 1 ≤ F := by rw [← hF]; unfold FUEL; omega
  rw [hF]
  obtain ⟨fx, fl, hf⟩ : ∃ fx fl, rowS s.data.toList ns many F [] x = (fx, fl) := ⟨_, _, rfl⟩
  have Hf := Lib.hid hf
  have HF8 := Lib.hid hF8
  rw [hf]
  have Hcodes := Lib.hid (fun W (hb : Below w.heap.size w W) => rCodesN_any p1 c1 n1 ns W hn1 (hq1.later hb) he)
  have hsym : ∀ (y : St) (W : World) (g2 c2 : Nat), y.at' ≤ 8 * s.size → Below w.heap.size w W → BitsAt W g2 (codesN ns) → _ := fun y W g2 c2 hy hb hg => rSymS_any s pb cb vo most y p1 (some ⟨g2, 0, none⟩) c1 c2 n1 n1 nb ns W ho1 hy hs (by omega) h15 hn1 hn1 hnb (hq1.later hb) hg.nums (hq3.later hb)
  have Hsym := Lib.hid hsym
  obtain ⟨vb, hvb⟩ : ∃ vb, Value.slice pb nb cb = vb := ⟨_, rfl⟩
  have hb1 : vb.oneCell' = true := by rw [← hvb]; rfl
  rw [hvb] at Hsym
  rw [hvb]
  obtain ⟨W, hW, H1, H2, HB⟩ := boxes_is w s vb vo most x
  unfold boxes at hW
  have HcW := Lib.hid (Hcodes.out W HB.out)
  clear hsym hsz hvb hq1 hq3 hn1 hnb h15 hlen he hf hF8 hF Hcodes
  go_enter Tryz.func128, Tryz.ntmps128
  go_wp2_with fail
  refine HcW.out.mono ?_
  rintro e w1 ⟨gc, capc, rfl, hG, hbc, hgc⟩
  have C1 := Lib.hid (H1.out.later hbc)
  have C2 := Lib.hid (H2.out.later hbc)
  have HG := Lib.hid hG
  have HB1 := Lib.hid (HB.out.trans (hbc.mono HB.out.size))
  have Hgc : Hid (w.heap.size + 1 < gc ∧ gc < w1.heap.size) := Lib.hid ⟨by have := H2.out.lt; omega, hG.1⟩
  obtain ⟨Bo, hBo⟩ : ∃ Bo, w1.heap.size = Bo := ⟨_, rfl⟩
  have HBo := Lib.hid hBo
  clear hG hbc hgc HcW
  go_wp2_with fail
  go_loopg [10, 11, 12, 13, 14, 15] F (fun g s10 s11 s12 s13 s14 s15 wx => ∃ (y : St) (out : List Nat), Aside (StCell wx w.heap.size s vb vo most y ∧ StCell wx (w.heap.size + 1) ⟨#[]⟩ (.slice none 0 0) (.slice none 0 0) 0 ⟨0, [], 0⟩ ∧ BitsAt wx gc (codesN ns) ∧ Own64 wx Bo s10 (asZ out) ∧ rowS s.data.toList ns many g out y = (fx, fl)) ∧ Aside (y.at' ≤ 8 * s.size ∧ (y.code = 0 → 8 * s.size + 1 ≤ g + y.at') ∧ out.length ≤ many) ∧ Below w.heap.size w wx)
  case atStart =>
    have ha : Below w1.heap.size w1 (w1.alloc (.cells #[] 3)) := (Below.refl _ _).alloc (Nat.le_refl _) _
    exact ⟨x, [], ⟨C1.out.later ha, C2.out.later ha, HG.out.later ha, (by have h := Own64.made (B := Bo) w1 0 #[] (by have := HBo.out; omega) (by decide) rfl; rw [HBo.out] at h; exact h), Hf.out⟩, ⟨hp, fun _ => by have := HF8.out; omega, Nat.zero_le _⟩, HB1.out.trans (ha.mono HB1.out.size)⟩
  case round =>
    obtain ⟨y, out, HI, HY, hb⟩ := hrel
    have Hb := Lib.hid hb
    clear hb
    obtain ⟨g3, cap3, hv3⟩ := HI.out.2.2.2.1.2
    rw [asZ_length] at hv3
    obtain ⟨ln, hln⟩ : ∃ ln, out.length = ln := ⟨_, rfl⟩
    have Hln := Lib.hid hln
    rw [hln] at hv3
    subst hv3
    have D1 := Lib.hid HI.out.1
    have D2 := Lib.hid HI.out.2.1
    have k5 := D1.out.code
    clear hln
    have hcase : (y.code ≠ 0 ∨ many ≤ ln) ∨ (y.code = 0 ∧ ln < many) := by omega
    rcases hcase with hstop | ⟨h0, hmore⟩
    · have Hfin : Hid (y = fx ∧ out = fl) := Lib.hid (by
        have h1 := HI.out.2.2.2.2
        by_cases h0 : y.code = 0
        · obtain ⟨f, rfl⟩ : ∃ f, gk = f + 1 := ⟨gk - 1, by have := HY.out.2.1 h0; have := HY.out.1; omega⟩
          rw [rowS_full (by rw [Hln.out]; omega)] at h1
          exact Prod.mk.inj h1
        · rw [rowS_stop h0] at h1
          exact Prod.mk.inj h1)
      have hcase2 : ¬ (ln : Int) < (many : Int) ∨ ((ln : Int) < (many : Int) ∧ (y.code == 0) = false) := by
        by_cases h : (ln : Int) < (many : Int)
        · exact .inr ⟨h, by rw [beq_eq_false_iff_ne]; omega⟩
        · exact .inl h
      clear hstop
      rcases hcase2 with h1 | ⟨h1, h2⟩
      all_goals
        go_wp2_with (with_reducible first
          | refine StCell.load rfl (.tmp 3) rfl w.heap.size _ _ _ _ _ rfl D1.out ?_
          | (refine StCell.store rfl rfl (.tmp 6) (.tmp 104) rfl (w.heap.size + 1) _ _ _ _ _ _ _ _ _ _ hb1 ho1 rfl rfl D2.out w.heap.size wr (Below.refl _ _) (by omega) ?_; intro w9 Hs9 Hb9 Ho9))
        refine bodyPost_ret (results_row _ _ (w.heap.size + 1) _ _ _ _ _ _ rfl rfl Hs9.out) rfl ⟨_, by rw [Hfin.out.1], ?_, Hb.out.trans Hb9.out⟩
        rw [← Hfin.out.2]
        have hB2 : w.heap.size + 1 < Bo := by have := Hgc.out; have := HBo.out; omega
        exact (HI.out.2.2.2.1.low (by omega)).move fun k hk => Ho9.out k (by have := (HI.out.2.2.2.1.1.lt k hk).1; omega)
    · have hmz : (ln : Int) < (many : Int) := by omega
      obtain ⟨g, rfl⟩ : ∃ f, gk = f + 1 := ⟨gk - 1, by have := HY.out.2.1 h0; have := HY.out.1; omega⟩
      obtain ⟨ya, n, ha⟩ : ∃ ya n, symS s.data.toList y ns = (ya, n) := ⟨_, _, rfl⟩
      have fa := symS_facts (l := s.data.toList) (x := y) (ns := ns) (by rw [Hsz.out]; exact HY.out.1)
      have fm : ya.code = 0 → y.at' < ya.at' := by
        have h1 := symS_more (l := s.data.toList) (ns := ns) h0
        rw [ha] at h1; exact h1
      rw [ha, Hsz.out] at fa
      have Fa : Hid (ya.at' ≤ 8 * s.size ∧ (ya.code = 0 → y.at' < ya.at')) := Lib.hid ⟨fa.1, fm⟩
      have Hsy := Lib.hid (Hsym.out y wr gc capc HY.out.1 Hb.out HI.out.2.2.1)
      rw [ha] at Hsy
      obtain ⟨z, t, v, hz⟩ : ∃ z t v, timesS s.data.toList out ya n = (z, t, v) := ⟨_, _, _, rfl⟩
      have ft := timesS_facts (l := s.data.toList) (out := out) (y := ya) (n := n) (by rw [Hsz.out]; exact fa.1)
      rw [hz, Hsz.out] at ft
      have Ft := Lib.hid ft
      have ht : t ≤ 65600 := ft.2.2.1
      obtain ⟨c, hc⟩ : ∃ c, failS z (decide (many < out.length + t)) 4 = c := ⟨_, rfl⟩
      have Hnext := Lib.hid (rowS_next (f := g) h0 (by rw [Hln.out]; exact hmore) ha hz hc)
      rw [Hln.out] at hc
      have Hz := Lib.hid hz
      have Hc := Lib.hid hc
      have Hy0 := Lib.hid h0
      have k50 : wr.cell? ⟨w.heap.size, 5, none⟩ = some (.int .i64 0) := by rw [k5, h0]
      clear ha fa fm hz ft hc k5 h0
      go_wp2_with (with_reducible first
        | refine StCell.load rfl (.tmp 3) rfl w.heap.size _ _ _ _ _ rfl D1.out ?_)
      refine Hsy.out.mono ?_
      rintro e w2 ⟨rfl, hb2⟩
      have HB2 := Lib.hid hb2
      have E1 := Lib.hid (D1.out.later hb2)
      have E2 := Lib.hid (D2.out.later hb2)
      have HG3 := Lib.hid (HI.out.2.2.1.later hb2)
      have HO3 := Lib.hid (HI.out.2.2.2.1.later hb2)
      have Ea := Lib.hid (zero_new w2)
      have Ba : Hid (Below w2.heap.size w2 (w2.alloc (.cells #[.string ⟨#[]⟩, .slice none 0 0, .int .i64 0, .slice none 0 0, .int .i64 0, .int .i64 0] 114))) := Lib.hid ((Below.refl _ _).alloc (Nat.le_refl _) _)
      clear hb2 Hsy k50
      go_upto_region 5 with (with_reducible first
        | (refine StCell.store rfl rfl (.tmp 11) (.tmp 36) rfl w2.heap.size _ _ _ _ _ _ _ _ _ _ hb1 ho1 rfl rfl Ea.out w2.heap.size w2 Ba.out (Nat.le_refl _) ?_; intro w3 Hs3 Hb3 Ho3))
      have F1 := Lib.hid (E1.out.later Hb3.out)
      have F2 := Lib.hid (E2.out.later Hb3.out)
      have HG4 := Lib.hid (HG3.out.later Hb3.out)
      have HO4 := Lib.hid (HO3.out.later Hb3.out)
      have HB3 : Hid (Below w.heap.size w w3) := Lib.hid ((Hb.out.trans (HB2.out.mono Hb.out.size)).trans (Hb3.out.mono (Nat.le_trans Hb.out.size HB2.out.size)))
      have hB2 : w.heap.size + 1 < Bo := by have := Hgc.out; have := HBo.out; omega
      have hgB : w.heap.size < gc ∧ w.heap.size < Bo := ⟨by have := Hgc.out; omega, by omega⟩
      have HX3 : Hid (RowKeep w Bo gc ns out (.slice (some ⟨g3, 0, none⟩) ln cap3) w3) := Lib.hid ⟨F2.out, HG4.out, HO4.out, HB3.out⟩
      clear HG4 HO4 HG3 HO3 HB3 F2 E1 E2 D1 D2
      go_upto_region 6 with (with_reducible first
        | refine StCell.load rfl (.tmp 11) rfl w2.heap.size _ _ _ _ _ rfl Hs3.out ?_
        | (refine StCell.store rfl rfl (.tmp 3) (.tmp 38) rfl w.heap.size _ _ _ _ _ _ _ _ _ _ hb1 ho1 rfl rfl F1.out w.heap.size w3 (Below.refl _ _) (Nat.le_refl _) ?_; intro w4 Hs4 Hb4 Ho4))
      have HX4 := Lib.hid (HX3.out.store hgB.1 hgB.2 Hb4.out Ho4.out)
      have Hrow := Lib.hid HI.out.2.2.2.2
      clear F1 Ea Ba Ho4 Hb4 Hs3 Hb3 Ho3 HX3 HB2 HI
      go_upto_block 2 with fail
      go_cut [13, 14] from 40 to 81 (fun s13 s14 wx => s13 = .int .i64 (t : Int) ∧ s14 = .int .i64 (v : Int) ∧ Aside (StCell wx w.heap.size s vb vo most z) ∧ Aside (RowKeep w Bo gc ns out (.slice (some ⟨g3, 0, none⟩) ln cap3) wx))
      case first =>
        have hcase : n = 16 ∨ n = 17 ∨ n = 18 ∨ (n ≠ 16 ∧ n ≠ 17 ∧ n ≠ 18) := by omega
        rcases hcase with hcase | hcase | hcase | hcase
        · have q1 : ((n : Int) == 16) = true := by rw [hcase]; rfl
          obtain ⟨b, hb⟩ : ∃ b, decide (ln = 0) = b := ⟨_, rfl⟩
          have hbz : ((ln : Int) == 0) = b := by
            rw [← hb]
            by_cases h : ln = 0
            · rw [decide_eq_true h, h]; rfl
            · rw [decide_eq_false h, beq_eq_false_iff_ne]; omega
          obtain ⟨yf, hyf⟩ : ∃ yf, failS ya b 4 = yf := ⟨_, rfl⟩
          have fy := failS_facts ya b 4
          rw [hyf] at fy
          obtain ⟨zz, k, hzk⟩ : ∃ zz k, bitsS s.data.toList yf 2 = (zz, k) := ⟨_, _, rfl⟩
          have hz := Hz.out
          unfold timesS at hz
          rw [if_pos hcase, Hln.out, hb, hyf, hzk] at hz
          obtain ⟨e1, e2⟩ := Prod.mk.inj hz
          obtain ⟨e2, e3⟩ := Prod.mk.inj e2
          simp only at e1 e2
          have htz : (k : Int) + 3 = (t : Int) := by omega
          have Hfa := Lib.hid (fun W => rFail_any s vb vo most ya b 4 W hb1 ho1)
          rw [hyf] at Hfa
          have Hba := Lib.hid (fun W => rBitsS_any s vb vo most yf 2 W hb1 ho1 (by omega) (by rw [fy.1]; exact Fa.out.1) (by omega))
          rw [hzk, e1] at Hba
          have Hv := Lib.hid e3
          clear hz hzk e1 e2 e3 hcase hb hyf fy
          go_wp2_with (with_reducible first
            | refine StCell.load rfl (.tmp 3) rfl w.heap.size _ _ _ _ _ rfl Hs4.out ?_)
          refine (Hfa.out _).mono ?_
          rintro e w5 ⟨rfl, hb5⟩
          have HX5 := Lib.hid (HX4.out.later hb5)
          have Hs5 := Lib.hid (Hs4.out.later hb5)
          clear hb5
          go_wp2_with (with_reducible first
            | (refine StCell.store rfl rfl (.tmp 3) (.tmp 47) rfl w.heap.size _ _ _ _ _ _ _ _ _ _ hb1 ho1 rfl rfl Hs5.out w.heap.size w5 (Below.refl _ _) (Nat.le_refl _) ?_; intro w6 Hs6 Hb6 Ho6)
            | refine StCell.load rfl (.tmp 3) rfl w.heap.size _ _ _ _ _ rfl Hs6.out ?_)
          refine (Hba.out _).mono ?_
          rintro e w7 ⟨rfl, hb7⟩
          have HX6 := Lib.hid (HX5.out.store hgB.1 hgB.2 Hb6.out Ho6.out)
          have HX7 := Lib.hid (HX6.out.later hb7)
          have Hs7 := Lib.hid (Hs6.out.later hb7)
          clear hb7
          go_upto_region 12 with (with_reducible first
            | (refine StCell.store rfl rfl (.tmp 3) (.tmp 51) rfl w.heap.size _ _ _ _ _ _ _ _ _ _ hb1 ho1 rfl rfl Hs7.out w.heap.size w7 (Below.refl _ _) (Nat.le_refl _) ?_; intro w8 Hs8 Hb8 Ho8))
          have HX8 := Lib.hid (HX7.out.store hgB.1 hgB.2 Hb8.out Ho8.out)
          by_cases hl0 : ln = 0
          · have hlz : ¬ (0 : Int) < (ln : Int) := by omega
            have Hv2 : Hid (n = v) := Lib.hid (by have := Hv.out; rwa [if_neg (by omega)] at this)
            clear hl0
            go_wp2_with fail
            go_meet
            exact ⟨rfl, by rw [← Hv2.out], Hs8.out, HX8.out⟩
          · have hlz : (0 : Int) < (ln : Int) := by omega
            have Hv2 : Hid (out[ln - 1]?.getD 0 = v) := Lib.hid (by have := Hv.out; rwa [if_pos (by omega)] at this)
            obtain ⟨j, hj⟩ : ∃ j, ln = j + 1 := ⟨ln - 1, by omega⟩
            have hjz : (ln : Int) - 1 = (j : Int) := by omega
            have hj0 : (0 : Int) ≤ (j : Int) := by omega
            have hjl : (j : Int) < (ln : Int) := by omega
            have kj : w8.cell? ⟨g3, j, none⟩ = some (.int .i64 (v : Int)) := by
              obtain ⟨g', cap', hv', _, hc'⟩ := HX8.out.2.2.1.at
              have hjo : j < out.length := by have := Hln.out; omega
              have h1 := hc' j (by rw [asZ_length]; exact hjo)
              have h2 : g3 = g' := by injection hv' with e1 _ _; injection e1 with e1; injection e1
              rw [h2, h1, asZ_get]
              have h3 := Hv2.out
              rw [show ln - 1 = j by omega, List.getElem?_eq_getElem hjo] at h3
              simp only [Option.getD_some] at h3
              rw [h3]
            clear hl0 hj
            go_wp2_with fail
            go_meet
            exact ⟨rfl, rfl, Hs8.out, HX8.out⟩
        · have q1 : ((n : Int) == 16) = false := by rw [beq_eq_false_iff_ne]; omega
          have q2 : ((n : Int) == 17) = true := by rw [hcase]; rfl
          obtain ⟨zz, k, hzk⟩ : ∃ zz k, bitsS s.data.toList ya 3 = (zz, k) := ⟨_, _, rfl⟩
          have hz := Hz.out
          unfold timesS at hz
          rw [if_neg (by omega), if_pos hcase, hzk] at hz
          obtain ⟨e1, e2⟩ := Prod.mk.inj hz
          obtain ⟨e2, e3⟩ := Prod.mk.inj e2
          simp only at e1 e2 e3
          have htz : (k : Int) + 3 = (t : Int) := by omega
          have Hba := Lib.hid (fun W => rBitsS_any s vb vo most ya 3 W hb1 ho1 (by omega) Fa.out.1 (by omega))
          rw [hzk, e1] at Hba
          have Hv := Lib.hid e3
          clear hz hzk e1 e2 e3 hcase
          go_wp2_with (with_reducible first
            | refine StCell.load rfl (.tmp 3) rfl w.heap.size _ _ _ _ _ rfl Hs4.out ?_)
          refine (Hba.out _).mono ?_
          rintro e w5 ⟨rfl, hb5⟩
          have HX5 := Lib.hid (HX4.out.later hb5)
          have Hs5 := Lib.hid (Hs4.out.later hb5)
          clear hb5
          go_wp2_with (with_reducible first
            | (refine StCell.store rfl rfl (.tmp 3) (.tmp 69) rfl w.heap.size _ _ _ _ _ _ _ _ _ _ hb1 ho1 rfl rfl Hs5.out w.heap.size w5 (Below.refl _ _) (Nat.le_refl _) ?_; intro w6 Hs6 Hb6 Ho6))
          go_meet
          exact ⟨rfl, by rw [← Hv.out]; rfl, Hs6.out, HX5.out.store hgB.1 hgB.2 Hb6.out Ho6.out⟩
        · have q1 : ((n : Int) == 16) = false := by rw [beq_eq_false_iff_ne]; omega
          have q2 : ((n : Int) == 17) = false := by rw [beq_eq_false_iff_ne]; omega
          have q3 : ((n : Int) == 18) = true := by rw [hcase]; rfl
          obtain ⟨zz, k, hzk⟩ : ∃ zz k, bitsS s.data.toList ya 7 = (zz, k) := ⟨_, _, rfl⟩
          have hz := Hz.out
          unfold timesS at hz
          rw [if_neg (by omega), if_neg (by omega), if_pos hcase, hzk] at hz
          obtain ⟨e1, e2⟩ := Prod.mk.inj hz
          obtain ⟨e2, e3⟩ := Prod.mk.inj e2
          simp only at e1 e2 e3
          have htz : (k : Int) + 11 = (t : Int) := by omega
          have Hba := Lib.hid (fun W => rBitsS_any s vb vo most ya 7 W hb1 ho1 (by omega) Fa.out.1 (by omega))
          rw [hzk, e1] at Hba
          have Hv := Lib.hid e3
          clear hz hzk e1 e2 e3 hcase
          go_wp2_with (with_reducible first
            | refine StCell.load rfl (.tmp 3) rfl w.heap.size _ _ _ _ _ rfl Hs4.out ?_)
          refine (Hba.out _).mono ?_
          rintro e w5 ⟨rfl, hb5⟩
          have HX5 := Lib.hid (HX4.out.later hb5)
          have Hs5 := Lib.hid (Hs4.out.later hb5)
          clear hb5
          go_wp2_with (with_reducible first
            | (refine StCell.store rfl rfl (.tmp 3) (.tmp 78) rfl w.heap.size _ _ _ _ _ _ _ _ _ _ hb1 ho1 rfl rfl Hs5.out w.heap.size w5 (Below.refl _ _) (Nat.le_refl _) ?_; intro w6 Hs6 Hb6 Ho6))
          go_meet
          exact ⟨rfl, by rw [← Hv.out]; rfl, Hs6.out, HX5.out.store hgB.1 hgB.2 Hb6.out Ho6.out⟩
        · have q1 : ((n : Int) == 16) = false := by rw [beq_eq_false_iff_ne]; omega
          have q2 : ((n : Int) == 17) = false := by rw [beq_eq_false_iff_ne]; omega
          have q3 : ((n : Int) == 18) = false := by rw [beq_eq_false_iff_ne]; omega
          have hz := Hz.out
          unfold timesS at hz
          rw [if_neg hcase.1, if_neg hcase.2.1, if_neg hcase.2.2] at hz
          obtain ⟨e1, e2⟩ := Prod.mk.inj hz
          obtain ⟨e2, e3⟩ := Prod.mk.inj e2
          have E := Lib.hid (And.intro e1 (And.intro e2 e3))
          clear hz e1 e2 e3 hcase
          go_wp2_with fail
          go_meet
          exact ⟨by rw [← E.out.2.1]; rfl, by rw [← E.out.2.2], by rw [← E.out.1]; exact Hs4.out, HX4.out⟩
      case rest =>
        obtain ⟨rfl, rfl, HS, HK⟩ := hcut
        obtain ⟨bm, hbm⟩ : ∃ bm, decide (many < ln + t) = bm := ⟨_, rfl⟩
        have hbz1 : decide ((many : Int) < (ln : Int) + (t : Int)) = bm := by rw [← hbm, decide_eq_decide]; omega
        have Hc2 := Lib.hid Hc.out
        rw [hbm] at Hc2
        have Hbm := Lib.hid hbm
        have Hff := Lib.hid (fun W => rFail_any s vb vo most z bm 4 W hb1 ho1)
        rw [Hc2.out] at Hff
        have fc := failS_facts z bm 4
        rw [Hc2.out] at fc
        have Fc := Lib.hid fc
        have HS2 := Lib.hid HS.out
        have HK2 := Lib.hid HK.out
        clear fc HS HK
        go_wp2_with (with_reducible first
          | refine StCell.load rfl (.tmp 3) rfl w.heap.size _ _ _ _ _ rfl HS2.out ?_)
        refine (Hff.out _).mono ?_
        rintro e w6 ⟨rfl, hb6⟩
        have HS6 := Lib.hid (HS2.out.later hb6)
        have HK6 := Lib.hid (HK2.out.later hb6)
        clear hb6
        go_upto_region 21 with (with_reducible first
          | (refine StCell.store rfl rfl (.tmp 3) (.tmp 89) rfl w.heap.size _ _ _ _ _ _ _ _ _ _ hb1 ho1 rfl rfl HS6.out w.heap.size w6 (Below.refl _ _) (Nat.le_refl _) ?_; intro w7 Hs7 Hb7 Ho7))
        have HK7 := Lib.hid (HK6.out.store hgB.1 hgB.2 Hb7.out Ho7.out)
        have hgo : gc < Bo := by have := Hgc.out; have := HBo.out; omega
        have Hmany : Hid (out.length ≤ many) := Lib.hid (by rw [Hln.out]; omega)
        clear hbm hbz1
        by_cases hc0 : c.code = 0
        · have hz0 := failS_zero (x := z) (c := bm) (e := 4) (by decide) (by rw [Hc2.out]; exact hc0)
          have hbf := Hbm.out
          rw [hz0.1] at hbf
          have hroom : ln + t ≤ many := by have := of_decide_eq_false hbf; omega
          have Hrow2 : Hid (rowS s.data.toList ns many g (out ++ List.replicate t v) c = (fx, fl)) := Lib.hid (by
            have h1 := Hrow.out
            rw [Hnext.out, if_neg (by simp [hc0])] at h1
            exact h1)
          have Hat : Hid (c.at' ≤ 8 * s.size ∧ y.at' < c.at') := Lib.hid (by
            rw [Fc.out.1]
            have h1 := Fa.out.2 (Ft.out.2.2.2 hz0.2.1)
            exact ⟨Ft.out.2.1, by have := Ft.out.1; omega⟩)
          have Hc0 := Lib.hid hc0
          clear hz0 hbf hc0
          go_wp2_with fail
          go_loopg [10, 15] t (fun gi s10 s15 wx => ∃ j : Nat, j + gi = t ∧ s15 = .int .i64 (j : Int) ∧ Aside (StCell wx w.heap.size s vb vo most c) ∧ Aside (RowKeep w Bo gc ns (out ++ List.replicate j v) s10 wx))
          case atStart => exact ⟨0, by omega, rfl, Hs7.out, by rw [List.replicate_zero, List.append_nil]; exact HK7.out⟩
          case round =>
            obtain ⟨j, hjg, rfl, HS, HK⟩ := hrel
            have k5 : wr.cell? ⟨w.heap.size, 5, none⟩ = some (.int .i64 0) := by rw [← Hc0.out]; exact HS.out.code
            cases gk with
            | zero =>
              obtain rfl : j = t := by omega
              clear hjg
              go_wp2_with fail
              go_roundg g
              case measure => omega
              case rel => exact ⟨c, _, ⟨HS.out, HK.out.1, HK.out.2.1, HK.out.2.2.1, Hrow2.out⟩, ⟨Hat.out.1, fun _ => by have := HY.out.2.1 Hy0.out; have := Hat.out.2; omega, by rw [List.length_append, List.length_replicate, Hln.out]; exact hroom⟩, HK.out.2.2.2⟩
            | succ gi =>
              have hjz : (j : Int) < (t : Int) := by omega
              have hlen : Hid ((asZ (out ++ List.replicate j v)).length ≤ 1000) := Lib.hid (by rw [asZ_length, List.length_append, List.length_replicate, Hln.out]; omega)
              have Hwr : Hid (Bo ≤ wr.heap.size) := Lib.hid (by
                obtain ⟨g', cap', hv', hlt, _⟩ := HK.out.2.2.1.at
                have := (HK.out.2.2.1.1.lt g' (by rw [hv']; rfl)).1
                omega)
              have Hown := Lib.hid (show Own64 wr Bo _ (asZ (out ++ List.replicate j v)) from HK.out.2.2.1)
              go_wp2_with (at_builtin; refine wpList_append64 rfl (.tmp 100) (.tmp 102) rfl Bo _ (asZ (out ++ List.replicate j v)) rfl (Hown.out.alloc _) ⟨wr.heap.size, 0, none⟩ 1 [(v : Int)] rfl (cells_newZ _ _) (by simp) (by simp; have := hlen.out; omega) wr ((Below.refl _ wr).alloc (by have := Hwr.out; omega) _) (by have := Hwr.out; simp; omega) ?_; intro v3 w3 Ho3 Hb3 _)
              go_roundg gi
              case measure => omega
              case rel => exact ⟨j + 1, by omega, by go_num, (Hb3.out.block _ (by omega)).trans HS.out, by rw [List.replicate_succ', ← List.append_assoc]; exact HK.out.append hgo hB2 Hb3.out Ho3.out⟩
        · have hz0 : (c.code == 0) = false := by simpa using hc0
          have Hrow2 : Hid (c = fx ∧ out = fl) := Lib.hid (by
            have h1 := Hrow.out
            rw [Hnext.out, if_pos hc0] at h1
            exact Prod.mk.inj h1)
          have Hat : Hid (c.at' ≤ 8 * s.size) := Lib.hid (by rw [Fc.out.1]; exact Ft.out.2.1)
          have Hc0 := Lib.hid hc0
          have k5 := Hs7.out.code
          clear hc0
          go_wp2_with fail
          go_loopg [10, 15] 0 (fun gi s10 s15 wx => s10 = .slice (some ⟨g3, 0, none⟩) ln cap3 ∧ s15 = .int .i64 0 ∧ w7 = wx)
          case atStart => exact ⟨rfl, rfl, rfl⟩
          case round =>
            obtain ⟨rfl, rfl, rfl⟩ := hrel
            by_cases h0t : (0 : Int) < (t : Int)
            all_goals
              go_wp2_with fail
              go_roundg g
              case measure => omega
              case rel => exact ⟨c, out, ⟨Hs7.out, HK7.out.1, HK7.out.2.1, HK7.out.2.2.1, by rw [rowS_stop Hc0.out, Hrow2.out.1, Hrow2.out.2]⟩, ⟨Hat.out, fun h => absurd h Hc0.out, Hmany.out⟩, HK7.out.2.2.2⟩
end
end Go.Proofs.YtnelbahohkjcnaaGreatDoor
/-
  What coded reads beside the row that grows.
-/
namespace Go.Proofs.YtnelbahohkjcnaaGreatDoor
section
open Go.RowKit
def Reads (w : World) (v : Value) (B0 : Nat) (a : Option Addr) (l : List Int) : Prop :=
  l = [] ∨ ∃ b off, a = some ⟨b, off, none⟩ ∧ b < w.heap.size ∧ v.ownBlock ≠ some b ∧ b ≠ B0 ∧ ∀ i, i < l.length → w.cell? ⟨b, off + i, none⟩ = some (.int .i64 (l[i]?.getD 0))
theorem Reads.nums {w : World} {v : Value} {B0 : Nat} {a : Option Addr} {l : List Int} (h : Reads w v B0 a l) : Nums w a l := by
  rcases h with h | ⟨b, off, h1, _, _, _, h5⟩
  · exact .inl h
  · exact .inr ⟨b, off, h1, h5⟩
theorem Reads.next {w w' : World} {v v' : Value} {B0 : Nat} {a : Option Addr} {l : List Int} (h : Reads w v B0 a l) (hs : w.heap.size ≤ w'.heap.size) (hk : ∀ b, b < w.heap.size → v.ownBlock ≠ some b → b ≠ B0 → w'.heap[b]? = w.heap[b]?) (hv : ∀ k, v'.ownBlock = some k → v.ownBlock = some k ∨ w.heap.size ≤ k) : Reads w' v' B0 a l := by
  rcases h with h | ⟨b, off, h1, h2, h3, h4, h5⟩
  · exact .inl h
  · refine .inr ⟨b, off, h1, by omega, ?_, h4, fun i hi => (World.cell?_of_block (w := w) (hk b h2 h3 h4)).trans (h5 i hi)⟩
    intro e
    rcases hv b e with h6 | h6
    · exact h3 h6
    · omega
theorem Reads.bits {w : World} {v : Value} {B0 g : Nat} {row : List Nat} (h : BitsAt w g row) (hv : v.ownBlock ≠ some g) (hB : g ≠ B0) : Reads w v B0 (some ⟨g, 0, none⟩) (asZ row) := by
  rcases h.nums with h1 | ⟨b, off, h1, h2⟩
  · exact .inl h1
  · injection h1 with h1
    injection h1 with e1 e2
    subst e1 e2
    exact .inr ⟨g, 0, rfl, h.1, hv, hB, h2⟩
def Keep5 (w : World) (v : Value) (B0 : Nat) (p1 p2 p3 p4 pb : Option Addr) (l1 l2 l3 l4 lb : List Int) : Prop :=
  Reads w v B0 p1 l1 ∧ Reads w v B0 p2 l2 ∧ Reads w v B0 p3 l3 ∧ Reads w v B0 p4 l4 ∧ Reads w v B0 pb lb
theorem Keep5.next {w w' : World} {v v' : Value} {B0 : Nat} {p1 p2 p3 p4 pb : Option Addr} {l1 l2 l3 l4 lb : List Int} (h : Keep5 w v B0 p1 p2 p3 p4 pb l1 l2 l3 l4 lb) (hs : w.heap.size ≤ w'.heap.size) (hk : ∀ b, b < w.heap.size → v.ownBlock ≠ some b → b ≠ B0 → w'.heap[b]? = w.heap[b]?) (hv : ∀ k, v'.ownBlock = some k → v.ownBlock = some k ∨ w.heap.size ≤ k) : Keep5 w' v' B0 p1 p2 p3 p4 pb l1 l2 l3 l4 lb :=
  ⟨h.1.next hs hk hv, h.2.1.next hs hk hv, h.2.2.1.next hs hk hv, h.2.2.2.1.next hs hk hv, h.2.2.2.2.next hs hk hv⟩
theorem Keep5.later {w w' : World} {v : Value} {B0 : Nat} {p1 p2 p3 p4 pb : Option Addr} {l1 l2 l3 l4 lb : List Int} (h : Keep5 w v B0 p1 p2 p3 p4 pb l1 l2 l3 l4 lb) (hb : Below w.heap.size w w') : Keep5 w' v B0 p1 p2 p3 p4 pb l1 l2 l3 l4 lb :=
  h.next hb.size (fun b h1 _ _ => hb.block b h1) fun _ hk => .inl hk
theorem Keep5.store {w w' : World} {v : Value} {B0 : Nat} {p1 p2 p3 p4 pb : Option Addr} {l1 l2 l3 l4 lb : List Int} (h : Keep5 w v B0 p1 p2 p3 p4 pb l1 l2 l3 l4 lb) (hs : w.heap.size ≤ w'.heap.size) (ho : ∀ k, k ≠ B0 → w'.heap[k]? = w.heap[k]?) : Keep5 w' v B0 p1 p2 p3 p4 pb l1 l2 l3 l4 lb :=
  h.next hs (fun b _ _ h1 => ho b h1) fun _ hk => .inl hk
theorem Keep5.touch {w w' : World} {v v' : Value} {B0 : Nat} {p1 p2 p3 p4 pb : Option Addr} {l1 l2 l3 l4 lb : List Int} (h : Keep5 w v B0 p1 p2 p3 p4 pb l1 l2 l3 l4 lb) (ht : Touches v.ownBlock.toList v'.ownBlock.toList w w') : Keep5 w' v' B0 p1 p2 p3 p4 pb l1 l2 l3 l4 lb :=
  h.next ht.size (fun b h1 h2 _ => ht.2.2.2.2.1 b h1 fun hm => h2 (by simpa using hm)) fun k hk => by
    rcases ht.2.2.2.2.2 k (by simp [hk]) with h1 | h1
    · exact .inl (by simpa using h1)
    · exact .inr h1
theorem codedS_stop {l : List UInt8} {lit dist : List Nat} {M f : Nat} {y b c : St} {n : Nat} (h0 : y.code = 0) (h1 : symS l y lit = (b, n)) (h2 : failS b (decide (285 < n)) 4 = c) (h3 : c.code ≠ 0 ∨ n = 256) : codedS l lit dist M (f + 1) y = c := by
  conv => lhs; unfold codedS
  rw [if_neg (by simp [h0])]
  simp only
  rw [h1]
  simp only
  rw [h2, if_pos h3]
theorem codedS_byte {l : List UInt8} {lit dist : List Nat} {M f : Nat} {y b c d : St} {n : Nat} (h0 : y.code = 0) (h1 : symS l y lit = (b, n)) (h2 : failS b (decide (285 < n)) 4 = c) (h3 : c.code = 0) (h4 : n < 256) (h5 : failS ⟨c.at', c.out ++ [UInt8.ofNat n], c.code⟩ (decide (M < c.out.length + 1)) 7 = d) : codedS l lit dist M (f + 1) y = codedS l lit dist M f d := by
  conv => lhs; unfold codedS
  rw [if_neg (by simp [h0])]
  simp only
  rw [h1]
  simp only
  rw [h2, if_neg (by simp [h3]; omega), if_pos h4, h5]
theorem codedS_copy {l : List UInt8} {lit dist : List Nat} {M f : Nat} {y b c d : St} {n k : Nat} (h0 : y.code = 0) (h1 : symS l y lit = (b, n)) (h2 : failS b (decide (285 < n)) 4 = c) (h3 : c.code = 0) (h4 : n = k + 257) (h5 : copiedS l dist M k c = d) : codedS l lit dist M (f + 1) y = codedS l lit dist M f d := by
  subst h4
  conv => lhs; unfold codedS
  rw [if_neg (by simp [h0])]
  simp only
  rw [h1]
  simp only
  rw [h2, if_neg (by rintro (h | h) <;> omega), if_neg (by omega), Nat.add_sub_cancel, h5]
theorem copyS_code {f : St} {d n : Nat} (h : (copyS f d n).code = 0) : f.code = 0 ∧ (copyS f d n).out = copyB d n f.out := by
  unfold copyS at h ⊢
  by_cases h0 : f.code = 0
  · rw [if_pos h0]; exact ⟨h0, rfl⟩
  · rw [if_neg h0] at h; exact absurd h h0
theorem copiedS_room {l : List UInt8} {dist : List Nat} {M k : Nat} {x : St} (h : (copiedS l dist M k x).code = 0) : (copiedS l dist M k x).out.length ≤ M := by
  unfold copiedS at h ⊢
  simp only at h ⊢
  generalize (if k = 28 then 0 else extraN k 8 4) = wd at h ⊢
  split at h
  · rename_i h1; exact absurd h h1
  · rename_i h1
    rw [if_neg h1]
    obtain ⟨h2, h3⟩ := copyS_code h
    have h4 := failS_zero (e := 7) (by decide) h2
    rw [h3, copyB_length, h4.2.2]
    have := of_decide_eq_false h4.1
    omega
theorem copiedS_good {l : List UInt8} {dist : List Nat} {M k : Nat} {x : St} (hk : k ≤ 28) (h0 : x.code = 0) (hp : x.at' ≤ 8 * l.length) (h : (copiedS l dist M k x).code = 0) : x.at' ≤ (copiedS l dist M k x).at' ∧ (copiedS l dist M k x).at' ≤ 8 * l.length := by
  have T := copiedS_tells (l := l) (dist := dist) (M := M) hk h0
  cases hr : copiedP dist M k x.out l x.at' with
  | error e => rw [hr] at T; exact absurd (T.1.symm.trans h) T.2
  | ok r =>
    obtain ⟨o, tt⟩ := r
    rw [hr] at T
    have := (Lefty.copied dist M k x.out).le hr hp
    rw [T.2.2]
    exact this
theorem Work.handed {w0 W w1 w2 : World} {F : List Nat} {s : ByteArray} {vb vo v2 : Value} {most : Nat} {y d : St} (h : Work w0 W F s vb vo most y) (ht : Touches vo.ownBlock.toList v2.ownBlock.toList W w1) (hr : Row8 w1 v2 d.out) (h1 : StCell w2 w0.heap.size s vb v2 most d) (hb : Below w0.heap.size w1 w2) (ho : ∀ k, k ≠ w0.heap.size → w2.heap[k]? = w1.heap[k]?) : Work w0 w2 F s vb v2 most d := by
  have l1 := h.1.lt
  have l2 := h.2.1.lt
  have hne : ∀ k, v2.ownBlock = some k → k ≠ w0.heap.size ∧ k ≠ w0.heap.size + 1 := fun k hk => by
    rcases ht.2.2.2.2.2 k (by simp [hk]) with e | e
    · exact h.2.2.2.2 k (by simpa using e)
    · omega
  refine ⟨h1, ?_, hr.move fun k hk => ho k (hne k hk).1, ?_, hne⟩
  · exact (ho _ (by omega)).trans ((ht.2.2.2.2.1 _ l2 fun hm => (h.2.2.2.2 _ (by simpa using hm)).2 rfl).trans h.2.1)
  · have t1 := h.2.2.2.1.trans ht
    exact ⟨hb.os.trans t1.1, hb.tape.trans t1.2.1, hb.output.trans t1.2.2.1, Nat.le_trans t1.size hb.size, fun k hk hF => (hb.block k hk).trans (t1.2.2.2.2.1 k hk hF), t1.2.2.2.2.2⟩
theorem Work.still {w0 W w1 : World} {F : List Nat} {s : ByteArray} {vb vo v2 : Value} {most : Nat} {y : St} (h : Work w0 W F s vb vo most y) (ht : Touches vo.ownBlock.toList v2.ownBlock.toList W w1) : StCell w1 w0.heap.size s vb vo most y :=
  (ht.2.2.2.2.1 _ h.1.lt fun hm => (h.2.2.2.2 _ (by simpa using hm)).1 rfl).trans h.1
end
end Go.Proofs.YtnelbahohkjcnaaGreatDoor
/-
  The contract of the document's coded.
-/
namespace Go.Proofs.YtnelbahohkjcnaaGreatDoor
section
open Go.RowKit
theorem wpList_append_row8 {ops : Array Oper} {rest : List Oper} {o : Oper} {a : Act} {w : World} {Q : Exit → Act → World → Prop} (hgd : o.guard = none) (s x : Operand)
    (ho : o.op = .call { callee := .builtin .append, args := #[s, x], argTypes := #[57, 57] })
    (v : Value) (l : List UInt8) (hs : a.eval s = v) (hown : Row8 w v l)
    (ad : Addr) (c : Nat) (x8 : UInt8) (hx : a.eval x = .slice (some ad) 1 c) (hnews : ∀ j (h : j < [x8].length), w.cell? (ad.add j) = some (.int .u8 ([x8][j].toNat : Int)))
    (hlen : l.length + 1 ≤ 140737488355328) (H : Nat) (hH : w.heap.size = H)
    (h : ∀ v' w', Hid (Row8 w' v' (l ++ [x8])) → Hid (w.grownBy w' v.ownBlock) → Hid (∀ k, v'.ownBlock = some k → v.ownBlock = some k ∨ k = H) → (∃ g cap, v' = .slice (some ⟨g, 0, none⟩) (l.length + 1) cap) → wpList Tryz.prog ops Q rest (a.put o.dst v') w') : wpList Tryz.prog ops Q (o :: rest) a w := by
  refine wpList_plain hgd fun K hK => ?_
  have hw : Region.wanted o (yielded ops a.tmps) = true := by simp [Region.wanted, hgd]
  have := step_append_row8 (ops := ops) (K := K) (Q := Q) (E := True) hgd s x ho v l hs hown ad c x8 hx hnews hlen H hH (fun v' w' h1 h2 h3 h4 => hK _ _ (h v' w' h1 h2 h3 h4))
  rwa [if_pos hw] at this
set_option maxRecDepth 100000 in
set_option maxHeartbeats 4000000 in
theorem rCoded_any (s : ByteArray) (pb : Option Addr) (cb : Nat) (vo : Value) (most : Nat) (x : St) (p1 p2 : Option Addr) (c1 c2 n1 n2 nb : Nat) (lit dist : List Nat) (w : World) (ho1 : vo.oneCell' = true) (hp : x.at' ≤ 8 * s.size) (hs : s.size ≤ 100000)
    (hM : most ≤ 100000) (hol : x.out.length ≤ 100000) (hrow : Row8 w vo x.out) (he1 : refusedZ (intsOf lit) = 0) (he2 : refusedZ (intsOf dist) = 0) (hn1 : n1 = lit.length) (hn2 : n2 = dist.length) (hnb : nb = 8 * s.size)
    (hq1 : Reads w vo w.heap.size p1 (intsOf lit)) (hq2 : Reads w vo w.heap.size p2 (intsOf dist)) (hq3 : Reads w vo w.heap.size pb (asZ (bitsOf s.data.toList))) :
    Calls Tryz.prog 99 #[.agg (stV s (.slice pb nb cb) vo most x), .slice p1 n1 c1, .slice p2 n2 c2] w (Handed10 w vo.ownBlock.toList s (.slice pb nb cb) most (codedS s.data.toList lit dist most FUEL x)) := by
  have hsz : s.data.toList.length = s.size := by rw [← size_data]
  have Hsz := Lib.hid hsz
  obtain ⟨hl1, h151⟩ := refused_facts he1
  obtain ⟨hl2, h152⟩ := refused_facts he2
  obtain ⟨F, hF⟩ : ∃ F, FUEL = F := ⟨_, rfl⟩
  have hF8 : 8 * s.size + 1 ≤ F := by rw [← hF]; unfold FUEL; omega
  have HF8 := Lib.hid hF8
  rw [hF]
  obtain ⟨fin, hfin⟩ : ∃ fin, codedS s.data.toList lit dist most F x = fin := ⟨_, rfl⟩
  have Hfin := Lib.hid hfin
  rw [hfin]
  have Hcode1 := Lib.hid (fun W (hb : Below w.heap.size w W) => rCodesN_any p1 c1 n1 lit W hn1 (hq1.nums.later hb) he1)
  have Hcode2 := Lib.hid (fun W (hb : Below w.heap.size w W) => rCodesN_any p2 c2 n2 dist W hn2 (hq2.nums.later hb) he2)
  have hsym : ∀ (y : St) (v : Value) (W : World) (g2 k2 : Nat), v.oneCell' = true → y.at' ≤ 8 * s.size → Nums W p1 (intsOf lit) → Nums W (some ⟨g2, 0, none⟩) (asZ (codesN lit)) → Nums W pb (asZ (bitsOf s.data.toList)) → _ := fun y v W g2 k2 hv hy h1 h2 h3 => rSymS_any s pb cb v most y p1 (some ⟨g2, 0, none⟩) c1 k2 n1 n1 nb lit W hv hy hs (by omega) h151 hn1 hn1 hnb h1 h2 h3
  have Hsym := Lib.hid hsym
  have hcop : ∀ (y : St) (v : Value) (k : Nat) (W : World) (g2 k2 : Nat), v.oneCell' = true → y.at' ≤ 8 * s.size → k ≤ 28 → y.out.length ≤ 100000 → Row8 W v y.out → Nums W p2 (intsOf dist) → Nums W (some ⟨g2, 0, none⟩) (asZ (codesN dist)) → Nums W pb (asZ (bitsOf s.data.toList)) → _ := fun y v k W g2 k2 hv hy hk ho hr h1 h2 h3 => rCopied_any s pb cb v most k y p2 (some ⟨g2, 0, none⟩) c2 k2 n2 n2 nb dist W hv hy hs hk (by omega) hr (by omega) h152 hn2 hn2 hnb h1 h2 h3
  have Hcop := Lib.hid hcop
  obtain ⟨vb, hvb⟩ : ∃ vb, Value.slice pb nb cb = vb := ⟨_, rfl⟩
  have hb1 : vb.oneCell' = true := by rw [← hvb]; rfl
  rw [hvb] at Hsym Hcop
  rw [hvb]
  have HWk := Lib.hid (Work.begun (s := s) (vb := vb) (most := most) hrow)
  have Hlt := Lib.hid hrow.lt
  have HQ := Lib.hid (And.intro hq1 (And.intro hq2 hq3))
  obtain ⟨W, hW, H1, H2, HB⟩ := boxes_is w s vb vo most x
  rw [hW] at HWk
  unfold boxes at hW
  have Hw2 : Hid (w.heap.size + 1 < W.heap.size) := Lib.hid H2.out.lt
  have HcW := Lib.hid (Hcode1.out W HB.out)
  obtain ⟨Post, hPost⟩ : ∃ Post, Handed10 w vo.ownBlock.toList s vb most fin = Post := ⟨_, rfl⟩
  rw [hPost]
  have HPost := Lib.hid hPost
  clear hsym hcop hsz hvb hq1 hq2 hq3 hn1 hn2 hnb h151 h152 hl1 hl2 he1 he2 hfin hF8 hF Hcode1 hPost hrow
  go_enter Tryz.func99, Tryz.ntmps99
  go_wp2_with fail
  refine HcW.out.mono ?_
  rintro e w1 ⟨g1, k1, rfl, hG1, hb1', hg1⟩
  have HB1 : Hid (Below w.heap.size w w1) := Lib.hid (HB.out.trans (hb1'.mono HB.out.size))
  have HW1 := Lib.hid (HWk.out.call hb1')
  have HG1 := Lib.hid hG1
  have Hg1 : Hid (w.heap.size + 1 < g1) := Lib.hid (by have := Hw2.out; omega)
  have Hc2 := Lib.hid (Hcode2.out w1 HB1.out)
  have Hw1 : Hid (w.heap.size + 1 < w1.heap.size) := Lib.hid (by have := Hw2.out; have := hb1'.size; omega)
  clear hG1 hb1' hg1 HcW Hcode2
  go_wp2_with fail
  refine Hc2.out.mono ?_
  rintro e w2 ⟨g2, k2, rfl, hG2, hb2', hg2⟩
  have HB2 : Hid (Below w.heap.size w w2) := Lib.hid (HB1.out.trans (hb2'.mono HB1.out.size))
  have HW2 := Lib.hid (HW1.out.call hb2')
  have HK2 : Hid (Keep5 w2 vo w.heap.size p1 p2 (some ⟨g1, 0, none⟩) (some ⟨g2, 0, none⟩) pb (intsOf lit) (intsOf dist) (asZ (codesN lit)) (asZ (codesN dist)) (asZ (bitsOf s.data.toList))) := Lib.hid (by
    have hk : ∀ b, b < w.heap.size → vo.ownBlock ≠ some b → b ≠ w.heap.size → w2.heap[b]? = w.heap[b]? := fun b h _ _ => HB2.out.block b h
    have hv : ∀ k, vo.ownBlock = some k → vo.ownBlock = some k ∨ w.heap.size ≤ k := fun k h => .inl h
    have h1 := Hg1.out
    have h2 := Hw1.out
    exact ⟨HQ.out.1.next HB2.out.size hk hv, HQ.out.2.1.next HB2.out.size hk hv, Reads.bits (HG1.out.later hb2') (fun e => by have := Hlt.out _ e; omega) (by omega), Reads.bits hG2 (fun e => by have := Hlt.out _ e; omega) (by omega), HQ.out.2.2.next HB2.out.size hk hv⟩)
  clear hG2 hb2' hg2 Hc2
  go_wp2_with fail
  go_loopg [11, 12] F (fun g s11 s12 wx => ∃ (y : St) (v : Value), v.oneCell' = true ∧ Aside (Work w wx vo.ownBlock.toList s vb v most y) ∧ Aside (Keep5 wx v w.heap.size p1 p2 (some ⟨g1, 0, none⟩) (some ⟨g2, 0, none⟩) pb (intsOf lit) (intsOf dist) (asZ (codesN lit)) (asZ (codesN dist)) (asZ (bitsOf s.data.toList))) ∧ Aside (codedS s.data.toList lit dist most g y = fin) ∧ Aside (y.code = 0 → y.at' ≤ 8 * s.size ∧ 8 * s.size + 1 ≤ g + y.at' ∧ y.out.length ≤ 100000))
  case atStart => exact ⟨x, vo, ho1, HW2.out, HK2.out, Hfin.out, fun _ => ⟨hp, by have := HF8.out; omega, hol⟩⟩
  case round =>
    obtain ⟨y, v, hv1, HW, HK, Hy, HY⟩ := hrel
    have D1 := Lib.hid HW.out.1
    have D2 := Lib.hid HW.out.2.1
    have k5 := D1.out.code
    by_cases h0 : y.code = 0
    · obtain ⟨hy1, hy2, hy3⟩ := HY.out h0
      obtain ⟨g, rfl⟩ : ∃ f, gk = f + 1 := ⟨gk - 1, by omega⟩
      obtain ⟨yb, n, hb⟩ : ∃ yb n, symS s.data.toList y lit = (yb, n) := ⟨_, _, rfl⟩
      have fb := symS_facts (l := s.data.toList) (x := y) (ns := lit) (by rw [Hsz.out]; exact hy1)
      have fm : yb.code = 0 → y.at' < yb.at' := by
        have h1 := symS_more (l := s.data.toList) (ns := lit) h0
        rw [hb] at h1; exact h1
      rw [hb, Hsz.out] at fb
      have Hsy := Lib.hid (Hsym.out y v wr g1 k1 hv1 hy1 HK.out.1.nums HK.out.2.2.1.nums HK.out.2.2.2.2.nums)
      rw [hb] at Hsy
      obtain ⟨bd, hbd⟩ : ∃ bd, decide (285 < n) = bd := ⟨_, rfl⟩
      have hbz : decide ((285 : Int) < (n : Int)) = bd := by rw [← hbd, decide_eq_decide]; omega
      obtain ⟨c, hc⟩ : ∃ c, failS yb bd 4 = c := ⟨_, rfl⟩
      have fc := failS_facts yb bd 4
      rw [hc] at fc
      have Hfc := Lib.hid (fun W => rFail_any s vb v most yb bd 4 W hb1 hv1)
      rw [hc] at Hfc
      have Fc : Hid (c.at' ≤ 8 * s.size ∧ c.out = y.out ∧ yb.out = y.out ∧ c.out = yb.out ∧ (c.code = 0 → y.at' < c.at' ∧ n ≤ 285)) := Lib.hid ⟨by rw [fc.1]; exact fb.1, fc.2.trans fb.2, fb.2, fc.2, fun h => by
        have h1 := failS_zero (x := yb) (c := bd) (e := 4) (by decide) (by rw [hc]; exact h)
        refine ⟨by rw [fc.1]; exact fm h1.2.1, ?_⟩
        rw [h1.1] at hbd
        have := of_decide_eq_false hbd
        omega⟩
      have HYf := Lib.hid (And.intro hy1 (And.intro hy2 hy3))
      have Hb := Lib.hid hb
      have Hbd := Lib.hid hbd
      have Hc := Lib.hid hc
      have H0 := Lib.hid h0
      have k50 : wr.cell? ⟨w.heap.size, 5, none⟩ = some (.int .i64 0) := by rw [k5, h0]
      clear hb fb fm hc fc h0 k5 hy1 hy2 hy3 hbd
      go_wp2_with (with_reducible first
        | refine StCell.load rfl (.tmp 3) rfl w.heap.size _ _ _ _ _ rfl D1.out ?_)
      refine Hsy.out.mono ?_
      rintro e w3 ⟨rfl, hb3⟩
      have HW3 := Lib.hid (HW.out.call hb3)
      have HK3 := Lib.hid (HK.out.later hb3)
      have Ea := Lib.hid (zero_new w3)
      have Ba : Hid (Below w3.heap.size w3 (w3.alloc (.cells #[.string ⟨#[]⟩, .slice none 0 0, .int .i64 0, .slice none 0 0, .int .i64 0, .int .i64 0] 114))) := Lib.hid ((Below.refl _ _).alloc (Nat.le_refl _) _)
      clear hb3 Hsy k50
      go_upto_region 5 with (with_reducible first
        | (refine StCell.store rfl rfl (.tmp 11) (.tmp 31) rfl w3.heap.size _ _ _ _ _ _ _ _ _ _ hb1 hv1 rfl rfl Ea.out w3.heap.size w3 Ba.out (Nat.le_refl _) ?_; intro w4 Hs4 Hb4 Ho4))
      have HW4 := Lib.hid (HW3.out.call Hb4.out)
      have HK4 := Lib.hid (HK3.out.later Hb4.out)
      go_wp2_with (with_reducible first
        | refine StCell.load rfl (.tmp 11) rfl w3.heap.size _ _ _ _ _ rfl Hs4.out ?_)
      refine (Hfc.out _).mono ?_
      rintro e w5 ⟨rfl, hb5⟩
      have HW5 := Lib.hid (HW4.out.call hb5)
      have HK5 := Lib.hid (HK4.out.later hb5)
      have D5 := Lib.hid HW5.out.1
      clear hb5 Hfc
      go_upto_region 6 with (with_reducible first
        | (refine StCell.store rfl rfl (.tmp 3) (.tmp 36) rfl w.heap.size _ _ _ _ _ _ _ _ _ _ hb1 hv1 rfl rfl D5.out w.heap.size w5 (Below.refl _ _) (Nat.le_refl _) ?_; intro w6 Hs6 Hb6 Ho6))
      have HW6 := Lib.hid (HW5.out.store Fc.out.2.1 Hs6.out Hb6.out Ho6.out)
      have HK6 := Lib.hid (HK5.out.store Hb6.out.size Ho6.out)
      have D6 := Lib.hid HW6.out.2.1
      have k6 := Hs6.out.code
      clear D1 D2 HW HK HW3 HK3 Ea Ba Hs4 Hb4 Ho4 HW4 HK4 HW5 HK5 D5
      have hcase : (c.code ≠ 0 ∨ n = 256) ∨ (c.code = 0 ∧ n < 256) ∨ (c.code = 0 ∧ ∃ k, n = k + 257) := by
        by_cases h1 : c.code = 0
        · have h2 : n = 256 ∨ n < 256 ∨ 256 < n := by omega
          rcases h2 with h2 | h2 | h2
          · exact .inl (.inr h2)
          · exact .inr (.inl ⟨h1, h2⟩)
          · exact .inr (.inr ⟨h1, n - 257, by omega⟩)
        · exact .inl (.inl h1)
      rcases hcase with hstop | ⟨hc0, hn⟩ | ⟨hc0, k, hk⟩
      · have Hr : Hid (c = fin) := Lib.hid (by rw [← Hy.out, codedS_stop H0.out Hb.out (by rw [Hbd.out]; exact Hc.out) hstop])
        have hcase2 : (c.code != 0) = true ∨ ((c.code != 0) = false ∧ ((n : Int) == 256) = true) := by
          by_cases h1 : c.code = 0
          · rcases hstop with h2 | h2
            · exact absurd h1 h2
            · exact .inr ⟨by simpa using h1, by rw [h2]; rfl⟩
          · exact .inl (by simpa using h1)
        clear hstop
        rcases hcase2 with h1 | ⟨h1, h2⟩
        all_goals
          go_wp2_with (with_reducible first
            | refine StCell.load rfl (.tmp 3) rfl w.heap.size _ _ _ _ _ rfl Hs6.out ?_
            | (refine StCell.store rfl rfl (.tmp 6) (.tmp 44) rfl (w.heap.size + 1) _ _ _ _ _ _ _ _ _ _ hb1 hv1 rfl rfl D6.out w.heap.size w6 (Below.refl _ _) (by omega) ?_; intro w9 Hs9 Hb9 Ho9))
          exact bodyPost_ret (results_st rfl _ _ (w.heap.size + 1) _ _ _ _ _ rfl Hs9.out) rfl (by rw [← HPost.out, ← Hr.out]; exact HW6.out.done hv1 Hb9.out Ho9.out)
      · have h1 : (c.code != 0) = false := by simpa using hc0
        have h2 : ((n : Int) == 256) = false := by rw [beq_eq_false_iff_ne]; omega
        have h3 : (n : Int) < 256 := by omega
        have hnw : IntKind.u8.wrap (n : Int) = (n : Int) := IntWalk.u8_in _ (by omega)
        have hnz : (n : Int) = ((UInt8.ofNat n).toNat : Int) := by rw [UInt8.toNat_ofNat', Nat.mod_eq_of_lt hn]
        have Hnz := Lib.hid hnz
        have HW6e : Hid (Work w w6 vo.ownBlock.toList s vb v most ⟨c.at', c.out, c.code⟩) := Lib.hid HW6.out
        have R6 := Lib.hid HW6.out.2.2.1
        obtain ⟨ln, hln⟩ : ∃ ln, c.out.length = ln := ⟨_, rfl⟩
        have hlen8 : c.out.length + 1 ≤ 140737488355328 := by rw [Fc.out.2.1]; have := HYf.out.2.2; omega
        have k3 := Hs6.out.out
        obtain ⟨bm, hbm⟩ : ∃ bm, decide (most < ln + 1) = bm := ⟨_, rfl⟩
        have hbm1 : decide ((most : Int) < (ln : Int) + 1) = bm := by rw [← hbm, decide_eq_decide]; omega
        obtain ⟨d, hd⟩ : ∃ d, failS ⟨c.at', c.out ++ [UInt8.ofNat n], c.code⟩ bm 7 = d := ⟨_, rfl⟩
        have Hnx : Hid (codedS s.data.toList lit dist most g d = fin) := Lib.hid (by rw [← Hy.out, codedS_byte (d := d) H0.out Hb.out (by rw [Hbd.out]; exact Hc.out) hc0 hn (by rw [hln, hbm]; exact hd)])
        have Hgood : Hid (d.code = 0 → d.at' ≤ 8 * s.size ∧ 8 * s.size + 1 ≤ g + d.at' ∧ d.out.length ≤ 100000) := Lib.hid fun hd0 => by
          have f1 := failS_zero (x := ⟨c.at', c.out ++ [UInt8.ofNat n], c.code⟩) (c := bm) (e := 7) (by decide) (by rw [hd]; exact hd0)
          have e1 : d = ⟨c.at', c.out ++ [UInt8.ofNat n], c.code⟩ := hd.symm.trans f1.2.2
          have e2 := f1.1
          rw [← hbm] at e2
          have e3 := of_decide_eq_false e2
          have := (Fc.out.2.2.2.2 hc0).1
          have := HYf.out.2.1
          rw [e1]
          refine ⟨Fc.out.1, by show _ ≤ g + c.at'; omega, ?_⟩
          show (c.out ++ [UInt8.ofNat n]).length ≤ 100000
          rw [List.length_append, hln, List.length_singleton]; omega
        have Hlen8 := Lib.hid hlen8
        have Hln := Lib.hid hln
        have fd := failS_facts ⟨c.at', c.out ++ [UInt8.ofNat n], c.code⟩ bm 7
        rw [hd] at fd
        have Fd := Lib.hid fd
        have Hfd := Lib.hid (fun (v' : Value) W (hv' : v'.oneCell' = true) => rFail_any s vb v' most ⟨c.at', c.out ++ [UInt8.ofNat n], c.code⟩ bm 7 W hb1 hv')
        rw [hd] at Hfd
        clear hc0 hnz hln hlen8 hd fd hbm
        go_upto_region 10 with (first
          | (at_builtin; refine wpList_append_row8 rfl (.tmp 48) (.tmp 51) rfl _ c.out rfl (R6.out.move fun k hk => Below.heap_alloc _ _ _ (R6.out.lt k hk)) _ _ (UInt8.ofNat n) rfl (cells_new1_y _ rfl _ _ Hnz.out) Hlen8.out _ rfl ?_; intro v9 w9 Hr9 Hg9 Hv9 hf9; rw [Hln.out] at hf9; obtain ⟨g9, cap9, rfl⟩ := hf9; have HW9 := Lib.hid (HW6e.out.append Hr9.out Hg9.out Hv9.out); have c39 := HW6e.out.cell3 Hg9.out; have f39 := HW6e.out.free3 Hg9.out))
        have HK9 : Hid (Keep5 (w9.setCell ⟨w.heap.size, 3, none⟩ (.slice (some ⟨g9, 0, none⟩) (ln + 1) cap9)) (.slice (some ⟨g9, 0, none⟩) (ln + 1) cap9) w.heap.size p1 p2 (some ⟨g1, 0, none⟩) (some ⟨g2, 0, none⟩) pb (intsOf lit) (intsOf dist) (asZ (codesN lit)) (asZ (codesN dist)) (asZ (bitsOf s.data.toList))) := Lib.hid (HK6.out.next (by have := Hg9.out.size; simp [World.setCell] at this ⊢; omega) (fun b hb' hn' hne => by
          rw [heap_setCell_other _ ⟨w.heap.size, 3, none⟩ b _ hne, Hg9.out.block b (by simp; omega) (fun e => hn' e.symm)]
          exact Below.heap_alloc _ _ _ hb') (fun k' hk' => by
          rcases Hv9.out k' hk' with h | h
          · exact .inl h
          · exact .inr (by simp at h; omega)))
        clear c39 f39 k3
        obtain ⟨W9, hW9⟩ : ∃ W9, w9.setCell ⟨w.heap.size, 3, none⟩ (.slice (some ⟨g9, 0, none⟩) (ln + 1) cap9) = W9 := ⟨_, rfl⟩
        rw [hW9] at HW9 HK9
        rw [hW9]
        have C9 := Lib.hid HW9.out.1
        have j3 := C9.out.out
        have j4 := C9.out.most
        clear hW9
        go_wp2_with (with_reducible first
          | refine StCell.load rfl (.tmp 3) rfl w.heap.size _ _ _ _ _ rfl C9.out ?_)
        refine (Hfd.out _ _ rfl).mono ?_
        rintro e w10 ⟨rfl, hb10⟩
        have HW10 := Lib.hid (HW9.out.call hb10)
        have HK10 := Lib.hid (HK9.out.later hb10)
        have C10 := Lib.hid HW10.out.1
        clear hb10 j3 j4
        go_wp2_with (with_reducible first
          | (refine StCell.store rfl rfl (.tmp 3) (.tmp 61) rfl w.heap.size _ _ _ _ _ _ _ _ _ _ hb1 rfl rfl rfl C10.out w.heap.size w10 (Below.refl _ _) (Nat.le_refl _) ?_; intro w11 Hs11 Hb11 Ho11))
        go_roundg g
        case measure => omega
        case rel => exact ⟨d, _, rfl, HW10.out.store Fd.out.2 Hs11.out Hb11.out Ho11.out, HK10.out.store Hb11.out.size Ho11.out, Hnx.out, Hgood.out⟩
      · have h1 : (c.code != 0) = false := by simpa using hc0
        have h2 : ((n : Int) == 256) = false := by rw [beq_eq_false_iff_ne]; omega
        have h3 : ¬ (n : Int) < 256 := by omega
        have hk28 : k ≤ 28 := by have := (Fc.out.2.2.2.2 hc0).2; omega
        have hnk : (n : Int) - 257 = (k : Int) := by omega
        obtain ⟨d, hd⟩ : ∃ d, copiedS s.data.toList dist most k c = d := ⟨_, rfl⟩
        have Hcp := Lib.hid (Hcop.out c v k w6 g2 k2 hv1 Fc.out.1 hk28 (by rw [Fc.out.2.1]; exact HYf.out.2.2) HW6.out.2.2.1 HK6.out.2.1.nums HK6.out.2.2.2.1.nums HK6.out.2.2.2.2.nums)
        rw [hd] at Hcp
        have Hnx : Hid (codedS s.data.toList lit dist most g d = fin) := Lib.hid (by rw [← Hy.out, codedS_copy H0.out Hb.out (by rw [Hbd.out]; exact Hc.out) hc0 hk hd])
        have Hgood : Hid (d.code = 0 → d.at' ≤ 8 * s.size ∧ 8 * s.size + 1 ≤ g + d.at' ∧ d.out.length ≤ 100000) := Lib.hid fun hd0 => by
          have g1' := copiedS_good (l := s.data.toList) (dist := dist) (M := most) hk28 hc0 (by rw [Hsz.out]; exact Fc.out.1) (by rw [hd]; exact hd0)
          have g2' := copiedS_room (l := s.data.toList) (dist := dist) (M := most) (k := k) (x := c) (by rw [hd]; exact hd0)
          rw [hd] at g1' g2'
          rw [Hsz.out] at g1'
          have := (Fc.out.2.2.2.2 hc0).1
          have := HYf.out.2.1
          exact ⟨g1'.2, by omega, by omega⟩
        clear hc0 hk hd
        go_wp2_with (with_reducible first
          | refine StCell.load rfl (.tmp 3) rfl w.heap.size _ _ _ _ _ rfl Hs6.out ?_)
        refine Hcp.out.mono ?_
        rintro e w7 ⟨v2, rfl, hv2, hr2, ht2⟩
        have D7 := Lib.hid (HW6.out.still ht2)
        have HK7 := Lib.hid (HK6.out.touch ht2)
        have Ht2 := Lib.hid ht2
        have Hr2 := Lib.hid hr2
        clear ht2 hr2 Hcp
        go_wp2_with (with_reducible first
          | (refine StCell.store rfl rfl (.tmp 3) (.tmp 67) rfl w.heap.size _ _ _ _ _ _ _ _ _ _ hb1 hv2 rfl rfl D7.out w.heap.size w7 (Below.refl _ _) (Nat.le_refl _) ?_; intro w8 Hs8 Hb8 Ho8))
        go_roundg g
        case measure => omega
        case rel => exact ⟨d, v2, hv2, HW6.out.handed Ht2.out Hr2.out Hs8.out Hb8.out Ho8.out, HK7.out.store Hb8.out.size Ho8.out, Hnx.out, Hgood.out⟩
    · have hz : (y.code == 0) = false := by simpa using h0
      have Hr : Hid (y = fin) := Lib.hid (by rw [← Hy.out, codedS_bad h0])
      clear h0
      go_wp2_with (with_reducible first
        | refine StCell.load rfl (.tmp 3) rfl w.heap.size _ _ _ _ _ rfl D1.out ?_
        | (refine StCell.store rfl rfl (.tmp 6) (.tmp 68) rfl (w.heap.size + 1) _ _ _ _ _ _ _ _ _ _ hb1 hv1 rfl rfl D2.out w.heap.size wr (Below.refl _ _) (by omega) ?_; intro w9 Hs9 Hb9 Ho9))
      exact bodyPost_ret (results_st rfl _ _ (w.heap.size + 1) _ _ _ _ _ rfl Hs9.out) rfl (by rw [← HPost.out, ← Hr.out]; exact HW.out.done hv1 Hb9.out Ho9.out)
end
end Go.Proofs.YtnelbahohkjcnaaGreatDoor
