/-
  InfRef4, InfRef5, InfRef6: texts merged.
-/
import Derived.Test.YtjmamomnbfnngaaDoorInfRef3
import Derived.Lib.AppendStr
/-
  A text is put behind a row that an object owns.
-/
namespace Go.Proofs.YtjmamomnbfnngaaDoor
section
open Go.RowKit

theorem strCells_row (s : ByteArray) : Lib.strCells s = cellsB s.data.toList := rfl
theorem run_append_text (w : World) (ty : TypeId) (v : Value) (l : List UInt8) (hown : Row8 w v l) (s : ByteArray) (hlen : l.length + s.size ≤ 140737488355328) :
    ∃ v' w', (Builtin.append_ #[35, 9] ty #[v, .string s]).run Tryd.prog w = .ok v' w' ∧ Row8 w' v' (l ++ s.data.toList) ∧ w.grownBy w' v.ownBlock ∧ ∀ k, v'.ownBlock = some k → v.ownBlock = some k ∨ w.heap.size ≤ k := by
  obtain ⟨i0, hi, hz0, hz1, hz2⟩ := info_parts info8
  have low : ∀ (B : Nat) (w' : World) (v' : Value), w'.ownsRow B 5 1 v' (l.length + s.size) (cellsB l ++ Lib.strCells s) → Row8 w' v' (l ++ s.data.toList) := fun B w' v' h => by
    rw [strCells_row, ← cellsB_append, show l.length + s.size = (l ++ s.data.toList).length by rw [List.length_append, ← size_data]] at h
    refine ⟨h.1, ?_⟩
    rcases h.2 with h2 | ⟨g, c, cur, hv, hB, hg, hr⟩
    · exact .inl h2
    · exact .inr ⟨g, c, cur, hv, Nat.zero_le _, hg, hr⟩
  have h' := hown
  rcases hown.2 with ⟨rfl, h0⟩ | ⟨g, cap, cur, rfl, _, hg, hnc, hcm, hcs, _⟩
  · obtain rfl : l = [] := List.eq_nil_of_length_eq_zero h0
    obtain ⟨v', w', hr, h2, h3, _⟩ := Lib.run_append_own_string (P := Tryd.prog) w w.heap.size 35 9 ty 5 i0 Tryd.underlying35 Tryd.underlying9 hi hz0 hz1 hz2 (.slice none 0 0) 0 [] (World.ownsRow_nil _ _ _ _) s (by unfold maxLen; simp at hlen; omega) (by simpa using hlen) (Nat.le_refl _)
    exact ⟨v', w', hr, low _ _ _ h2, h3, fun k hk => .inr (World.ownsRow.lt h2 k hk).1⟩
  · obtain ⟨v', w', hr, h2, h3, _⟩ := Lib.run_append_own_string (P := Tryd.prog) w 0 35 9 ty 5 i0 Tryd.underlying35 Tryd.underlying9 hi hz0 hz1 hz2 _ _ _ h' s (by unfold maxLen; omega) hlen (Nat.zero_le _)
    refine ⟨v', w', hr, low _ _ _ h2, h3, ?_⟩
    by_cases hroom : l.length + s.size ≤ cap
    · have hr2 := Lib.run_append_room_string (P := Tryd.prog) w 35 9 ty 5 i0 Tryd.underlying35 Tryd.underlying9 hi hz1 g l.length cap cur hg s hroom (by omega)
      rw [hr] at hr2
      injection hr2 with e1 e2
      intro k hk
      rw [e1] at hk
      exact .inl hk
    · have hr2 := Lib.run_append_grow_string (P := Tryd.prog) w 35 9 ty 5 i0 (.int .u8 0) Tryd.underlying35 Tryd.underlying9 hi hz0 ⟨g, 0, none⟩ l.length cap (cellsB l) (by rw [hz1, cellsB_length, Nat.mul_one]) (h'.cells (g := g) rfl) s (by omega) (by omega) (by rw [hz2]; exact growslice_fits (by omega) (by omega))
      rw [hr] at hr2
      injection hr2 with e1 e2
      intro k hk
      rw [e1] at hk
      have := Option.some.inj hk
      exact .inr (by simp at this; omega)
theorem wpList_append_text {ops : Array Oper} {rest : List Oper} {o : Oper} {a : Act} {w : World} {Q : Exit → Act → World → Prop} (hgd : o.guard = none) (sl x : Operand)
    (ho : o.op = .call { callee := .builtin .append, args := #[sl, x], argTypes := #[35, 9] })
    (v : Value) (l : List UInt8) (hs : a.eval sl = v) (hown : Row8 w v l) (s : ByteArray) (hx : a.eval x = .string s) (hlen : l.length + s.size ≤ 140737488355328)
    (h : ∀ v' w', Hid (Row8 w' v' (l ++ s.data.toList)) → Hid (w.grownBy w' v.ownBlock) → Hid (∀ k, v'.ownBlock = some k → v.ownBlock = some k ∨ w.heap.size ≤ k) → wpList Tryd.prog ops Q rest (a.put o.dst v') w') : wpList Tryd.prog ops Q (o :: rest) a w := by
  refine wpList_plain hgd fun K hK => ?_
  obtain ⟨v', w', hr, h2, h3, h4⟩ := run_append_text w o.type v l hown s hlen
  unfold Oper.wp execOp
  simp only [ho, resolve, invoke, builtin, Sem.run_bind, Sem.run_pure, Result.andThen_ok, List.map_toArray, List.map_cons, List.map_nil, hs, hx, hr]
  exact hK _ _ (h v' w' (Lib.hid h2) (Lib.hid h3) (Lib.hid h4))
theorem Work.text {w0 W w1 : World} {F : List Nat} {s : ByteArray} {vb vo v' : Value} {most a : Nat} {out c : List UInt8} {e : Int} (h : Work w0 W F s vb vo most ⟨a, out, e⟩) (hr : Row8 w1 v' (out ++ c)) (hg : W.grownBy w1 vo.ownBlock) (hv : ∀ k, v'.ownBlock = some k → vo.ownBlock = some k ∨ W.heap.size ≤ k) :
    StCell w1 w0.heap.size s vb vo most ⟨a, out, e⟩ ∧ Work w0 (w1.setCell ⟨w0.heap.size, 3, none⟩ v') F s vb v' most ⟨a, out ++ c, e⟩ := by
  have e' : ∀ k, k < W.heap.size → (∀ j, vo.ownBlock = some j → j ≠ k) → w1.heap[k]? = W.heap[k]? := fun k hk hn => hg.block k hk (fun e => hn k e.symm rfl)
  have s1 : StCell w1 w0.heap.size s vb vo most ⟨a, out, e⟩ := (e' _ h.1.lt fun j hj => (h.2.2.2.2 j hj).1).trans h.1
  have s2 : StCell w1 (w0.heap.size + 1) ⟨#[]⟩ (.slice none 0 0) (.slice none 0 0) 0 ⟨0, [], 0⟩ := (e' _ h.2.1.lt fun j hj => (h.2.2.2.2 j hj).2).trans h.2.1
  have l1 := h.1.lt
  have l2 := h.2.1.lt
  have hne : ∀ k, v'.ownBlock = some k → k ≠ w0.heap.size ∧ k ≠ w0.heap.size + 1 := fun k hk => by
    rcases hv k hk with h1 | h1
    · exact h.2.2.2.2 k h1
    · omega
  refine ⟨s1, s1.putOut v' (out ++ c), (heap_setCell_other _ _ _ _ (by simp)).trans s2, hr.move fun k hk => heap_setCell_other _ ⟨w0.heap.size, 3, none⟩ k _ (hne k hk).1, ?_, hne⟩
  have h1 := h.2.2.2.1.grown (F'' := v'.ownBlock.toList) hg (fun k hk => by simp [hk]) (fun k hk => by
    rcases hv k (by simpa using hk) with e | e
    · exact .inl (by simp [e])
    · exact .inr (by omega))
  exact ⟨h1.1, h1.2.1, h1.2.2.1, by have := h1.size; simp [World.setCell]; exact this, fun k hk hF => (heap_setCell_other _ ⟨w0.heap.size, 3, none⟩ k _ (by simp; omega)).trans (h1.2.2.2.2.1 k hk hF), h1.2.2.2.2.2⟩

/-- A stored block, as a state. -/
def storedS (l : List UInt8) (M : Nat) (x : St) : St :=
  let a := bitsS l ⟨wholeN x.at', x.out, x.code⟩ 16
  let b := bitsS l a.1 16
  let c := failS b.1 (decide (a.2 + b.2 ≠ 65535)) 4
  if c.code ≠ 0 then c else
  let t := bytesB l c.at' (a.2 : Int)
  failS ⟨t.2.1, c.out ++ t.1, t.2.2⟩ (decide (M < c.out.length + t.1.length)) 7

theorem whole_whole (p : Nat) : wholeN (wholeN p + 32) = wholeN p + 32 ∧ ∃ q, wholeN p + 32 = 8 * q := ⟨by unfold wholeN; omega, wholeN p / 8 + 4, by unfold wholeN; omega⟩
theorem storedS_tells {l : List UInt8} {M : Nat} {x : St} (hx : x.code = 0) : Tells (storedS l M x) (storedP M x.out l x.at') := by
  unfold storedP storedS
  simp only
  rw [pbind_of (show alignP l x.at' = .ok ((), wholeN x.at') from rfl)]
  rcases bitsS_ok (l := l) (x := ⟨wholeN x.at', x.out, x.code⟩) (w := 16) hx (by omega) with ⟨n, h1, h2⟩ | ⟨h1, h2, _, _⟩
  · rw [pbind_of h1, h2]
    simp only
    rcases bitsS_ok (l := l) (x := ⟨wholeN x.at' + 16, x.out, 0⟩) (w := 16) rfl (by omega) with ⟨m, g1, g2⟩ | ⟨g1, g2, _, _⟩
    · rw [pbind_of g1, g2]
      simp only
      by_cases hf : n + m ≠ 65535
      · rw [decide_eq_true hf, pbind_err pfail_true, failS_yes rfl]
        exact ⟨rfl, by decide⟩
      · rw [decide_eq_false hf, pbind_of pfail_false, failS_no]
        simp only [ne_eq, not_true, if_false]
        obtain ⟨w1, q, w2⟩ := whole_whole x.at'
        have hat : wholeN x.at' + 16 + 16 = 8 * q := by omega
        have hw : wholeN (8 * q) = 8 * q := by unfold wholeN; omega
        rw [hat]
        by_cases hb : 8 * q + 8 * n ≤ 8 * l.length
        · have hbb : bytesB l (8 * q) (n : Int) = ((l.drop q).take n, 8 * (q + n), 0) := by
            unfold bytesB
            rw [if_neg (by omega), hw, if_neg (by omega), Int.toNat_natCast, show 8 * q / 8 = q by omega]
          have hbp : bytesP n l (8 * q) = .ok ((l.drop q).take n, 8 * q + 8 * n) := by unfold bytesP; rw [if_pos hb, bytesP_whole]
          rw [pbind_of hbp, hbb]
          simp only
          by_cases hM : M < x.out.length + ((l.drop q).take n).length
          · rw [decide_eq_true hM, pbind_err pfail_true, failS_yes rfl]
            exact ⟨rfl, by decide⟩
          · rw [decide_eq_false hM, pbind_of pfail_false, failS_no]
            exact ⟨rfl, rfl, by show 8 * (q + n) = _; omega⟩
        · have hbb : bytesB l (8 * q) (n : Int) = ([], 8 * q, 5) := by
            unfold bytesB
            rw [if_neg (by omega), hw, if_pos (by omega)]
          have hbp : bytesP n l (8 * q) = .error 5 := by unfold bytesP; rw [if_neg hb]
          rw [pbind_err hbp, hbb, failS_bad (show (5 : Int) ≠ 0 by decide)]
          exact ⟨rfl, by decide⟩
    · rw [pbind_err g1]
      have hne : (bitsS l ⟨wholeN x.at' + 16, x.out, 0⟩ 16).1.code ≠ 0 := by rw [g2]; decide
      rw [failS_bad hne, if_pos hne]
      exact ⟨g2, by decide⟩
  · rw [pbind_err h1]
    have hne : (bitsS l ⟨wholeN x.at', x.out, x.code⟩ 16).1.code ≠ 0 := by rw [h2]; decide
    rw [bitsS_bad hne]
    simp only
    rw [failS_bad hne, if_pos hne]
    exact ⟨h2, by decide⟩

end
end Go.Proofs.YtjmamomnbfnngaaDoor
/-
  The contract of the document's stored.
-/
namespace Go.Proofs.YtjmamomnbfnngaaDoor
section
open Go.RowKit

theorem Work.done2 {w0 W w1 : World} {F : List Nat} {s : ByteArray} {vb vo : Value} {most : Nat} {y z : St} (h : Work w0 W F s vb vo most y) (hz : z.out = y.out) (ho1 : vo.oneCell' = true) (hb : Below w0.heap.size W w1) (ho : ∀ k, k ≠ w0.heap.size + 1 → w1.heap[k]? = W.heap[k]?) : Handed10 w0 F s vb most z (.returned (.agg (stV s vb vo most z))) w1 := by
  refine ⟨vo, rfl, ho1, ?_, ?_⟩
  · rw [hz]; exact h.2.2.1.move fun k hk => ho k (h.2.2.2.2 k hk).2
  · exact ⟨hb.os.trans h.2.2.2.1.1, hb.tape.trans h.2.2.2.1.2.1, hb.output.trans h.2.2.2.1.2.2.1, Nat.le_trans h.2.2.2.1.size hb.size, fun k hk hF => (hb.block k hk).trans (h.2.2.2.1.2.2.2.2.1 k hk hF), h.2.2.2.1.2.2.2.2.2⟩

set_option maxRecDepth 100000 in
set_option maxHeartbeats 2000000 in
theorem rStored_any (s : ByteArray) (vb vo : Value) (most : Nat) (x : St) (w : World) (hb1 : vb.oneCell' = true) (ho1 : vo.oneCell' = true) (hp : x.at' ≤ 8 * s.size) (hs : s.size ≤ 100000) (hol : x.out.length ≤ 1000000) (hrow : Row8 w vo x.out) :
    Calls Tryd.prog 15 #[.agg (stV s vb vo most x)] w (Handed10 w vo.ownBlock.toList s vb most (storedS s.data.toList most x)) := by
  have hsz : s.data.toList.length = s.size := by rw [← size_data]
  have Hsz := Lib.hid hsz
  have HWk := Lib.hid (Work.begun (s := s) (vb := vb) (most := most) hrow)
  obtain ⟨W, hW, H1, H2, HB⟩ := boxes_is w s vb vo most x
  rw [hW] at HWk
  unfold boxes at hW
  obtain ⟨pw, hpw⟩ : ∃ pw, wholeN x.at' = pw := ⟨_, rfl⟩
  have hpw8 : pw ≤ 8 * s.size := by rw [← hpw]; unfold wholeN; omega
  have HWh := Lib.hid (fun W => rWhole_any x.at' W (by omega))
  rw [hpw] at HWh
  obtain ⟨Post, hPost⟩ : ∃ Post, Handed10 w vo.ownBlock.toList s vb most (storedS s.data.toList most x) = Post := ⟨_, rfl⟩
  rw [hPost]
  have HPost := Lib.hid hPost
  obtain ⟨x0, hx0⟩ : ∃ x0 : St, (⟨pw, x.out, x.code⟩ : St) = x0 := ⟨_, rfl⟩
  have hx0a : x0.at' = pw ∧ x0.out = x.out := by rw [← hx0]; exact ⟨rfl, rfl⟩
  obtain ⟨xa, na, ha⟩ : ∃ xa na, bitsS s.data.toList x0 16 = (xa, na) := ⟨_, _, rfl⟩
  have fa := bitsS_facts (l := s.data.toList) (x := x0) (k := 16) (by omega) (by rw [Hsz.out, hx0a.1]; exact hpw8)
  rw [ha, Hsz.out] at fa
  obtain ⟨fa1, fa2, fa3⟩ := fa
  simp only at fa1 fa2 fa3
  obtain ⟨xb, nb, hb⟩ : ∃ xb nb, bitsS s.data.toList xa 16 = (xb, nb) := ⟨_, _, rfl⟩
  have fb := bitsS_facts (l := s.data.toList) (x := xa) (k := 16) (by omega) (by rw [Hsz.out]; exact fa1)
  rw [hb, Hsz.out] at fb
  obtain ⟨fb1, fb2, fb3⟩ := fb
  simp only at fb1 fb2 fb3
  obtain ⟨bd, hbd⟩ : ∃ bd, decide (na + nb ≠ 65535) = bd := ⟨_, rfl⟩
  have hbz : (((na : Int) + (nb : Int)) != 65535) = bd := by
    rw [← hbd]
    by_cases h : na + nb = 65535
    · rw [decide_eq_false (by omega), bne_eq_false_iff_eq]; omega
    · rw [decide_eq_true (by omega), bne_iff_ne]; omega
  obtain ⟨xc, hxc⟩ : ∃ xc, failS xb bd 4 = xc := ⟨_, rfl⟩
  have fc := failS_facts xb bd 4
  rw [hxc] at fc
  have Hba := Lib.hid (fun W => rBitsS_any s vb vo most x0 16 W hb1 ho1 (by omega) (by rw [hx0a.1]; exact hpw8) (by omega))
  have Hbb := Lib.hid (fun W => rBitsS_any s vb vo most xa 16 W hb1 ho1 (by omega) fa1 (by omega))
  have Hf := Lib.hid (fun W => rFail_any s vb vo most xb bd 4 W hb1 ho1)
  rw [ha] at Hba
  rw [hb] at Hbb
  rw [hxc] at Hf
  have hpart : storedS s.data.toList most x = if xc.code ≠ 0 then xc else
      failS ⟨(bytesB s.data.toList xc.at' (na : Int)).2.1, xc.out ++ (bytesB s.data.toList xc.at' (na : Int)).1, (bytesB s.data.toList xc.at' (na : Int)).2.2⟩ (decide (most < xc.out.length + (bytesB s.data.toList xc.at' (na : Int)).1.length)) 7 := by
    unfold storedS
    simp only
    rw [hpw, hx0, ha]
    simp only
    rw [hb]
    simp only
    rw [hbd, hxc]
  have k2 := H1.out.at'
  have f2 := H1.out.free 2
  have C0 : Hid (StCell (W.setCell ⟨w.heap.size, 2, none⟩ (.int .i64 (pw : Int))) w.heap.size s vb vo most x0) := Lib.hid (by rw [← hx0]; exact H1.out.putAt pw)
  have HW0 : Hid (Work w (W.setCell ⟨w.heap.size, 2, none⟩ (.int .i64 (pw : Int))) vo.ownBlock.toList s vb vo most x0) := Lib.hid (HWk.out.store hx0a.2 C0.out ((Below.refl _ _).setCell (by simp) _) (fun k hk => heap_setCell_other _ ⟨w.heap.size, 2, none⟩ k _ hk))
  have Hpart := Lib.hid hpart
  have Fc := Lib.hid fc
  have F2 := Lib.hid (show x0.out = x.out ∧ xa.out = x0.out ∧ xb.out = xa.out from ⟨hx0a.2, fa2, fb2⟩)
  clear hsz hPost hpw hx0 hx0a ha hb hbd hxc fa2 fb2 fc hpart hrow hp
  go_enter Tryd.func15, Tryd.ntmps15
  go_wp2_with fail
  refine (HWh.out _).mono ?_
  rintro e w1 ⟨rfl, rfl⟩
  go_wp2_with (with_reducible first
    | refine StCell.load rfl (.tmp 1) rfl w.heap.size _ _ _ _ _ rfl C0.out ?_)
  refine (Hba.out _).mono ?_
  rintro e w2 ⟨rfl, hbw⟩
  have HW2 := Lib.hid (HW0.out.call hbw)
  have C2 := Lib.hid HW2.out.1
  clear hbw
  go_wp2_with (with_reducible first
    | (refine StCell.store rfl rfl (.tmp 1) (.tmp 15) rfl w.heap.size _ _ _ _ _ _ _ _ _ _ hb1 ho1 rfl rfl C2.out w.heap.size w2 (Below.refl _ _) (Nat.le_refl _) ?_; intro w3 Hs3 Hb3 Ho3)
    | refine StCell.load rfl (.tmp 1) rfl w.heap.size _ _ _ _ _ rfl Hs3.out ?_)
  refine (Hbb.out _).mono ?_
  rintro e w4 ⟨rfl, hbw⟩
  have HW3 := Lib.hid (HW2.out.store F2.out.2.1 Hs3.out Hb3.out Ho3.out)
  have HW4 := Lib.hid (HW3.out.call hbw)
  have C4 := Lib.hid HW4.out.1
  clear hbw
  go_wp2_with (with_reducible first
    | (refine StCell.store rfl rfl (.tmp 1) (.tmp 20) rfl w.heap.size _ _ _ _ _ _ _ _ _ _ hb1 ho1 rfl rfl C4.out w.heap.size w4 (Below.refl _ _) (Nat.le_refl _) ?_; intro w5 Hs5 Hb5 Ho5)
    | refine StCell.load rfl (.tmp 1) rfl w.heap.size _ _ _ _ _ rfl Hs5.out ?_)
  refine (Hf.out _).mono ?_
  rintro e w6 ⟨rfl, hbw⟩
  have HW5 := Lib.hid (HW4.out.store F2.out.2.2 Hs5.out Hb5.out Ho5.out)
  have HW6 := Lib.hid (HW5.out.call hbw)
  have C6 := Lib.hid HW6.out.1
  clear hbw
  go_upto_region 5 with (with_reducible first
    | (refine StCell.store rfl rfl (.tmp 1) (.tmp 27) rfl w.heap.size _ _ _ _ _ _ _ _ _ _ hb1 ho1 rfl rfl C6.out w.heap.size w6 (Below.refl _ _) (Nat.le_refl _) ?_; intro w7 Hs7 Hb7 Ho7))
  have HW7 := Lib.hid (HW6.out.store Fc.out.2 Hs7.out Hb7.out Ho7.out)
  have C7 := Lib.hid HW7.out.1
  have D7 := Lib.hid HW7.out.2.1
  have k5 := C7.out.code
  by_cases hc0 : xc.code = 0
  · have hcz : (xc.code != 0) = false := by simpa using hc0
    have hxo : xc.out = x.out := by rw [Fc.out.2, F2.out.2.2, F2.out.2.1, F2.out.1]
    have hcat : xc.at' ≤ 8 * s.size := by rw [Fc.out.1]; exact fb1
    obtain ⟨u, tt, e0, hB⟩ : ∃ (u : ByteArray) (tt : Nat) (e0 : Int), bytesB s.data.toList xc.at' (na : Int) = (u.data.toList, tt, e0) := ⟨bytes (bytesB s.data.toList xc.at' (na : Int)).1, _, _, by rw [bytes_data]⟩
    have hu : u.size ≤ s.size := by
      have h1 := congrArg (fun z => z.1.length) hB
      simp only at h1
      have h3 : u.data.toList.length = u.size := by rw [← size_data]
      rw [← h3, ← h1]
      have h2 := Hsz.out
      unfold bytesB
      split
      · exact Nat.zero_le _
      · split
        · exact Nat.zero_le _
        · rw [List.length_take, List.length_drop]; omega
    have Hg := Lib.hid (fun W => rBytesB_is s xc.at' (na : Int) W hcat (by omega) (by omega) (by omega) hB)
    have Hr : Hid (storedS s.data.toList most x = failS ⟨tt, xc.out ++ u.data.toList, e0⟩ (decide (most < (xc.out ++ u.data.toList).length)) 7) := Lib.hid (by
      rw [Hpart.out, if_neg (by simp [hc0]), hB, List.length_append])
    have hlen : xc.out.length + u.size ≤ 140737488355328 := by rw [hxo]; omega
    have k0 := C7.out.text
    have k2' := C7.out.at'
    have f2' := C7.out.free 2
    have f5' := C7.out.free 5
    have C9 := Lib.hid ((C7.out.putAt tt).putCode e0)
    have B9 : Hid (Below w.heap.size w7 ((w7.setCell ⟨w.heap.size, 2, none⟩ (.int .i64 (tt : Int))).setCell ⟨w.heap.size, 5, none⟩ (.int .i64 e0))) := Lib.hid (((Below.refl _ _).setCell (by simp) _).setCell (by simp) _)
    have HW9 : Hid (Work w ((w7.setCell ⟨w.heap.size, 2, none⟩ (.int .i64 (tt : Int))).setCell ⟨w.heap.size, 5, none⟩ (.int .i64 e0)) vo.ownBlock.toList s vb vo most ⟨tt, xc.out, e0⟩) := Lib.hid (HW7.out.store rfl C9.out B9.out (fun k hk => (heap_setCell_other _ ⟨w.heap.size, 5, none⟩ k _ hk).trans (heap_setCell_other _ ⟨w.heap.size, 2, none⟩ k _ hk)))
    clear hc0 hB hxo Hbb Hba Hf HWh k2 f2 hcat
    go_wp2_with fail
    refine (Hg.out _).mono ?_
    rintro e w8 ⟨rfl, rfl⟩
    go_upto_region 9 with fail
    obtain ⟨W9, hW9⟩ : ∃ W9, ((w7.setCell ⟨w.heap.size, 2, none⟩ (.int .i64 (tt : Int))).setCell ⟨w.heap.size, 5, none⟩ (.int .i64 e0)) = W9 := ⟨_, rfl⟩
    rw [hW9] at C9 HW9 B9
    rw [hW9]
    have k3 := C9.out.out
    clear k5 k0 k2' f2' f5' Hg hW9
    obtain ⟨b, hbn⟩ : ∃ b, decide (most < (xc.out ++ u.data.toList).length) = b := ⟨_, rfl⟩
    have hbz : decide ((most : Int) < (((xc.out ++ u.data.toList).length : Nat) : Int)) = b := by rw [← hbn, decide_eq_decide]; omega
    rw [hbn] at Hr
    obtain ⟨ln, hln⟩ : ∃ ln, (xc.out ++ u.data.toList).length = ln := ⟨_, rfl⟩
    have hbz' : decide (most < (xc.out ++ u.data.toList).length) = b := hbn
    rw [hln] at hbz hbz'
    clear hbn
    have R9 := Lib.hid HW9.out.2.2.1
    go_upto_region 10 with (with_reducible first
      | (refine wpList_append_text rfl (.tmp 47) (.tmp 48) rfl vo xc.out rfl R9.out u rfl hlen ?_; intro v' w10 hr hg hv; have hf := hr.out.form; rw [hln] at hf; obtain ⟨ad, cap, rfl⟩ := hf; have HT := Lib.hid (Work.text HW9.out hr.out hg.out hv.out); have f3 := HT.out.1.free 3; have k39 := HT.out.1.out))
    have HW11 := Lib.hid HT.out.2
    clear k3 f3 k39
    obtain ⟨W11, hW11⟩ : ∃ W11, (w10.setCell ⟨w.heap.size, 3, none⟩ (.slice ad ln cap)) = W11 := ⟨_, rfl⟩
    rw [hW11] at HW11
    rw [hW11]
    have C11 := Lib.hid HW11.out.1
    have k3 := C11.out.out
    have k4 := C11.out.most
    have Hf := Lib.hid (fun W => rFail_any s vb (.slice ad ln cap) most ⟨tt, xc.out ++ u.data.toList, e0⟩ b 7 W hb1 rfl)
    obtain ⟨xe, hxe⟩ : ∃ xe, failS ⟨tt, xc.out ++ u.data.toList, e0⟩ b 7 = xe := ⟨_, rfl⟩
    have fe := failS_facts ⟨tt, xc.out ++ u.data.toList, e0⟩ b 7
    rw [hxe] at Hf Hr fe
    have Fe := Lib.hid fe
    clear hW11 hxe fe
    go_wp2_with (with_reducible first
      | refine StCell.load rfl (.tmp 1) rfl w.heap.size _ _ _ _ _ rfl C11.out ?_)
    refine (Hf.out _).mono ?_
    rintro e w12 ⟨rfl, hbw⟩
    have HW12 := Lib.hid (HW11.out.call hbw)
    have D12 := Lib.hid HW12.out.2.1
    clear hbw
    go_wp2_with (with_reducible first
      | (refine StCell.store rfl rfl (.tmp 2) (.tmp 58) rfl (w.heap.size + 1) _ _ _ _ _ _ _ _ _ _ hb1 rfl rfl rfl D12.out w.heap.size w12 (Below.refl _ _) (by omega) ?_; intro w13 Hs13 Hb13 Ho13))
    exact bodyPost_ret (results_st rfl _ _ (w.heap.size + 1) _ _ _ _ _ rfl Hs13.out) rfl (by rw [← HPost.out, Hr.out]; exact HW12.out.done2 Fe.out.2 rfl Hb13.out Ho13.out)
  · have hcz : (xc.code != 0) = true := by simpa using hc0
    have Hr : Hid (storedS s.data.toList most x = xc) := Lib.hid (by rw [Hpart.out, if_pos hc0])
    clear hc0 Hbb Hba Hf HWh
    go_wp2_with (with_reducible first
      | refine StCell.load rfl (.tmp 1) rfl w.heap.size _ _ _ _ _ rfl C7.out ?_
      | (refine StCell.store rfl rfl (.tmp 2) (.tmp 31) rfl (w.heap.size + 1) _ _ _ _ _ _ _ _ _ _ hb1 ho1 rfl rfl D7.out w.heap.size w7 (Below.refl _ _) (by omega) ?_; intro w9 Hs9 Hb9 Ho9))
    exact bodyPost_ret (results_st rfl _ _ (w.heap.size + 1) _ _ _ _ _ rfl Hs9.out) rfl (by rw [← HPost.out, Hr.out]; exact HW7.out.done ho1 Hb9.out Ho9.out)

end
end Go.Proofs.YtjmamomnbfnngaaDoor
/-
  The contracts of the document's lengths of fixed codes, of their order, and of what distances may be.
-/
namespace Go.Proofs.YtjmamomnbfnngaaDoor
section
open Go.RowKit

theorem fixed_at : ∀ k : Fin 288, fixedLit[k.val]? = some (if k.val < 144 then 8 else if k.val < 256 then 9 else if k.val < 280 then 7 else 8) := by decide +kernel
theorem fixed_take {k : Nat} (h : k < 288) : fixedLit.take (k + 1) = fixedLit.take k ++ [if k < 144 then 8 else if k < 256 then 9 else if k < 280 then 7 else 8] := by
  rw [List.take_add_one, fixed_at ⟨k, h⟩]; rfl
theorem dist_at : ∀ k : Fin 32, fixedDist[k.val]? = some 5 := by decide +kernel
theorem dist_take {k : Nat} (h : k < 32) : fixedDist.take (k + 1) = fixedDist.take k ++ [5] := by
  rw [List.take_add_one, dist_at ⟨k, h⟩]; rfl
theorem fixedLit_length : fixedLit.length = 288 := by decide +kernel
theorem fixedDist_length : fixedDist.length = 32 := by decide +kernel
theorem BitsAt.nums {w : World} {g : Nat} {row : List Nat} (h : BitsAt w g row) : Nums w (some ⟨g, 0, none⟩) (asZ row) := by
  refine .inr ⟨g, 0, rfl, fun i hi => ?_⟩
  have hi' : i < row.length := by rwa [asZ_length] at hi
  rw [Nat.zero_add, h.2 i hi', asZ_getD row hi']

/-- Two rows come out, in blocks that are new. -/
def Rows2 (w : World) (r1 r2 : List Nat) (en : Ending) (w' : World) : Prop :=
  ∃ g1 c1 g2 c2, en = .returned (.tuple #[.slice (some ⟨g1, 0, none⟩) r1.length c1, .slice (some ⟨g2, 0, none⟩) r2.length c2]) ∧ BitsAt w' g1 r1 ∧ BitsAt w' g2 r2 ∧ Below w.heap.size w w' ∧ w.heap.size ≤ g1 ∧ w.heap.size ≤ g2
theorem Own64.rows2 {w w' : World} {v1 v2 : Value} {r1 r2 : List Nat} {B : Nat} (h1 : Own64 w' w.heap.size v1 (asZ r1)) (h2 : Own64 w' B v2 (asZ r2)) (hB : w.heap.size ≤ B) (hb : Below w.heap.size w w') : Rows2 w r1 r2 (.returned (.tuple #[v1, v2])) w' := by
  obtain ⟨g1, c1, rfl, hB1, hr1⟩ := h1.bits
  obtain ⟨g2, c2, rfl, hB2, hr2⟩ := h2.bits
  exact ⟨g1, c1, g2, c2, rfl, hr1, hr2, hb, hB1, Nat.le_trans hB hB2⟩

set_option maxHeartbeats 1000000 in
theorem rFixed_any (w : World) : Calls Tryd.prog 16 #[] w (Rows2 w fixedLit fixedDist) := by
  go_enter Tryd.func16, Tryd.ntmps16
  go_wp2_with fail
  go_loopg [2, 3, 4] 288 (fun g s2 s3 s4 wx => ∃ k : Nat, k + g = 288 ∧ s3 = .int .i64 k ∧ Aside (Own64 wx w.heap.size s2 (asZ (fixedLit.take k))) ∧ Below w.heap.size w wx)
  case atStart => exact ⟨0, by omega, rfl, Own64.made w 0 #[] (Nat.le_refl _) (by decide) rfl, (Below.refl _ w).alloc (Nat.le_refl _) _⟩
  case round =>
    obtain ⟨k, hkg, rfl, HO, hb⟩ := hrel
    have Hb := Lib.hid hb
    clear hb
    cases gk with
    | zero =>
      obtain rfl : k = 288 := by omega
      rw [List.take_of_length_le (show fixedLit.length ≤ 288 by rw [fixedLit_length]; exact Nat.le_refl _)] at HO
      clear hkg
      obtain ⟨W1, rfl⟩ : ∃ W1, W1 = wr := ⟨_, rfl⟩
      go_wp2_with fail
      go_loopg [5, 6] 32 (fun g s5 s6 wx => ∃ k : Nat, k + g = 32 ∧ s6 = .int .i64 k ∧ Aside (Own64 wx W1.heap.size s5 (asZ (fixedDist.take k))) ∧ Below W1.heap.size W1 wx)
      case atStart => exact ⟨0, by omega, rfl, Own64.made W1 0 #[] (Nat.le_refl _) (by decide) rfl, (Below.refl _ W1).alloc (Nat.le_refl _) _⟩
      case round =>
        obtain ⟨k, hkg, rfl, HO5, hb5⟩ := hrel
        have Hb5 := Lib.hid hb5
        clear hb5
        cases gk with
        | zero =>
          obtain rfl : k = 32 := by omega
          rw [List.take_of_length_le (show fixedDist.length ≤ 32 by rw [fixedDist_length]; exact Nat.le_refl _)] at HO5
          go_wp2_with fail
          refine bodyPost_ret (by simp [results, Tryd.results16, go_sem]; rfl) rfl ?_
          exact Own64.rows2 (HO.out.later Hb5.out) HO5.out Hb.out.size (Hb.out.trans (Hb5.out.mono Hb.out.size))
        | succ g =>
          have hkz : (k : Int) < 32 := by omega
          have Hn := Lib.hid (dist_take (k := k) (by omega))
          have hlen : Hid ((asZ (fixedDist.take k)).length ≤ 32) := Lib.hid (by rw [asZ_length, List.length_take]; omega)
          go_wp2_with (at_builtin; refine wpList_append64 rfl (.tmp 33) (.tmp 34) rfl W1.heap.size _ (asZ (fixedDist.take k)) rfl (HO5.out.alloc _) ⟨wr.heap.size, 0, none⟩ 1 [5] rfl (cells_newZ _ _) (by simp) (by simp; have := hlen.out; omega) W1 (Hb5.out.alloc Hb5.out.size _) (by have := Hb5.out.size; simp; omega) ?_; intro v3 w3 Ho3 Hb3 _)
          go_roundg g
          case measure => omega
          case rel => exact ⟨k + 1, by omega, by go_num, by show Own64 _ _ _ _; rw [Hn.out, asZ_snoc]; exact Ho3.out, Hb3.out⟩
    | succ g =>
      have hkz : (k : Int) < 288 := by omega
      have Hn := Lib.hid (fixed_take (k := k) (by omega))
      have hlen : Hid ((asZ (fixedLit.take k)).length ≤ 288) := Lib.hid (by rw [asZ_length, List.length_take]; omega)
      have hcase : k < 144 ∨ (144 ≤ k ∧ k < 256) ∨ (256 ≤ k ∧ k < 280) ∨ 280 ≤ k := by omega
      rcases hcase with h | ⟨h, h'⟩ | ⟨h, h'⟩ | h
      · have hr : Hid (fixedLit.take (k + 1) = fixedLit.take k ++ [8]) := Lib.hid (by rw [Hn.out, if_pos h])
        have h1 : ¬ (144 : Int) ≤ (k : Int) := by omega
        have h2 : ¬ (256 : Int) ≤ (k : Int) := by omega
        clear h Hn
        go_wp2_with (at_builtin; refine wpList_append64 rfl (.tmp 24) (.tmp 26) rfl w.heap.size _ (asZ (fixedLit.take k)) rfl (HO.out.alloc _) ⟨wr.heap.size, 0, none⟩ 1 [8] rfl (cells_newZ _ _) (by simp) (by simp; have := hlen.out; omega) w (Hb.out.alloc Hb.out.size _) (by have := Hb.out.size; simp; omega) ?_; intro v3 w3 Ho3 Hb3 _)
        go_roundg g
        case measure => omega
        case rel => exact ⟨k + 1, by omega, by go_num, by show Own64 _ _ _ _; rw [hr.out, asZ_snoc]; exact Ho3.out, Hb3.out⟩
      · have hr : Hid (fixedLit.take (k + 1) = fixedLit.take k ++ [9]) := Lib.hid (by rw [Hn.out, if_neg (by omega), if_pos h'])
        have h1 : (144 : Int) ≤ (k : Int) := by omega
        have h2 : ¬ (256 : Int) ≤ (k : Int) := by omega
        have h3 : (k : Int) < 256 := by omega
        clear h h' Hn
        go_wp2_with (at_builtin; refine wpList_append64 rfl (.tmp 24) (.tmp 26) rfl w.heap.size _ (asZ (fixedLit.take k)) rfl (HO.out.alloc _) ⟨wr.heap.size, 0, none⟩ 1 [9] rfl (cells_newZ _ _) (by simp) (by simp; have := hlen.out; omega) w (Hb.out.alloc Hb.out.size _) (by have := Hb.out.size; simp; omega) ?_; intro v3 w3 Ho3 Hb3 _)
        go_roundg g
        case measure => omega
        case rel => exact ⟨k + 1, by omega, by go_num, by show Own64 _ _ _ _; rw [hr.out, asZ_snoc]; exact Ho3.out, Hb3.out⟩
      · have hr : Hid (fixedLit.take (k + 1) = fixedLit.take k ++ [7]) := Lib.hid (by rw [Hn.out, if_neg (by omega), if_neg (by omega), if_pos h'])
        have h1 : (144 : Int) ≤ (k : Int) := by omega
        have h2 : (256 : Int) ≤ (k : Int) := by omega
        have h3 : ¬ (k : Int) < 256 := by omega
        have h4 : (k : Int) < 280 := by omega
        clear h h' Hn
        go_wp2_with (at_builtin; refine wpList_append64 rfl (.tmp 24) (.tmp 26) rfl w.heap.size _ (asZ (fixedLit.take k)) rfl (HO.out.alloc _) ⟨wr.heap.size, 0, none⟩ 1 [7] rfl (cells_newZ _ _) (by simp) (by simp; have := hlen.out; omega) w (Hb.out.alloc Hb.out.size _) (by have := Hb.out.size; simp; omega) ?_; intro v3 w3 Ho3 Hb3 _)
        go_roundg g
        case measure => omega
        case rel => exact ⟨k + 1, by omega, by go_num, by show Own64 _ _ _ _; rw [hr.out, asZ_snoc]; exact Ho3.out, Hb3.out⟩
      · have hr : Hid (fixedLit.take (k + 1) = fixedLit.take k ++ [8]) := Lib.hid (by rw [Hn.out, if_neg (by omega), if_neg (by omega), if_neg (by omega)])
        have h1 : (144 : Int) ≤ (k : Int) := by omega
        have h2 : (256 : Int) ≤ (k : Int) := by omega
        have h3 : ¬ (k : Int) < 256 := by omega
        have h4 : ¬ (k : Int) < 280 := by omega
        clear h Hn
        go_wp2_with (at_builtin; refine wpList_append64 rfl (.tmp 24) (.tmp 26) rfl w.heap.size _ (asZ (fixedLit.take k)) rfl (HO.out.alloc _) ⟨wr.heap.size, 0, none⟩ 1 [8] rfl (cells_newZ _ _) (by simp) (by simp; have := hlen.out; omega) w (Hb.out.alloc Hb.out.size _) (by have := Hb.out.size; simp; omega) ?_; intro v3 w3 Ho3 Hb3 _)
        go_roundg g
        case measure => omega
        case rel => exact ⟨k + 1, by omega, by go_num, by show Own64 _ _ _ _; rw [hr.out, asZ_snoc]; exact Ho3.out, Hb3.out⟩

set_option maxHeartbeats 1000000 in
theorem rOrder_any (w : World) : Calls Tryd.prog 55 #[] w (RowNew w orderL) := by
  go_enter Tryd.func55, Tryd.ntmps55
  go_wp2_with fail
  go_ret
  refine ⟨w.heap.size, 19, rfl, ⟨by simp, fun j hj => ?_⟩, (Below.refl _ w).alloc (Nat.le_refl _) _, Nat.le_refl _⟩
  have hj' : j < 19 := hj
  rw [World.cell?_alloc_new]
  have hc : j = 0 ∨ j = 1 ∨ j = 2 ∨ j = 3 ∨ j = 4 ∨ j = 5 ∨ j = 6 ∨ j = 7 ∨ j = 8 ∨ j = 9 ∨ j = 10 ∨ j = 11 ∨ j = 12 ∨ j = 13 ∨ j = 14 ∨ j = 15 ∨ j = 16 ∨ j = 17 ∨ j = 18 := by omega
  rcases hc with rfl | rfl | rfl | rfl | rfl | rfl | rfl | rfl | rfl | rfl | rfl | rfl | rfl | rfl | rfl | rfl | rfl | rfl | rfl <;> rfl

set_option maxHeartbeats 1000000 in
theorem rFar_any (p : Option Addr) (cap n : Nat) (ns : List Nat) (w : World) (hz : ns.length ≤ 1000) (h15 : ∀ k ∈ ns, k ≤ 15) (hn : n = ns.length) (hp : Nums w p (intsOf ns)) :
    Calls Tryd.prog 33 #[.slice p n cap] w fun e w' => e = .returned (.bool (farB ns)) ∧ w = w' := by
  have hc := rCheck_any p cap (intsOf ns) w (by rw [intsOf_length]; omega) hp
  rw [intsOf_length, ← hn] at hc
  have Hc := Lib.hid hc
  obtain ⟨c, hcv⟩ : ∃ c, checkZ (intsOf ns) = c := ⟨_, rfl⟩
  rw [hcv] at Hc
  have Hp := Lib.hid hp
  have Hn := Lib.hid hn
  have H15 := Lib.hid h15
  have hr : farB ns = (c == 0 || c == 12 || (c == 5 && ns.sum == 1)) := by unfold farB; rw [hcv]
  clear hc hcv hp hn h15
  have hcase : (c = 0 ∨ c = 12) ∨ (c = 5 ∨ (c ≠ 0 ∧ c ≠ 12 ∧ c ≠ 5)) := by omega
  rcases hcase with hcase | hcase
  · rcases hcase with rfl | rfl
    all_goals
      have Hr : Hid (farB ns = true) := Lib.hid (by rw [hr]; rfl)
      clear hr
      go_enter Tryd.func33, Tryd.ntmps33
      go_wp2_with fail
      refine Hc.out.mono ?_
      rintro e w1 ⟨rfl, rfl⟩
      go_wp2_with fail
      go_ret
      exact ⟨by rw [Hr.out]; rfl, rfl⟩
  · have hcase : c = 5 ∨ ((c == 0) = false ∧ (c == 12) = false ∧ (c == 5) = false) := by
      rcases hcase with rfl | ⟨h0, h1, h2⟩
      · exact .inl rfl
      · exact .inr ⟨by simpa using h0, by simpa using h1, by simpa using h2⟩
    rcases hcase with rfl | ⟨z0, z12, z5⟩
    all_goals
      have Hr := Lib.hid hr
      clear hr
      go_enter Tryd.func33, Tryd.ntmps33
      go_wp2_with fail
      refine Hc.out.mono ?_
      rintro e w1 ⟨rfl, rfl⟩
      go_wp2_with fail
      go_loopg [4, 5] n (fun g s4 s5 wx => ∃ k z : Nat, k + g = n ∧ s5 = .int .i64 k ∧ s4 = .int .i64 z ∧ Aside (z = (ns.take k).sum) ∧ z ≤ 15 * k ∧ w = wx)
      case atStart => exact ⟨0, 0, by omega, rfl, rfl, rfl, by omega, rfl⟩
      case round =>
        obtain ⟨k, z, hkg, rfl, rfl, HZ, hz15, rfl⟩ := hrel
        have hn1000 : n ≤ 1000 := by rw [Hn.out]; exact hz
        cases gk with
        | zero =>
          obtain rfl : k = n := by omega
          obtain ⟨b, hb⟩ : ∃ b, (ns.sum == 1) = b := ⟨_, rfl⟩
          have hzs : Hid (z = ns.sum) := Lib.hid (by rw [HZ.out, List.take_of_length_le (by rw [Hn.out]; exact Nat.le_refl _)])
          have hbz : ((z : Int) == 1) = b := by
            rw [hzs.out, ← hb]
            by_cases h : ns.sum = 1
            · rw [h]; rfl
            · rw [beq_eq_false_iff_ne.2 h, beq_eq_false_iff_ne]; omega
          have Hb := Lib.hid hb
          clear hb
          go_wp2_with fail
          go_ret
          refine ⟨ret_bool ?_, rfl⟩
          rw [Hr.out, Hb.out]
          first
            | (rw [z0, z12, z5]; rfl)
            | (cases b <;> rfl)
        | succ g =>
          have hk : k < ns.length := by rw [← Hn.out]; omega
          have hkz : (k : Int) < (n : Int) := by omega
          obtain ⟨b, off, rfl, hc⟩ := Hp.out.at k (by rw [intsOf_length]; exact hk)
          have hv : (intsOf ns)[k]?.getD 0 = ((ns[k] : Nat) : Int) := asZ_getD ns hk
          obtain ⟨v, hvv⟩ : ∃ v, ns[k] = v := ⟨_, rfl⟩
          rw [hv, hvv] at hc
          have hv15 : v ≤ 15 := by rw [← hvv]; exact H15.out _ (List.getElem_mem hk)
          have Hnx : Hid (z + v = (ns.take (k + 1)).sum) := Lib.hid (by rw [List.take_add_one, List.getElem?_eq_getElem hk, hvv, HZ.out]; simp)
          clear hv hvv hk
          go_wp2_with fail
          go_roundg g
          case measure => omega
          case rel => exact ⟨k + 1, z + v, by omega, by go_num, by go_num, Hnx.out, by omega, rfl⟩

end
end Go.Proofs.YtjmamomnbfnngaaDoor
