/-
  The contract of the document's own.
-/
import Derived.Test.YtnelbahohkjcnaaGreatDoorInfOwnS
import Derived.StillTailTactics
namespace Go.Proofs.YtnelbahohkjcnaaGreatDoor
open Go.RowKit
theorem Work.reads {w W : World} {s : ByteArray} {vb vo : Value} {most : Nat} {y : St} (h : Work w W vo.ownBlock.toList s vb vo most y) {a : Option Addr} {l : List Int} (hq : Reads w vo w.heap.size a l) : Reads W vo W.heap.size a l := by
  rcases hq with h1 | ⟨b, off, h1, h2, h3, h4, h5⟩
  · exact .inl h1
  · have hs := h.2.2.2.1.size
    have hb := h.2.2.2.1.out h2 (fun hm => h3 (by simpa using hm))
    exact .inr ⟨b, off, h1, by omega, h3, by omega, fun i hi => (World.cell?_of_block (w := w) hb.1).trans (h5 i hi)⟩
theorem Reads.part {W : World} {vo : Value} {g B : Nat} {rl : List Nat} (h : BitsAt W g rl) (hv : vo.ownBlock ≠ some g) (hB : g ≠ B) (k : Nat) : Reads W vo B (some ⟨g, 0, none⟩) (intsOf (rl.take k)) ∧ Reads W vo B (some ⟨g, k, none⟩) (intsOf (rl.drop k)) := by
  refine ⟨.inr ⟨g, 0, rfl, h.1, hv, hB, fun i hi => ?_⟩, .inr ⟨g, k, rfl, h.1, hv, hB, fun i hi => ?_⟩⟩
  · rw [intsOf_length, List.length_take] at hi
    have hx := List.getElem?_eq_getElem (show i < rl.length by omega)
    rw [Nat.zero_add, h.2 i (by omega)]
    unfold intsOf
    rw [List.getElem?_map, List.getElem?_take, if_pos (by omega), hx]; rfl
  · rw [intsOf_length, List.length_drop] at hi
    have hx := List.getElem?_eq_getElem (show k + i < rl.length by omega)
    rw [h.2 (k + i) (by omega)]
    unfold intsOf
    rw [List.getElem?_map, List.getElem?_drop, hx]; rfl
theorem failS_true (x : St) : (failS x true 4).code ≠ 0 := by
  by_cases h : x.code = 0
  · rw [failS_yes h]; exact (show (4 : Int) ≠ 0 by decide)
  · rw [failS_bad h]; exact h
theorem Work.last {w0 W w1 w2 : World} {s : ByteArray} {vb vo v2 : Value} {most : Nat} {y d : St} (h : Work w0 W vo.ownBlock.toList s vb vo most y) (hv1 : v2.oneCell' = true) (ht : Touches vo.ownBlock.toList v2.ownBlock.toList W w1) (hr : Row8 w1 v2 d.out) (hb : Below w0.heap.size w1 w2) (ho : ∀ k, k ≠ w0.heap.size + 1 → w2.heap[k]? = w1.heap[k]?) : Handed10 w0 vo.ownBlock.toList s vb most d (.returned (.agg (stV s vb v2 most d))) w2 := by
  have l2 := h.2.1.lt
  have hne : ∀ k, v2.ownBlock = some k → k ≠ w0.heap.size + 1 := fun k hk => by
    rcases ht.2.2.2.2.2 k (by simp [hk]) with e | e
    · exact (h.2.2.2.2 k (by simpa using e)).2
    · omega
  have hT := h.2.2.2.1.trans ht
  exact ⟨v2, rfl, hv1, hr.move fun k hk => ho k (hne k hk), hb.os.trans hT.1, hb.tape.trans hT.2.1, hb.output.trans hT.2.2.1, Nat.le_trans hT.size hb.size, fun k hk hF => (hb.block k hk).trans (hT.2.2.2.2.1 k hk hF), hT.2.2.2.2.2⟩
theorem Work.two {w0 W w1 : World} {s : ByteArray} {vb vo v2 : Value} {most : Nat} {y : St} (h : Work w0 W vo.ownBlock.toList s vb vo most y) (ht : Touches vo.ownBlock.toList v2.ownBlock.toList W w1) : StCell w1 (w0.heap.size + 1) ⟨#[]⟩ (.slice none 0 0) (.slice none 0 0) 0 ⟨0, [], 0⟩ :=
  (ht.2.2.2.2.1 _ h.2.1.lt fun hm => (h.2.2.2.2 _ (by simpa using hm)).2 rfl).trans h.2.1
set_option maxRecDepth 100000 in
set_option maxHeartbeats 16000000 in
theorem rOwn_any (s : ByteArray) (pb : Option Addr) (nb cb : Nat) (vo : Value) (most : Nat) (x : St) (w : World) (hp : x.at' ≤ 8 * s.size) (hs : s.size ≤ 100000) (hM : most ≤ 100000) (hol : x.out.length ≤ 100000) (hrow : Row8 w vo x.out) (hnb : nb = 8 * s.size) (hq3 : Reads w vo w.heap.size pb (asZ (bitsOf s.data.toList))) :
    Calls Tryz.prog 100 #[.agg (stV s (.slice pb nb cb) vo most x)] w (Handed10 w vo.ownBlock.toList s (.slice pb nb cb) most (ownS s.data.toList most x)) := by
  obtain ⟨ad, cap, hvo⟩ := hrow.form
  obtain ⟨ln, hln⟩ : ∃ ln, x.out.length = ln := ⟨_, rfl⟩
  rw [hln] at hvo
  subst hvo
  have ho1 : (Value.slice ad ln cap).oneCell' = true := rfl
  have hb1 : (Value.slice pb nb cb).oneCell' = true := rfl
  have hsz : s.data.toList.length = s.size := by rw [← size_data]
  have Hsz := Lib.hid hsz
  have HQ := Lib.hid hq3
  have Hnb := Lib.hid hnb
  have Hown : Hid (∀ k, (Value.slice ad ln cap).ownBlock = some k → k < w.heap.size) := Lib.hid hrow.lt
  have HWk := Lib.hid (Work.begun (s := s) (vb := .slice pb nb cb) (most := most) hrow)
  obtain ⟨W, hW, H1, H2, HB⟩ := boxes_is w s (.slice pb nb cb) (.slice ad ln cap) most x
  rw [hW] at HWk
  unfold boxes at hW
  obtain ⟨xa, a, ha⟩ : ∃ xa a, bitsS s.data.toList x 5 = (xa, a) := ⟨_, _, rfl⟩
  have fa := bitsS_facts (l := s.data.toList) (x := x) (k := 5) (by omega) (by rw [Hsz.out]; exact hp)
  obtain ⟨xb, b, hb⟩ : ∃ xb b, bitsS s.data.toList xa 5 = (xb, b) := ⟨_, _, rfl⟩
  rw [ha, Hsz.out] at fa
  obtain ⟨fa1, fa2, fa3⟩ := fa
  simp only at fa1 fa2 fa3
  have fb := bitsS_facts (l := s.data.toList) (x := xa) (k := 5) (by omega) (by rw [Hsz.out]; exact fa1)
  rw [hb, Hsz.out] at fb
  obtain ⟨fb1, fb2, fb3⟩ := fb
  simp only at fb1 fb2 fb3
  obtain ⟨xc, c, hc⟩ : ∃ xc c, bitsS s.data.toList xb 4 = (xc, c) := ⟨_, _, rfl⟩
  have fc := bitsS_facts (l := s.data.toList) (x := xb) (k := 4) (by omega) (by rw [Hsz.out]; exact fb1)
  rw [hc, Hsz.out] at fc
  obtain ⟨fc1, fc2, fc3⟩ := fc
  simp only at fc1 fc2 fc3
  have Hba := Lib.hid (fun W => rBitsS_any s (.slice pb nb cb) (.slice ad ln cap) most x 5 W hb1 ho1 (by omega) hp (by omega))
  have Hbb := Lib.hid (fun W => rBitsS_any s (.slice pb nb cb) (.slice ad ln cap) most xa 5 W hb1 ho1 (by omega) fa1 (by omega))
  have Hbc := Lib.hid (fun W => rBitsS_any s (.slice pb nb cb) (.slice ad ln cap) most xb 4 W hb1 ho1 (by omega) fb1 (by omega))
  rw [ha] at Hba
  rw [hb] at Hbb
  rw [hc] at Hbc
  have H3 := Lib.hid (And.intro ha (And.intro hb hc))
  have F2 := Lib.hid (show xa.out = x.out ∧ xb.out = xa.out ∧ xc.out = xb.out from ⟨fa2, fb2, fc2⟩)
  obtain ⟨Post, hPost⟩ : ∃ Post, Handed10 w (Value.slice ad ln cap).ownBlock.toList s (.slice pb nb cb) most (ownS s.data.toList most x) = Post := ⟨_, rfl⟩
  rw [hPost]
  have HPost := Lib.hid hPost
  clear hsz hq3 hnb hPost ha hb hc fa2 fb2 fc2 hrow
  go_enter Tryz.func100, Tryz.ntmps100
  go_wp2_with (with_reducible first
    | refine StCell.load rfl (.tmp 1) rfl w.heap.size _ _ _ _ _ rfl H1.out ?_)
  refine (Hba.out _).mono ?_
  rintro e w2 ⟨rfl, hbw⟩
  have HW2 := Lib.hid (HWk.out.call hbw)
  have C2 := Lib.hid HW2.out.1
  clear hbw hW
  go_wp2_with (with_reducible first
    | (refine StCell.store rfl rfl (.tmp 1) (.tmp 13) rfl w.heap.size _ _ _ _ _ _ _ _ _ _ hb1 ho1 rfl rfl C2.out w.heap.size w2 (Below.refl _ _) (Nat.le_refl _) ?_; intro w3 Hs3 Hb3 Ho3)
    | refine StCell.load rfl (.tmp 1) rfl w.heap.size _ _ _ _ _ rfl Hs3.out ?_)
  refine (Hbb.out _).mono ?_
  rintro e w4 ⟨rfl, hbw⟩
  have HW3 := Lib.hid (HW2.out.store F2.out.1 Hs3.out Hb3.out Ho3.out)
  have HW4 := Lib.hid (HW3.out.call hbw)
  have C4 := Lib.hid HW4.out.1
  clear hbw
  go_wp2_with (with_reducible first
    | (refine StCell.store rfl rfl (.tmp 1) (.tmp 18) rfl w.heap.size _ _ _ _ _ _ _ _ _ _ hb1 ho1 rfl rfl C4.out w.heap.size w4 (Below.refl _ _) (Nat.le_refl _) ?_; intro w5 Hs5 Hb5 Ho5)
    | refine StCell.load rfl (.tmp 1) rfl w.heap.size _ _ _ _ _ rfl Hs5.out ?_)
  refine (Hbc.out _).mono ?_
  rintro e w6 ⟨rfl, hbw⟩
  have HW5 := Lib.hid (HW4.out.store F2.out.2.1 Hs5.out Hb5.out Ho5.out)
  have HW6 := Lib.hid (HW5.out.call hbw)
  have C6 := Lib.hid HW6.out.1
  clear hbw Hba Hbb Hbc
  go_upto_region 4 with (with_reducible first
    | (refine StCell.store rfl rfl (.tmp 1) (.tmp 23) rfl w.heap.size _ _ _ _ _ _ _ _ _ _ hb1 ho1 rfl rfl C6.out w.heap.size w6 (Below.refl _ _) (Nat.le_refl _) ?_; intro w7 Hs7 Hb7 Ho7))
  have HW7 := Lib.hid (HW6.out.store F2.out.2.2 Hs7.out Hb7.out Ho7.out)
  have C7 := Lib.hid HW7.out.1
  have hcase : ((29 : Int) < (a : Int) ∧ (decide (29 < a) || decide (29 < b)) = true) ∨ ((¬ (29 : Int) < (a : Int) ∧ (29 : Int) < (b : Int)) ∧ (decide (29 < a) || decide (29 < b)) = true) ∨ ((¬ (29 : Int) < (a : Int) ∧ ¬ (29 : Int) < (b : Int)) ∧ (decide (29 < a) || decide (29 < b)) = false) := by
    by_cases h1 : 29 < a
    · exact .inl ⟨by omega, by simp [h1]⟩
    · by_cases h2 : 29 < b
      · exact .inr (.inl ⟨⟨by omega, by omega⟩, by simp [h2]⟩)
      · exact .inr (.inr ⟨⟨by omega, by omega⟩, by simp [h1, h2]⟩)
  have bad1 : ∀ d, failS xc true 4 = d → d.code ≠ 0 := fun d h => by rw [← h]; exact failS_true xc
  rcases hcase with ⟨g1, hbd⟩ | ⟨⟨g1, g2⟩, hbd⟩ | ⟨⟨g1, g2⟩, hbd⟩
  iterate 2
    · obtain ⟨d, hd⟩ : ∃ d, failS xc true 4 = d := ⟨_, rfl⟩
      have hdc := bad1 d hd
      have hcz : (d.code != 0) = true := by simpa using hdc
      have Hfd := Lib.hid (fun W => rFail_any s (.slice pb nb cb) (.slice ad ln cap) most xc true 4 W hb1 ho1)
      rw [hd] at Hfd
      have Fd : Hid (d.out = xc.out) := Lib.hid (by rw [← hd, failS_out])
      have Hr : Hid (ownS s.data.toList most x = d) := Lib.hid (ownS_1 H3.out.1 H3.out.2.1 H3.out.2.2 (by rw [hbd]; exact hd) hdc)
      clear hd hdc hbd bad1
      go_wp2_with (with_reducible first
        | refine StCell.load rfl (.tmp 1) rfl w.heap.size _ _ _ _ _ rfl C7.out ?_)
      refine (Hfd.out _).mono ?_
      rintro e w8 ⟨rfl, hbw⟩
      have HW8 := Lib.hid (HW7.out.call hbw)
      have C8 := Lib.hid HW8.out.1
      clear hbw
      go_upto_region 5 with (with_reducible first
        | (refine StCell.store rfl rfl (.tmp 1) (.tmp 32) rfl w.heap.size _ _ _ _ _ _ _ _ _ _ hb1 ho1 rfl rfl C8.out w.heap.size w8 (Below.refl _ _) (Nat.le_refl _) ?_; intro w9 Hs9 Hb9 Ho9))
      have HW9 := Lib.hid (HW8.out.store Fd.out Hs9.out Hb9.out Ho9.out)
      have k5 := HW9.out.1.code
      have Cz := Lib.hid HW9.out.1
      have Dz := Lib.hid HW9.out.2.1
      go_wp2_with (with_reducible first
        | refine StCell.load rfl (.tmp 1) rfl w.heap.size _ _ _ _ _ rfl Cz.out ?_
        | (refine StCell.store rfl rfl (.tmp 2) (.tmp 36) rfl (w.heap.size + 1) _ _ _ _ _ _ _ _ _ _ hb1 ho1 rfl rfl Dz.out w.heap.size w9 (Below.refl _ _) (by omega) ?_; intro wz Hsz9 Hbz Hoz))
      exact bodyPost_ret (results_st rfl _ _ (w.heap.size + 1) _ _ _ _ _ rfl Hsz9.out) rfl (by rw [← HPost.out, Hr.out]; exact HW9.out.done ho1 Hbz.out Hoz.out)
  · have Hfd := Lib.hid (fun W => rFail_any s (.slice pb nb cb) (.slice ad ln cap) most xc false 4 W hb1 ho1)
    rw [failS_no] at Hfd
    have hd : failS xc (decide (29 < a) || decide (29 < b)) 4 = xc := by rw [hbd, failS_no]
    have Hd := Lib.hid hd
    clear hbd bad1 hd
    go_wp2_with (with_reducible first
      | refine StCell.load rfl (.tmp 1) rfl w.heap.size _ _ _ _ _ rfl C7.out ?_)
    refine (Hfd.out _).mono ?_
    rintro e w8 ⟨rfl, hbw⟩
    have HW8 := Lib.hid (HW7.out.call hbw)
    have C8 := Lib.hid HW8.out.1
    clear hbw
    go_upto_region 5 with (with_reducible first
      | (refine StCell.store rfl rfl (.tmp 1) (.tmp 32) rfl w.heap.size _ _ _ _ _ _ _ _ _ _ hb1 ho1 rfl rfl C8.out w.heap.size w8 (Below.refl _ _) (Nat.le_refl _) ?_; intro w9 Hs9 Hb9 Ho9))
    have HW9 := Lib.hid (HW8.out.store rfl Hs9.out Hb9.out Ho9.out)
    have k5 := HW9.out.1.code
    clear H1 H2 HB HWk HW2 C2 Hs3 Hb3 Ho3 HW3 HW4 C4 Hs5 Hb5 Ho5 HW5 HW6 C6 Hs7 Hb7 Ho7 HW7 C7 HW8 C8 Hs9 Hb9 Ho9 Hfd
    by_cases hc0 : xc.code = 0
    · have hcz : (xc.code != 0) = false := by simpa using hc0
      have hc16 : c < 16 := by
        have h := bitsS_small (l := s.data.toList) (x := xb) (k := 4) (by omega) (by rw [H3.out.2.2]; exact hc0)
        rw [H3.out.2.2] at h
        exact h
      have ha30 : a ≤ 29 := by omega
      have hb30 : b ≤ 29 := by omega
      obtain ⟨m4, hm4⟩ : ∃ m4, c + 4 = m4 := ⟨_, rfl⟩
      have hm4z : (c : Int) + 4 = (m4 : Int) := by omega
      have hh := rHeads_any s (.slice pb nb cb) (.slice ad ln cap) most xc m4
      obtain ⟨hx, hl, hhd⟩ : ∃ hx hl, headsS s.data.toList m4 0 (List.replicate 19 0) xc = (hx, hl) := ⟨_, _, rfl⟩
      rw [hhd] at hh
      have Hh := Lib.hid (fun W => hh W hb1 ho1 fc1 hs (by omega))
      have hln19 : hl.length = 19 := by
        have h := headsS_length s.data.toList m4 0 (List.replicate 19 0) xc
        rw [hhd, List.length_replicate] at h
        exact h
      have hat := headsS_at (l := s.data.toList) m4 0 (List.replicate 19 0) xc (by rw [Hsz.out]; exact fc1)
      rw [hhd, Hsz.out] at hat
      have Hat := Lib.hid hat
      have Hhd : Hid (headsS s.data.toList (c + 4) 0 (List.replicate 19 0) xc = (hx, hl)) := Lib.hid (by rw [hm4]; exact hhd)
      have Hc0 := Lib.hid hc0
      have C9 := Lib.hid HW9.out.1
      clear hh hhd hat hm4 hc0
      go_wp2_with (with_reducible first
        | refine StCell.load rfl (.tmp 1) rfl w.heap.size _ _ _ _ _ rfl C9.out ?_)
      refine (Hh.out _).mono ?_
      rintro e w10 ⟨g, rfl, hrw, hbw, hgn⟩
      have HW10 := Lib.hid (HW9.out.call hbw)
      have C10 := Lib.hid HW10.out.1
      have HR10 := Lib.hid hrw
      have Hgn : Hid (g ≠ w.heap.size ∧ g ≠ w.heap.size + 1) := Lib.hid (by
        have h1 := HW9.out.2.1.lt
        omega)
      clear hbw hrw hgn k5
      go_upto_region 8 with (with_reducible first
        | (refine StCell.store rfl rfl (.tmp 1) (.tmp 42) rfl w.heap.size _ _ _ _ _ _ _ _ _ _ hb1 ho1 rfl rfl C10.out w.heap.size w10 (Below.refl _ _) (Nat.le_refl _) ?_; intro w11 Hs11 Hb11 Ho11))
      have HW11 := Lib.hid (HW10.out.store Hat.out.2 Hs11.out Hb11.out Ho11.out)
      have HR11 : Hid (RowAt w11 g hl) := Lib.hid ((Ho11.out g Hgn.out.1).trans HR10.out)
      obtain ⟨ck, hck⟩ : ∃ ck, checkZ (intsOf hl) = ck := ⟨_, rfl⟩
      obtain ⟨be, hbe⟩ : ∃ be, (ck != 0) = be := ⟨_, rfl⟩
      obtain ⟨e1, he1⟩ : ∃ e1, failS hx be 4 = e1 := ⟨_, rfl⟩
      have He1 : Hid (failS hx (checkZ (intsOf hl) != 0) 4 = e1) := Lib.hid (by rw [hck, hbe]; exact he1)
      have Fe : Hid (e1.out = hx.out ∧ e1.at' = hx.at') := Lib.hid (by rw [← he1]; exact ⟨failS_out _ _ _, (failS_facts _ _ _).1⟩)
      have Hzero : Hid (e1.code = 0 → ck = 0) := Lib.hid fun h => by
        have h1 := failS_zero (x := hx) (c := be) (e := 4) (by decide) (by rw [he1]; exact h)
        have h2 := h1.1
        rw [← hbe] at h2
        simpa using h2
      go_cut [] (fun wx => Aside (Work w wx (Value.slice ad ln cap).ownBlock.toList s (.slice pb nb cb) (.slice ad ln cap) most e1) ∧ Aside (RowAt wx g hl))
      case first =>
        have HWd : Hid (Work w w11.drew (Value.slice ad ln cap).ownBlock.toList s (.slice pb nb cb) (.slice ad ln cap) most hx) := Lib.hid (HW11.out.call (Below.refl _ _).drew)
        have k0 := HW11.out.1.text
        have k1 := HW11.out.1.bits
        have k2 := HW11.out.1.at'
        have k3 := HW11.out.1.out
        have k4 := HW11.out.1.most
        have k5 := HW11.out.1.code
        have hkk := rCheck_any (some ⟨g, 0, none⟩) 19 (intsOf hl) w11.drew (by rw [intsOf_length]; omega) (RowAt.nums (w := w11.drew) HR11.out)
        rw [intsOf_length, hln19, hck] at hkk
        have Hck := Lib.hid hkk
        have hfe := fun W => rFail_any s (.slice pb nb cb) (.slice ad ln cap) most hx be 4 W hb1 ho1
        rw [he1] at hfe
        have Hfe : Hid (∀ W, Calls Tryz.prog 97 #[.agg #[.string s, .slice pb nb cb, .int .i64 (hx.at' : Int), .slice ad ln cap, .int .i64 (most : Int), .int .i64 hx.code], .bool be, .int .i64 4] W fun en w' => en = .returned (.agg #[.string s, .slice pb nb cb, .int .i64 (e1.at' : Int), .slice ad ln cap, .int .i64 (most : Int), .int .i64 e1.code]) ∧ Below W.heap.size W w') := Lib.hid hfe
        clear hkk hfe hck he1 HW11 Hs11
        go_region_with (first
          | (go_at_call 127; refine Hck.out.mono ?_; rintro e wx ⟨rfl, rfl⟩)
          | (go_at_call 97; refine (Hfe.out _).mono ?_; rintro e w12 ⟨rfl, hb12⟩; obtain ⟨⟨f0, c0⟩, ⟨f1, c1⟩, ⟨f2, c2⟩, ⟨f3, c3⟩, ⟨f4, c4⟩, ⟨f5, c5⟩⟩ := six_facts (HWd.out.call hb12).1 e1))
        all_goals
          go_wp2_with fail
          go_meet
          exact ⟨(HWd.out.call hb12).store Fe.out.1 (six_cell (HWd.out.call hb12).1 e1) (six_below (Nat.le_refl _) e1) (six_other _ _ _ _ _ _ e1), (six_other _ _ _ _ _ _ e1 g Hgn.out.1).trans (RowAt.later (w := w11.drew) HR11.out hb12)⟩
      case rest =>
        obtain ⟨HWa, HRa⟩ := hcut
        have HWe := Lib.hid HWa.out
        have HRe := Lib.hid HRa.out
        have Ce := Lib.hid HWe.out.1
        have k5 := Ce.out.code
        clear HWa HRa HW11 HR11 HW10 C10 HR10 Hs11 Hb11 Ho11 hbe
        by_cases he0 : e1.code = 0
        · have hez : (e1.code != 0) = false := by simpa using he0
          have hck0 := Hzero.out he0
          have hck2 : checkZ (intsOf hl) = 0 := by rw [hck, hck0]
          obtain ⟨many, hmany⟩ : ∃ many, a + b + 258 = many := ⟨_, rfl⟩
          have hmz : (a : Int) + (b : Int) + 258 = (many : Int) := by omega
          have heat : e1.at' ≤ 8 * s.size := by rw [Fe.out.2]; exact Hat.out.1
          obtain ⟨rx, rl, hr⟩ : ∃ rx rl, rowS s.data.toList hl many FUEL [] e1 = (rx, rl) := ⟨_, _, rfl⟩
          have hrw := rRow_any s pb cb (.slice ad ln cap) most e1 (some ⟨g, 0, none⟩) 19 19 nb many hl wc ho1 heat hs (by omega) (checkZ_good hck2) hln19.symm Hnb.out HRe.out.nums (HWe.out.reads HQ.out).nums
          have hro := rowS_out s.data.toList hl many FUEL [] e1
          rw [hr] at hrw hro
          have Hrw := Lib.hid hrw
          have Hro := Lib.hid hro
          have Hrr := Lib.hid hr
          have Hmany := Lib.hid hmany
          have He0 := Lib.hid he0
          clear hrw hro hr hck0 hck2 he0 hck hmany
          go_wp2_with (with_reducible first
            | refine StCell.load rfl (.tmp 1) rfl w.heap.size _ _ _ _ _ rfl Ce.out ?_)
          refine Hrw.out.mono ?_
          rintro e w14 ⟨v, rfl, ho, hbw⟩
          have HW14 := Lib.hid (HWe.out.call hbw)
          have C14 := Lib.hid HW14.out.1
          have HO14 := Lib.hid ho
          have Hlow : Hid (w.heap.size + 1 < wc.heap.size) := Lib.hid HWe.out.2.1.lt
          clear hbw ho k5
          go_upto_region 12 with (with_reducible first
            | (refine StCell.store rfl rfl (.tmp 1) (.tmp 61) rfl w.heap.size _ _ _ _ _ _ _ _ _ _ hb1 ho1 rfl rfl C14.out w.heap.size w14 (Below.refl _ _) (Nat.le_refl _) ?_; intro w15 Hs15 Hb15 Ho15))
          have HW15 := Lib.hid (HW14.out.store Hro.out Hs15.out Hb15.out Ho15.out)
          have HO15 := Lib.hid (HO14.out.move (w' := w15) fun k hk => Ho15.out k (by have h1 := (HO14.out.1.lt k hk).1; have h2 := Hlow.out; omega))
          have k5 := HW15.out.1.code
          clear HO14 Hrw C14 HW14 Ce
          by_cases hr0 : rx.code = 0
          · have hrz : (rx.code != 0) = false := by simpa using hr0
            obtain ⟨hrl, h15, hrat, hrout⟩ := rowS_good (l := s.data.toList) (by omega) He0.out (by rw [Hsz.out]; exact heat) Hrr.out hr0
            rw [Hsz.out] at hrat
            have hown := HO15.out.1.2
            obtain ⟨g3, cap3, hv, hg3, hbits⟩ := HO15.out.bits
            rw [hrl] at hv
            have hcap : many ≤ cap3 := by
              rcases hown with ⟨e, _⟩ | ⟨g', c', cur, e, _, _, hnc, _⟩
              · rw [hv] at e; cases e
              · rw [hv] at e
                injection e with _ _ e3
                rw [← e3] at hnc
                rw [asZ_length, hrl] at hnc
                exact hnc
            subst hv
            obtain ⟨sy, hsy⟩ : ∃ sy, a + 257 = sy := ⟨_, rfl⟩
            obtain ⟨di, hdi⟩ : ∃ di, b + 1 = di := ⟨_, rfl⟩
            have hmany := Hmany.out
            have hsyz : (a : Int) + 257 = (sy : Int) := by omega
            have hds : many - sy = di := by omega
            have hne1 : ¬ many = sy := by omega
            have hne2 : ¬ cap3 = sy := by omega
            have hle1 : (sy : Int) ≤ (many : Int) := by omega
            have hle2 : (sy : Int) ≤ (cap3 : Int) := by omega
            obtain ⟨c9, hc9⟩ : ∃ c9, cap3 - sy = c9 := ⟨_, rfl⟩
            have Hsy := Lib.hid hsy
            have Hdi : Hid (sy + di = many) := Lib.hid (by omega)
            have hsy3 : 257 ≤ sy ∧ sy ≤ 286 := by omega
            have hdi3 : 1 ≤ di ∧ di ≤ 30 := by omega
            have Hrl := Lib.hid hrl
            have H15 := Lib.hid h15
            have Hg3 : Hid (w.heap.size + 1 < g3 ∧ g3 < w15.heap.size) := Lib.hid ⟨by have := Hlow.out; omega, hbits.1⟩
            have HBi := Lib.hid hbits
            have Hr0 := Lib.hid hr0
            have Hrat := Lib.hid hrat
            have Hcap := Lib.hid hcap
            clear hown hrl h15 hbits hr0 hrat hrout hcap hmany hsy hdi HO15
            go_upto_region 14 with fail
            go_cut [8, 9] (fun s8 s9 wx => s8 = .slice (some ⟨g3, 0, none⟩) sy cap3 ∧ s9 = .slice (some ⟨g3, sy, none⟩) di c9 ∧ Aside (Work w wx (Value.slice ad ln cap).ownBlock.toList s (.slice pb nb cb) (.slice ad ln cap) most rx) ∧ Aside (BitsAt wx g3 rl))
            case first =>
              have HWd : Hid (Work w w15.drew (Value.slice ad ln cap).ownBlock.toList s (.slice pb nb cb) (.slice ad ln cap) most rx) := Lib.hid (HW15.out.call (Below.refl _ _).drew)
              go_region
              all_goals
                go_wp2_with fail
                go_meet
                exact ⟨rfl, rfl, HWd.out, HBi.out⟩
            case rest =>
              obtain ⟨rfl, rfl, HWb, HBb⟩ := hcut
              have HW16 := Lib.hid HWb.out
              have HB16 := Lib.hid HBb.out
              clear HWb HBb HW15 HBi Hs15 Hb15 Ho15 hne1 hne2 hle1 hle2 hds hsyz hmz k5 hrz
              obtain ⟨ck1, hck1⟩ : ∃ ck1, checkZ (intsOf (rl.take sy)) = ck1 := ⟨_, rfl⟩
              obtain ⟨y, hy⟩ : ∃ y, (rl.take sy)[256]?.getD 0 = y := ⟨_, rfl⟩
              obtain ⟨fb, hfb⟩ : ∃ fb, farB (rl.drop sy) = fb := ⟨_, rfl⟩
              obtain ⟨bv, hbv⟩ : ∃ bv, (ck1 != 0 || y == 0 || !fb) = bv := ⟨_, rfl⟩
              obtain ⟨gx, hgx⟩ : ∃ gx, failS rx bv 4 = gx := ⟨_, rfl⟩
              have H8 : Hid (failS rx (checkZ (intsOf (rl.take (a + 257))) != 0 || (rl.take (a + 257))[256]?.getD 0 == 0 || !farB (rl.drop (a + 257))) 4 = gx) := Lib.hid (by rw [Hsy.out, hck1, hy, hfb, hbv]; exact hgx)
              have Fg : Hid (gx.out = rx.out ∧ gx.at' = rx.at') := Lib.hid (by rw [← hgx]; exact ⟨failS_out _ _ _, (failS_facts _ _ _).1⟩)
              have Hgood : Hid (gx.code = 0 → ck1 = 0 ∧ fb = true) := Lib.hid fun h => by
                have h1 := (failS_zero (x := rx) (c := bv) (e := 4) (by decide) (by rw [hgx]; exact h)).1
                rw [← hbv] at h1
                simp only [Bool.or_eq_false_iff, Bool.not_eq_false'] at h1
                exact ⟨by simpa using h1.1.1, h1.2⟩
              have hyc : rl[256]? = some y := by
                rw [← hy, List.getElem?_take, if_pos (by omega), List.getElem?_eq_getElem (by rw [Hrl.out]; have := Hdi.out; omega)]; rfl
              have Hyc := Lib.hid hyc
              have h256 : (256 : Int) < (sy : Int) := by omega
              have hl1 : (rl.take sy).length = sy := by rw [List.length_take, Hrl.out]; have := Hdi.out; omega
              have hl2 : (rl.drop sy).length = di := by rw [List.length_drop, Hrl.out]; have := Hdi.out; omega
              have Hl1 := Lib.hid hl1
              have Hl2 := Lib.hid hl2
              go_upto_region 15 with fail
              go_cut [] (fun wx => Aside (Work w wx (Value.slice ad ln cap).ownBlock.toList s (.slice pb nb cb) (.slice ad ln cap) most gx) ∧ Aside (BitsAt wx g3 rl))
              case first =>
                have HWd : Hid (Work w wc.drew (Value.slice ad ln cap).ownBlock.toList s (.slice pb nb cb) (.slice ad ln cap) most rx) := Lib.hid (HW16.out.call (Below.refl _ _).drew)
                have HBd : Hid (BitsAt wc.drew g3 rl) := Lib.hid HB16.out
                have k0 := HW16.out.1.text
                have k1 := HW16.out.1.bits
                have k2 := HW16.out.1.at'
                have k3 := HW16.out.1.out
                have k4 := HW16.out.1.most
                have k5 := HW16.out.1.code
                have ky : wc.cell? ⟨g3, 256, none⟩ = some (.int .i64 (y : Int)) := by
                  obtain ⟨h1, h2⟩ := List.getElem?_eq_some_iff.1 Hyc.out
                  rw [HB16.out.2 256 h1, h2]
                have hpt := Reads.part HBd.out (vo := .slice none 0 0) (B := g3 + 1) (by simp [Value.ownBlock]) (by omega) sy
                have hkk := rCheck_any (some ⟨g3, 0, none⟩) cap3 (intsOf (rl.take sy)) wc.drew (by rw [intsOf_length, hl1]; omega) hpt.1.nums
                rw [intsOf_length, hl1, hck1] at hkk
                have Hck : Hid (Calls Tryz.prog 127 #[.slice (some ⟨g3, 0, none⟩) sy cap3] wc.drew fun e w' => e = .returned (.int .i64 ck1) ∧ w' = wc.drew) := Lib.hid (hkk.mono fun e w' h => ⟨h.1, h.2.symm⟩)
                have hff := rFar_any (some ⟨g3, sy, none⟩) c9 di (rl.drop sy) wc.drew (by rw [hl2]; omega) (fun k hk => H15.out k (List.mem_of_mem_drop hk)) hl2.symm hpt.2.nums
                rw [hfb] at hff
                have Hff : Hid (Calls Tryz.prog 129 #[.slice (some ⟨g3, sy, none⟩) di c9] wc.drew fun e w' => e = .returned (.bool fb) ∧ w' = wc.drew) := Lib.hid (hff.mono fun e w' h => ⟨h.1, h.2.symm⟩)
                have hfe := fun W => rFail_any s (.slice pb nb cb) (.slice ad ln cap) most rx bv 4 W hb1 ho1
                rw [hgx] at hfe
                have Hfe : Hid (∀ W, Calls Tryz.prog 97 #[.agg #[.string s, .slice pb nb cb, .int .i64 (rx.at' : Int), .slice ad ln cap, .int .i64 (most : Int), .int .i64 rx.code], .bool bv, .int .i64 4] W fun en w' => en = .returned (.agg (stV s (.slice pb nb cb) (.slice ad ln cap) most gx)) ∧ Below W.heap.size W w') := Lib.hid hfe
                have hcase : (∃ _ : (ck1 != 0) = true, bv = true) ∨ (∃ (_ : (ck1 != 0) = false) (_ : ((y : Int) == 0) = true), bv = true) ∨ (∃ (_ : (ck1 != 0) = false) (_ : ((y : Int) == 0) = false), fb = false ∧ bv = true) ∨ (∃ (_ : (ck1 != 0) = false) (_ : ((y : Int) == 0) = false), fb = true ∧ bv = false) := by
                  have hyz : ((y : Int) == 0) = (y == 0) := by
                    by_cases h : y = 0
                    · subst h; rfl
                    · have h1 : (y == 0) = false := by simpa using h
                      rw [h1, beq_eq_false_iff_ne]; omega
                  rw [hyz]
                  cases h1 : (ck1 != 0)
                  · cases h2 : (y == 0)
                    · cases fb
                      · exact .inr (.inr (.inl ⟨rfl, rfl, rfl, by rw [← hbv, h1, h2]; rfl⟩))
                      · exact .inr (.inr (.inr ⟨rfl, rfl, rfl, by rw [← hbv, h1, h2]; rfl⟩))
                    · exact .inr (.inl ⟨rfl, rfl, by rw [← hbv, h1, h2]; rfl⟩)
                  · exact .inl ⟨rfl, by rw [← hbv, h1]; rfl⟩
                clear hkk hff hfe hck1 hfb hgx hyc hy hpt hl1 hl2 hbv Hgood Hyc Hl1 Hl2 HW16 HB16 H8
                rcases hcase with ⟨q1, rfl⟩ | ⟨q1, q2, rfl⟩ | ⟨q1, q2, rfl, rfl⟩ | ⟨q1, q2, rfl, rfl⟩
                all_goals
                  refine wp_region_still_tail 15 (by kernel_rfl) (by kernel_rfl) ?_
                  simp only [List.take_succ_cons, List.take_zero, List.drop_succ_cons, List.drop_zero]
                  repeat (first | still_step | still_call Hck.out | still_call Hff.out)
                  try refine wpStill_nil ?_
                  change wpList _ _ _ _ _ wc.drew
                  go_wp2_with fail
                  refine (Hfe.out _).mono ?_
                  rintro e w12 ⟨rfl, hb12⟩
                  have HWf := Lib.hid (HWd.out.call hb12)
                  have Cf := Lib.hid HWf.out.1
                  have Hb12 := Lib.hid hb12
                  clear hb12
                  go_wp2_with (with_reducible first
                    | (refine StCell.store rfl rfl (.tmp 1) (.tmp 90) rfl w.heap.size _ _ _ _ _ _ _ _ _ _ hb1 ho1 rfl rfl Cf.out w.heap.size w12 (Below.refl _ _) (Nat.le_refl _) ?_; intro w13 Hs13 Hb13 Ho13))
                  go_meet
                  exact ⟨HWf.out.store Fg.out.1 Hs13.out Hb13.out Ho13.out, (HBd.out.later Hb12.out).move (Ho13.out g3 (by have := Hg3.out.1; omega))⟩
              case rest =>
                obtain ⟨HWa, HBa⟩ := hcut
                have HW18 := Lib.hid HWa.out
                have HB18 := Lib.hid HBa.out
                have C18 := Lib.hid HW18.out.1
                have k5 := C18.out.code
                clear HWa HBa HW16 HB16 hgx hbv
                by_cases hg0 : gx.code = 0
                · have hgz : (gx.code != 0) = false := by simpa using hg0
                  obtain ⟨hk0, hf1⟩ := Hgood.out hg0
                  have hr1 : refusedZ (intsOf (rl.take sy)) = 0 := checkZ_good (by rw [hck1, hk0])
                  have hr2 : refusedZ (intsOf (rl.drop sy)) = 0 := far_refused (by rw [hfb, hf1])
                  have hgo : gx.out = x.out := by rw [Fg.out.1, Hro.out, Fe.out.1, Hat.out.2, F2.out.2.2, F2.out.2.1, F2.out.1]
                  obtain ⟨fin, hfin⟩ : ∃ fin, codedS s.data.toList (rl.take sy) (rl.drop sy) most FUEL gx = fin := ⟨_, rfl⟩
                  have Hr : Hid (ownS s.data.toList most x = fin) := Lib.hid (by
                    rw [ownS_5 H3.out.1 H3.out.2.1 H3.out.2.2 Hd.out Hc0.out Hhd.out He1.out He0.out (by rw [Hmany.out]; exact Hrr.out) Hr0.out H8.out hg0, Hsy.out]
                    exact hfin)
                  have hpt := Reads.part HB18.out (vo := .slice ad ln cap) (B := wc.heap.size) (fun e => by
                    have h1 := HW18.out.2.2.2.1
                    have h2 := Hg3.out.1
                    have h3 := Hown.out _ e
                    omega) (by have := HB18.out.1; omega) sy
                  have hcd := rCoded_any s pb cb (.slice ad ln cap) most gx (some ⟨g3, 0, none⟩) (some ⟨g3, sy, none⟩) cap3 c9 sy di nb (rl.take sy) (rl.drop sy) wc ho1 (by rw [Fg.out.2]; exact Hrat.out) hs hM (by rw [hgo, hln]; omega) HW18.out.2.2.1 hr1 hr2 Hl1.out.symm Hl2.out.symm Hnb.out hpt.1 hpt.2 (HW18.out.reads HQ.out)
                  rw [hfin] at hcd
                  have Hcd := Lib.hid hcd
                  clear hcd hpt hfin hgo hr1 hr2 hk0 hf1 hg0 hck1 hfb hy hyc
                  go_wp2_with (with_reducible first
                    | refine StCell.load rfl (.tmp 1) rfl w.heap.size _ _ _ _ _ rfl C18.out ?_)
                  refine Hcd.out.mono ?_
                  rintro e w20 ⟨v2, rfl, hv2, hr2, ht2⟩
                  have D20 := Lib.hid (HW18.out.two ht2)
                  have Hr2 := Lib.hid hr2
                  have Ht2 := Lib.hid ht2
                  clear hr2 ht2
                  go_wp2_with (with_reducible first
                    | (refine StCell.store rfl rfl (.tmp 2) (.tmp 98) rfl (w.heap.size + 1) _ _ _ _ _ _ _ _ _ _ hb1 hv2 rfl rfl D20.out w.heap.size w20 (Below.refl _ _) (by omega) ?_; intro w21 Hs21 Hb21 Ho21))
                  exact bodyPost_ret (results_st rfl _ _ (w.heap.size + 1) _ _ _ _ _ rfl Hs21.out) rfl (by rw [← HPost.out, Hr.out]; exact HW18.out.last hv2 Ht2.out Hr2.out Hb21.out Ho21.out)
                · have hgz : (gx.code != 0) = true := by simpa using hg0
                  have Hr : Hid (ownS s.data.toList most x = gx) := Lib.hid (ownS_4 H3.out.1 H3.out.2.1 H3.out.2.2 Hd.out Hc0.out Hhd.out He1.out He0.out (by rw [Hmany.out]; exact Hrr.out) Hr0.out H8.out hg0)
                  clear hg0 hck1 hfb hy hyc
                  have Cz := Lib.hid HW18.out.1
                  have Dz := Lib.hid HW18.out.2.1
                  go_wp2_with (with_reducible first
                    | refine StCell.load rfl (.tmp 1) rfl w.heap.size _ _ _ _ _ rfl Cz.out ?_
                    | (refine StCell.store rfl rfl (.tmp 2) (.tmp 94) rfl (w.heap.size + 1) _ _ _ _ _ _ _ _ _ _ hb1 ho1 rfl rfl Dz.out w.heap.size wc (Below.refl _ _) (by omega) ?_; intro wz Hsz9 Hbz Hoz))
                  exact bodyPost_ret (results_st rfl _ _ (w.heap.size + 1) _ _ _ _ _ rfl Hsz9.out) rfl (by rw [← HPost.out, Hr.out]; exact HW18.out.done ho1 Hbz.out Hoz.out)
          · have hrz : (rx.code != 0) = true := by simpa using hr0
            have Hr : Hid (ownS s.data.toList most x = rx) := Lib.hid (ownS_3 H3.out.1 H3.out.2.1 H3.out.2.2 Hd.out Hc0.out Hhd.out He1.out He0.out (by rw [Hmany.out]; exact Hrr.out) hr0)
            clear hr0
            have Cz := Lib.hid HW15.out.1
            have Dz := Lib.hid HW15.out.2.1
            go_wp2_with (with_reducible first
              | refine StCell.load rfl (.tmp 1) rfl w.heap.size _ _ _ _ _ rfl Cz.out ?_
              | (refine StCell.store rfl rfl (.tmp 2) (.tmp 66) rfl (w.heap.size + 1) _ _ _ _ _ _ _ _ _ _ hb1 ho1 rfl rfl Dz.out w.heap.size w15 (Below.refl _ _) (by omega) ?_; intro wz Hsz9 Hbz Hoz))
            exact bodyPost_ret (results_st rfl _ _ (w.heap.size + 1) _ _ _ _ _ rfl Hsz9.out) rfl (by rw [← HPost.out, Hr.out]; exact HW15.out.done ho1 Hbz.out Hoz.out)
        · have hez : (e1.code != 0) = true := by simpa using he0
          have Hr : Hid (ownS s.data.toList most x = e1) := Lib.hid (ownS_2 H3.out.1 H3.out.2.1 H3.out.2.2 Hd.out Hc0.out Hhd.out He1.out he0)
          clear he0
          have Cz := Lib.hid HWe.out.1
          have Dz := Lib.hid HWe.out.2.1
          go_wp2_with (with_reducible first
            | refine StCell.load rfl (.tmp 1) rfl w.heap.size _ _ _ _ _ rfl Cz.out ?_
            | (refine StCell.store rfl rfl (.tmp 2) (.tmp 52) rfl (w.heap.size + 1) _ _ _ _ _ _ _ _ _ _ hb1 ho1 rfl rfl Dz.out w.heap.size wc (Below.refl _ _) (by omega) ?_; intro wz Hsz9 Hbz Hoz))
          exact bodyPost_ret (results_st rfl _ _ (w.heap.size + 1) _ _ _ _ _ rfl Hsz9.out) rfl (by rw [← HPost.out, Hr.out]; exact HWe.out.done ho1 Hbz.out Hoz.out)
    · have hcz : (xc.code != 0) = true := by simpa using hc0
      have Hr : Hid (ownS s.data.toList most x = xc) := Lib.hid (ownS_1 H3.out.1 H3.out.2.1 H3.out.2.2 Hd.out hc0)
      clear hc0
      have Cz := Lib.hid HW9.out.1
      have Dz := Lib.hid HW9.out.2.1
      go_wp2_with (with_reducible first
        | refine StCell.load rfl (.tmp 1) rfl w.heap.size _ _ _ _ _ rfl Cz.out ?_
        | (refine StCell.store rfl rfl (.tmp 2) (.tmp 36) rfl (w.heap.size + 1) _ _ _ _ _ _ _ _ _ _ hb1 ho1 rfl rfl Dz.out w.heap.size w9 (Below.refl _ _) (by omega) ?_; intro wz Hsz9 Hbz Hoz))
      exact bodyPost_ret (results_st rfl _ _ (w.heap.size + 1) _ _ _ _ _ rfl Hsz9.out) rfl (by rw [← HPost.out, Hr.out]; exact HW9.out.done ho1 Hbz.out Hoz.out)
end Go.Proofs.YtnelbahohkjcnaaGreatDoor
