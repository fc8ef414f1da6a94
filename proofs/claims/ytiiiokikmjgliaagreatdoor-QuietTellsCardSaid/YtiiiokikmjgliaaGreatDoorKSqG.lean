/-
  SqRefF, SqLaw3: texts merged.
-/
import Derived.Test.YtiiiokikmjgliaaGreatDoorKSqL
import Derived.Test.YtiiiokikmjgliaaGreatDoorKBlk
import Derived.Test.YtiiiokikmjgliaaGreatDoorKCodeR
import Derived.Deep.RegionWith
/-
  The contract of the document's Fixed.
-/
namespace Go.Proofs.YtiiiokikmjgliaaGreatDoor
section
open Go.RowKit
set_option maxRecDepth 100000
theorem codes_lit : natsOf (asZ fixedLit) = fixedLit := natsOf_intsOf fixedLit
theorem BitsAt.of {w : World} {g : Nat} {row : List Nat} (h : BitsAt w g row) {j x : Nat} (hj : row[j]? = some x) : w.cell? ⟨g, j, none⟩ = some (.int .i64 (x : Int)) := by
  obtain ⟨h1, h2⟩ := List.getElem?_eq_some_iff.1 hj
  rw [h.2 j h1, h2]
theorem sym_parts {k : Nat} (h : k < 288) : ∃ wd code, fixedLit[k]? = some wd ∧ (codesN fixedLit)[k]? = some code ∧ symB k = codeBits wd code ∧ wd ≤ 9 ∧ code ≤ 100000 := by
  obtain ⟨wd, h1, h2⟩ := fixedLit_at h
  have hl : fixedLit.length = 288 := by decide +kernel
  have h3 := litL_le ⟨k, h⟩
  simp only [h1, Option.getD_some] at h3
  obtain ⟨_, hall, hkr⟩ := refusedZ_zero fixed_refused.1
  have h4 : codeAt fixedLit k ≤ 100000 := by
    obtain ⟨n, rfl⟩ : ∃ n, wd = n + 1 := ⟨wd - 1, by omega⟩
    have h5 := codeAt_lt hall hkr (i := k) (n := n) (by rw [show (intsOf fixedLit).map Int.toNat = fixedLit from natsOf_intsOf fixedLit]; exact h1)
    rw [show (intsOf fixedLit).map Int.toNat = fixedLit from natsOf_intsOf fixedLit] at h5
    have h6 : (2 : Nat) ^ (n + 1) ≤ 2 ^ 15 := Nat.pow_le_pow_right (by omega) h5.1
    omega
  exact ⟨wd, codeAt fixedLit k, h1, codesN_at (by omega), by unfold symB; rw [h1]; rfl, h3.1, h4⟩
theorem codedN_done {l : List UInt8} {f a : Nat} (h : l.length ≤ a) : codedN l f a = [] := by
  cases f with
  | zero => rfl
  | succ f => rw [codedN, if_pos h]
theorem sym_byte (c : UInt8) : ∃ wd code, fixedLit[c.toNat]? = some wd ∧ (codesN fixedLit)[c.toNat]? = some code ∧ symB c.toNat = codeBits wd code ∧ wd ≤ 9 ∧ code ≤ 100000 := sym_parts (by have := c.toNat_lt; omega)
theorem wrap64_byteS (c : UInt8) : wrap64 (c.toNat : Int) = (c.toNat : Int) := i64_nat _ (by have := c.toNat_lt; omega)
theorem byte_288 (c : UInt8) : (c.toNat : Int) < 288 := by have := c.toNat_lt; omega
theorem rput_is (g c L wd code : Nat) (row row' : List Nat) (w : World) (hr : BitsAt w g row) (hL : row.length = L) (hl : L ≤ 900000) (hw : wd ≤ 15) (hc : code ≤ 1000000) (h' : row ++ codeBits wd code = row') :
    Calls Tryz.prog 80 #[.slice (some ⟨g, 0, none⟩) L c, .int .i64 (wd : Int), .int .i64 (code : Int)] w fun en w' => ∃ g' c', en = .returned (.slice (some ⟨g', 0, none⟩) row'.length c') ∧ BitsAt w' g' row' ∧ Below w.heap.size w w' := by
  subst hL h'
  refine (rPutC_any g c row wd code w hr (by omega) hw hc).mono ?_
  rintro en w' ⟨g', c', rfl, hb, hB, _⟩
  exact ⟨g', c', rfl, hb, hB⟩
theorem rnum_is (g c L n k : Nat) (row row' : List Nat) (w : World) (hr : BitsAt w g row) (hL : row.length = L) (hl : L ≤ 900000) (hk : k ≤ 16) (hn : n < 2 ^ k) (h' : row ++ bitsN k n = row') :
    Calls Tryz.prog 78 #[.slice (some ⟨g, 0, none⟩) L c, .int .i64 (n : Int), .int .i64 (k : Int)] w fun en w' => ∃ g' c', en = .returned (.slice (some ⟨g', 0, none⟩) row'.length c') ∧ BitsAt w' g' row' ∧ Below w.heap.size w w' := by
  subst hL h'
  refine (rnumber_is g c n k row w hr hl hk hn).mono ?_
  rintro en w' ⟨g', c', rfl, hb, hB⟩
  exact ⟨g', c', by rw [List.length_append, bitsN_length], hb, hB⟩
set_option maxHeartbeats 4000000 in
theorem rFixed11_is (s : ByteArray) (w : World) (hs : s.size ≤ 10000) {u : ByteArray} (hu : fixedZ s.data.toList = u.data.toList) :
    Calls Tryz.prog 61 #[.string s] w fun en w' => en = .returned (.string u) ∧ Below w.heap.size w w' := by
  have HU := Lib.hid hu
  have hfl := fixedR_length s.data.toList
  rw [← size_data] at hfl
  have HR : Hid (fixedR s.data.toList = (headB ++ codedN s.data.toList s.size 0) ++ symB 256) := Lib.hid (by rw [size_data]; rfl)
  have HFl := Lib.hid hfl
  have HX := Lib.hid (rFixed_any w)
  clear hu hfl
  go_enter Tryz.func61, Tryz.ntmps61
  go_wp2_with fail
  refine HX.out.mono ?_
  rintro e w1 ⟨gl, cl, gd, cd, rfl, hl, hd, hb, _, _⟩
  rw [fixedLit_length, fixedDist_length]
  have HLit := Lib.hid hl
  have HDist := Lib.hid hd
  have HB1 := Lib.hid hb
  have hco := rCodes_good (some ⟨gl, 0, none⟩) cl (asZ fixedLit) w1 hl.nums fixed_refused.1
  rw [show (asZ fixedLit).length = 288 by rw [asZ_length, fixedLit_length], codes_lit] at hco
  have HCo := Lib.hid hco
  clear hl hd hb hco HX
  go_wp2_with fail
  refine HCo.out.mono ?_
  rintro e w2 ⟨gc, cc, rfl, hc, hb, _⟩
  have HB2 := Lib.hid (HB1.out.trans (hb.mono HB1.out.size))
  have HLit := Lib.hid (HLit.out.later hb)
  have HDist := Lib.hid (HDist.out.later hb)
  have HC := Lib.hid hc
  clear hc hb HCo
  have HN1 : Hid (Calls Tryz.prog 78 #[.slice none 0 0, .int .i64 1, .int .i64 1] w2 _) := Lib.hid (rnumber_nil 1 1 w2 (by omega) (by omega))
  go_wp2_with fail
  refine HN1.out.mono ?_
  rintro e w3 ⟨g1, c1, rfl, hr, hb⟩
  have HB3 := Lib.hid (HB2.out.trans (hb.mono HB2.out.size))
  have HLit := Lib.hid (HLit.out.later hb)
  have HDist := Lib.hid (HDist.out.later hb)
  have HC := Lib.hid (HC.out.later hb)
  have HN2 : Hid (Calls Tryz.prog 78 #[.slice (some ⟨g1, 0, none⟩) 1 c1, .int .i64 1, .int .i64 2] w3 fun en w' => ∃ g' cap', en = .returned (.slice (some ⟨g', 0, none⟩) 3 cap') ∧ BitsAt w' g' headB ∧ Below w3.heap.size w3 w') := Lib.hid (rnumber_is g1 c1 1 2 (bitsN 1 1) w3 hr (by decide) (by omega) (by omega))
  clear hr hb HN1
  go_wp2_with fail
  refine HN2.out.mono ?_
  rintro e w4 ⟨g2, c2, rfl, hr, hb⟩
  have HB4 := Lib.hid (HB3.out.trans (hb.mono HB3.out.size))
  have HLit := Lib.hid (HLit.out.later hb)
  have HDist := Lib.hid (HDist.out.later hb)
  have HC := Lib.hid (HC.out.later hb)
  have HH := Lib.hid hr
  clear hr hb HN2
  go_wp2_with fail
  go_loopg [7, 8, 9, 10, 11, 12, 13] s.size (fun gg s7 s8 s9 s10 s11 s12 s13 wx => ∃ (a g c L : Nat) (row : List Nat), s8 = .int .i64 (a : Int) ∧ s7 = .slice (some ⟨g, 0, none⟩) L c ∧ s.size ≤ a + gg ∧ a ≤ s.size ∧ L ≤ 800000 ∧ Aside (row.length = L) ∧ Aside (BitsAt wx g row) ∧ Aside (row ++ (codedN s.data.toList gg a ++ symB 256) = fixedR s.data.toList) ∧ Aside (Below w4.heap.size w4 wx))
  case atStart => exact ⟨0, g2, c2, 3, headB, rfl, rfl, by omega, by omega, by omega, rfl, HH.out, by show _ = _; rw [HR.out, List.append_assoc], below_same _⟩
  case round =>
    obtain ⟨a, g, c, L, row, rfl, rfl, hag, has, hLL, HL, HA, HQ, HB⟩ := hrel
    by_cases ha : a < s.size
    · have haz : (a : Int) < (s.size : Int) := by omega
      obtain ⟨n, d, hn⟩ : ∃ n d, pieceN s.data.toList a (farN a) = (n, d) := ⟨_, _, rfl⟩
      obtain ⟨gg, rfl⟩ : ∃ gg, gk = gg + 1 := ⟨gk - 1, by omega⟩
      have HPi := Lib.hid (rPiece_is s a wr (by omega) ha hn)
      have hnx : nextN s.data.toList a = if n < 3 then (0, 0) else (n, d) := by unfold nextN; rw [pieceT_of, hn]
      have hnf := nextN_facts s.data.toList a
      rw [hnx] at hnf
      have hst : codedN s.data.toList (gg + 1) a = if n < 3 then symB (s[a]'ha).toNat ++ codedN s.data.toList gg (a + 1) else pieceB n d ++ codedN s.data.toList gg (a + n) := by
        rw [codedN, if_neg (by rw [← size_data]; omega), hnx, text_get ha]
        by_cases h3 : n < 3
        · rw [if_pos h3, if_pos h3]; rfl
        · rw [if_neg h3, if_neg h3, if_neg (by show ¬ n = 0; omega)]
      have Hst := Lib.hid hst
      clear hn hst hnx
      by_cases h3 : n < 3
      · have h3z : (n : Int) < 3 := by omega
        obtain ⟨row', hrow'⟩ : ∃ row', row ++ symB (s[a]'ha).toNat = row' := ⟨_, rfl⟩
        have hQ : row' ++ (codedN s.data.toList gg (a + 1) ++ symB 256) = fixedR s.data.toList := by
          have h := HQ.out
          rw [Hst.out, if_pos h3] at h
          rw [← h, ← hrow']; simp
        have hrl2 : row'.length ≤ 800000 := by
          have h := congrArg List.length hQ
          rw [List.length_append] at h
          have := HFl.out
          omega
        have HQ2 := Lib.hid hQ
        have hw64 := wrap64_byteS (s[a]'ha)
        have hy288 := byte_288 (s[a]'ha)
        obtain ⟨wd, code, q1, q2, q3, q4, q5⟩ := sym_byte (s[a]'ha)
        rw [q3] at hrow'
        have HPu := Lib.hid (fun W (hW : Below wr.heap.size wr W) => rput_is g c L wd code row row' W (BitsAt.later HA.out hW) HL.out (by omega) (by omega) (by omega) hrow')
        have Hq := Lib.hid (And.intro q1 q2)
        clear hQ hnf q1 q2 q3 hrow'
        go_wp2_with fail
        refine HPi.out.mono ?_
        rintro e w5 ⟨rfl, hb⟩
        have HB5 := Lib.hid hb
        have HB5' := Lib.hid (HB.out.trans (hb.mono HB.out.size))
        have k1 := (HLit.out.later HB5'.out).of Hq.out.1
        have k2 := (HC.out.later HB5'.out).of Hq.out.2
        have HPu5 := Lib.hid (HPu.out w5.drew HB5.out.drew)
        clear hb HPi HPu
        go_wp2_with fail
        go_region_with (go_at_call 80; refine HPu5.out.mono ?_; rintro e w6 ⟨g6, c6, rfl, hr, hb⟩)
        all_goals
          have HA6 := Lib.hid hr
          have HB6 := Lib.hid (HB5'.out.drew.trans (hb.mono HB5'.out.drew.size))
          clear hr hb k1 k2
          go_wp2_with fail
          go_roundg gg
          case measure => omega
          case rel => exact ⟨a + 1, g6, c6, _, row', by go_num, rfl, by omega, by omega, hrl2, rfl, HA6.out, HQ2.out, HB6.out⟩
      · obtain ⟨g3, g258, gl', d1', d2', d3'⟩ : 3 ≤ n ∧ n ≤ 258 ∧ a + n ≤ s.size ∧ 1 ≤ d ∧ d ≤ 32768 ∧ d ≤ a := by
          rw [if_neg h3] at hnf
          rcases hnf with h | ⟨n', d', h, h1, h2, h3', h4, h5, h6, _⟩
          · have := (Prod.mk.inj h).1; omega
          · obtain ⟨rfl, rfl⟩ := Prod.mk.inj h
            exact ⟨h1, h2, by rw [size_data]; exact h3', h4, h5, h6⟩
        have h3z : ¬ (n : Int) < 3 := by omega
        obtain ⟨a1, a2, a3⟩ := lenK_facts g3 g258
        obtain ⟨b1, b2, b3⟩ := farK_facts d1' d2'
        have HLe := Lib.hid (fun W => rlength_is n W g3 g258)
        have HFa := Lib.hid (fun W => rdistance_is d W d1' d2')
        have Hp : pieceB n d = symB (257 + lenK n) ++ (bitsN (moreL (lenK n)) (n - lengthN (lenK n)) ++ (codeBits 5 (farK d) ++ bitsN (moreD (farK d)) (d - distN (farK d)))) := rfl
        obtain ⟨k, hk⟩ : ∃ k, lenK n = k := ⟨_, rfl⟩
        obtain ⟨m, hm⟩ : ∃ m, farK d = m := ⟨_, rfl⟩
        rw [hk] at a1 a2 a3 HLe Hp
        rw [hm] at b1 b2 b3 HFa Hp
        obtain ⟨r1, h1'⟩ : ∃ r1, row ++ symB (257 + k) = r1 := ⟨_, rfl⟩
        obtain ⟨r2, h2'⟩ : ∃ r2, r1 ++ bitsN (moreL k) (n - lengthN k) = r2 := ⟨_, rfl⟩
        obtain ⟨r3, h3'⟩ : ∃ r3, r2 ++ codeBits 5 m = r3 := ⟨_, rfl⟩
        obtain ⟨r4, h4'⟩ : ∃ r4, r3 ++ bitsN (moreD m) (d - distN m) = r4 := ⟨_, rfl⟩
        have hr4 : row ++ pieceB n d = r4 := by rw [Hp, ← h4', ← h3', ← h2', ← h1']; simp only [List.append_assoc]
        have hQ : r4 ++ (codedN s.data.toList gg (a + n) ++ symB 256) = fixedR s.data.toList := by
          have h := HQ.out
          rw [Hst.out, if_neg h3] at h
          rw [← h, ← hr4]; simp
        have hrl2 : r4.length ≤ 800000 := by
          have h := congrArg List.length hQ
          rw [List.length_append] at h
          have := HFl.out
          omega
        have hl3 : r3.length ≤ 800000 := by have h := congrArg List.length h4'; rw [List.length_append] at h; omega
        have hl2 : r2.length ≤ 800000 := by have h := congrArg List.length h3'; rw [List.length_append] at h; omega
        have hl1 : r1.length ≤ 800000 := by have h := congrArg List.length h2'; rw [List.length_append] at h; omega
        have HQ2 := Lib.hid hQ
        obtain ⟨wd, code, q1, q2, q3, q4, q5⟩ := sym_parts (k := 257 + k) (by omega)
        rw [q3] at h1'
        have HPu := Lib.hid (fun W (hW : Below wr.heap.size wr W) => rput_is g c L wd code row r1 W (BitsAt.later HA.out hW) HL.out (by omega) (by omega) (by omega) h1')
        have Hq := Lib.hid (And.intro q1 q2)
        obtain ⟨y, hy⟩ : ∃ y, 257 + k = y := ⟨_, rfl⟩
        rw [hy] at Hq
        have hyz : (257 : Int) + (k : Int) = (y : Int) := by omega
        have hy288 : (y : Int) < 288 := by omega
        have hyw : IntKind.i64.wrap (y : Int) = (y : Int) := IntWalk.i64_in _ (by omega)
        have hy0 : (0 : Int) ≤ (y : Int) := by omega
        have hm32 : (m : Int) < 32 := by omega
        unfold moreD at b3 h4'
        clear hQ hnf q1 q2 q3 h1' hy hk hm Hp hr4 d1' d3' h3
        go_wp2_with fail
        refine HPi.out.mono ?_
        rintro e w5 ⟨rfl, hb⟩
        have HB5 := Lib.hid hb
        have HB5' := Lib.hid (HB.out.trans (hb.mono HB.out.size))
        have k1 := (HLit.out.later HB5'.out).of Hq.out.1
        have k2 := (HC.out.later HB5'.out).of Hq.out.2
        have HPu5 := Lib.hid (HPu.out w5.drew HB5.out.drew)
        clear hb HPi HPu
        go_wp2_with fail
        refine (HLe.out _).mono ?_
        rintro e w6 ⟨rfl, rfl⟩
        go_wp2_with fail
        refine (HFa.out _).mono ?_
        rintro e w6 ⟨rfl, rfl⟩
        go_wp2_with fail
        go_region_with (go_at_call 80; refine HPu5.out.mono ?_; rintro e w6 ⟨g6, c6, rfl, hr, hb⟩)
        all_goals
          have HA6 := Lib.hid hr
          have HB6 := Lib.hid (HB5'.out.drew.trans (hb.mono HB5'.out.drew.size))
          clear hr hb k1 k2
          by_cases hk28 : k < 28
          · have hkz : (k : Int) < 28 := by omega
            have HLn := Lib.hid (rLength_any k w6 (by omega))
            have HEl : Hid (Calls Tryz.prog 84 #[.int .i64 (k : Int), .int .i64 8, .int .i64 4] w6 fun e w' => e = .returned (.int .i64 (extraN k 8 4 : Int)) ∧ w6 = w') := Lib.hid (rExtra_any k 8 4 w6 (by omega) (by omega) (by omega) (by omega))
            have hml : moreL k = extraN k 8 4 := by unfold moreL; rw [if_neg (by omega)]
            rw [hml] at a3 h2'
            have HNl := rnum_is g6 c6 r1.length (n - lengthN k) (extraN k 8 4) r1 r2 w6 HA6.out rfl (by omega) (by have := moreL_le ⟨k, by omega⟩; simp only [hml] at this; omega) a3 h2'
            rw [show ((n - lengthN k : Nat) : Int) = (n : Int) - (lengthN k : Int) by omega] at HNl
            have HNl := Lib.hid HNl
            have hln := lengthN_le (show k ≤ 28 by omega)
            have hdn := distN_le (show m ≤ 30 by omega)
            go_wp2_with fail
            refine HLn.out.mono ?_
            rintro e w7 ⟨rfl, rfl⟩
            go_wp2_with fail
            refine HEl.out.mono ?_
            rintro e w7 ⟨rfl, rfl⟩
            go_wp2_with fail
            refine HNl.out.mono ?_
            rintro e w7 ⟨g7, c7, rfl, hr, hb⟩
            have HA7 := Lib.hid hr
            have HB7 := Lib.hid (HB6.out.trans (hb.mono HB6.out.size))
            clear hr hb
            -- the distance
            have k3 := (HDist.out.later HB7.out).of (dist_at ⟨m, by omega⟩)
            have HPd := rput_is g7 c7 r2.length 5 m r2 r3 w7 HA7.out rfl (by omega) (by omega) (by omega) h3'
            rw [show ((5 : Nat) : Int) = 5 from rfl] at HPd k3
            have HPd := Lib.hid HPd
            go_wp2_with fail
            refine HPd.out.mono ?_
            rintro e w8 ⟨g8, c8, rfl, hr, hb⟩
            have HA8 := Lib.hid hr
            have HB8 := Lib.hid (HB7.out.trans (hb.mono HB7.out.size))
            clear hr hb k3 HPd
            have HDi := Lib.hid (rDistance_any m w8 (by omega))
            have HEx : Hid (Calls Tryz.prog 84 #[.int .i64 (m : Int), .int .i64 4, .int .i64 2] w8 fun e w' => e = .returned (.int .i64 (extraN m 4 2 : Int)) ∧ w8 = w') := Lib.hid (rExtra_any m 4 2 w8 (by omega) (by omega) (by omega) (by omega))
            have HNd := rnum_is g8 c8 r3.length (d - distN m) (extraN m 4 2) r3 r4 w8 HA8.out rfl (by omega) (by have := moreD_le ⟨m, by omega⟩; unfold moreD at this; simp only at this; omega) b3 h4'
            rw [show ((d - distN m : Nat) : Int) = (d : Int) - (distN m : Int) by omega] at HNd
            have HNd := Lib.hid HNd
            go_wp2_with fail
            refine HDi.out.mono ?_
            rintro e w9 ⟨rfl, rfl⟩
            go_wp2_with fail
            refine HEx.out.mono ?_
            rintro e w9 ⟨rfl, rfl⟩
            go_wp2_with fail
            refine HNd.out.mono ?_
            rintro e w9 ⟨g9, c9, rfl, hr, hb⟩
            have HA9 := Lib.hid hr
            have HB9 := Lib.hid (HB8.out.trans (hb.mono HB8.out.size))
            clear hr hb
            go_wp2_with fail
            go_roundg gg
            case measure => omega
            case rel => exact ⟨a + n, g9, c9, _, r4, by go_num, rfl, by omega, by omega, hrl2, rfl, HA9.out, HQ2.out, HB9.out⟩
          · obtain rfl : k = 28 := by omega
            obtain rfl : r1 = r2 := by rw [← h2']; show r1 = r1 ++ bitsN 0 _; rw [show bitsN 0 (n - lengthN 28) = [] from rfl, List.append_nil]
            have hdn := distN_le (show m ≤ 30 by omega)
            -- the distance
            have k3 := (HDist.out.later HB6.out).of (dist_at ⟨m, by omega⟩)
            have HPd := rput_is g6 c6 r1.length 5 m r1 r3 w6 HA6.out rfl (by omega) (by omega) (by omega) h3'
            rw [show ((5 : Nat) : Int) = 5 from rfl] at HPd k3
            have HPd := Lib.hid HPd
            go_wp2_with fail
            refine HPd.out.mono ?_
            rintro e w8 ⟨g8, c8, rfl, hr, hb⟩
            have HA8 := Lib.hid hr
            have HB8 := Lib.hid (HB6.out.trans (hb.mono HB6.out.size))
            clear hr hb k3 HPd
            have HDi := Lib.hid (rDistance_any m w8 (by omega))
            have HEx : Hid (Calls Tryz.prog 84 #[.int .i64 (m : Int), .int .i64 4, .int .i64 2] w8 fun e w' => e = .returned (.int .i64 (extraN m 4 2 : Int)) ∧ w8 = w') := Lib.hid (rExtra_any m 4 2 w8 (by omega) (by omega) (by omega) (by omega))
            have HNd := rnum_is g8 c8 r3.length (d - distN m) (extraN m 4 2) r3 r4 w8 HA8.out rfl (by omega) (by have := moreD_le ⟨m, by omega⟩; unfold moreD at this; simp only at this; omega) b3 h4'
            rw [show ((d - distN m : Nat) : Int) = (d : Int) - (distN m : Int) by omega] at HNd
            have HNd := Lib.hid HNd
            go_wp2_with fail
            refine HDi.out.mono ?_
            rintro e w9 ⟨rfl, rfl⟩
            go_wp2_with fail
            refine HEx.out.mono ?_
            rintro e w9 ⟨rfl, rfl⟩
            go_wp2_with fail
            refine HNd.out.mono ?_
            rintro e w9 ⟨g9, c9, rfl, hr, hb⟩
            have HA9 := Lib.hid hr
            have HB9 := Lib.hid (HB8.out.trans (hb.mono HB8.out.size))
            clear hr hb
            go_wp2_with fail
            go_roundg gg
            case measure => omega
            case rel => exact ⟨a + n, g9, c9, _, r4, by go_num, rfl, by omega, by omega, hrl2, rfl, HA9.out, HQ2.out, HB9.out⟩
    · have haz : ¬ (a : Int) < (s.size : Int) := by omega
      have hQ : row ++ symB 256 = fixedR s.data.toList := by
        have h := HQ.out
        rw [codedN_done (by rw [← size_data]; omega)] at h
        simpa using h
      obtain ⟨wd, code, q1, q2, q3, q4, q5⟩ := sym_parts (k := 256) (by omega)
      rw [q3] at hQ
      have k1 := (HLit.out.later HB.out).of q1
      have k2 := (HC.out.later HB.out).of q2
      have hrl3 : (fixedR s.data.toList).length ≤ 1000000 := by have := HFl.out; omega
      have HPu := Lib.hid (rput_is g c L wd code row _ wr.drew (BitsAt.later HA.out (below_same wr).drew) HL.out (by omega) (by omega) (by omega) hQ)
      obtain ⟨R, hR⟩ : ∃ R, fixedR s.data.toList = R := ⟨_, rfl⟩
      have h2 := fixedR_two s.data.toList
      have hub : bytes (textB R) = u := by
        have h := HU.out
        unfold fixedZ at h
        rw [hR] at h
        exact (bytes_eq h.symm).symm
      rw [hR] at HPu hrl3 h2
      have HTx : Hid (∀ W g' c', BitsAt W g' R → Calls Tryz.prog 86 #[.slice (some ⟨g', 0, none⟩) R.length c'] W fun en w' => en = .returned (.string u) ∧ Below W.heap.size W w') := Lib.hid (fun W g' c' h => by rw [← hub]; exact rTextB_any g' c' R W h hrl3 h2)
      clear hQ q1 q2 q3 hR h2 hub
      go_wp2_with fail
      go_region_with (first | (go_at_call 80; refine HPu.out.mono ?_; rintro e w6 ⟨g6, c6, rfl, hr, hb⟩; have HB6 := Lib.hid (HB.out.drew.trans (hb.mono HB.out.drew.size)); have HT6 := Lib.hid (HTx.out w6 g6 c6 hr); clear hr hb) | (go_at_call 86; refine HT6.out.mono ?_; rintro e w7 ⟨rfl, hb⟩; have HB7 := Lib.hid (HB6.out.trans (hb.mono HB6.out.size)); clear hb))
      all_goals
        go_wp2_with fail
        go_ret
        exact ⟨rfl, HB4.out.trans (HB7.out.mono HB4.out.size)⟩
end
end Go.Proofs.YtiiiokikmjgliaaGreatDoor
/-
  The contract of the document's Best; the walk of the law on fixed codes.
-/
namespace Go.Proofs.YtiiiokikmjgliaaGreatDoor
section
open Go.RowKit
set_option maxRecDepth 100000
set_option maxHeartbeats 1000000 in
theorem rBest_is (s : ByteArray) (w : World) (hs : s.size ≤ 10000) {u : ByteArray} (hu : bestZ s.data.toList = u.data.toList) :
    Calls Tryz.prog 46 #[.string s] w fun en w' => en = .returned (.string u) ∧ Below w.heap.size w w' := by
  have HF := Lib.hid (rFixed11_is s w hs (u := bytes (fixedZ s.data.toList)) (by rw [bytes_data]))
  have HS := Lib.hid (fun W => rStored_is s W (by omega) (u := bytes (storedZ s.data.toList)) (by rw [bytes_data]))
  have h1 : (bytes (fixedZ s.data.toList)).size = (fixedZ s.data.toList).length := bytes_size _
  have h2 : (bytes (storedZ s.data.toList)).size = (storedZ s.data.toList).length := bytes_size _
  unfold bestZ at hu
  by_cases hlt : (fixedZ s.data.toList).length < (storedZ s.data.toList).length
  · rw [if_pos hlt] at hu
    have hub : bytes (fixedZ s.data.toList) = u := (bytes_eq hu.symm).symm
    rw [← h1, ← h2] at hlt
    rw [hub] at HF hlt
    obtain ⟨v, hv⟩ : ∃ v, bytes (storedZ s.data.toList) = v := ⟨_, rfl⟩
    rw [hv] at HS hlt
    have hz : (u.size : Int) < (v.size : Int) := by omega
    clear h1 h2 hu hub hv hlt
    go_enter Tryz.func46, Tryz.ntmps46
    go_wp2_with fail
    refine HF.out.mono ?_
    rintro e w1 ⟨rfl, hb⟩
    have HB1 := Lib.hid hb
    clear hb
    go_wp2_with fail
    refine (HS.out _).mono ?_
    rintro e w2 ⟨rfl, hb⟩
    have HB2 := Lib.hid (HB1.out.trans (hb.mono HB1.out.size))
    clear hb
    go_wp2_with fail
    go_ret
    exact ⟨rfl, HB2.out⟩
  · rw [if_neg hlt] at hu
    have hub : bytes (storedZ s.data.toList) = u := (bytes_eq hu.symm).symm
    rw [← h1, ← h2] at hlt
    rw [hub] at HS hlt
    obtain ⟨v, hv⟩ : ∃ v, bytes (fixedZ s.data.toList) = v := ⟨_, rfl⟩
    rw [hv] at HF hlt
    have hz : ¬ (v.size : Int) < (u.size : Int) := by omega
    clear h1 h2 hu hub hv hlt
    go_enter Tryz.func46, Tryz.ntmps46
    go_wp2_with fail
    refine HF.out.mono ?_
    rintro e w1 ⟨rfl, hb⟩
    have HB1 := Lib.hid hb
    clear hb
    go_wp2_with fail
    refine (HS.out _).mono ?_
    rintro e w2 ⟨rfl, hb⟩
    have HB2 := Lib.hid (HB1.out.trans (hb.mono HB1.out.size))
    clear hb
    go_wp2_with fail
    go_ret
    exact ⟨rfl, HB2.out⟩
end
end Go.Proofs.YtiiiokikmjgliaaGreatDoor
