/-
  The walk of CodesReads.
-/
import Derived.Test.YtahanllbaclokaaCodeLaws3
namespace Go.Proofs.Ytahanllbaclokaa
open Go.RowKit

theorem readC_le (ls : List Int) (cs : List Nat) : ∀ (k n code : Nat) (l : List Nat), (readC ls cs k n code l).2.1 ≤ l.length
  | 0, _, _, _ => by rw [readC_end]; exact Nat.zero_le _
  | _ + 1, _, _, [] => by rw [readC_short]; exact Nat.zero_le _
  | k + 1, n, code, b :: r => by
    by_cases h : 0 ≤ findC ls cs (n + 1) (2 * code + b) 0
    · rw [readC_hit h]; simp
    · rw [readC_miss h]
      have := readC_le ls cs k (n + 1) (2 * code + b) r
      unfold onC
      simp only [List.length_cons]; omega
set_option maxRecDepth 100000 in
set_option maxHeartbeats 1000000 in
theorem creads_walk (p1 : Option Addr) (cap1 : Nat) (ls : List Int) (s : ByteArray) (w : World) (hz1 : ls.length ≤ 9223372036854775807) (hz2 : s.size ≤ 9223372036854775807) (hi1 : Ints ls) (hp1 : Nums w p1 ls) :
    Calls Try.prog 4 #[.slice p1 ls.length cap1, .string s] w (Yes w) := by
  have Hp1 := Lib.hid hp1
  have Hi1 := Lib.hid hi1
  clear hp1 hi1
  by_cases hbig : (320 : Int) < (ls.length : Int)
  · go_enter Try.func4, Try.ntmps4
    go_wp2_with fail
    refine (trees_any _).mono ?_
    rintro e w1 ⟨rfl, hb⟩
    have Hb1 := Lib.hid hb
    clear hb
    go_wp2_with fail
    go_ret
    exact ⟨rfl, Hb1.out⟩
  · by_cases hbig2 : (60 : Int) < (s.size : Int)
    · go_enter Try.func4, Try.ntmps4
      go_wp2_with fail
      refine (trees_any _).mono ?_
      rintro e w1 ⟨rfl, hb⟩
      have Hb1 := Lib.hid hb
      clear hb
      go_wp2_with fail
      go_ret
      exact ⟨rfl, Hb1.out⟩
    · have hl : ls.length ≤ 320 := by omega
      have hs : s.size ≤ 60 := by omega
      obtain ⟨e, he⟩ : ∃ e, refusedZ ls = e := ⟨_, rfl⟩
      by_cases hz0 : e = 0
      · subst hz0
        have He := Lib.hid he
        have Hg := Lib.hid (refusedZ_zero he)
        obtain ⟨L, hL, hL15⟩ := longZ_nat Hg.out.2.1
        have HL := Lib.hid hL
        obtain ⟨cs, hcs⟩ : ∃ cs, codesN (natsOf ls) = cs := ⟨_, rfl⟩
        have hcl : cs.length = ls.length := by rw [← hcs, codesN_length, natsOf_length]
        have Hcs := Lib.hid hcs
        have Hcl := Lib.hid hcl
        obtain ⟨bs, hbs⟩ : ∃ bs, bitsOf s.data.toList = bs := ⟨_, rfl⟩
        have hbl : bs.length = 8 * s.size := by rw [← hbs, bitsOf_length, size_data]
        have Hb2s : Hid (∀ b ∈ bs, b < 2) := Lib.hid (by rw [← hbs]; exact bitsOf_two _)
        have Hbs := Lib.hid hbs
        clear he hcs hcl hL hbs
        go_enter Try.func4, Try.ntmps4
        go_wp2_with fail
        refine (tNew_good _ cap1 ls.length ls _ rfl Hp1.out He.out).mono ?_
        rintro e w1 ⟨t, T, rfl, ht, hT, hb⟩
        have Hb1 := Lib.hid hb
        have Ht1 := Lib.hid ht
        clear ht hT hb
        go_wp2_with fail
        refine (rCodes_good _ cap1 ls _ (Hp1.out.later Hb1.out) He.out).mono ?_
        rintro e w2 ⟨gc, cc, rfl, hn, hb, hg⟩
        have Hb2 := Lib.hid (Hb1.out.trans (hb.mono Hb1.out.size))
        have Ht2 := Lib.hid (Ht1.out.later hb)
        rw [Hcs.out] at hn
        have Hc2 := Lib.hid hn
        clear hn hb hg
        go_wp2_with fail
        refine (rNew_is s _ (by omega)).mono ?_
        rintro e w3 ⟨r, G, rfl, hr, hG, hb⟩
        have HT3 : Hid (∀ k ∈ T, k ∉ G) := Lib.hid fun k hk hm => by have := hG k hm; have := Ht2.out.lt k hk; omega
        have HG3 := Lib.hid hG
        have Hc23 := Lib.hid hb
        have Hr3 := Lib.hid hr
        clear hr hG hb
        go_wp2_with fail
        refine (rBits_any s _ (by omega)).mono ?_
        rw [Hbs.out]
        rintro e w4 ⟨gb, cb, rfl, hr, hb, hg⟩
        have Hc24 := Lib.hid (Hc23.out.trans (hb.mono Hc23.out.size))
        have Hr4 := Lib.hid (Hr3.out.later hb)
        have Hbits4 := Lib.hid hr
        have HG4 : Hid (gb ∉ G) := Lib.hid fun hm => by have := Hr3.out.lt _ hm; omega
        clear hr hb hg
        go_wp2_with fail
        go_loopg [11, 12] (8 * s.size + 1) (fun gg s11 s12 wx => ∃ (i pos : Nat) (F : List Nat), i + gg = 8 * s.size + 1 ∧ s12 = .int .i64 (i : Int) ∧ s11 = .int .i64 (pos : Int) ∧ pos ≤ bs.length ∧
          Aside (ReaderAt wx r s pos F ∧ BitsAt wx gb bs ∧ gb ∉ F ∧ (∀ k ∈ F, w2.heap.size ≤ k)) ∧ Below w2.heap.size w2 wx)
        case atStart => exact ⟨0, 0, G, by omega, rfl, rfl, Nat.zero_le _, ⟨Hr4.out, Hbits4.out, HG4.out, HG3.out⟩, Hc24.out⟩
        case round =>
          obtain ⟨i, pos, F, hig, rfl, rfl, hpos, HI, hb⟩ := hrel
          have Hb := Lib.hid hb
          clear hb
          cases gk with
          | zero =>
            have hiz : ¬ (i : Int) ≤ (bs.length : Int) := by omega
            go_wp2_with fail
            refine (trees_any _).mono ?_
            rintro e w7 ⟨rfl, hb⟩
            have Hb7 := Lib.hid (Hb.out.trans (hb.mono Hb.out.size))
            clear hb
            go_wp2_with fail
            go_ret
            exact ⟨rfl, Hb2.out.trans (Hb7.out.mono Hb2.out.size)⟩
          | succ gg =>
            have hiz : (i : Int) ≤ (bs.length : Int) := by omega
            obtain ⟨sy, m, e, hrd⟩ : ∃ sy m e, readC ls cs L 0 0 (bs.drop pos) = (sy, m, e) := ⟨_, _, _, rfl⟩
            have hm : pos + m ≤ bs.length := by
              have := readC_le ls cs L 0 0 (bs.drop pos)
              rw [hrd, List.length_drop] at this
              simp only at this; omega
            have Hrd := Lib.hid hrd
            have Htr := Lib.hid (tRead_is (sy := sy) (m := m) (e := e) t ls T r s pos F wr He.out (Ht2.out.later Hb.out) HI.out.1 (by omega) (by omega) (fun k hk hm => by have := HI.out.2.2.2 k hm; have := Ht2.out.lt k hk; omega) HL.out (by rw [Hcs.out, Hbs.out]; exact hrd))
            clear hrd
            go_wp2_with fail
            refine Htr.out.mono ?_
            rintro e' w5 ⟨rfl, F5, hr, ht⟩
            have Hb5 := Lib.hid (Hb.out.trans (ht.below Hb.out.size HI.out.2.2.2))
            have HI5 : Hid (ReaderAt w5 r s (pos + m) F5 ∧ BitsAt w5 gb bs ∧ gb ∉ F5 ∧ (∀ k ∈ F5, w2.heap.size ≤ k)) := Lib.hid
              ⟨hr, HI.out.2.1.block ht.size (ht.out HI.out.2.1.1 HI.out.2.2.1).1, (ht.out HI.out.2.1.1 HI.out.2.2.1).2, ht.more Hb.out.size HI.out.2.2.2⟩
            clear hr ht Htr
            have Href := Lib.hid (rRead_is (sy := sy) (m := m) (e := e) p1 (some ⟨gc, 0, none⟩) (some ⟨gb, 0, none⟩) cap1 cc cb ls cs bs pos L w5 (by omega) (by rw [Hcl.out]; omega) (by omega) HL.out hL15 Hb2s.out hpos (Hp1.out.later (Hb2.out.trans (Hb5.out.mono Hb2.out.size))) (Hc2.out.later Hb5.out).nums HI5.out.2.1.nums Hrd.out)
            rw [Hcl.out, hbl] at Href
            go_wp2_with fail
            refine Href.out.mono ?_
            rintro e' w6 ⟨rfl, rfl⟩
            have hpm : (pos : Int) + (m : Int) ≤ 1000 := by omega
            have hpm8 : pos + m ≤ 8 * s.size := by omega
            by_cases he0 : e = 0
            · subst he0
              go_wp2_with fail
              refine (rAt_is r s (pos + m) F5 _ HI5.out.1 hpm8 (by omega)).mono ?_
              rintro e' w7 ⟨rfl, hb⟩
              have Hb7 := Lib.hid (Hb5.out.trans (hb.mono Hb5.out.size))
              have HI7 : Hid (ReaderAt w7 r s (pos + m) F5 ∧ BitsAt w7 gb bs ∧ gb ∉ F5 ∧ (∀ k ∈ F5, w2.heap.size ≤ k)) := Lib.hid ⟨HI5.out.1.later hb, HI5.out.2.1.later hb, HI5.out.2.2⟩
              clear hb
              go_wp2_with fail
              go_roundg gg
              case measure => omega
              case rel => exact ⟨i + 1, pos + m, F5, by omega, by go_num, by first | rfl | go_num, hm, HI7.out, Hb7.out⟩
            · have hez : (e == 0) = false := by simpa using he0
              have hez2 : (e != 0) = true := by simpa using he0
              clear he0
              go_wp2_with fail
              refine (rAt_is r s (pos + m) F5 _ HI5.out.1 hpm8 (by omega)).mono ?_
              rintro e' w7 ⟨rfl, hb⟩
              have Hb7 := Lib.hid (Hb5.out.trans (hb.mono Hb5.out.size))
              clear hb
              go_wp2_with fail
              refine (trees_any _).mono ?_
              rintro e' w8 ⟨rfl, hb⟩
              have Hb8 := Lib.hid (Hb7.out.trans (hb.mono Hb7.out.size))
              clear hb
              go_wp2_with fail
              go_ret
              exact ⟨rfl, Hb2.out.trans (Hb8.out.mono Hb2.out.size)⟩
      · have He := Lib.hid he
        have Hne := Lib.hid hz0
        have hez : (e == 0) = false := by simpa using hz0
        have hez2 : (e != 0) = true := by simpa using hz0
        clear he hz0
        go_enter Try.func4, Try.ntmps4
        go_wp2_with fail
        refine (tNew_bad _ cap1 ls _ (by omega) Hi1.out Hp1.out He.out Hne.out).mono ?_
        rintro e w1 ⟨rfl, hb⟩
        have Hb1 := Lib.hid hb
        clear hb
        go_wp2_with fail
        refine (rCodes_bad _ cap1 ls _ hz1 (Hp1.out.later Hb1.out) He.out Hne.out).mono ?_
        rintro e w2 ⟨rfl, rfl⟩
        go_wp2_with fail
        refine (rNew_is s _ (by omega)).mono ?_
        rintro e w3 ⟨r, G, rfl, hr, hG, hb⟩
        have Hb3 := Lib.hid (Hb1.out.trans (hb.mono Hb1.out.size))
        clear hr hG hb
        go_wp2_with fail
        refine (trees_any _).mono ?_
        rintro e w7 ⟨rfl, hb⟩
        have Hb7 := Lib.hid (Hb3.out.trans (hb.mono Hb3.out.size))
        clear hb
        go_wp2_with fail
        go_ret
        exact ⟨rfl, Hb7.out⟩

end Go.Proofs.Ytahanllbaclokaa
