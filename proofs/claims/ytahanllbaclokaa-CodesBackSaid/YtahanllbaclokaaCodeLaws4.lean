/-
  The walk of CodesWrites.
-/
import Derived.Test.YtahanllbaclokaaCodeLaws3
namespace Go.Proofs.Ytahanllbaclokaa
open Go.RowKit

theorem codeBits_two (w x : Nat) : ∀ b ∈ codeBits w x, b < 2 := by
  intro b hb
  unfold codeBits at hb
  exact bitsN_two _ _ b (List.mem_reverse.1 hb)
theorem writeC_facts {ls : List Int} {row row' : List Nat} {k e : Int} (hl : ∀ l ∈ ls, 0 ≤ l ∧ l ≤ 15) (h2 : ∀ b ∈ row, b < 2) (h : writeC ls row k = (row', e)) : (∀ b ∈ row', b < 2) ∧ row'.length ≤ row.length + 15 := by
  unfold writeC at h
  split at h
  · obtain ⟨rfl, _⟩ := Prod.mk.inj h
    refine ⟨fun b hb => ?_, ?_⟩
    · rcases List.mem_append.1 hb with hb | hb
      · exact h2 b hb
      · exact codeBits_two _ _ b hb
    · rw [List.length_append, codeBits_length]
      rcases Nat.lt_or_ge k.toNat ls.length with hk | hk
      · have := hl _ (List.getElem_mem hk)
        rw [List.getElem?_eq_getElem hk, Option.getD_some]; omega
      · rw [List.getElem?_eq_none hk]; simp
  · obtain ⟨rfl, _⟩ := Prod.mk.inj h
    exact ⟨h2, by omega⟩

set_option maxRecDepth 100000 in
set_option maxHeartbeats 4000000 in
theorem cwrites_walk (p1 p2 : Option Addr) (cap1 cap2 : Nat) (ls ks : List Int) (w : World) (hz1 : ls.length ≤ 9223372036854775807) (hz2 : ks.length ≤ 9223372036854775807) (hi1 : Ints ls) (hi2 : Ints ks) (hp1 : Nums w p1 ls) (hp2 : Nums w p2 ks) :
    Calls Try.prog 5 #[.slice p1 ls.length cap1, .slice p2 ks.length cap2] w (Yes w) := by
  have Hp1 := Lib.hid hp1
  have Hp2 := Lib.hid hp2
  have Hi1 := Lib.hid hi1
  have Hi2 := Lib.hid hi2
  clear hp1 hp2 hi1 hi2
  by_cases hbig : (320 : Int) < (ls.length : Int)
  · go_enter Try.func5, Try.ntmps5
    go_wp2_with fail
    refine (trees_any _).mono ?_
    rintro e w1 ⟨rfl, hb⟩
    have Hb1 := Lib.hid hb
    clear hb
    go_wp2_with fail
    go_ret
    exact ⟨rfl, Hb1.out⟩
  · by_cases hbig2 : (60 : Int) < (ks.length : Int)
    · go_enter Try.func5, Try.ntmps5
      go_wp2_with fail
      refine (trees_any _).mono ?_
      rintro e w1 ⟨rfl, hb⟩
      have Hb1 := Lib.hid hb
      clear hb
      go_wp2_with fail
      go_ret
      exact ⟨rfl, Hb1.out⟩
    · have hl : ls.length ≤ 320 := by omega
      have hlk : ks.length ≤ 60 := by omega
      obtain ⟨e, he⟩ : ∃ e, refusedZ ls = e := ⟨_, rfl⟩
      by_cases hz0 : e = 0
      · subst hz0
        have He := Lib.hid he
        have Hg := Lib.hid (refusedZ_zero he)
        obtain ⟨cs, hcs⟩ : ∃ cs, codesN (natsOf ls) = cs := ⟨_, rfl⟩
        have hcl : cs.length = ls.length := by rw [← hcs, codesN_length, natsOf_length]
        have Hcs := Lib.hid hcs
        have Hcl := Lib.hid hcl
        clear he hcs hcl
        go_enter Try.func5, Try.ntmps5
        go_wp2_with fail
        refine (tNew_good _ cap1 ls.length ls _ rfl Hp1.out He.out).mono ?_
        rintro e w1 ⟨t, T, rfl, ht, hT, hb⟩
        have Hb1 := Lib.hid hb
        have Ht1 := Lib.hid ht
        clear ht hT hb
        go_wp2_with fail
        refine (rCodes_good _ cap1 ls _ (Hp1.out.later Hb1.out) He.out).mono ?_
        rintro e w2 ⟨gc, cc, rfl, hn, hb, hg⟩
        have Hb2 := Lib.hid (Hb1.out.trans (hb.mono Hb1.out.size))
        have Ht2 := Lib.hid (Ht1.out.later hb)
        have Hp12 := Lib.hid (Hp1.out.later Hb2.out)
        have Hp22 := Lib.hid (Hp2.out.later Hb2.out)
        rw [Hcs.out] at hn
        have Hc2 := Lib.hid hn
        clear hn hb hg
        go_wp2_with fail
        go_loopg [10, 11] ks.length (fun gg s10 s11 wx => ∃ (i g cap' : Nat) (row F : List Nat), i + gg = ks.length ∧ s11 = .int .i64 i ∧ s10 = .slice (some ⟨g, 0, none⟩) row.length cap' ∧ row.length ≤ 15 * i ∧ w2.heap.size ≤ g ∧
          Aside (WriterAt wx w2.heap.size row F ∧ BitsAt wx g row ∧ g ∉ F ∧ (∀ b ∈ row, b < 2) ∧ ∀ k ∈ F, w2.heap.size ≤ k) ∧ Below w2.heap.size w2 wx)
        case atStart =>
          refine ⟨0, w2.heap.size + 1, 0, [], [w2.heap.size], by omega, rfl, rfl, by simp, by omega, ⟨(writer_new w2).later ((Below.refl _ _).alloc (Nat.le_refl _) _), ⟨by simp, fun j hj => by cases hj⟩, by simp, by simp, fun k hk => by rw [mem_one hk]; exact Nat.le_refl _⟩, ((Below.refl _ w2).alloc (Nat.le_refl _) _).alloc (by simp) _⟩
        case round =>
          obtain ⟨i, g, cap', row, F, hig, rfl, rfl, hrl, hgB, HI, hb⟩ := hrel
          have Hb := Lib.hid hb
          clear hb
          cases gk with
          | zero =>
            obtain rfl : i = ks.length := by omega
            clear hig
            go_wp2_with fail
            obtain ⟨u, hu⟩ : ∃ u : ByteArray, textB row = u.data.toList := ⟨⟨(textB row).toArray⟩, by simp⟩
            have hrl3 : row.length ≤ 900 := by omega
            refine (wLen_is w2.heap.size row F _ HI.out.1 (by omega)).mono ?_
            rintro e w4 ⟨rfl, hb⟩
            have Hb4 := Lib.hid (Hb.out.trans (hb.mono Hb.out.size))
            have Hw4 := Lib.hid (HI.out.1.later hb)
            have Hr4 := Lib.hid (HI.out.2.1.later hb)
            clear hb
            go_wp2_with fail
            refine (wText_is w2.heap.size row F _ Hw4.out HI.out.2.2.2.1 (by omega) hu).mono ?_
            rintro e w5 ⟨rfl, hb⟩
            have Hb5 := Lib.hid (Hb4.out.trans (hb.mono Hb4.out.size))
            have Hr5 := Lib.hid (Hr4.out.later hb)
            clear hb
            go_wp2_with fail
            refine (rTextB_any g cap' row _ Hr5.out (by omega) HI.out.2.2.2.1).mono ?_
            rw [hu, bytes_of]
            rintro e w6 ⟨rfl, hb⟩
            have Hb6 := Lib.hid (Hb5.out.trans (hb.mono Hb5.out.size))
            clear hb hu
            go_wp2_with fail
            refine (trees_any _).mono ?_
            rintro e w7 ⟨rfl, hb⟩
            have Hb7 := Lib.hid (Hb6.out.trans (hb.mono Hb6.out.size))
            clear hb
            go_wp2_with fail
            go_ret
            exact ⟨rfl, Hb2.out.trans (Hb7.out.mono Hb2.out.size)⟩
          | succ gg =>
            have hi : i < ks.length := by omega
            have hiz : (i : Int) < (ks.length : Int) := by omega
            obtain ⟨b, off, rfl, hc⟩ := (Hp22.out.later Hb.out).at i hi
            obtain ⟨v, hv⟩ : ∃ v, ks[i]?.getD 0 = v := ⟨_, rfl⟩
            have hvi := Hi2.out i hi
            rw [hv] at hc hvi
            clear hv
            have hv0 := hvi.1
            have hv1 := hvi.2
            clear hvi
            by_cases h0 : v < 0
            · have Hwr : Hid (writeC ls row v = (row, 12)) := Lib.hid (by unfold writeC; rw [if_neg (by omega)])
              have hrl2 : row.length ≤ 900 := by omega
              go_wp2_with fail
              refine (tWrite_is t _ T w2.heap.size _ F v _ He.out (Ht2.out.later Hb.out) HI.out.1 HI.out.2.2.2.1 (by omega) (fun k hk hm => by have := HI.out.2.2.2.2 k hm; have := Ht2.out.lt k hk; omega) hv0 hv1 Hwr.out).mono ?_
              rintro e w4 ⟨rfl, F4, hw, ht⟩
              have Hb4 := Lib.hid (Hb.out.trans (ht.below Hb.out.size HI.out.2.2.2.2))
              have HI4 : Hid (WriterAt w4 w2.heap.size row F4 ∧ BitsAt w4 g row ∧ g ∉ F4 ∧ (∀ b ∈ row, b < 2) ∧ ∀ k ∈ F4, w2.heap.size ≤ k) := Lib.hid
                ⟨hw, HI.out.2.1.block ht.size (ht.out HI.out.2.1.1 HI.out.2.2.1).1, (ht.out HI.out.2.1.1 HI.out.2.2.1).2, HI.out.2.2.2.1, ht.more Hb.out.size HI.out.2.2.2.2⟩
              clear hw ht
              go_wp2_with fail
              go_roundg gg
              case measure => omega
              case rel => exact ⟨i + 1, g, cap', row, F4, by omega, by go_num, rfl, by omega, hgB, HI4.out, Hb4.out⟩
            · obtain ⟨k, rfl⟩ := Int.eq_ofNat_of_zero_le (show 0 ≤ v by omega)
              have hrl2 : row.length ≤ 900 := by omega
              have hk0 : (0 : Int) ≤ (k : Int) := by omega
              by_cases hkl : k < ls.length
              · have hkz : (k : Int) < (ls.length : Int) := by omega
                obtain ⟨b1, o1, rfl, hc1⟩ := (Hp12.out.later Hb.out).at k hkl
                obtain ⟨v, hv⟩ : ∃ v, ls[k]?.getD 0 = v := ⟨_, rfl⟩
                rw [hv] at hc1
                have hnat := natsOf_at hkl
                rw [hv] at hnat
                have hvr : 0 ≤ v ∧ v ≤ 15 := by
                  have h1 := hv
                  rw [List.getElem?_eq_getElem hkl] at h1
                  simp only [Option.getD_some] at h1
                  have := Hg.out.2.1 _ (List.getElem_mem hkl)
                  rwa [h1] at this
                obtain ⟨n, rfl⟩ := Int.eq_ofNat_of_zero_le hvr.1
                have hn15 : n ≤ 15 := by omega
                clear hvr
                by_cases hn0 : n = 0
                · subst hn0
                  have Hwr : Hid (writeC ls row (k : Int) = (row, 12)) := Lib.hid (by unfold writeC; rw [if_neg (by rw [Int.toNat_natCast, hv]; omega)])
                  clear hv hnat h0
                  go_wp2_with fail
                  refine (tWrite_is t _ T w2.heap.size _ F (k : Int) _ He.out (Ht2.out.later Hb.out) HI.out.1 HI.out.2.2.2.1 (by omega) (fun k hk hm => by have := HI.out.2.2.2.2 k hm; have := Ht2.out.lt k hk; omega) (by omega) hv1 Hwr.out).mono ?_
                  rintro e w4 ⟨rfl, F4, hw, ht⟩
                  have Hb4 := Lib.hid (Hb.out.trans (ht.below Hb.out.size HI.out.2.2.2.2))
                  have HI4 : Hid (WriterAt w4 w2.heap.size row F4 ∧ BitsAt w4 g row ∧ g ∉ F4 ∧ (∀ b ∈ row, b < 2) ∧ ∀ k ∈ F4, w2.heap.size ≤ k) := Lib.hid
                    ⟨hw, HI.out.2.1.block ht.size (ht.out HI.out.2.1.1 HI.out.2.2.1).1, (ht.out HI.out.2.1.1 HI.out.2.2.1).2, HI.out.2.2.2.1, ht.more Hb.out.size HI.out.2.2.2.2⟩
                  clear hw ht
                  go_wp2_with fail
                  go_roundg gg
                  case measure => omega
                  case rel => exact ⟨i + 1, g, cap', row, F4, by omega, by go_num, rfl, by omega, hgB, HI4.out, Hb4.out⟩
                · have hnz : (0 : Int) < (n : Int) := by omega
                  have hnN : 0 < n := by omega
                  have hk2 : k < cs.length := by rw [Hcl.out]; exact hkl
                  have hc2 := (Hc2.out.later Hb.out).2 k hk2
                  obtain ⟨x, hx⟩ : ∃ x, cs[k] = x := ⟨_, rfl⟩
                  rw [hx] at hc2
                  have hxc : codeAt (natsOf ls) k = x := by
                    rw [← hx]
                    have h1 := codesN_at (ns := natsOf ls) (i := k) (by rw [natsOf_length]; exact hkl)
                    rw [Hcs.out, List.getElem?_eq_getElem hk2] at h1
                    exact (Option.some.inj h1).symm
                  have hx15 : x ≤ 32768 := by
                    obtain ⟨n', rfl⟩ : ∃ n', n = n' + 1 := ⟨n - 1, by omega⟩
                    have hnk : (natsOf ls)[k]? = some (n' + 1) := by
                      rw [List.getElem?_eq_getElem (by rw [natsOf_length]; exact hkl)] at hnat ⊢
                      simp only [Option.getD_some, Int.toNat_natCast] at hnat
                      rw [hnat]
                    have h1 := codeAt_lt Hg.out.2.1 Hg.out.2.2 hnk
                    have h2 : (2 : Nat) ^ (n' + 1) ≤ 2 ^ 15 := Nat.pow_le_pow_right (by omega) h1.1
                    have h3 := h1.2
                    have e : codeAt (ls.map Int.toNat) k = codeAt (natsOf ls) k := rfl
                    rw [e, hxc] at h3
                    omega
                  have Hwr : Hid (writeC ls row (k : Int) = (row ++ codeBits n x, 0)) := Lib.hid (by
                    unfold writeC
                    rw [Int.toNat_natCast, hv, if_pos ⟨hk0, hnz⟩, Int.toNat_natCast, hxc])
                  clear hv hnat h0 hx hxc hn0
                  go_wp2_with fail
                  refine (tWrite_is t _ T w2.heap.size _ F (k : Int) _ He.out (Ht2.out.later Hb.out) HI.out.1 HI.out.2.2.2.1 (by omega) (fun k hk hm => by have := HI.out.2.2.2.2 k hm; have := Ht2.out.lt k hk; omega) (by omega) hv1 Hwr.out).mono ?_
                  rintro e w4 ⟨rfl, F4, hw, ht⟩
                  have hb4 := ht.below Hb.out.size HI.out.2.2.2.2
                  have Hb4 := Lib.hid (Hb.out.trans hb4)
                  have hc14 : w4.cell? ⟨b1, o1 + k, none⟩ = some (.int .i64 (n : Int)) := (hb4.cell (cell_block (cell_nums Hp12.out k hkl))).trans hc1
                  have hc24 : w4.cell? ⟨gc, k, none⟩ = some (.int .i64 (x : Int)) := (hb4.cell (p := ⟨gc, k, none⟩) Hc2.out.1).trans hc2
                  have HI4 : Hid (WriterAt w4 w2.heap.size (row ++ codeBits n x) F4 ∧ BitsAt w4 g row ∧ g ∉ F4 ∧ (∀ b ∈ row ++ codeBits n x, b < 2) ∧ (row ++ codeBits n x).length ≤ row.length + 15 ∧ ∀ k ∈ F4, w2.heap.size ≤ k) := Lib.hid
                    ⟨hw, HI.out.2.1.block ht.size (ht.out HI.out.2.1.1 HI.out.2.2.1).1, (ht.out HI.out.2.1.1 HI.out.2.2.1).2, (writeC_facts Hg.out.2.1 HI.out.2.2.2.1 Hwr.out).1, (writeC_facts Hg.out.2.1 HI.out.2.2.2.1 Hwr.out).2, ht.more Hb.out.size HI.out.2.2.2.2⟩
                  clear hw ht hb4 hc1 hc2 hc
                  go_wp2_with fail
                  have hrl4 : row.length ≤ 1000000 := by omega
                  have hx4 : x ≤ 1000000 := by omega
                  go_region_with (go_at_call 21; refine (rPutC_any g cap' row n x _ (HI4.out.2.1.later (Below.refl _ _).drew) hrl4 hn15 hx4).mono ?_; rintro e w5 ⟨g5, cap5, rfl, hr, hb, hg5⟩)
                  all_goals
                    have Hb5 := Lib.hid (Hb4.out.drew.trans (hb.mono Hb4.out.size))
                    have hg5' : w4.heap.size ≤ g5 := hg5
                    have HI5 : Hid (WriterAt w5 w2.heap.size (row ++ codeBits n x) F4 ∧ BitsAt w5 g5 (row ++ codeBits n x) ∧ g5 ∉ F4 ∧ (∀ b ∈ row ++ codeBits n x, b < 2) ∧ ∀ k ∈ F4, w2.heap.size ≤ k) := Lib.hid
                      ⟨(HI4.out.1.later (Below.refl _ _).drew).later hb, hr, fun hm => by have := HI4.out.1.lt _ hm; omega, HI4.out.2.2.2.1, HI4.out.2.2.2.2.2⟩
                    have hg5B : w2.heap.size ≤ g5 := by have := Hb4.out.size; omega
                    have hlen5 := HI4.out.2.2.2.2.1
                    clear hr hb hg5
                    go_wp2_with fail
                    go_roundg gg
                    case measure => omega
                    case rel => exact ⟨i + 1, g5, cap5, row ++ codeBits n x, F4, by omega, by go_num, by rw [List.length_append], by omega, hg5B, HI5.out, Hb5.out⟩
              · have hkz : ¬ (k : Int) < (ls.length : Int) := by omega
                have Hwr : Hid (writeC ls row (k : Int) = (row, 12)) := Lib.hid (by unfold writeC; rw [if_neg (by rw [Int.toNat_natCast, List.getElem?_eq_none (by omega)]; simp)])
                clear h0
                go_wp2_with fail
                refine (tWrite_is t _ T w2.heap.size _ F (k : Int) _ He.out (Ht2.out.later Hb.out) HI.out.1 HI.out.2.2.2.1 (by omega) (fun k hk hm => by have := HI.out.2.2.2.2 k hm; have := Ht2.out.lt k hk; omega) (by omega) hv1 Hwr.out).mono ?_
                rintro e w4 ⟨rfl, F4, hw, ht⟩
                have Hb4 := Lib.hid (Hb.out.trans (ht.below Hb.out.size HI.out.2.2.2.2))
                have HI4 : Hid (WriterAt w4 w2.heap.size row F4 ∧ BitsAt w4 g row ∧ g ∉ F4 ∧ (∀ b ∈ row, b < 2) ∧ ∀ k ∈ F4, w2.heap.size ≤ k) := Lib.hid
                  ⟨hw, HI.out.2.1.block ht.size (ht.out HI.out.2.1.1 HI.out.2.2.1).1, (ht.out HI.out.2.1.1 HI.out.2.2.1).2, HI.out.2.2.2.1, ht.more Hb.out.size HI.out.2.2.2.2⟩
                clear hw ht
                go_wp2_with fail
                go_roundg gg
                case measure => omega
                case rel => exact ⟨i + 1, g, cap', row, F4, by omega, by go_num, rfl, by omega, hgB, HI4.out, Hb4.out⟩
      · have He := Lib.hid he
        have Hne := Lib.hid hz0
        have hez2 : (e != 0) = true := by simpa using hz0
        clear he hz0
        go_enter Try.func5, Try.ntmps5
        go_wp2_with fail
        refine (tNew_bad _ cap1 ls _ (by omega) Hi1.out Hp1.out He.out Hne.out).mono ?_
        rintro e w1 ⟨rfl, hb⟩
        have Hb1 := Lib.hid hb
        clear hb
        go_wp2_with fail
        refine (rCodes_bad _ cap1 ls _ hz1 (Hp1.out.later Hb1.out) He.out Hne.out).mono ?_
        rintro e w2 ⟨rfl, rfl⟩
        go_wp2_with fail
        refine (trees_any _).mono ?_
        rintro e w7 ⟨rfl, hb⟩
        have Hb7 := Lib.hid (Hb1.out.trans (hb.mono Hb1.out.size))
        clear hb
        go_wp2_with fail
        go_ret
        exact ⟨rfl, Hb7.out⟩

end Go.Proofs.Ytahanllbaclokaa
