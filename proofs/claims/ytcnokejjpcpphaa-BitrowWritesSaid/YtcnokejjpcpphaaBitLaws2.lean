/-
  The walk of the law BitrowWrites.
-/
import Derived.Test.YtcnokejjpcpphaaBitLaws
namespace Go.Proofs.Ytcnokejjpcpphaa
open Go.RowKit

/-- A slice of acts, as far as its length, in memory. -/
def Acts (w : World) (p : Option Addr) (z : List (Int × Int × Bool)) : Prop :=
  z = [] ∨ ∃ b off, p = some ⟨b, off, none⟩ ∧ b < w.heap.size ∧ ∀ i (h : i < z.length),
    w.cell? ⟨b, off + i * 3, none⟩ = some (.int .i64 z[i].1) ∧ w.cell? ⟨b, off + i * 3 + 1, none⟩ = some (.int .i64 z[i].2.1) ∧ w.cell? ⟨b, off + i * 3 + 2, none⟩ = some (.bool z[i].2.2) ∧
    (-9223372036854775808 ≤ z[i].1 ∧ z[i].1 ≤ 9223372036854775807) ∧ -9223372036854775808 ≤ z[i].2.1 ∧ z[i].2.1 ≤ 9223372036854775807
theorem Acts.at {w : World} {p : Option Addr} {z : List (Int × Int × Bool)} (h : Acts w p z) (i : Nat) (hi : i < z.length) : ∃ b off n v f, p = some ⟨b, off, none⟩ ∧ b < w.heap.size ∧ z[i]? = some (n, v, f) ∧
    w.cell? ⟨b, off + i * 3, none⟩ = some (.int .i64 n) ∧ w.cell? ⟨b, off + i * 3 + 1, none⟩ = some (.int .i64 v) ∧ w.cell? ⟨b, off + i * 3 + 2, none⟩ = some (.bool f) ∧
    -9223372036854775808 ≤ n ∧ n ≤ 9223372036854775807 ∧ -9223372036854775808 ≤ v ∧ v ≤ 9223372036854775807 := by
  rcases h with rfl | ⟨b, off, e, hb, h⟩
  · cases hi
  · obtain ⟨h1, h2, h3, h4, h5⟩ := h i hi
    exact ⟨b, off, _, _, _, e, hb, List.getElem?_eq_getElem hi, h1, h2, h3, h4.1, h4.2, h5.1, h5.2⟩

theorem putB_facts {row row' : List Nat} {n v e : Int} (h2 : ∀ b ∈ row, b < 2) (h : putB row n v = (row', e)) : (∀ b ∈ row', b < 2) ∧ row'.length ≤ row.length + 16 := by
  unfold putB at h
  split at h
  · obtain ⟨rfl, _⟩ := Prod.mk.inj h
    exact ⟨h2, by omega⟩
  · split at h
    · obtain ⟨rfl, _⟩ := Prod.mk.inj h
      exact ⟨h2, by omega⟩
    · obtain ⟨rfl, _⟩ := Prod.mk.inj h
      refine ⟨fun b hb => ?_, by rw [List.length_append, bitsN_length]; omega⟩
      rcases List.mem_append.1 hb with hb | hb
      · exact h2 b hb
      · exact bitsN_two _ _ b hb

set_option maxRecDepth 100000 in
set_option maxHeartbeats 4000000 in
theorem bwrites_walk (p : Option Addr) (cap : Nat) (z : List (Int × Int × Bool)) (w : World) (hz : z.length ≤ 9223372036854775807) (hp : Acts w p z) :
    Calls Try.prog 3 #[.slice p z.length cap] w (Yes w) := by
  have Hp := Lib.hid hp
  clear hp
  by_cases hbig : (100 : Int) < (z.length : Int)
  · go_enter Try.func3, Try.ntmps3
    go_wp2_with fail
    refine (rows_any _).mono ?_
    rintro e w1 ⟨rfl, hb⟩
    have Hb := Lib.hid hb
    clear hb
    go_wp2_with fail
    go_ret
    exact ⟨rfl, Hb.out⟩
  · go_enter Try.func3, Try.ntmps3
    go_wp2_with fail
    go_loopg [4, 5] z.length (fun gg s4 s5 wx => ∃ (i g cap' : Nat) (row F : List Nat), i + gg = z.length ∧ s5 = .int .i64 i ∧ s4 = .slice (some ⟨g, 0, none⟩) row.length cap' ∧ row.length ≤ 16 * i ∧ w.heap.size ≤ g ∧
      Aside (WriterAt wx w.heap.size row F ∧ BitsAt wx g row ∧ g ∉ F ∧ (∀ b ∈ row, b < 2) ∧ ∀ k ∈ F, w.heap.size ≤ k) ∧ Below w.heap.size w wx)
    case atStart =>
      refine ⟨0, w.heap.size + 1, 0, [], [w.heap.size], by omega, rfl, rfl, by simp, by omega, ⟨(writer_new w).later ((Below.refl _ _).alloc (Nat.le_refl _) _), ⟨by simp, fun j hj => by cases hj⟩, by simp, by simp, fun k hk => by rw [mem_one hk]; exact Nat.le_refl _⟩, ((Below.refl _ w).alloc (Nat.le_refl _) _).alloc (by simp) _⟩
    case round =>
      obtain ⟨i, g, cap', row, F, hig, rfl, rfl, hrl, hgB, HI, hb⟩ := hrel
      have Hb := Lib.hid hb
      clear hb
      cases gk with
      | zero =>
        obtain rfl : i = z.length := by omega
        clear hig
        go_wp2_with fail
        refine (rows_any _).mono ?_
        rintro e w1 ⟨rfl, hb⟩
        have Hb1 := Lib.hid (Hb.out.trans (hb.mono Hb.out.size))
        clear hb
        go_wp2_with fail
        go_ret
        exact ⟨rfl, Hb1.out⟩
      | succ gg =>
        have hi : i < z.length := by omega
        have hiz : (i : Int) < (z.length : Int) := by omega
        obtain ⟨b, off, n, v, f, rfl, hblt, hzi, hc0, hc1, hc2, hn0, hn1, hv0, hv1⟩ := Hp.out.at i hi
        have hd0 := (Hb.out.cell (p := ⟨b, off + i * 3, none⟩) hblt).trans hc0
        have hd1 := (Hb.out.cell (p := ⟨b, off + i * 3 + 1, none⟩) hblt).trans hc1
        have hd2 := (Hb.out.cell (p := ⟨b, off + i * 3 + 2, none⟩) hblt).trans hc2
        have Hzi := Lib.hid hzi
        clear hzi hc0 hc1 hc2
        cases f
        · obtain ⟨row', e0, hput⟩ : ∃ row' e0, putB row n v = (row', e0) := ⟨_, _, rfl⟩
          have hfacts := putB_facts HI.out.2.2.2.1 hput
          have Hput := Lib.hid hput
          have Hfacts := Lib.hid hfacts
          clear hput hfacts
          go_wp2_with fail
          go_region_with (go_at_call 9; refine (rPutB_is g cap' row n v _ (HI.out.2.1.later (Below.refl _ _).drew) (by omega) hn0 hn1 hv0 hv1 Hput.out).mono ?_; rintro e w2 ⟨g2, c2, rfl, hr, hb, hg⟩)
          all_goals
            have Hb2 := Lib.hid (Hb.out.drew.trans (hb.mono Hb.out.size))
            have HW1 := Lib.hid ((HI.out.1.later (Below.refl _ _).drew).later hb)
            have HR1 := Lib.hid hr
            have Hn1 : Hid (g2 ∉ F) := Lib.hid fun hm => by
              rcases hg with h | h
              · exact HI.out.2.2.1 (h ▸ hm)
              · have := HI.out.1.lt _ hm; have h' : wr.heap.size ≤ g2 := h; omega
            have hg2 : w.heap.size ≤ g2 := by
              rcases hg with h | h
              · omega
              · have := Hb.out.size; have h' : wr.heap.size ≤ g2 := h; omega
            have he0 := (Below.refl w.heap.size w2)
            have hd0' := (Hb2.out.cell (p := ⟨b, off + i * 3, none⟩) hblt).trans (show w.cell? ⟨b, off + i * 3, none⟩ = some (.int .i64 n) from (Hb.out.cell (p := ⟨b, off + i * 3, none⟩) hblt).symm.trans hd0)
            have hd1' := (Hb2.out.cell (p := ⟨b, off + i * 3 + 1, none⟩) hblt).trans (show w.cell? ⟨b, off + i * 3 + 1, none⟩ = some (.int .i64 v) from (Hb.out.cell (p := ⟨b, off + i * 3 + 1, none⟩) hblt).symm.trans hd1)
            clear hr hb hg he0
            go_wp2_with fail
            go_region_with (go_at_call 10; refine (wPut_is w.heap.size row F n v _ (HW1.out.later (Below.refl _ _).drew) HI.out.2.2.2.1 (by omega) hn0 hn1 hv0 hv1 Hput.out).mono ?_; rintro e w3 ⟨rfl, F2, hw, ht⟩)
            all_goals
              have Hb3 := Lib.hid (Hb2.out.drew.trans (ht.below (B := w.heap.size) Hb2.out.size HI.out.2.2.2.2))
              have HF2 := Lib.hid (ht.more (B := w.heap.size) Hb2.out.size HI.out.2.2.2.2)
              have HW2 := Lib.hid hw
              have hgo := ht.out HR1.out.1 Hn1.out
              have HR2 := Lib.hid (HR1.out.block ht.size hgo.1)
              have Hn2 := Lib.hid hgo.2
              clear hw ht hgo
              have Hrow2 := Lib.hid (Hfacts.out.1)
              have hrl2 : (row').length ≤ 16 * (i + 1) := by have := Hfacts.out.2; omega
              have hrl3 : (row').length ≤ 2000 := by omega
              obtain ⟨u, hu⟩ : ∃ u : ByteArray, textB (row') = u.data.toList := ⟨bytes (textB (row')), (bytes_data _).symm⟩
              have Hu := Lib.hid hu
              clear hu
              go_wp2_with fail
              refine (wLen_is w.heap.size _ F2 _ HW2.out (by omega)).mono ?_
              rintro e w4 ⟨rfl, hb⟩
              have Hb4 := Lib.hid (Hb3.out.trans (hb.mono Hb3.out.size))
              have Hw4 := Lib.hid (HW2.out.later hb)
              have Hr4 := Lib.hid (HR2.out.later hb)
              clear hb
              go_wp2_with fail
              refine (wText_is w.heap.size _ F2 _ Hw4.out Hrow2.out (by omega) Hu.out).mono ?_
              rintro e w5 ⟨rfl, hb⟩
              have Hb5 := Lib.hid (Hb4.out.trans (hb.mono Hb4.out.size))
              have Hw5 := Lib.hid (Hw4.out.later hb)
              have Hr5 := Lib.hid (Hr4.out.later hb)
              clear hb
              go_wp2_with fail
              refine (rTextB_any g2 c2 _ _ Hr5.out (by omega) Hrow2.out).mono ?_
              rw [Hu.out, bytes_of]
              rintro e w6 ⟨rfl, hb⟩
              have Hb6 := Lib.hid (Hb5.out.trans (hb.mono Hb5.out.size))
              have Hw6 := Lib.hid (Hw5.out.later hb)
              have Hr6 := Lib.hid (Hr5.out.later hb)
              clear hb
              go_wp2_with fail
              go_roundg gg
              case measure => omega
              case rel => exact ⟨i + 1, g2, c2, _, F2, by omega, by go_num, rfl, hrl2, hg2, ⟨Hw6.out, Hr6.out, Hn2.out, Hrow2.out, HF2.out⟩, Hb6.out⟩
        · go_wp2_with fail
          refine (wAlign_is w.heap.size row F _ HI.out.1 HI.out.2.2.2.1 (by omega)).mono ?_
          rintro e w2 ⟨rfl, F2, hw, ht⟩
          have Hb2 := Lib.hid (Hb.out.trans (ht.below Hb.out.size HI.out.2.2.2.2))
          have HF2 := Lib.hid (ht.more Hb.out.size HI.out.2.2.2.2)
          have HW := Lib.hid hw
          have hgo := ht.out HI.out.2.1.1 HI.out.2.2.1
          have HR := Lib.hid (HI.out.2.1.block ht.size hgo.1)
          clear hw ht hgo
          go_wp2_with fail
          refine (rAlignB_any g cap' row _ HR.out (by omega)).mono ?_
          rintro e w3 ⟨g2, c2, rfl, hr, hb, hg⟩
          have Hb3 := Lib.hid (Hb2.out.trans (hb.mono Hb2.out.size))
          have HW2 := Lib.hid (HW.out.later hb)
          have HR2 := Lib.hid hr
          have Hn2 : Hid (g2 ∉ F2) := Lib.hid fun hm => by have := HW.out.lt _ hm; omega
          have hg2 : w.heap.size ≤ g2 := by have := Hb2.out.size; omega
          clear hr hb hg
          have Hrow2 := Lib.hid (alignB_two HI.out.2.2.2.1)
          have hrl2 : (alignB row).length ≤ 16 * (i + 1) := by rw [alignB_length]; have := padN_lt row.length; omega
          have hrl3 : (alignB row).length ≤ 2000 := by omega
          obtain ⟨u, hu⟩ : ∃ u : ByteArray, textB (alignB row) = u.data.toList := ⟨bytes (textB (alignB row)), (bytes_data _).symm⟩
          have Hu := Lib.hid hu
          clear hu
          go_wp2_with fail
          refine (wLen_is w.heap.size _ F2 _ HW2.out (by omega)).mono ?_
          rintro e w4 ⟨rfl, hb⟩
          have Hb4 := Lib.hid (Hb3.out.trans (hb.mono Hb3.out.size))
          have Hw4 := Lib.hid (HW2.out.later hb)
          have Hr4 := Lib.hid (HR2.out.later hb)
          clear hb
          go_wp2_with fail
          refine (wText_is w.heap.size _ F2 _ Hw4.out Hrow2.out (by omega) Hu.out).mono ?_
          rintro e w5 ⟨rfl, hb⟩
          have Hb5 := Lib.hid (Hb4.out.trans (hb.mono Hb4.out.size))
          have Hw5 := Lib.hid (Hw4.out.later hb)
          have Hr5 := Lib.hid (Hr4.out.later hb)
          clear hb
          go_wp2_with fail
          refine (rTextB_any g2 c2 _ _ Hr5.out (by omega) Hrow2.out).mono ?_
          rw [Hu.out, bytes_of]
          rintro e w6 ⟨rfl, hb⟩
          have Hb6 := Lib.hid (Hb5.out.trans (hb.mono Hb5.out.size))
          have Hw6 := Lib.hid (Hw5.out.later hb)
          have Hr6 := Lib.hid (Hr5.out.later hb)
          clear hb
          go_wp2_with fail
          go_roundg gg
          case measure => omega
          case rel => exact ⟨i + 1, g2, c2, _, F2, by omega, by go_num, rfl, hrl2, hg2, ⟨Hw6.out, Hr6.out, Hn2.out, Hrow2.out, HF2.out⟩, Hb6.out⟩

end Go.Proofs.Ytcnokejjpcpphaa
