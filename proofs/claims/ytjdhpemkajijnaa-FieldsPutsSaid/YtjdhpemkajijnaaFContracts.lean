/-
  The contract of Cut of package fields.
-/
import Derived.Test.YtjdhpemkajijnaaFRow
import Derived.Laws.MakeOwn
import Derived.RegionTactic
import Derived.OwnWalk
namespace Go.Proofs.Ytjdhpemkajijnaa
open Go.RowKit

theorem made_zeros (n : Nat) : madeCells (Value.int .i64 0).cells n = (cellsI (List.replicate n 0)).toArray := by
  unfold madeCells cellsI
  apply Array.ext
  · simp
  · intro i h1 h2
    simp [Value.cells, Nat.mod_one]
theorem make_ints (n : Nat) (W : World) (h : n ≤ 16) :
    (Instr.makeSlice 29 (.int .i64 (n : Int)) (.int .i64 (n : Int))).run Try.prog W = .ok (.slice (some ⟨W.heap.size, 0, none⟩) n n) (W.alloc (.cells (cellsI (List.replicate n 0)).toArray 3)) := by
  obtain ⟨i0, hi, hz0, hz1, hz2⟩ := info_parts infoInt
  have hr := run_make (P := Try.prog) W 29 3 i0 (.int .i64 0) Try.underlying29 hi hz0 .i64 .i64 (n : Int) (n : Int) (by omega) (by omega) (by rw [hz2]; omega) (by omega)
  rw [hz1, Int.toNat_natCast, Nat.mul_one, made_zeros] at hr
  exact hr

set_option maxRecDepth 100000 in
set_option maxHeartbeats 1000000 in
theorem fCut_any (s : ByteArray) (p : Option Addr) (c : Nat) (ws : List Int) (w : World) (hs : s.size ≤ maxLen) (hz : ws.length ≤ 9223372036854775807) (_hi : Ints ws) (hp : Nums w p ws) :
    Calls Try.prog 16 #[.string s, .slice p ws.length c] w (CutsTo w (cutF s.data.toList ws)) := by
  unfold maxLen at hs
  have Hp := Lib.hid hp
  clear hp _hi
  by_cases h16 : 16 < ws.length
  · have Hr := Lib.hid (cutF_long (l := s.data.toList) h16)
    have h16' : (16 : Int) < (ws.length : Int) := by omega
    clear h16
    go_enter Try.func16, Try.ntmps16
    go_wp2_with fail
    go_ret2
    exact cutsTo_nil Hr.out (Below.refl _ _)
  · have h16' : ¬ (16 : Int) < (ws.length : Int) := by omega
    have hmake := make_ints ws.length w (by omega)
    have Hmake := Lib.hid hmake
    clear hmake
    go_enter Try.func16, Try.ntmps16
    go_wp2_with fail
    go_loopg [6, 19] ws.length (fun g s6 s7 wx => ∃ (j : Nat) (a : Int), j + g = ws.length ∧ s7 = .int .i64 j ∧ s6 = .int .i64 a ∧ 0 ≤ a ∧ a ≤ 8 * j ∧ Aside ((∀ i, i < j → 0 ≤ ws[i]?.getD 0 ∧ ws[i]?.getD 0 ≤ 8) ∧ a + sumW (ws.drop j) = sumW ws) ∧ w = wx)
    case atStart => exact ⟨0, 0, by omega, rfl, rfl, by omega, by omega, ⟨fun i hi => absurd hi (by omega), by simp⟩, rfl⟩
    case round =>
      obtain ⟨j, a, hjg, rfl, rfl, ha0, ha1, HA, rfl⟩ := hrel
      cases gk with
      | succ g =>
        have hj : j < ws.length := by omega
        have hjz : ((j : Int) < (ws.length : Int)) := by omega
        obtain ⟨b1, o1, rfl, hc1⟩ := Hp.out.at j hj
        obtain ⟨v, hv⟩ : ∃ v, ws[j]?.getD 0 = v := ⟨_, rfl⟩
        rw [hv] at hc1
        have Hv := Lib.hid hv
        have Hjg := Lib.hid hjg
        clear hjg hv
        by_cases hbad : v < 0 ∨ 8 < v
        · have Hr : Hid (cutF s.data.toList ws = ([], 2)) := Lib.hid (cutF_bad (v := v) (by
            rw [← Hv.out, List.getElem?_eq_getElem hj]; exact List.getElem_mem hj) hbad)
          have Hbad := Lib.hid hbad
          clear hbad
          go_wp2_with fail
          refine (isWidth_no _ _ Hbad.out).mono ?_
          rintro e w1 ⟨rfl, rfl⟩
          go_wp2_with fail
          go_ret2
          exact cutsTo_nil Hr.out (Below.refl _ _)
        · have h1 : ¬ v < 0 := by omega
          have h2 : ¬ 8 < v := by omega
          clear hbad
          go_wp2_with fail
          refine (isWidth_yes _ _ (by omega) (by omega)).mono ?_
          rintro e w1 ⟨rfl, rfl⟩
          go_wp2_with fail
          go_roundg g
          case measure => omega
          case rel => exact ⟨j + 1, a + v, by have := Hjg.out; omega, by go_num, by go_num, by omega, by omega, ⟨fun i hi => by
            by_cases e : i = j
            · subst e; rw [Hv.out]; omega
            · exact HA.out.1 i (by omega), by rw [← HA.out.2, sumW_drop (get_some hj Hv.out)]; omega⟩, rfl⟩
      | zero =>
        obtain rfl : j = ws.length := by omega
        have hall : ∀ v ∈ ws, 0 ≤ v ∧ v ≤ 8 := fun v hv => by
          obtain ⟨i, hi, rfl⟩ := List.getElem_of_mem hv
          have := HA.out.1 i hi
          rw [List.getElem?_eq_getElem hi] at this
          simpa using this
        have hsum : a = sumW ws := by have := HA.out.2; rw [List.drop_length] at this; simp only [sumW] at this; omega
        have Hall := Lib.hid hall
        clear hall hjg
        by_cases hf : a = (s.size : Int)
        · subst hf
          have hne : ((s.size : Int) != (s.size : Int)) = false := by simp
          have Hr := Lib.hid (cutF_go (l := s.data.toList) h16 Hall.out (by rw [← hsum, size_data]))
          have hsum0 : (s.size : Int) = sumW ws := hsum
          have Hsum := Lib.hid hsum0
          have hmake := Hmake.out
          clear h16 hsum hsum0 ha1
          go_wp2_with fail
          go_loopg [0, 39] ws.length (fun g s0 s39 wx => ∃ (j : Nat) (r : ByteArray) (os : List Int), j + g = ws.length ∧ s39 = .int .i64 j ∧ s0 = .string r ∧ os.length = j ∧ r.size ≤ s.size ∧
            Aside (wx.heap[w.heap.size]? = some (.cells (cellsI (os ++ List.replicate (ws.length - j) 0)).toArray 3 (0, 0))) ∧
            Aside ((r.size : Int) = sumW (ws.drop j) ∧ cutF s.data.toList ws = joinC os (cutGo r.data.toList (ws.drop j))) ∧ Below w.heap.size w wx)
          case atStart => exact ⟨0, s, [], by omega, rfl, rfl, rfl, Nat.le_refl _, by
            show (w.heap.push _)[w.heap.size]? = _
            simp, ⟨by simpa using Hsum.out, by rw [Hr.out]; exact (joinC_nil (cutGo_shape _ _)).symm⟩, (Below.refl _ w).alloc (Nat.le_refl _) _⟩
          case round =>
            obtain ⟨j, r, os, hjg, rfl, rfl, hos, hrs, HW, HC, hb⟩ := hrel
            have Hb := Lib.hid hb
            have Hos := Lib.hid hos
            clear hb hos hmake
            cases gk with
            | zero =>
              obtain rfl : j = ws.length := by omega
              have Hr2 : Hid (cutF s.data.toList ws = (os, 0)) := Lib.hid (by rw [HC.out.2, List.drop_length]; unfold cutGo joinC; simp)
              clear hjg
              go_wp2_with fail
              go_ret2
              rw [Hr2.out]
              refine ⟨some ⟨w.heap.size, 0, none⟩, ws.length, by show _ = Ending.returned (.tuple #[.slice _ os.length _, .int .i64 0]); rw [Hos.out]; rfl, .inr ⟨w.heap.size, 0, rfl, fun i hi => ?_⟩, Hb.out⟩
              rw [cell_of_row _ _ _ _ _ _ HW.out]
              unfold cellsI
              simp [List.getElem?_eq_getElem hi]
            | succ g =>
              have hj : j < ws.length := by omega
              have hjz : ((j : Int) < (ws.length : Int)) := by omega
              obtain ⟨b1, o1, rfl, hc0⟩ := Hp.out.at j hj
              obtain ⟨v', hv'⟩ : ∃ v, ws[j]?.getD 0 = v := ⟨_, rfl⟩
              have hvb := HA.out.1 j hj
              rw [hv'] at hc0 hvb
              have hc1 := cell_later hc0 Hb.out
              obtain ⟨v, rfl⟩ := Int.eq_ofNat_of_zero_le hvb.1
              have hv8 : v ≤ 8 := by omega
              have hsplit := HC.out.1
              rw [sumW_drop (get_some hj hv')] at hsplit
              have hrest : 0 ≤ sumW (ws.drop (j + 1)) := sumW_nonneg (fun x hx => (Hall.out x (List.mem_of_mem_drop hx)).1)
              have hin : v ≤ r.size := by omega
              have Hsplit := Lib.hid hsplit
              have Hv := Lib.hid (get_some hj hv')
              have Hjg := Lib.hid hjg
              clear hjg hv' hvb hsplit hrest hc0
              obtain ⟨n, e, hg⟩ : ∃ n e, getF (r.data.toList.take v) = (n, e) := ⟨_, _, rfl⟩
              have hx : (r.extract 0 v).data.toList = r.data.toList.take v := by rw [Lib.extract_data]; simp
              have hxs : (r.extract 0 v).size ≤ maxLen := by rw [ByteArray.size_extract]; unfold maxLen; omega
              have Hg := Lib.hid hg
              have Hg' : Hid (getF (r.extract 0 v).data.toList = (n, e)) := Lib.hid (by rw [hx]; exact hg)
              have Hxs := Lib.hid hxs
              clear hg hx hxs
              by_cases he : e = 0
              · subst he
                have Hmore := Lib.hid (cut_more (os := os) Hv.out Hg.out)
                go_wp2_with fail
                refine (fGet_is _ _ Hxs.out Hg'.out).mono ?_
                rintro e w3 ⟨rfl, hb3⟩
                have hlt : w.heap.size < wr.heap.size := by
                  rcases Nat.lt_or_ge w.heap.size wr.heap.size with h | h
                  · exact h
                  · have := HW.out
                    rw [Array.getElem?_eq_none h] at this
                    simp at this
                have hrow3 : w3.heap[w.heap.size]? = some (.cells (cellsI (os ++ List.replicate (ws.length - j) 0)).toArray 3 (0, 0)) := (hb3.block _ hlt).trans HW.out
                have hlen : (cellsI (os ++ List.replicate (ws.length - j) 0)).length = ws.length := by
                  unfold cellsI; rw [List.length_map, List.length_append, List.length_replicate, Hos.out]; omega
                have hcell : w3.cell? ⟨w.heap.size, j, none⟩ = some (.int .i64 0) := by
                  rw [cell_of_row _ _ _ _ _ _ hrow3]
                  unfold cellsI
                  simp only [List.getElem?_toArray, List.getElem?_map]
                  rw [List.getElem?_append_right (by rw [Hos.out]; exact Nat.le_refl _), Hos.out, List.getElem?_replicate, if_pos (by omega)]; rfl
                have hfree : w3.frozen? ⟨w.heap.size, j, none⟩ = false := by
                  unfold World.frozen?; rw [hrow3]; simp
                have hset : ∀ W : World, W.heap[w.heap.size]? = some (.cells (cellsI (os ++ List.replicate (ws.length - j) 0)).toArray 3 (0, 0)) →
                    (W.setCell ⟨w.heap.size, j, none⟩ (.int .i64 n)).heap[w.heap.size]? = some (.cells (cellsI ((os ++ [n]) ++ List.replicate (ws.length - (j + 1)) 0)).toArray 3 (0, 0)) := fun W hW => by
                  rw [heap_setCell_same _ _ _ _ _ _ hW]
                  congr 2
                  have e : ws.length - j = (ws.length - (j + 1)) + 1 := by omega
                  have ho := Hos.out
                  subst ho
                  rw [e, List.replicate_succ]
                  unfold cellsI
                  simp
                have Hset := Lib.hid hset
                have Hrow3 := Lib.hid hrow3
                have Hb3 := Lib.hid (Hb.out.trans (hb3.mono Hb.out.size))
                clear hrow3 hlen hb3 hset hlt
                go_wp2_with fail
                go_region
                all_goals
                  go_wp2_with fail
                  go_roundg g
                  case measure => omega
                  case rel => exact ⟨j + 1, _, os ++ [n], by have := Hjg.out; omega, by go_num, rfl, by rw [List.length_append, Hos.out]; rfl, by rw [ByteArray.size_extract]; omega, Hset.out _ Hrow3.out, ⟨by rw [ByteArray.size_extract]; have := Hsplit.out; omega, by
                    have hx : (r.extract v r.size).data.toList = r.data.toList.drop v := by rw [Lib.extract_data]; exact List.take_of_length_le (by rw [List.length_drop, ← size_data]; exact Nat.le_refl _)
                    rw [hx, ← Hmore.out]; exact HC.out.2⟩, (Hb3.out.setCell (Nat.le_refl _) _).drew⟩
              · have hez : (e != 0) = true := by simpa using he
                have Hr2 : Hid (cutF s.data.toList ws = ([], e)) := Lib.hid (by rw [HC.out.2]; exact cut_stop Hv.out Hg.out he)
                clear he
                go_wp2_with fail
                refine (fGet_is _ _ Hxs.out Hg'.out).mono ?_
                rintro e w3 ⟨rfl, hb3⟩
                have Hb3 := Lib.hid (Hb.out.trans (hb3.mono Hb.out.size))
                clear hb3
                go_wp2_with fail
                go_ret2
                exact cutsTo_nil Hr2.out Hb3.out
        · have hne : ((s.size : Int) != a) = true := by rw [bne_iff_ne]; omega
          have Hr := Lib.hid (cutF_form (l := s.data.toList) h16 Hall.out (by rw [← hsum, ← size_data]; exact hf))
          clear hf h16 hsum ha1
          go_wp2_with fail
          go_ret2
          exact cutsTo_nil Hr.out (Below.refl _ _)

end Go.Proofs.Ytjdhpemkajijnaa
