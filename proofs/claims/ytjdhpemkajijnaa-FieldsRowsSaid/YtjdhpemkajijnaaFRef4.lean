/-
  The contracts of the document's Same and Cut of fields.
-/
import Derived.Test.YtjdhpemkajijnaaFRef3
import Derived.OwnWalk
import Derived.Maps.AppendAt
import Derived.RangeFuncBox
namespace Go.Proofs.Ytjdhpemkajijnaa
open Go.RowKit

set_option maxRecDepth 100000 in
set_option maxHeartbeats 1000000 in
theorem rSame_any (p1 : Option Addr) (c1 : Nat) (xs : List Int) (p2 : Option Addr) (c2 : Nat) (ys : List Int) (w : World) (hz1 : xs.length ≤ 9223372036854775807) (hp1 : Nums w p1 xs) (hp2 : Nums w p2 ys) :
    Calls Try.prog 18 #[.slice p1 xs.length c1, .slice p2 ys.length c2] w fun e w' => e = .returned (.bool (decide (xs = ys))) ∧ ∃ q, w.drewN q = w' := by
  have Hp1 := Lib.hid hp1
  have Hp2 := Lib.hid hp2
  clear hp1 hp2
  by_cases hl : xs.length = ys.length
  · have hl' : ((xs.length : Int) != (ys.length : Int)) = false := by rw [hl]; simp
    have Hl := Lib.hid hl
    clear hl
    go_enter Try.func18, Try.ntmps18
    go_wp2_with fail
    go_loopg [5] xs.length (fun g s5 wx => ∃ (j q : Nat), j + g = xs.length ∧ s5 = .int .i64 j ∧ Aside (∀ i, i < j → xs[i]? = ys[i]?) ∧ w.drewN q = wx)
    case atStart => exact ⟨0, 0, by omega, rfl, fun i hi => absurd hi (by omega), rfl⟩
    case round =>
      obtain ⟨j, q, hjg, rfl, HE, rfl⟩ := hrel
      cases gk with
      | zero =>
        obtain rfl : j = xs.length := by omega
        have Hr : Hid (decide (xs = ys) = true) := Lib.hid (decide_eq_true (List.ext_getElem? fun i => by
          by_cases hi : i < xs.length
          · exact HE.out i hi
          · rw [List.getElem?_eq_none (by omega), List.getElem?_eq_none (by have := Hl.out; omega)]))
        clear hjg
        go_wp2_with fail
        go_ret
        exact ⟨ret_bool (by rw [Hr.out]), q, rfl⟩
      | succ g =>
        have hj : j < xs.length := by omega
        have hj2 : j < ys.length := by rw [← Hl.out]; exact hj
        have hjz : ((j : Int) < (xs.length : Int)) := by omega
        have hjz2 : ((j : Int) < (ys.length : Int)) := by omega
        obtain ⟨b1, o1, rfl, hc1⟩ := Hp1.out.at j hj
        obtain ⟨b2, o2, rfl, hc2⟩ := Hp2.out.at j hj2
        obtain ⟨n, hn⟩ : ∃ n, xs[j]?.getD 0 = n := ⟨_, rfl⟩
        obtain ⟨v, hv⟩ : ∃ v, ys[j]?.getD 0 = v := ⟨_, rfl⟩
        rw [hn] at hc1
        rw [hv] at hc2
        have Hn := Lib.hid (get_some hj hn)
        have Hv := Lib.hid (get_some hj2 hv)
        have Hjg := Lib.hid hjg
        clear hjg hn hv
        by_cases he : n = v
        · have he' := beq_iff_eq.2 he
          have hne : (n != v) = false := by simpa using he
          have Hs : Hid (xs[j]? = ys[j]?) := Lib.hid (by rw [Hn.out, Hv.out, he])
          clear he
          go_wp2_with fail
          go_quiet (fail)
          go_wp2_with fail
          go_roundg g
          case measure => omega
          case rel => exact ⟨j + 1, _, by have := Hjg.out; omega, by go_num, fun i hi => by by_cases e : i = j; exact e ▸ Hs.out; exact HE.out i (by omega), rfl⟩
        · have hne : (n != v) = true := by simpa using he
          have Hr : Hid (decide (xs = ys) = false) := Lib.hid (decide_eq_false (fun e => he (by
            have h1 := Hn.out
            rw [e, Hv.out] at h1
            exact (Option.some.inj h1).symm)))
          clear he
          go_wp2_with fail
          go_quiet (fail)
          go_wp2_with fail
          go_ret
          exact ⟨ret_bool (by rw [Hr.out]), _, drewN_add _ _ _⟩
  · have hl' : ((xs.length : Int) != (ys.length : Int)) = true := by rw [bne_iff_ne]; omega
    have Hr : Hid (decide (xs = ys) = false) := Lib.hid (decide_eq_false (fun e => hl (by rw [e])))
    clear hl
    go_enter Try.func18, Try.ntmps18
    go_wp2_with fail
    go_ret
    exact ⟨ret_bool (by rw [Hr.out]), 0, rfl⟩

theorem rGetF_is (s : ByteArray) (w : World) (hs : s.size ≤ maxLen) {a b : Int} (h : getF s.data.toList = (a, b)) :
    Calls Try.prog 11 #[.string s] w fun e w' => e = .returned (.tuple #[.int .i64 a, .int .i64 b]) ∧ w = w' := by
  have := rGetF_any s w hs
  rw [h] at this; exact this
/-- Two results: a slice of numbers, and a number. -/
def CutsTo (w : World) (r : List Int × Int) (e : Ending) (w' : World) : Prop :=
  ∃ a cap, e = .returned (.tuple #[.slice a r.1.length cap, .int .i64 r.2]) ∧ Nums w' a r.1 ∧ Below w.heap.size w w'
theorem cutsTo_nil {w w' : World} {r : List Int × Int} {b : Int} (h : r = ([], b)) (hb : Below w.heap.size w w') : CutsTo w r (.returned (.tuple #[.slice none 0 0, .int .i64 b])) w' := by
  subst h; exact ⟨none, 0, rfl, .inl rfl, hb⟩
theorem infoInt : (Try.prog.info? 3).map (fun i => (i.zero, i.size, i.bytes)) = some (some (.int .i64 0), 1, 8) := by kernel_rfl
def cellsI (os : List Int) : List Value := os.map (Value.int .i64)
theorem cellsI_snoc (os : List Int) (n : Int) : cellsI (os ++ [n]) = cellsI os ++ [Value.int .i64 n] := by simp [cellsI]
theorem nums_row {B : Nat} {w : World} {v : Value} {os : List Int} (hr : w.ownsRow B 3 1 v os.length (cellsI os)) : ∃ a cap, v = .slice a os.length cap ∧ Nums w a os := by
  have hr' := hr
  rcases hr.2 with ⟨rfl, h0⟩ | ⟨g, cap, cur, rfl, hg, hblk, h1, h2, h3, h4⟩
  · exact ⟨none, 0, by rw [h0], .inl (List.eq_nil_of_length_eq_zero h0)⟩
  · refine ⟨some ⟨g, 0, none⟩, cap, rfl, .inr ⟨g, 0, rfl, fun i hi => ?_⟩⟩
    have hcell := hr'.cells (g := g) rfl i (.int .i64 (os[i]?.getD 0)) (by
      unfold cellsI
      rw [List.getElem?_map, List.getElem?_eq_getElem hi]; rfl)
    have e : (⟨g, 0, none⟩ : Addr).add i = ⟨g, 0 + i, none⟩ := by unfold Addr.add; split <;> simp_all
    rw [e] at hcell
    exact hcell

set_option maxRecDepth 100000 in
set_option maxHeartbeats 1000000 in
theorem rCutF_any (s : ByteArray) (p : Option Addr) (c : Nat) (ws : List Int) (w : World) (hs : s.size ≤ maxLen) (hz : ws.length ≤ 9223372036854775807) (hp : Nums w p ws) :
    Calls Try.prog 17 #[.string s, .slice p ws.length c] w (CutsTo w (cutF s.data.toList ws)) := by
  unfold maxLen at hs
  obtain ⟨i0, hi, hz0, hz1, hz2⟩ := info_parts infoInt
  have Hp := Lib.hid hp
  clear hp
  by_cases h16 : 16 < ws.length
  · have Hr := Lib.hid (cutF_long (l := s.data.toList) h16)
    have h16' : (16 : Int) < (ws.length : Int) := by omega
    clear h16
    go_enter Try.func17, Try.ntmps17
    go_wp2_with fail
    go_ret2
    exact cutsTo_nil Hr.out (Below.refl _ _)
  · have h16' : ¬ (16 : Int) < (ws.length : Int) := by omega
    go_enter Try.func17, Try.ntmps17
    go_wp2_with fail
    go_loopg [6, 7] ws.length (fun g s6 s7 wx => ∃ (j : Nat) (a : Int), j + g = ws.length ∧ s7 = .int .i64 j ∧ s6 = .int .i64 a ∧ 0 ≤ a ∧ a ≤ 8 * j ∧ Aside ((∀ i, i < j → 0 ≤ ws[i]?.getD 0 ∧ ws[i]?.getD 0 ≤ 8) ∧ a + sumW (ws.drop j) = sumW ws) ∧ w = wx)
    case atStart => exact ⟨0, 0, by omega, rfl, rfl, by omega, by omega, ⟨fun i hi => absurd hi (by omega), by simp⟩, rfl⟩
    case round =>
      obtain ⟨j, a, hjg, rfl, rfl, ha0, ha1, HA, rfl⟩ := hrel
      cases gk with
      | succ g =>
        have hj : j < ws.length := by omega
        have hjz : ((j : Int) < (ws.length : Int)) := by omega
        obtain ⟨b1, o1, rfl, hc1⟩ := Hp.out.at j hj
        obtain ⟨v, hv⟩ : ∃ v, ws[j]?.getD 0 = v := ⟨_, rfl⟩
        rw [hv] at hc1
        have Hv := Lib.hid hv
        have Hjg := Lib.hid hjg
        clear hjg hv
        by_cases hbad : v < 0 ∨ 8 < v
        · have Hr : Hid (cutF s.data.toList ws = ([], 2)) := Lib.hid (cutF_bad (v := v) (by
            rw [← Hv.out, List.getElem?_eq_getElem hj]; exact List.getElem_mem hj) hbad)
          have hcase : v < 0 ∨ (¬ v < 0 ∧ 8 < v) := by omega
          clear hbad
          rcases hcase with h | ⟨h, h'⟩
          all_goals
            go_wp2_with fail
            go_ret2
            exact cutsTo_nil Hr.out (Below.refl _ _)
        · have h1 : ¬ v < 0 := by omega
          have h2 : ¬ 8 < v := by omega
          clear hbad
          go_wp2_with fail
          go_roundg g
          case measure => omega
          case rel => exact ⟨j + 1, a + v, by have := Hjg.out; omega, by go_num, by go_num, by omega, by omega, ⟨fun i hi => by
            by_cases e : i = j
            · subst e; rw [Hv.out]; omega
            · exact HA.out.1 i (by omega), by rw [← HA.out.2, sumW_drop (get_some hj Hv.out)]; omega⟩, rfl⟩
      | zero =>
        obtain rfl : j = ws.length := by omega
        have hall : ∀ v ∈ ws, 0 ≤ v ∧ v ≤ 8 := fun v hv => by
          obtain ⟨i, hi, rfl⟩ := List.getElem_of_mem hv
          have := HA.out.1 i hi
          rw [List.getElem?_eq_getElem hi] at this
          simpa using this
        have hsum : a = sumW ws := by have := HA.out.2; rw [List.drop_length] at this; simp only [sumW] at this; omega
        have Hall := Lib.hid hall
        clear hall hjg
        by_cases hf : a = (s.size : Int)
        · subst hf
          have hne : ((s.size : Int) != (s.size : Int)) = false := by simp
          have Hr := Lib.hid (cutF_go (l := s.data.toList) h16 Hall.out (by rw [← hsum, size_data]))
          clear h16 hsum ha1
          go_wp2_with fail
          have hrow0 : (w.alloc (.cells #[] 3)).ownsRow w.heap.size 3 1 (.slice (some ⟨w.heap.size, 0, none⟩) 0 0) 0 [] := World.ownsRow_made w #[] 0 (Nat.le_refl _) (by unfold maxLen; omega) rfl
          go_loopg [8, 9, 10] ws.length (fun g s8 s9 s10 wx => ∃ (j pos : Nat) (os : List Int), j + g = ws.length ∧ s10 = .int .i64 j ∧ s9 = .int .i64 pos ∧ os.length = j ∧ wx.ownsRow w.heap.size 3 1 s8 os.length (cellsI os) ∧
            Aside ((pos : Int) + sumW (ws.drop j) = s.size ∧ cutF s.data.toList ws = joinC os (cutGo (s.data.toList.drop pos) (ws.drop j))) ∧ Below w.heap.size w wx)
          case atStart => exact ⟨0, 0, [], by omega, rfl, rfl, rfl, hrow0, ⟨by have h1 := HA.out.2; rw [List.drop_length] at h1; simp only [sumW] at h1; simp; omega, by rw [Hr.out]; exact (joinC_nil (cutGo_shape _ _)).symm⟩, (Below.refl _ w).alloc (Nat.le_refl _) _⟩
          case round =>
            obtain ⟨j, pos, os, hjg, rfl, rfl, hos, hrow, HC, hb⟩ := hrel
            have Hb := Lib.hid hb
            have Hrow := Lib.hid hrow
            clear hb hrow hrow0
            cases gk with
            | zero =>
              obtain rfl : j = ws.length := by omega
              have Hr2 : Hid (cutF s.data.toList ws = (os, 0)) := Lib.hid (by rw [HC.out.2, List.drop_length]; unfold cutGo joinC; simp)
              obtain ⟨a1, cap1, rfl, hn⟩ := nums_row Hrow.out
              have Hn := Lib.hid hn
              clear hn hjg
              go_wp2_with fail
              go_ret2
              rw [Hr2.out]
              exact ⟨a1, cap1, rfl, Hn.out, Hb.out⟩
            | succ g =>
              have hj : j < ws.length := by omega
              have hjz : ((j : Int) < (ws.length : Int)) := by omega
              obtain ⟨b1, o1, rfl, hc0⟩ := Hp.out.at j hj
              obtain ⟨v', hv'⟩ : ∃ v, ws[j]?.getD 0 = v := ⟨_, rfl⟩
              have hvb := HA.out.1 j hj
              rw [hv'] at hc0 hvb
              have hc1 := cell_later hc0 Hb.out
              have Hc0 := Lib.hid hc0
              clear hc0
              obtain ⟨v, rfl⟩ := Int.eq_ofNat_of_zero_le hvb.1
              have hv8 : v ≤ 8 := by omega
              have hsplit := HC.out.1
              rw [sumW_drop (get_some hj hv')] at hsplit
              have hrest : 0 ≤ sumW (ws.drop (j + 1)) := sumW_nonneg (fun x hx => (Hall.out x (List.mem_of_mem_drop hx)).1)
              have hin : pos + v ≤ s.size := by omega
              have Hsplit := Lib.hid hsplit
              have Hv := Lib.hid (get_some hj hv')
              have Hjg := Lib.hid hjg
              clear hjg hv' hvb hsplit hrest
              obtain ⟨n, e, hg⟩ : ∃ n e, getF ((s.data.toList.drop pos).take v) = (n, e) := ⟨_, _, rfl⟩
              have hx : (s.extract pos (pos + v)).data.toList = (s.data.toList.drop pos).take v := by rw [Lib.extract_data]; congr 1; omega
              have hxs : (s.extract pos (pos + v)).size ≤ maxLen := by rw [ByteArray.size_extract]; unfold maxLen; omega
              have Hg := Lib.hid hg
              have Hg' : Hid (getF (s.extract pos (pos + v)).data.toList = (n, e)) := Lib.hid (by rw [hx]; exact hg)
              have Hxs := Lib.hid hxs
              clear hg hx hxs
              by_cases he : e = 0
              · subst he
                have Hmore := Lib.hid (cut_more (os := os) Hv.out Hg.out)
                have h2 := Hrow.out
                go_wp2_with fail
                refine (rGetF_is _ _ Hxs.out Hg'.out).mono ?_
                rintro e w3 ⟨rfl, rfl⟩
                go_wp2_with (at_builtin; refine wpList_append_own _ rfl _ _ 29 rfl w.heap.size 3 i0 (.int .i64 0) 1 8 Try.underlying29 hi hz0 hz1 hz2 rfl (by decide) _ _ _ rfl (Hrow.out.alloc _) ⟨wr.heap.size, 0, none⟩ 1 1 [.int .i64 n] rfl rfl (cell_one_new _ _ _) (by simp [Value.oneCell']) (by unfold maxLen; omega) (by omega) (by have := Hb.out.size; simp; omega) ?_; intro v' w1 hown' hgrow _; obtain ⟨g', cap', rfl⟩ := ownsRow_succ hown'; have Hb2 := Lib.hid ((Hb.out.alloc Hb.out.size _).grown hgrow (by have := Hb.out.size; simp; omega) (fun j ej => (Hrow.out.lt j ej).1)); have hc2 := cell_later Hc0.out Hb2.out)
                have Hown := Lib.hid hown'
                clear hown' hgrow
                go_roundg g
                case measure => omega
                case rel => exact ⟨j + 1, pos + v, os ++ [n], by have := Hjg.out; omega, by go_num, by go_num, by simp [hos], by rw [cellsI_snoc, List.length_append]; simpa [hos] using Hown.out, ⟨by have := Hsplit.out; omega, by rw [HC.out.2, Hmore.out, List.drop_drop]⟩, Hb2.out⟩
              · have hez : (e != 0) = true := by simpa using he
                have Hr2 : Hid (cutF s.data.toList ws = ([], e)) := Lib.hid (by rw [HC.out.2]; exact cut_stop Hv.out Hg.out he)
                clear he
                go_wp2_with fail
                refine (rGetF_is _ _ Hxs.out Hg'.out).mono ?_
                rintro e w3 ⟨rfl, rfl⟩
                go_wp2_with fail
                go_ret2
                exact cutsTo_nil Hr2.out Hb.out
        · have hne : (a != (s.size : Int)) = true := by simpa using hf
          have Hr := Lib.hid (cutF_form (l := s.data.toList) h16 Hall.out (by rw [← hsum, ← size_data]; exact hf))
          clear hf h16 hsum ha1
          go_wp2_with fail
          go_ret2
          exact cutsTo_nil Hr.out (Below.refl _ _)

end Go.Proofs.Ytjdhpemkajijnaa
