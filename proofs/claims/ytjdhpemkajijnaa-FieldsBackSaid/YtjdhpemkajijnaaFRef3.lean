/-
  The contracts of the document's Row, Same, Cut of fields.
-/
import Derived.Test.YtjdhpemkajijnaaFRef2
import Derived.WalkSmall
import Derived.Deep.QuietTactic
import Derived.BigQuiet
import Derived.Deep.RegionWith
namespace Go.Proofs.Ytjdhpemkajijnaa
open Go.RowKit

theorem putF_len {n width : Int} {u : ByteArray} {b : Int} (h : putF n width = (u.data.toList, b)) : u.size ≤ 8 := by
  rw [size_data]
  have e : u.data.toList = (putF n width).1 := by rw [h]
  rw [e]
  unfold putF
  split
  · simp
  · split
    · simp
    · simp only [loN_length]; omega
theorem row_stop {ns ws : List Int} {j : Nat} {t : List UInt8} {n w : Int} {u : List UInt8} {b : Int} (hn : ns[j]? = some n) (hw : ws[j]? = some w) (hp : putF n w = (u, b)) (hb : ¬ b = 0) :
    joinF t (rowGo (ns.drop j) (ws.drop j)) = ([], b) := by
  rw [rowGo_step hn hw, hp, if_neg hb]
  unfold joinF; rw [if_neg hb]
theorem row_more {ns ws : List Int} {j : Nat} {t : List UInt8} {n w : Int} {u : List UInt8} (hn : ns[j]? = some n) (hw : ws[j]? = some w) (hp : putF n w = (u, 0)) :
    joinF t (rowGo (ns.drop j) (ws.drop j)) = joinF (t ++ u) (rowGo (ns.drop (j + 1)) (ws.drop (j + 1))) := by
  rw [rowGo_step hn hw, hp, if_pos rfl, joinF_join]
theorem get_some {zs : List Int} {j : Nat} {n : Int} (hj : j < zs.length) (h : zs[j]?.getD 0 = n) : zs[j]? = some n := by
  rw [List.getElem?_eq_getElem hj] at h ⊢; simpa using h

set_option maxRecDepth 100000 in
set_option maxHeartbeats 1000000 in
theorem rRowF_any (p1 : Option Addr) (c1 : Nat) (ns : List Int) (p2 : Option Addr) (c2 : Nat) (ws : List Int) (w : World) (hz1 : ns.length ≤ 9223372036854775807) (hi : Ints ns) (hp1 : Nums w p1 ns) (hp2 : Nums w p2 ws) :
    Calls Try.prog 15 #[.slice p1 ns.length c1, .slice p2 ws.length c2] w fun e w' => e = TextNum (rowF ns ws) ∧ Below w.heap.size w w' := by
  have Hp1 := Lib.hid hp1
  have Hp2 := Lib.hid hp2
  have Hi := Lib.hid hi
  clear hp1 hp2 hi
  by_cases hl : ns.length = ws.length
  · by_cases h16 : 16 < ns.length
    · have Hr : Hid (rowF ns ws = ([], 2)) := Lib.hid (by unfold rowF; rw [if_pos (.inr h16)])
      have hl' : ((ns.length : Int) != (ws.length : Int)) = false := by rw [hl]; simp
      have h16' : (16 : Int) < (ns.length : Int) := by omega
      clear hl h16
      go_enter Try.func15, Try.ntmps15
      go_wp2_with fail
      go_ret2
      exact ⟨textNum_mk (by rw [Hr.out]), Below.refl _ _⟩
    · have Hr : Hid (rowF ns ws = rowGo ns ws) := Lib.hid (by unfold rowF; rw [if_neg (by rintro (h | h); exact h hl; exact h16 h)])
      have hl' : ((ns.length : Int) != (ws.length : Int)) = false := by rw [hl]; simp
      have h16' : ¬ (16 : Int) < (ns.length : Int) := by omega
      have Hl := Lib.hid hl
      clear hl
      go_enter Try.func15, Try.ntmps15
      go_wp2_with fail
      go_loopg [6, 7] ns.length (fun g s6 s7 wx => ∃ (j : Nat) (t : ByteArray), j + g = ns.length ∧ s7 = .int .i64 j ∧ s6 = .string t ∧ t.size ≤ 8 * j ∧ Aside (rowGo ns ws = joinF t.data.toList (rowGo (ns.drop j) (ws.drop j))) ∧ Below w.heap.size w wx)
      case atStart => exact ⟨0, ByteArray.empty, by omega, rfl, rfl, by simp, (joinF_nil _ (rowGo_shape _ _)).symm, Below.refl _ _⟩
      case round =>
        obtain ⟨j, t, hjg, rfl, rfl, hts, HJ, hb⟩ := hrel
        have Hb := Lib.hid hb
        clear hb
        cases gk with
        | zero =>
          obtain rfl : j = ns.length := by omega
          have Hr2 : Hid (rowF ns ws = (t.data.toList, 0)) := Lib.hid (by rw [Hr.out, HJ.out, List.drop_length]; unfold rowGo joinF; simp)
          clear hjg
          go_wp2_with fail
          go_ret2
          exact ⟨textNum_mk (by rw [Hr2.out]), Hb.out⟩
        | succ g =>
          have hj : j < ns.length := by omega
          have hj2 : j < ws.length := by rw [← Hl.out]; exact hj
          have hjz : ((j : Int) < (ns.length : Int)) := by omega
          obtain ⟨b1, o1, rfl, hc1⟩ := (Hp1.out.later Hb.out).at j hj
          obtain ⟨b2, o2, rfl, hc2⟩ := (Hp2.out.later Hb.out).at j hj2
          obtain ⟨n, hn⟩ : ∃ n, ns[j]?.getD 0 = n := ⟨_, rfl⟩
          obtain ⟨v, hv⟩ : ∃ v, ws[j]?.getD 0 = v := ⟨_, rfl⟩
          have hnb := Hi.out j hj
          rw [hn] at hc1 hnb
          rw [hv] at hc2
          obtain ⟨hn0, hn1⟩ := hnb
          have Hn := Lib.hid (get_some hj hn)
          have Hv := Lib.hid (get_some hj2 hv)
          obtain ⟨u, e, hu⟩ := putF_text n v
          have hus := putF_len hu
          have Hu := Lib.hid hu
          have Hjg := Lib.hid hjg
          clear hjg hn hv hu
          by_cases he : e = 0
          · subst he
            have Hstep := Lib.hid (row_more (t := t.data.toList) Hn.out Hv.out Hu.out)
            go_wp2_with fail
            go_region_with (go_at_call 8; refine (rPutF_is n v _ hn0 hn1 Hu.out).mono ?_; rintro e w3 ⟨rfl, hb3⟩)
            all_goals
              have Hb3 := Lib.hid hb3
              clear hb3
              go_wp2_with fail
              go_roundg g
              case measure => omega
              case rel => exact ⟨j + 1, _, by have := Hjg.out; omega, by go_num, rfl, by rw [size_data, app_data, List.length_append, ← size_data, ← size_data]; omega, by rw [app_data, ← Hstep.out]; exact HJ.out, Hb.out.drew.trans (Hb3.out.mono Hb.out.size)⟩
          · have Hstop := Lib.hid (row_stop (t := t.data.toList) Hn.out Hv.out Hu.out he)
            have Hr2 : Hid (rowF ns ws = ([], e)) := Lib.hid (by rw [Hr.out, HJ.out, Hstop.out])
            have hez : (e != 0) = true := by simpa using he
            clear he
            go_wp2_with fail
            go_region_with (go_at_call 8; refine (rPutF_is n v _ hn0 hn1 Hu.out).mono ?_; rintro e w3 ⟨rfl, hb3⟩)
            all_goals
              have Hb3 := Lib.hid hb3
              clear hb3
              go_wp2_with fail
              go_ret2
              exact ⟨textNum_mk (by rw [Hr2.out]), Hb.out.drew.trans (Hb3.out.mono Hb.out.size)⟩
  · have Hr : Hid (rowF ns ws = ([], 2)) := Lib.hid (by unfold rowF; rw [if_pos (.inl hl)])
    have hl' : ((ns.length : Int) != (ws.length : Int)) = true := by rw [bne_iff_ne]; omega
    clear hl
    go_enter Try.func15, Try.ntmps15
    go_wp2_with fail
    go_ret2
    exact ⟨textNum_mk (by rw [Hr.out]), Below.refl _ _⟩

end Go.Proofs.Ytjdhpemkajijnaa
