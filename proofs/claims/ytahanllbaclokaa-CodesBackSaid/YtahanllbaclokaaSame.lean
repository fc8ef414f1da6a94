/-
  The contract of the document's Same of fields, for the stages behind it.
-/
import Derived.Test.YtahanllbaclokaaRows
import Derived.Test.YtahanllbaclokaaNums
import Derived.WalkKit
import Derived.WalkSpells
import Derived.WalkLawsBesides
import Derived.WalkSmall
import Derived.Lib.Hide
import Derived.Deep.LoopGhost
import Derived.Deep.QuietTactic
import Derived.BigQuiet
import Derived.Deep.RegionWith
namespace Go.Proofs.Ytahanllbaclokaa
open Go.RowKit

theorem get_some {zs : List Int} {j : Nat} {n : Int} (hj : j < zs.length) (h : zs[j]?.getD 0 = n) : zs[j]? = some n := by
  rw [List.getElem?_eq_getElem hj] at h ⊢; simpa using h

set_option maxRecDepth 100000 in
set_option maxHeartbeats 1000000 in
theorem rSame_any (p1 : Option Addr) (c1 : Nat) (xs : List Int) (p2 : Option Addr) (c2 : Nat) (ys : List Int) (w : World) (hz1 : xs.length ≤ 9223372036854775807) (hp1 : Nums w p1 xs) (hp2 : Nums w p2 ys) :
    Calls Try.prog 14 #[.slice p1 xs.length c1, .slice p2 ys.length c2] w fun e w' => e = .returned (.bool (decide (xs = ys))) ∧ ∃ q, w.drewN q = w' := by
  have Hp1 := Lib.hid hp1
  have Hp2 := Lib.hid hp2
  clear hp1 hp2
  by_cases hl : xs.length = ys.length
  · have hl' : ((xs.length : Int) != (ys.length : Int)) = false := by rw [hl]; simp
    have Hl := Lib.hid hl
    clear hl
    go_enter Try.func14, Try.ntmps14
    go_wp2_with fail
    go_loopg [5] xs.length (fun g s5 wx => ∃ (j q : Nat), j + g = xs.length ∧ s5 = .int .i64 j ∧ Aside (∀ i, i < j → xs[i]? = ys[i]?) ∧ w.drewN q = wx)
    case atStart => exact ⟨0, 0, by omega, rfl, fun i hi => absurd hi (by omega), rfl⟩
    case round =>
      obtain ⟨j, q, hjg, rfl, HE, rfl⟩ := hrel
      cases gk with
      | zero =>
        obtain rfl : j = xs.length := by omega
        have Hr : Hid (decide (xs = ys) = true) := Lib.hid (decide_eq_true (List.ext_getElem? fun i => by
          by_cases hi : i < xs.length
          · exact HE.out i hi
          · rw [List.getElem?_eq_none (by omega), List.getElem?_eq_none (by have := Hl.out; omega)]))
        clear hjg
        go_wp2_with fail
        go_ret
        exact ⟨ret_bool (by rw [Hr.out]), q, rfl⟩
      | succ g =>
        have hj : j < xs.length := by omega
        have hj2 : j < ys.length := by rw [← Hl.out]; exact hj
        have hjz : ((j : Int) < (xs.length : Int)) := by omega
        have hjz2 : ((j : Int) < (ys.length : Int)) := by omega
        obtain ⟨b1, o1, rfl, hc1⟩ := Hp1.out.at j hj
        obtain ⟨b2, o2, rfl, hc2⟩ := Hp2.out.at j hj2
        obtain ⟨n, hn⟩ : ∃ n, xs[j]?.getD 0 = n := ⟨_, rfl⟩
        obtain ⟨v, hv⟩ : ∃ v, ys[j]?.getD 0 = v := ⟨_, rfl⟩
        rw [hn] at hc1
        rw [hv] at hc2
        have Hn := Lib.hid (get_some hj hn)
        have Hv := Lib.hid (get_some hj2 hv)
        have Hjg := Lib.hid hjg
        clear hjg hn hv
        by_cases he : n = v
        · have he' := beq_iff_eq.2 he
          have hne : (n != v) = false := by simpa using he
          have Hs : Hid (xs[j]? = ys[j]?) := Lib.hid (by rw [Hn.out, Hv.out, he])
          clear he
          go_wp2_with fail
          go_quiet (fail)
          go_wp2_with fail
          go_roundg g
          case measure => omega
          case rel => exact ⟨j + 1, _, by have := Hjg.out; omega, by go_num, fun i hi => by by_cases e : i = j; exact e ▸ Hs.out; exact HE.out i (by omega), rfl⟩
        · have hne : (n != v) = true := by simpa using he
          have Hr : Hid (decide (xs = ys) = false) := Lib.hid (decide_eq_false (fun e => he (by
            have h1 := Hn.out
            rw [e, Hv.out] at h1
            exact (Option.some.inj h1).symm)))
          clear he
          go_wp2_with fail
          go_quiet (fail)
          go_wp2_with fail
          go_ret
          exact ⟨ret_bool (by rw [Hr.out]), _, drewN_add _ _ _⟩
  · have hl' : ((xs.length : Int) != (ys.length : Int)) = true := by rw [bne_iff_ne]; omega
    have Hr : Hid (decide (xs = ys) = false) := Lib.hid (decide_eq_false (fun e => hl (by rw [e])))
    clear hl
    go_enter Try.func14, Try.ntmps14
    go_wp2_with fail
    go_ret
    exact ⟨ret_bool (by rw [Hr.out]), 0, rfl⟩
theorem same_is (p1 : Option Addr) (c1 n1 : Nat) (xs : List Int) (p2 : Option Addr) (c2 n2 : Nat) (ys : List Int) (w : World) (hn1 : n1 = xs.length) (hn2 : n2 = ys.length) (hz1 : xs.length ≤ 9223372036854775807) (hp1 : Nums w p1 xs) (hp2 : Nums w p2 ys) {b : Bool} (hb : decide (xs = ys) = b) :
    Calls Try.prog 14 #[.slice p1 n1 c1, .slice p2 n2 c2] w fun e w' => e = .returned (.bool b) ∧ ∃ q, w.drewN q = w' := by
  subst hn1; subst hn2; rw [← hb]; exact rSame_any p1 c1 xs p2 c2 ys w hz1 hp1 hp2

end Go.Proofs.Ytahanllbaclokaa
