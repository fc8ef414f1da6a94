/-
  The walk of CodesTells.
-/
import Derived.Test.YtahanllbaclokaaCodeLaws
namespace Go.Proofs.Ytahanllbaclokaa
open Go.RowKit

theorem BitsAt.nums {w : World} {g : Nat} {row : List Nat} (h : BitsAt w g row) : Nums w (some ⟨g, 0, none⟩) (asZ row) := by
  refine .inr ⟨g, 0, rfl, fun i hi => ?_⟩
  rw [asZ_length] at hi
  rw [Nat.zero_add, h.2 i hi, asZ_getD row hi]

set_option maxRecDepth 100000 in
set_option maxHeartbeats 2000000 in
theorem ctells_walk (p : Option Addr) (cap : Nat) (ls : List Int) (w : World) (hz : ls.length ≤ 9223372036854775807) (hi : Ints ls) (hp : Nums w p ls) :
    Calls Try.prog 3 #[.slice p ls.length cap] w (Yes w) := by
  have Hp := Lib.hid hp
  have Hi := Lib.hid hi
  clear hp hi
  by_cases hbig : (1000 : Int) < (ls.length : Int)
  · go_enter Try.func3, Try.ntmps3
    go_wp2_with fail
    refine (trees_any _).mono ?_
    rintro e w1 ⟨rfl, hb⟩
    have Hb1 := Lib.hid hb
    clear hb
    go_wp2_with fail
    go_ret
    exact ⟨rfl, Hb1.out⟩
  · have hl : ls.length ≤ 1000 := by omega
    obtain ⟨c, hc⟩ : ∃ c, checkZ ls = c := ⟨_, rfl⟩
    obtain ⟨e, he⟩ : ∃ e, refusedZ ls = e := ⟨_, rfl⟩
    have Hc := Lib.hid hc
    clear hc
    by_cases hz0 : e = 0
    · subst hz0
      have He := Lib.hid he
      obtain ⟨cs, hcs⟩ : ∃ cs, codesN (natsOf ls) = cs := ⟨_, rfl⟩
      have hcl : cs.length = ls.length := by rw [← hcs, codesN_length, natsOf_length]
      have Hcs := Lib.hid hcs
      clear he hcs
      go_enter Try.func3, Try.ntmps3
      go_wp2_with fail
      refine (cCodes_good _ cap ls.length ls _ rfl Hp.out He.out Hcs.out).mono ?_
      rintro e w1 ⟨a1, c1, rfl, hn, hb⟩
      have Hb1 := Lib.hid hb
      have Hn1 := Lib.hid hn
      clear hn hb
      go_wp2_with fail
      refine (rCodes_good _ cap ls _ (Hp.out.later Hb1.out) He.out).mono ?_
      rintro e w2 ⟨g2, c2, rfl, hn, hb, hg⟩
      have Hb2 := Lib.hid (Hb1.out.trans (hb.mono Hb1.out.size))
      have Hn2 := Lib.hid (Hn1.out.later hb)
      rw [Hcs.out] at hn
      have Hr2 := Lib.hid hn
      clear hn hb hg
      go_wp2_with fail
      refine (tNew_good _ cap ls.length ls _ rfl (Hp.out.later Hb2.out) He.out).mono ?_
      rintro e w3 ⟨t, T, rfl, ht, hT, hb⟩
      have Hb3 := Lib.hid (Hb2.out.trans (hb.mono Hb2.out.size))
      have Hn3 := Lib.hid (Hn2.out.later hb)
      have Hr3 := Lib.hid (Hr2.out.later hb)
      clear ht hT hb
      go_wp2_with fail
      refine (cCheck_is _ cap ls _ hl Hi.out (Hp.out.later Hb3.out) Hc.out).mono ?_
      rintro e w4 ⟨rfl, hb⟩
      have Hb4 := Lib.hid (Hb3.out.trans (hb.mono Hb3.out.size))
      have Hn4 := Lib.hid (Hn3.out.later hb)
      have Hr4 := Lib.hid (Hr3.out.later hb)
      clear hb
      go_wp2_with fail
      refine (rCheck_any _ cap ls _ hz (Hp.out.later Hb4.out)).mono ?_
      rw [Hc.out]
      rintro e w5 ⟨rfl, rfl⟩
      go_wp2_with fail
      refine (same_is _ _ _ (asZ cs) _ _ _ (asZ cs) _ (by rw [asZ_length, hcl]) (by rw [asZ_length, hcl]) (by rw [asZ_length, hcl]; exact hz) Hn4.out Hr4.out.nums (b := true) (by simp)).mono ?_
      rintro e w6 ⟨rfl, q6, hq⟩
      have Hb6 : Hid (Below w.heap.size w w6) := Lib.hid (by rw [← hq]; exact below_drewN Hb4.out q6)
      clear hq
      go_wp2_with fail
      refine (trees_any _).mono ?_
      rintro e w7 ⟨rfl, hb⟩
      have Hb7 := Lib.hid (Hb6.out.trans (hb.mono Hb6.out.size))
      clear hb
      go_wp2_with fail
      go_ret
      exact ⟨rfl, Hb7.out⟩
    · have He := Lib.hid he
      have Hne := Lib.hid hz0
      have hez : (e == 0) = false := by simpa using hz0
      have hez2 : (e != 0) = true := by simpa using hz0
      clear he hz0
      go_enter Try.func3, Try.ntmps3
      go_wp2_with fail
      refine (cCodes_bad _ cap ls _ hl Hi.out Hp.out He.out Hne.out).mono ?_
      rintro e w1 ⟨⟨a1, c1, rfl⟩, hb⟩
      have Hb1 := Lib.hid hb
      clear hb
      go_wp2_with fail
      refine (rCodes_bad _ cap ls _ hz (Hp.out.later Hb1.out) He.out Hne.out).mono ?_
      rintro e w2 ⟨rfl, rfl⟩
      go_wp2_with fail
      refine (tNew_bad _ cap ls _ hl Hi.out (Hp.out.later Hb1.out) He.out Hne.out).mono ?_
      rintro e w3 ⟨rfl, hb⟩
      have Hb3 := Lib.hid (Hb1.out.trans (hb.mono Hb1.out.size))
      clear hb
      go_wp2_with fail
      refine (cCheck_is _ cap ls _ hl Hi.out (Hp.out.later Hb3.out) Hc.out).mono ?_
      rintro e w4 ⟨rfl, hb⟩
      have Hb4 := Lib.hid (Hb3.out.trans (hb.mono Hb3.out.size))
      clear hb
      go_wp2_with fail
      refine (rCheck_any _ cap ls _ hz (Hp.out.later Hb4.out)).mono ?_
      rw [Hc.out]
      rintro e w5 ⟨rfl, rfl⟩
      go_wp2_with fail
      refine (same_is _ _ _ [] _ _ _ [] _ rfl rfl (by simp) (.inl rfl) (.inl rfl) (b := true) (by simp)).mono ?_
      rintro e w6 ⟨rfl, q6, hq⟩
      have Hb6 : Hid (Below w.heap.size w w6) := Lib.hid (by rw [← hq]; exact below_drewN Hb4.out q6)
      clear hq
      go_wp2_with fail
      refine (trees_any _).mono ?_
      rintro e w7 ⟨rfl, hb⟩
      have Hb7 := Lib.hid (Hb6.out.trans (hb.mono Hb6.out.size))
      clear hb
      go_wp2_with fail
      go_ret
      exact ⟨rfl, Hb7.out⟩

end Go.Proofs.Ytahanllbaclokaa
