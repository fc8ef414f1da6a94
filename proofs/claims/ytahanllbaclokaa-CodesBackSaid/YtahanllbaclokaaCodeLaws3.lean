/-
  The walk of CodesPrefix.
-/
import Derived.Test.YtahanllbaclokaaCodeLaws2
namespace Go.Proofs.Ytahanllbaclokaa
open Go.RowKit

theorem wrap_u64 {n : Nat} (h : n ≤ 15) : min (IntKind.u64.wrap (n : Int)).toNat 64 = n := by
  have e : IntKind.u64.wrap (n : Int) = (n : Int) := by rw [IntKind.wrap_u64]; omega
  rw [e, Int.toNat_natCast]; omega
theorem shift_none {x n : Nat} (hn : n ≤ 15) (h : x < 2 ^ n) : (x : Int) / 2 ^ min (IntKind.u64.wrap (n : Int)).toNat 64 = 0 := by
  rw [wrap_u64 hn]
  have : ((2 ^ n : Nat) : Int) = (2 : Int) ^ n := by simp
  rw [← this, ← Int.natCast_ediv, Nat.div_eq_of_lt h]; rfl

theorem shift_other {x y d : Nat} (hn : d ≤ 15) (h : y / 2 ^ d ≠ x) : ((y : Int) / 2 ^ min (IntKind.u64.wrap (d : Int)).toNat 64 == (x : Int)) = false := by
  rw [wrap_u64 hn, beq_eq_false_iff_ne]
  have : ((2 ^ d : Nat) : Int) = (2 : Int) ^ d := by simp
  rw [← this, ← Int.natCast_ediv]
  intro e
  exact h (Int.ofNat.inj e)
theorem cell_nums {w : World} {b off : Nat} {zs : List Int} (h : Nums w (some ⟨b, off, none⟩) zs) (j : Nat) (hj : j < zs.length) : w.cell? ⟨b, off + j, none⟩ = some (.int .i64 (zs[j]?.getD 0)) := by
  obtain ⟨b', off', e, hc⟩ := h.at j hj
  injection e with e
  injection e with e1 e2
  subst e1 e2
  exact hc

set_option maxRecDepth 100000 in
set_option maxHeartbeats 2000000 in
theorem cprefix_walk (p : Option Addr) (cap : Nat) (ls : List Int) (w : World) (hz : ls.length ≤ 9223372036854775807) (hi : Ints ls) (hp : Nums w p ls) :
    Calls Try.prog 7 #[.slice p ls.length cap] w (Yes w) := by
  have Hp := Lib.hid hp
  have Hi := Lib.hid hi
  clear hp hi
  by_cases hbig : (320 : Int) < (ls.length : Int)
  · go_enter Try.func7, Try.ntmps7
    go_wp2_with fail
    refine (trees_any _).mono ?_
    rintro e w1 ⟨rfl, hb⟩
    have Hb1 := Lib.hid hb
    clear hb
    go_wp2_with fail
    go_ret
    exact ⟨rfl, Hb1.out⟩
  · have hl : ls.length ≤ 320 := by omega
    obtain ⟨e, he⟩ : ∃ e, refusedZ ls = e := ⟨_, rfl⟩
    by_cases hz0 : e = 0
    · subst hz0
      have He := Lib.hid he
      have Hg := Lib.hid (refusedZ_zero he)
      obtain ⟨cs, hcs⟩ : ∃ cs, codesN (natsOf ls) = cs := ⟨_, rfl⟩
      have hcl : cs.length = ls.length := by rw [← hcs, codesN_length, natsOf_length]
      have Hcs := Lib.hid hcs
      clear he hcs
      go_enter Try.func7, Try.ntmps7
      go_wp2_with fail
      refine (cCodes_good _ cap ls.length ls _ rfl Hp.out He.out Hcs.out).mono ?_
      rintro e w1 ⟨a1, c1, rfl, hn, hb⟩
      rw [hcl]
      have Hcl := Lib.hid hcl
      have Hb1 := Lib.hid hb
      have Hn1 := Lib.hid hn
      have Hp1 := Lib.hid (Hp.out.later hb)
      clear hn hb hcl
      go_wp2_with fail
      go_loopg [5] ls.length (fun g s5 wx => ∃ j q : Nat, j + g = ls.length ∧ s5 = .int .i64 (j : Int) ∧ w1.drewN q = wx)
      case atStart => exact ⟨0, 0, by omega, rfl, rfl⟩
      case round =>
        obtain ⟨j, q, hjg, rfl, rfl⟩ := hrel
        cases gk with
        | zero =>
          obtain rfl : j = ls.length := by omega
          clear hjg
          go_wp2_with fail
          refine (trees_any _).mono ?_
          rintro e w7 ⟨rfl, hb⟩
          have hbq := below_drewN Hb1.out q
          have Hb7 := Lib.hid (hbq.trans (hb.mono hbq.size))
          clear hb hbq
          go_wp2_with fail
          go_ret
          exact ⟨rfl, Hb7.out⟩
        | succ g =>
          have hj : j < ls.length := by omega
          have hjz : (j : Int) < (ls.length : Int) := by omega
          obtain ⟨b, off, rfl, hc⟩ := Hp1.out.at j hj
          obtain ⟨v, hv⟩ : ∃ v, ls[j]?.getD 0 = v := ⟨_, rfl⟩
          rw [hv] at hc
          by_cases hv0 : v = 0
          · subst hv0
            clear hv
            go_wp2_with fail
            go_roundg g
            case measure => omega
            case rel => exact ⟨j + 1, q, by omega, by go_num, rfl⟩
          · have hvz : (v == 0) = false := by simpa using hv0
            have hj2 : j < cs.length := by rw [Hcl.out]; exact hj
            obtain ⟨b2, off2, rfl, hc2⟩ := Hn1.out.at j (by rw [asZ_length]; exact hj2)
            rw [asZ_getD cs hj2] at hc2
            obtain ⟨x, hx⟩ : ∃ x, cs[j] = x := ⟨_, rfl⟩
            rw [hx] at hc2
            have hnat := natsOf_at hj
            rw [hv] at hnat
            have hv1 : 0 ≤ v ∧ v ≤ 15 := by
              rw [List.getElem?_eq_getElem hj] at hv
              simp only [Option.getD_some] at hv
              have := Hg.out.2.1 _ (List.getElem_mem hj)
              rwa [hv] at this
            obtain ⟨n, rfl⟩ : ∃ n : Nat, v = (n : Int) := ⟨v.toNat, by omega⟩
            have hn1 : 1 ≤ n := by omega
            have hn15 : n ≤ 15 := by omega
            clear hv0 hv1 hv
            have hnj : (natsOf ls)[j]? = some n := by
              rw [List.getElem?_eq_getElem (by rw [natsOf_length]; exact hj)] at hnat ⊢
              simp only [Option.getD_some, Int.toNat_natCast] at hnat
              rw [hnat]
            have hxc : codeAt (natsOf ls) j = x := by
              rw [← hx]
              have h1 := codesN_at (ns := natsOf ls) (i := j) (by rw [natsOf_length]; exact hj)
              rw [Hcs.out, List.getElem?_eq_getElem hj2] at h1
              exact (Option.some.inj h1).symm
            have hx0 : ¬ (x : Int) < 0 := by omega
            have hsh : (x : Int) / 2 ^ min (IntKind.u64.wrap (n : Int)).toNat 64 = 0 := shift_none hn15 (by
              obtain ⟨m, rfl⟩ : ∃ m, n = m + 1 := ⟨n - 1, by omega⟩
              rw [← hxc]; exact (codeAt_lt Hg.out.2.1 Hg.out.2.2 hnj).2)
            have Hnj := Lib.hid hnj
            have Hxc := Lib.hid hxc
            clear hnj hxc hnat hx
            go_wp2_with fail
            go_quiet (fail)
            go_wp2_with fail
            go_loopg [6] ls.length (fun gk s6 wx => ∃ k q2 : Nat, k + gk = ls.length ∧ s6 = .int .i64 (k : Int) ∧ w1.drewN q2 = wx)
            case atStart => exact ⟨0, _, by omega, rfl, drewN_add _ _ _⟩
            case round =>
              obtain ⟨k, q2, hkg, rfl, rfl⟩ := hrel
              cases gk with
              | zero =>
                obtain rfl : k = ls.length := by omega
                clear hkg
                go_wp2_with fail
                go_roundg g
                case measure => omega
                case rel => exact ⟨j + 1, _, by omega, by go_num, rfl⟩
              | succ gk =>
                have hk : k < ls.length := by omega
                have hkz : (k : Int) < (ls.length : Int) := by omega
                by_cases hkj : k = j
                · subst hkj
                  go_wp2_with fail
                  go_quiet (fail)
                  go_wp2_with fail
                  go_roundg gk
                  case measure => omega
                  case rel => exact ⟨k + 1, _, by omega, by go_num, rfl⟩
                · have hkj2 : ((k : Int) != (j : Int)) = true := by rw [bne_iff_ne]; omega
                  have hk2 : k < cs.length := by rw [Hcl.out]; exact hk
                  have hck := cell_nums Hp1.out k hk
                  have hck2 := cell_nums Hn1.out k (by rw [asZ_length]; exact hk2)
                  rw [asZ_getD cs hk2] at hck2
                  obtain ⟨y, hy⟩ : ∃ y, cs[k] = y := ⟨_, rfl⟩
                  rw [hy] at hck2
                  obtain ⟨v, hv⟩ : ∃ v, ls[k]?.getD 0 = v := ⟨_, rfl⟩
                  rw [hv] at hck
                  have hnat := natsOf_at hk
                  rw [hv] at hnat
                  have hv1 : 0 ≤ v ∧ v ≤ 15 := by
                    rw [List.getElem?_eq_getElem hk] at hv
                    simp only [Option.getD_some] at hv
                    have := Hg.out.2.1 _ (List.getElem_mem hk)
                    rwa [hv] at this
                  obtain ⟨m, rfl⟩ : ∃ m : Nat, v = (m : Int) := ⟨v.toNat, by omega⟩
                  have hm15 : m ≤ 15 := by omega
                  by_cases hmn : n ≤ m
                  · have hmnz : (n : Int) ≤ (m : Int) := by omega
                    obtain ⟨d, hd⟩ : ∃ d, m - n = d := ⟨_, rfl⟩
                    have hsub : IntKind.i64.wrap ((m : Int) - (n : Int)) = (d : Int) := by rw [IntKind.wrap_i64]; omega
                    have hne : ((y : Int) / 2 ^ min (IntKind.u64.wrap (d : Int)).toNat 64 == (x : Int)) = false := shift_other (by omega) (by
                      obtain ⟨n', rfl⟩ : ∃ n', n = n' + 1 := ⟨n - 1, by omega⟩
                      obtain ⟨m', rfl⟩ : ∃ m', m = m' + 1 := ⟨m - 1, by omega⟩
                      have hnk : (natsOf ls)[k]? = some (m' + 1) := by
                        rw [List.getElem?_eq_getElem (by rw [natsOf_length]; exact hk)] at hnat ⊢
                        simp only [Option.getD_some, Int.toNat_natCast] at hnat
                        rw [hnat]
                      have hyc : codeAt (natsOf ls) k = y := by
                        rw [← hy]
                        have h1 := codesN_at (ns := natsOf ls) (i := k) (by rw [natsOf_length]; exact hk)
                        rw [Hcs.out, List.getElem?_eq_getElem hk2] at h1
                        exact (Option.some.inj h1).symm
                      have := no_prefix Hnj.out hnk (fun e => hkj e.symm) (by omega)
                      rw [hyc, Hxc.out] at this
                      rwa [show m' - n' = d by omega] at this)
                    clear hv hv1 hnat hy hmn hd hkj
                    go_wp2_with fail
                    go_quiet (fail)
                    go_wp2_with fail
                    go_roundg gk
                    case measure => omega
                    case rel => exact ⟨k + 1, _, by omega, by go_num, rfl⟩
                  · have hmnz : (m : Int) < (n : Int) := by omega
                    have hmf : decide (n ≤ m) = false := by rw [decide_eq_false_iff_not]; omega
                    clear hv hv1 hnat hy hkj hck2
                    go_wp2_with fail
                    go_quiet (fail)
                    go_wp2_with fail
                    go_roundg gk
                    case measure => omega
                    case rel => exact ⟨k + 1, _, by omega, by go_num, rfl⟩
    · have He := Lib.hid he
      have Hne := Lib.hid hz0
      have hez2 : (e != 0) = true := by simpa using hz0
      clear he hz0
      go_enter Try.func7, Try.ntmps7
      go_wp2_with fail
      refine (cCodes_bad _ cap ls _ (by omega) Hi.out Hp.out He.out Hne.out).mono ?_
      rintro e w1 ⟨⟨a1, c1, rfl⟩, hb⟩
      have Hb1 := Lib.hid hb
      clear hb
      go_wp2_with fail
      refine (trees_any _).mono ?_
      rintro e w7 ⟨rfl, hb⟩
      have Hb7 := Lib.hid (Hb1.out.trans (hb.mono Hb1.out.size))
      clear hb
      go_wp2_with fail
      go_ret
      exact ⟨rfl, Hb7.out⟩

end Go.Proofs.Ytahanllbaclokaa
