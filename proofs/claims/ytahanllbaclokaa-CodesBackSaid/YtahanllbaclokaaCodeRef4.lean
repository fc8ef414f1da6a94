/-
  The contract of the document's Codes.
-/
import Derived.Test.YtahanllbaclokaaCodeRef3
import Derived.Test.YtahanllbaclokaaCodePlain3
namespace Go.Proofs.Ytahanllbaclokaa
open Go.RowKit

theorem rCodes_bad (p : Option Addr) (cap : Nat) (ls : List Int) (w : World) (hz : ls.length ≤ 9223372036854775807) (hp : Nums w p ls) {e : Int} (he : refusedZ ls = e) (hne : e ≠ 0) :
    Calls Try.prog 10 #[.slice p ls.length cap] w fun en w' => en = .returned (.tuple #[.slice none 0 0, .int .i64 e]) ∧ w = w' := by
  have Hr := Lib.hid (rRefused_any p cap ls w hz hp)
  rw [he] at Hr
  clear hp he
  go_enter Try.func10, Try.ntmps10
  go_wp2_with fail
  refine Hr.out.mono ?_
  rintro en w1 ⟨rfl, rfl⟩
  go_wp2_with fail
  go_ret2
  exact ⟨rfl, rfl⟩

set_option maxRecDepth 100000 in
set_option maxHeartbeats 2000000 in
theorem rCodes_good (p : Option Addr) (cap : Nat) (ls : List Int) (w : World) (hp : Nums w p ls) (he : refusedZ ls = 0) :
    Calls Try.prog 10 #[.slice p ls.length cap] w fun en w' => ∃ g' cap', en = .returned (.tuple #[.slice (some ⟨g', 0, none⟩) ls.length cap', .int .i64 0]) ∧ BitsAt w' g' (codesN (natsOf ls)) ∧ Below w.heap.size w w' ∧ w.heap.size ≤ g' := by
  obtain ⟨hl, hall, hk⟩ := refusedZ_zero he
  have Hr := Lib.hid (rRefused_any p cap ls w (by omega) hp)
  rw [he] at Hr
  have Hp := Lib.hid hp
  have Hall := Lib.hid hall
  have Hk := Lib.hid hk
  have Hns : Hid ((natsOf ls).length = ls.length) := Lib.hid (natsOf_length ls)
  clear hp he hall hk
  go_enter Try.func10, Try.ntmps10
  go_wp2_with fail
  refine Hr.out.mono ?_
  rintro en w1 ⟨rfl, rfl⟩
  go_wp2_with fail
  go_loopg [5, 6] ls.length (fun gg s5 s6 wx => ∃ k : Nat, k + gg = ls.length ∧ s6 = .int .i64 k ∧ Aside (Own64 wx w.heap.size s5 (asZ (List.replicate k 0))) ∧ Below w.heap.size w wx)
  case atStart => exact ⟨0, by omega, rfl, Own64.made w 0 #[] (Nat.le_refl _) (by decide) rfl, (Below.refl _ w).alloc (Nat.le_refl _) _⟩
  case round =>
    obtain ⟨k, hkg, rfl, HO, hb⟩ := hrel
    have Hb := Lib.hid hb
    clear hb
    cases gk with
    | succ gg =>
      have hkz : (k : Int) < (ls.length : Int) := by omega
      have hlen : (asZ (List.replicate k 0)).length ≤ 2000000 := by rw [asZ_length, List.length_replicate]; omega
      go_wp2_with (at_builtin; refine wpList_append64 rfl (.tmp 22) (.tmp 23) rfl w.heap.size _ (asZ (List.replicate k 0)) rfl (HO.out.alloc _) ⟨wr.heap.size, 0, none⟩ 1 [0] rfl (cells_newZ _ _) (by simp) (by simp; omega) w (Hb.out.alloc Hb.out.size _) (by have := Hb.out.size; simp; omega) ?_; intro v3 w3 Ho3 Hb3 _)
      go_roundg gg
      case measure => omega
      case rel => exact ⟨k + 1, by omega, by go_num, by show Own64 _ _ _ _; rw [List.replicate_succ', asZ_snoc]; exact Ho3.out, Hb3.out⟩
    | zero =>
      obtain rfl : k = ls.length := by omega
      obtain ⟨g3, cap3, hv⟩ := HO.out.2
      rw [asZ_length, List.length_replicate] at hv
      subst hv
      clear hkg
      go_wp2_with fail
      go_loopg [7, 8] 15 (fun gg s7 s8 wx => ∃ n m : Nat, n + gg = 15 ∧ s8 = .int .i64 ((n : Int) + 1) ∧ s7 = .int .i64 (m : Int) ∧ m ≤ 32768 ∧ Aside (m = endC (natsOf ls) n ∧ Own64 wx w.heap.size (.slice (some ⟨g3, 0, none⟩) ls.length cap3) (asZ (partC (natsOf ls) n 0))) ∧ Below w.heap.size w wx)
      case atStart => exact ⟨0, 0, by omega, rfl, rfl, by omega, ⟨rfl, by rw [← partC_none, Hns.out]; exact HO.out⟩, Hb.out⟩
      case round =>
        obtain ⟨n, m, hng, rfl, rfl, hm, HM, hb2⟩ := hrel
        have Hb2 := Lib.hid hb2
        clear hb2
        cases gk with
        | zero =>
          have hnz : ¬ (n : Int) + 1 ≤ 15 := by omega
          obtain rfl : n = 15 := by omega
          have hfin : Own64 wr w.heap.size (.slice (some ⟨g3, 0, none⟩) ls.length cap3) (asZ (codesN (natsOf ls))) := by have := HM.out.2; rwa [partC_all (natsOf_le Hall.out)] at this
          have Hfin := Lib.hid hfin
          clear hfin
          go_wp2_with fail
          go_ret2
          obtain ⟨g', cap', hv, hB, hbits⟩ := Own64.bits Hfin.out
          rw [codesN_length, Hns.out] at hv
          exact ⟨g', ⟨cap', congrArg (fun v => Ending.returned (.tuple #[v, .int .i64 0])) hv⟩, hbits, Hb2.out, hB⟩
        | succ gg =>
          have hnz : (n : Int) + 1 ≤ 15 := by omega
          have Hend : Hid (∀ j, nextC (natsOf ls) n j ≤ 32768) := Lib.hid fun j => Nat.le_trans (nextC_le _ _ _) (endC_small Hall.out Hk.out (by omega))
          go_wp2_with fail
          go_loopg [7, 9] ls.length (fun g9 s7 s9 wx => ∃ j x : Nat, j + g9 = ls.length ∧ s9 = .int .i64 (j : Int) ∧ s7 = .int .i64 (x : Int) ∧ x ≤ 65536 ∧ Aside (x = nextC (natsOf ls) n j ∧ Own64 wx w.heap.size (.slice (some ⟨g3, 0, none⟩) ls.length cap3) (asZ (partC (natsOf ls) n j))) ∧ Below w.heap.size w wx)
          case atStart => exact ⟨0, 2 * m, by omega, rfl, by go_num, by omega, ⟨by rw [nextC_zero, HM.out.1], HM.out.2⟩, Hb2.out⟩
          case round =>
            obtain ⟨j, x, hjg, rfl, rfl, hx, HX, hb3⟩ := hrel
            have Hb3 := Lib.hid hb3
            clear hb3
            cases gk with
            | zero =>
              obtain rfl : j = ls.length := by omega
              have hxs : x ≤ 32768 := by rw [HX.out.1]; exact Hend.out _
              have Hx2 : Hid (x = endC (natsOf ls) (n + 1) ∧ Own64 wr w.heap.size (.slice (some ⟨g3, 0, none⟩) ls.length cap3) (asZ (partC (natsOf ls) (n + 1) 0))) := Lib.hid (by
                have h1 := HX.out
                rw [← Hns.out, nextC_end, partC_next, Hns.out] at h1
                exact h1)
              clear hjg
              go_wp2_with fail
              go_roundg gg
              case measure => omega
              case rel => exact ⟨n + 1, x, by omega, by go_num, rfl, hxs, Hx2.out, Hb3.out⟩
            | succ g9 =>
              have hj : j < ls.length := by omega
              have hjz : (j : Int) < (ls.length : Int) := by omega
              obtain ⟨b, off, rfl, hc⟩ := (Hp.out.later Hb3.out).at j hj
              obtain ⟨v, hv⟩ : ∃ v, ls[j]?.getD 0 = v := ⟨_, rfl⟩
              rw [hv] at hc
              have hnat := natsOf_at hj
              rw [hv] at hnat
              have hv0 : 0 ≤ v ∧ v ≤ 15 := by
                rw [List.getElem?_eq_getElem hj] at hv
                simp only [Option.getD_some] at hv
                have := Hall.out _ (List.getElem_mem hj)
                rwa [hv] at this
              have hjn : j < (natsOf ls).length := by rw [Hns.out]; exact hj
              by_cases hvn : v = (n : Int) + 1
              · have hvz : (v == (n : Int) + 1) = true := by simpa using hvn
                have hat : (natsOf ls)[j]?.getD 0 = n + 1 := by omega
                obtain ⟨v0, hcell, hfz, hBg⟩ := HX.out.2.there (j := j) (by rw [asZ_length, partC_length]; exact hjn)
                have hset := HX.out.2.set j (x : Int)
                rw [asZ_set, HX.out.1, partC_hit hjn hat, ← HX.out.1] at hset
                have Hset := Lib.hid hset
                have Hx2 : Hid (x + 1 = nextC (natsOf ls) n (j + 1)) := Lib.hid (by rw [nextC_hit hat hjn, HX.out.1])
                have hx2 : x + 1 ≤ 32768 := by rw [Hx2.out]; exact Hend.out _
                clear hset hv hnat hat hvn
                go_wp2_with fail
                go_roundg g9
                case measure => omega
                case rel => exact ⟨j + 1, x + 1, by omega, by go_num, by go_num, by omega, ⟨Hx2.out, Hset.out⟩, Hb3.out.setCell hBg _⟩
              · have hvz : (v == (n : Int) + 1) = false := by simpa using hvn
                have hat : (natsOf ls)[j]?.getD 0 ≠ n + 1 := by omega
                have Hx2 : Hid (x = nextC (natsOf ls) n (j + 1) ∧ Own64 wr w.heap.size (.slice (some ⟨g3, 0, none⟩) ls.length cap3) (asZ (partC (natsOf ls) n (j + 1)))) := Lib.hid (by
                  rw [nextC_miss hat hjn, ← partC_miss hat]; exact HX.out)
                clear hv hnat hat hvn
                go_wp2_with fail
                go_roundg g9
                case measure => omega
                case rel => exact ⟨j + 1, x, by omega, by go_num, rfl, hx, Hx2.out, Hb3.out⟩

end Go.Proofs.Ytahanllbaclokaa
