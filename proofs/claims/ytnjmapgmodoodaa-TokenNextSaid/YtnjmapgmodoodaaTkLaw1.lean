/-
  The law TokenNext.
-/
import Derived.Test.YtnjmapgmodoodaaTkEx
import Derived.Test.YtnjmapgmodoodaaTkRNext
namespace Go.Proofs.Ytnjmapgmodoodaa
open Go.RowKit
set_option maxRecDepth 100000

set_option maxHeartbeats 4000000 in
theorem tnext_walk (s : ByteArray) (a : Int) (w : World) (hs : s.size ≤ maxLen) :
    Calls Try.prog 3 #[.string s, .int .i64 a] w (Yes w) := by
  unfold maxLen at hs
  by_cases hbig : (2000 : Int) < (s.size : Int)
  · go_enter Try.func3, Try.ntmps3
    go_wp2_with fail
    refine (signs_any _).mono ?_
    rintro e w1 ⟨rfl, hb⟩
    have Hb := Lib.hid hb
    clear hb
    go_wp2_with fail
    go_ret
    exact ⟨rfl, Hb.out⟩
  · have hsz : s.size ≤ 2000 := by omega
    obtain ⟨x, hx⟩ : ∃ x, nextI s.data.toList a = x := ⟨_, rfl⟩
    obtain ⟨R, hR⟩ : ∃ R, skipI s.data.toList a = R := ⟨_, rfl⟩
    have HN : Hid (∀ W, Calls Try.prog 8 #[.string s, .int .i64 a] W fun e w' => e = .returned (.tuple #[.agg (tokC x.kind x.num (bytes x.str) (x.beg : Int) (x.fin : Int)), .int .i64 x.code]) ∧ Below W.heap.size W w') :=
      Lib.hid fun W => by have h := next_any s a W (by omega); rw [hx] at h; exact h
    have HR : Hid (∀ W, Calls Try.prog 9 #[.string s, .int .i64 a] W fun e w' => e = .returned (.tuple #[.agg (tokC x.kind x.num (bytes x.str) (x.beg : Int) (x.fin : Int)), .int .i64 x.code]) ∧ Below W.heap.size W w') :=
      Lib.hid fun W => by have h := rNext_any s a W (by omega); rw [hx] at h; exact h
    have HS : Hid (∀ W, Calls Try.prog 10 #[.string s, .int .i64 a] W fun e w' => e = .returned (.int .i64 (R : Int)) ∧ Below W.heap.size W w') :=
      Lib.hid fun W => by have h := skip_any s a W (by unfold maxLen; omega); rw [hR] at h; exact h
    have HT : Hid (∀ W, Calls Try.prog 11 #[.string s, .int .i64 a] W fun e w' => e = .returned (.int .i64 (R : Int)) ∧ W = w') :=
      Lib.hid fun W => rSkip_any s a W (by unfold maxLen; omega) hR
    clear hx hR
    go_enter Try.func3, Try.ntmps3
    go_wp2_with fail
    refine (HN.out _).mono ?_
    rintro e w1 ⟨rfl, hb⟩
    have HB1 := Lib.hid (hb.alloc hb.size (.cells (tokC 0 0 ⟨#[]⟩ 0 0) 24))
    have hsz1 := hb.size
    clear hb
    go_wp2_with (refine TokCell.store rfl rfl _ _ rfl w1.heap.size (tokC 0 0 ⟨#[]⟩ 0 0) _ _ _ _ _ rfl rfl (TokCell.new w1 _) rfl w.heap.size w HB1.out hsz1 ?_; intro w2 HT2 HB2 HO2; clear HO2)
    refine (HR.out _).mono ?_
    rintro e w3 ⟨rfl, hb⟩
    have HT3 := Lib.hid (HT2.out.later hb HT2.out.lt)
    have hsz3 := (HB2.out.trans (hb.mono HB2.out.size)).size
    have HB3 := Lib.hid ((HB2.out.trans (hb.mono HB2.out.size)).alloc hsz3 (.cells (tokC 0 0 ⟨#[]⟩ 0 0) 24))
    clear hb
    go_wp2_with (refine TokCell.store rfl rfl _ _ rfl w3.heap.size (tokC 0 0 ⟨#[]⟩ 0 0) _ _ _ _ _ rfl rfl (TokCell.new w3 _) rfl w.heap.size w HB3.out hsz3 ?_; intro w4 HT4 HB4 HO4; have HU4 := Lib.hid (show TokCell w4 _ _ from (HO4.out _ (Nat.ne_of_lt HT3.out.lt)).trans ((heap_alloc_old w3 _ _ HT3.out.lt).trans HT3.out)); clear HO4; obtain ⟨k0, k1, k2, k3, k4⟩ := HT4.out.parts; obtain ⟨j0, j1, j2, j3, j4⟩ := HU4.out.parts)
    refine (HS.out _).mono ?_
    rintro e w5 ⟨rfl, hb⟩
    have HB5 := Lib.hid (HB4.out.trans (hb.mono HB4.out.size))
    clear hb
    go_wp2_with fail
    refine (HT.out _).mono ?_
    rintro e w6 ⟨rfl, rfl⟩
    go_wp2_with fail
    refine (signs_any _).mono ?_
    rintro e w7 ⟨rfl, hb⟩
    have HB7 := Lib.hid (HB5.out.trans (hb.mono HB5.out.size))
    clear hb
    go_wp2_with fail
    go_ret
    exact ⟨rfl, HB7.out⟩
end Go.Proofs.Ytnjmapgmodoodaa
