/-
  The law TokenShift.
-/
import Derived.Test.YtnjmapgmodoodaaTkEx
namespace Go.Proofs.Ytnjmapgmodoodaa
open Go.RowKit
set_option maxRecDepth 100000

theorem append_list (a s : ByteArray) : (a ++ s).data.toList = a.data.toList ++ s.data.toList := by
  rw [ByteArray.data_append, Array.toList_append]

set_option maxHeartbeats 4000000 in
theorem tshift_walk (a s : ByteArray) (m : Nat) (w : World) (ha : a.size ≤ maxLen) (hs : s.size ≤ maxLen) (hm : m ≤ 65535) :
    Calls Try.prog 5 #[.string a, .string s, .int .u16 (m : Int)] w (Yes w) := by
  unfold maxLen at hs ha
  by_cases hbig : (1000 : Int) < (a.size : Int)
  · go_enter Try.func5, Try.ntmps5
    go_wp2_with fail
    refine (signs_any _).mono ?_
    rintro e w1 ⟨rfl, hb⟩
    have Hb := Lib.hid hb
    clear hb
    go_wp2_with fail
    go_ret
    exact ⟨rfl, Hb.out⟩
  · by_cases hbig2 : (1000 : Int) < (s.size : Int)
    · go_enter Try.func5, Try.ntmps5
      go_wp2_with fail
      refine (signs_any _).mono ?_
      rintro e w1 ⟨rfl, hb⟩
      have Hb := Lib.hid hb
      clear hb
      go_wp2_with fail
      go_ret
      exact ⟨rfl, Hb.out⟩
    · have ha2 : a.size ≤ 1000 := by omega
      have hs2 : s.size ≤ 1000 := by omega
      have hk1 : (m : Int).tmod ((s.size : Int) + 1) = ((m % (s.size + 1) : Nat) : Int) := by rw [Int.tmod_eq_emod_of_nonneg (by omega)]; simp
      obtain ⟨k, hk⟩ : ∃ k, m % (s.size + 1) = k := ⟨_, rfl⟩
      have hks : k ≤ s.size := by have := Nat.mod_lt m (show 0 < s.size + 1 by omega); omega
      rw [hk] at hk1
      have hw : wrap64 (m : Int) = (m : Int) := by unfold wrap64; omega
      obtain ⟨x, hx⟩ : ∃ x, nextN s.data.toList k = x := ⟨_, rfl⟩
      have hg := next_good s.data.toList k (by rw [← size_data]; exact hks)
      rw [hx, ← size_data] at hg
      obtain ⟨t, ht⟩ : ∃ t, a ++ s = t := ⟨_, rfl⟩
      have hts : t.size = a.size + s.size := by rw [← ht]; simp
      have HN : Hid (∀ W, Calls Try.prog 8 #[.string s, .int .i64 (k : Int)] W fun e w' => e = .returned (.tuple #[.agg (tokC x.kind x.num (bytes x.str) (x.beg : Int) (x.fin : Int)), .int .i64 x.code]) ∧ Below W.heap.size W w') :=
        Lib.hid fun W => next_is s k W (by omega) hks hx
      have hty : nextN t.data.toList (a.size + k) = x.off a.size := by
        rw [← ht, append_list, show a.size = a.data.toList.length by rw [← size_data], next_behind, hx]
      by_cases hc : x.code = 0
      · have hoff : x.off a.size = ⟨x.kind, x.num, x.str, x.beg + a.size, x.fin + a.size, 0⟩ := if_pos hc
        have HM : Hid (∀ W, Calls Try.prog 8 #[.string t, .int .i64 ((a.size : Int) + (k : Int))] W fun e w' => e = .returned (.tuple #[.agg (tokC x.kind x.num (bytes x.str) ((x.beg : Int) + (a.size : Int)) ((x.fin : Int) + (a.size : Int))), .int .i64 0]) ∧ Below W.heap.size W w') :=
          Lib.hid fun W => by
            have h := next_is t (a.size + k) W (by omega) (by omega) (hty.trans hoff)
            simp only [Int.natCast_add] at h
            exact h
        obtain ⟨hg1, hg2, hgk⟩ := hg.2 hc
        have hg3 := hgk.1
        have hg4 := hgk.2
        clear hgk
        have hfin := hg.1.2.1
        have hkf : decide (x.beg < x.fin) = (x.kind != 0) := by
          by_cases h0 : x.kind = 0
          · have := hg3 h0
            rw [h0, decide_eq_false (by omega)]; rfl
          · have : ¬ x.fin = x.beg := fun e => h0 (hg4 e)
            rw [decide_eq_true (by omega)]; exact (bne_iff_ne.2 h0).symm
        have hle : (x.fin : Int) + (a.size : Int) ≤ (a.size : Int) + (s.size : Int) := by omega
        have Hts := Lib.hid hts
        have Ht := Lib.hid ht
        clear hx hty hoff hg hts hk ht hg3 hg4 ha hs
        go_enter Try.func5, Try.ntmps5
        go_wp2_with fail
        refine (HN.out _).mono ?_
        rintro e w1 ⟨rfl, hb⟩
        have HB1 := Lib.hid (hb.alloc hb.size (.cells (tokC 0 0 ⟨#[]⟩ 0 0) 24))
        have hsz1 := hb.size
        clear hb
        have ht := Ht.out
        go_wp2_with (refine TokCell.store rfl rfl _ _ rfl w1.heap.size (tokC 0 0 ⟨#[]⟩ 0 0) _ _ _ _ _ rfl rfl (TokCell.new w1 _) rfl w.heap.size w HB1.out hsz1 ?_; intro w2 HT2 HB2 HO2; clear HO2)
        refine (HM.out _).mono ?_
        rintro e w3 ⟨rfl, hb⟩
        have HT3 := Lib.hid (HT2.out.later hb HT2.out.lt)
        have hsz3 := (HB2.out.trans (hb.mono HB2.out.size)).size
        have HB3 := Lib.hid ((HB2.out.trans (hb.mono HB2.out.size)).alloc hsz3 (.cells (tokC 0 0 ⟨#[]⟩ 0 0) 24))
        clear hb
        go_wp2_with (refine TokCell.store rfl rfl _ _ rfl w3.heap.size (tokC 0 0 ⟨#[]⟩ 0 0) _ _ _ _ _ rfl rfl (TokCell.new w3 _) rfl w.heap.size w HB3.out hsz3 ?_; intro w4 HT4 HB4 HO4; have HU4 := Lib.hid (show TokCell w4 _ _ from (HO4.out _ (Nat.ne_of_lt HT3.out.lt)).trans ((heap_alloc_old w3 _ _ HT3.out.lt).trans HT3.out)); clear HO4; obtain ⟨k0, k1, k2, k3, k4⟩ := HT4.out.parts; obtain ⟨j0, j1, j2, j3, j4⟩ := HU4.out.parts; have n1 : ¬ w3.heap.size = w1.heap.size := Nat.ne_of_gt HT3.out.lt; have n2 : ¬ w1.heap.size = w3.heap.size := fun e => n1 e.symm; have f3 := HU4.out.free 3; have f4 := HU4.out.free 4)
        refine (signs_any _).mono ?_
        rintro e w5 ⟨rfl, hb⟩
        have HB5 := Lib.hid (((HB4.out.setCell (p := ⟨w1.heap.size, 3, none⟩) hsz1 _).setCell (p := ⟨w1.heap.size, 4, none⟩) hsz1 _).trans (hb.mono (by have := HB4.out.size; simp [World.setCell]; omega)))
        clear hb
        go_wp2_with fail
        go_ret
        exact ⟨rfl, HB5.out⟩
      · have hoff : x.off a.size = Sg.err x.code := if_neg hc
        have he : x = Sg.err x.code := hg.1.1 hc
        obtain ⟨c, hcc⟩ : ∃ c, x.code = c := ⟨_, rfl⟩
        rw [hcc] at hoff he hc
        have HM : Hid (∀ W, Calls Try.prog 8 #[.string t, .int .i64 ((a.size : Int) + (k : Int))] W fun e w' => e = .returned (.tuple #[.agg #[.int .i64 0, .int .i64 0, .string ⟨#[]⟩, .int .i64 0, .int .i64 0], .int .i64 c]) ∧ Below W.heap.size W w') :=
          Lib.hid fun W => by
            have h := next_is t (a.size + k) W (by omega) (by omega) (hty.trans hoff)
            simp only [Int.natCast_add] at h
            exact h
        have HN : Hid (∀ W, Calls Try.prog 8 #[.string s, .int .i64 (k : Int)] W fun e w' => e = .returned (.tuple #[.agg #[.int .i64 0, .int .i64 0, .string ⟨#[]⟩, .int .i64 0, .int .i64 0], .int .i64 c]) ∧ Below W.heap.size W w') :=
          Lib.hid fun W => by
            have h := next_is s k W (by omega) hks (hx.trans he)
            exact h
        have hcb : (c != 0) = true := by simpa using hc
        have Ht := Lib.hid ht
        clear hx hty hoff hg hts hk ht ha hs he hcc hc
        go_enter Try.func5, Try.ntmps5
        go_wp2_with fail
        refine (HN.out _).mono ?_
        rintro e w1 ⟨rfl, hb⟩
        have HB1 := Lib.hid (hb.alloc hb.size (.cells (tokC 0 0 ⟨#[]⟩ 0 0) 24))
        have hsz1 := hb.size
        clear hb
        have ht := Ht.out
        go_wp2_with (refine TokCell.store rfl rfl _ _ rfl w1.heap.size (tokC 0 0 ⟨#[]⟩ 0 0) 0 0 ⟨#[]⟩ 0 0 rfl rfl (TokCell.new w1 _) rfl w.heap.size w HB1.out hsz1 ?_; intro w2 HT2 HB2 HO2; clear HO2)
        refine (HM.out _).mono ?_
        rintro e w3 ⟨rfl, hb⟩
        have HT3 := Lib.hid (HT2.out.later hb HT2.out.lt)
        have hsz3 := (HB2.out.trans (hb.mono HB2.out.size)).size
        have HB3 := Lib.hid ((HB2.out.trans (hb.mono HB2.out.size)).alloc hsz3 (.cells (tokC 0 0 ⟨#[]⟩ 0 0) 24))
        clear hb
        go_wp2_with (refine TokCell.store rfl rfl _ _ rfl w3.heap.size (tokC 0 0 ⟨#[]⟩ 0 0) 0 0 ⟨#[]⟩ 0 0 rfl rfl (TokCell.new w3 _) rfl w.heap.size w HB3.out hsz3 ?_; intro w4 HT4 HB4 HO4; have HU4 := Lib.hid (show TokCell w4 _ _ from (HO4.out _ (Nat.ne_of_lt HT3.out.lt)).trans ((heap_alloc_old w3 _ _ HT3.out.lt).trans HT3.out)); clear HO4; obtain ⟨k0, k1, k2, k3, k4⟩ := HT4.out.parts; obtain ⟨j0, j1, j2, j3, j4⟩ := HU4.out.parts)
        refine (signs_any _).mono ?_
        rintro e w5 ⟨rfl, hb⟩
        have HB5 := Lib.hid (HB4.out.trans (hb.mono HB4.out.size))
        clear hb
        go_wp2_with fail
        go_ret
        exact ⟨rfl, HB5.out⟩
end Go.Proofs.Ytnjmapgmodoodaa
