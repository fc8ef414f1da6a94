/-
  token.word: a number or a word.
-/
import Derived.Test.YtnjmapgmodoodaaTkSkip
import Derived.Test.YtnjmapgmodoodaaTkLoose
import Derived.Test.YtnjmapgmodoodaaTkTok
import Derived.Shelf.Strconv.Clone
namespace Go.Proofs.Ytnjmapgmodoodaa
open Go.RowKit
set_option maxRecDepth 100000

theorem slClone_is (s : ByteArray) (w : World) (h : s.size ≤ 281474976710656) :
    Calls Try.prog 56 #[.string s] w fun e w' => e = .returned (.string s) ∧ Below w.heap.size w w' := Any.stringslite_Clone Try.laysM316 s w h
theorem clone_is (s : ByteArray) (w : World) (h : s.size ≤ 281474976710656) :
    Calls Try.prog 48 #[.string s] w fun e w' => e = .returned (.string s) ∧ Below w.heap.size w w' := by
  go_enter Try.func48, Try.ntmps48
  go_wp2_with fail
  refine (slClone_is s _ h).mono ?_
  rintro e w1 ⟨rfl, hb⟩
  have Hb := Lib.hid hb
  clear hb
  go_wp2_with fail
  go_ret
  exact ⟨rfl, Hb.out⟩
theorem loose_at (s : ByteArray) (w : World) {a b : Int} (h : looseL s.data.toList = (a, b)) :
    Calls Try.prog 47 #[.string s] w fun e w' => e = .returned (.tuple #[.int .i64 a, .int .i64 b]) ∧ Below w.heap.size w w' := by
  have := loose_any s w
  rw [h] at this; exact this

set_option maxHeartbeats 2000000 in
theorem word_any (u : ByteArray) (w : World) (hs : u.size ≤ 100000000) :
    Calls Try.prog 30 #[.string u] w fun e w' => e = .returned (wordL u.data.toList).told ∧ Below w.heap.size w w' := by
  obtain ⟨n, hn⟩ : ∃ n, spanN u.data.toList [2] 0 = n := ⟨_, rfl⟩
  have hnl := spanN_le u.data.toList [2] 0
  rw [hn, Nat.sub_zero, ← size_data] at hnl
  have HS : Hid (Calls Try.prog 23 #[.string u, .int .i64 0, .slice (some ⟨w.heap.size + 1, 0, none⟩) 1 1] ((w.alloc (.cells #[.int .i64 0, .int .i64 0, .string ⟨#[]⟩, .int .i64 0, .int .i64 0] 24)).alloc (.cells #[.int .i64 2] 3)) fun e w' => e = .returned (.int .i64 (n : Int)) ∧ (w.alloc (.cells #[.int .i64 0, .int .i64 0, .string ⟨#[]⟩, .int .i64 0, .int .i64 0] 24)).alloc (.cells #[.int .i64 2] 3) = w') := Lib.hid (by
    have h := span_one u 0 2 (w.alloc (.cells #[.int .i64 0, .int .i64 0, .string ⟨#[]⟩, .int .i64 0, .int .i64 0] 24)) (by unfold maxLen; omega) hn
    rw [World.size_alloc] at h
    exact h)
  obtain ⟨x, hx⟩ : ∃ x, u.extract 0 n = x := ⟨_, rfl⟩
  have hxd : x.data.toList = u.data.toList.take n := by rw [← hx, Lib.extract_data, List.drop_zero, Nat.sub_zero]
  have hxs : x.size = n := by rw [← hx, ByteArray.size_extract]; omega
  obtain ⟨a, b, hab⟩ : ∃ a b, looseL x.data.toList = (a, b) := ⟨_, _, rfl⟩
  have hcode := (looseL_code x.data.toList).1
  rw [hab] at hcode
  have HL := Lib.hid (fun W => loose_at x W hab)
  have hr : wordL u.data.toList = if b = 0 then ⟨1, a, [], 0, n, 0⟩ else if b = 3 then Sg.err 3 else if 127 < n then Sg.err 8 else ⟨8, 0, x.data.toList, 0, n, 0⟩ := by
    unfold wordL wordOf
    rw [hn, ← hxd, hab, ← size_data, hxs]
  obtain ⟨r, hr'⟩ : ∃ r, wordL u.data.toList = r := ⟨_, rfl⟩
  rw [hr'] at hr ⊢
  have HC := Lib.hid (fun W => clone_is x W (by omega))
  have hbx : bytes x.data.toList = x := bytes_of x
  have hnl' : (n : Int) ≤ (u.size : Int) := by omega
  have Hxs := Lib.hid hxs
  clear hr' hab hn hxd hxs
  by_cases h0 : b = 0
  · rw [if_pos h0] at hr
    subst hr h0
    go_enter Try.func30, Try.ntmps30
    go_wp2_with fail
    refine HS.out.mono ?_
    rintro e w1 ⟨rfl, rfl⟩
    go_wp2_with fail
    refine (HL.out _).mono ?_
    rintro e w1 ⟨rfl, hb⟩
    have HT0 : Hid (TokCell w1 w.heap.size (tokC 0 0 ⟨#[]⟩ 0 0)) := Lib.hid (((TokCell.new w _).later (B := w.heap.size + 1) ((Below.refl _ _).alloc (by simp) _) (Nat.lt_succ_self _)).later hb (by simp; omega))
    have HW : Hid (Below w.heap.size w w1) := Lib.hid ((((Below.refl _ w).alloc (Nat.le_refl _) _).alloc (by simp) _).trans (hb.mono (by simp; omega)))
    clear hb
    go_wp2_with (refine TokCell.store rfl rfl _ _ rfl w.heap.size (tokC 0 0 ⟨#[]⟩ 0 0) _ _ _ _ _ rfl rfl (HT0.out) rfl w.heap.size w HW.out (Nat.le_refl _) ?_; intro w2 HT HB HO; clear HO)
    obtain ⟨k0, k1, k2, k3, k4⟩ := HT.out.parts
    exact bodyPost_ret (v := .tuple #[.agg #[.int .i64 1, .int .i64 a, .string ⟨#[]⟩, .int .i64 0, .int .i64 n], .int .i64 0]) (by simp [results, Try.results30, go_sem, k0, k1, k2, k3, k4]) rfl ⟨rfl, HB.out⟩
  · rw [if_neg h0] at hr
    have h0' : (b == 0) = false := by simpa using h0
    by_cases h3 : b = 3
    · rw [if_pos h3] at hr
      subst hr h3
      go_enter Try.func30, Try.ntmps30
      go_wp2_with fail
      refine HS.out.mono ?_
      rintro e w1 ⟨rfl, rfl⟩
      go_wp2_with fail
      refine (HL.out _).mono ?_
      rintro e w1 ⟨rfl, hb⟩
      have HT0 : Hid (TokCell w1 w.heap.size (tokC 0 0 ⟨#[]⟩ 0 0)) := Lib.hid (((TokCell.new w _).later (B := w.heap.size + 1) ((Below.refl _ _).alloc (by simp) _) (Nat.lt_succ_self _)).later hb (by simp; omega))
      have HW : Hid (Below w.heap.size w w1) := Lib.hid ((((Below.refl _ w).alloc (Nat.le_refl _) _).alloc (by simp) _).trans (hb.mono (by simp; omega)))
      clear hb
      go_wp2_with (refine TokCell.store rfl rfl _ _ rfl w.heap.size (tokC 0 0 ⟨#[]⟩ 0 0) _ _ _ _ _ rfl rfl (HT0.out) rfl w.heap.size w HW.out (Nat.le_refl _) ?_; intro w2 HT HB HO; clear HO)
      obtain ⟨k0, k1, k2, k3, k4⟩ := HT.out.parts
      exact bodyPost_ret (v := .tuple #[.agg #[.int .i64 0, .int .i64 0, .string ⟨#[]⟩, .int .i64 0, .int .i64 0], .int .i64 3]) (by simp [results, Try.results30, go_sem, k0, k1, k2, k3, k4]) rfl ⟨rfl, HB.out⟩
    · rw [if_neg h3] at hr
      have h3' : (b == 3) = false := by simpa using h3
      by_cases hl : 127 < n
      · rw [if_pos hl] at hr
        subst hr
        have hl' : (127 : Int) < (n : Int) := by omega
        clear h0 h3 hcode
        go_enter Try.func30, Try.ntmps30
        go_wp2_with fail
        refine HS.out.mono ?_
        rintro e w1 ⟨rfl, rfl⟩
        go_wp2_with fail
        refine (HL.out _).mono ?_
        rintro e w1 ⟨rfl, hb⟩
        have HT0 : Hid (TokCell w1 w.heap.size (tokC 0 0 ⟨#[]⟩ 0 0)) := Lib.hid (((TokCell.new w _).later (B := w.heap.size + 1) ((Below.refl _ _).alloc (by simp) _) (Nat.lt_succ_self _)).later hb (by simp; omega))
        have HW : Hid (Below w.heap.size w w1) := Lib.hid ((((Below.refl _ w).alloc (Nat.le_refl _) _).alloc (by simp) _).trans (hb.mono (by simp; omega)))
        clear hb
        go_wp2_with (refine TokCell.store rfl rfl _ _ rfl w.heap.size (tokC 0 0 ⟨#[]⟩ 0 0) _ _ _ _ _ rfl rfl (HT0.out) rfl w.heap.size w HW.out (Nat.le_refl _) ?_; intro w2 HT HB HO; clear HO)
        obtain ⟨k0, k1, k2, k3, k4⟩ := HT.out.parts
        exact bodyPost_ret (v := .tuple #[.agg #[.int .i64 0, .int .i64 0, .string ⟨#[]⟩, .int .i64 0, .int .i64 0], .int .i64 8]) (by simp [results, Try.results30, go_sem, k0, k1, k2, k3, k4]) rfl ⟨rfl, HB.out⟩
      · rw [if_neg hl] at hr
        subst hr
        have hl' : ¬ (127 : Int) < (n : Int) := by omega
        clear h0 h3 hcode
        go_enter Try.func30, Try.ntmps30
        go_wp2_with fail
        refine HS.out.mono ?_
        rintro e w1 ⟨rfl, rfl⟩
        go_wp2_with fail
        refine (HL.out _).mono ?_
        rintro e w1 ⟨rfl, hb⟩
        have HT0 : Hid (TokCell w1 w.heap.size (tokC 0 0 ⟨#[]⟩ 0 0)) := Lib.hid (((TokCell.new w _).later (B := w.heap.size + 1) ((Below.refl _ _).alloc (by simp) _) (Nat.lt_succ_self _)).later hb (by simp; omega))
        have HW : Hid (Below w.heap.size w w1) := Lib.hid ((((Below.refl _ w).alloc (Nat.le_refl _) _).alloc (by simp) _).trans (hb.mono (by simp; omega)))
        clear hb
        go_wp2_with fail
        refine (HC.out _).mono ?_
        rintro e w3 ⟨rfl, hb⟩
        have HT3 := Lib.hid (HT0.out.later hb HT0.out.lt)
        have HW3 := Lib.hid (HW.out.trans (hb.mono HW.out.size))
        clear hb
        go_wp2_with (refine TokCell.store rfl rfl _ _ rfl w.heap.size (tokC 0 0 ⟨#[]⟩ 0 0) _ _ _ _ _ rfl rfl (HT3.out) rfl w.heap.size w HW3.out (Nat.le_refl _) ?_; intro w2 HT HB HO; clear HO)
        obtain ⟨k0, k1, k2, k3, k4⟩ := HT.out.parts
        exact bodyPost_ret (v := .tuple #[.agg #[.int .i64 8, .int .i64 0, .string x, .int .i64 0, .int .i64 n], .int .i64 0]) (by simp [results, Try.results30, go_sem, k0, k1, k2, k3, k4]) rfl ⟨by show _ = Ending.returned (Value.tuple #[.agg (tokC 8 0 (bytes x.data.toList) 0 n), .int .i64 0]); rw [hbx]; rfl, HB.out⟩
end Go.Proofs.Ytnjmapgmodoodaa
