/-
  TkLoose, TkWord: texts merged.
-/
import Derived.Test.YtejgcnmbngdkiaaGreatDoorShelf
import Derived.Test.YtejgcnmbngdkiaaGreatDoorRows
import Derived.Test.YtejgcnmbngdkiaaGreatDoorNDig
import Derived.Test.YtejgcnmbngdkiaaGreatDoorNSkip
import Derived.Test.YtejgcnmbngdkiaaGreatDoorNTok
import Derived.Shelf.Strconv.Clone
/-
  The contract of digits.Loose, where no more of digits is reached (strings.CutPrefix and TrimPrefix by the shelf).
-/
namespace Go.Proofs.YtejgcnmbngdkiaaGreatDoor
section
open Go.RowKit

theorem cut_yes (s : ByteArray) (w : World) {c : UInt8} {t : List UInt8} (hl : s.data.toList = c :: t) (hc : (c.toNat : Int) = 45) :
    Calls Tryz.prog 95 #[.string s, .string ⟨#[45]⟩] w fun e w' => e = .returned (.tuple #[.string (bytes t), .bool true]) ∧ w' = w := by
  have h : Calls Tryz.prog 95 #[.string s, .string ⟨#[45]⟩] w fun e w' => e = .returned (.tuple #[.string ⟨(Lib.trimPrefix s.data.toList [45]).toArray⟩, .bool (Lib.hasPrefix s.data.toList [45])]) ∧ w' = w := Any.strings_CutPrefix Tryz.lays103 s ⟨#[45]⟩ w
  have hc' : c = 45 := (byte_eq (n := 45) (by omega)).1 hc
  have e1 : Lib.hasPrefix s.data.toList [45] = true := by rw [hl, hc']; rfl
  have e2 : Lib.trimPrefix s.data.toList [45] = t := by unfold Lib.trimPrefix; rw [if_pos e1, hl]; rfl
  refine h.mono fun e w' ⟨he, hw⟩ => ⟨?_, hw⟩
  rw [he, e1, e2]; rfl
theorem not_prefix {l : List UInt8} {b : UInt8} (h : l = [] ∨ ∃ c t, l = c :: t ∧ ¬ c = b) : Lib.hasPrefix l [b] = false := by
  rcases h with rfl | ⟨c, t, rfl, hc⟩
  · rfl
  · have hc' : ¬ b = c := fun e => hc e.symm
    show (b == c && List.isPrefixOf [] t) = false
    simp [hc']
theorem cut_no (s : ByteArray) (w : World) (hl : s.data.toList = [] ∨ ∃ c t, s.data.toList = c :: t ∧ ¬ c = 45) :
    Calls Tryz.prog 95 #[.string s, .string ⟨#[45]⟩] w fun e w' => e = .returned (.tuple #[.string s, .bool false]) ∧ w' = w := by
  have h : Calls Tryz.prog 95 #[.string s, .string ⟨#[45]⟩] w fun e w' => e = .returned (.tuple #[.string ⟨(Lib.trimPrefix s.data.toList [45]).toArray⟩, .bool (Lib.hasPrefix s.data.toList [45])]) ∧ w' = w := Any.strings_CutPrefix Tryz.lays103 s ⟨#[45]⟩ w
  have e1 := not_prefix hl
  have e2 : Lib.trimPrefix s.data.toList [45] = s.data.toList := by unfold Lib.trimPrefix; rw [if_neg (by rw [e1]; decide)]
  refine h.mono fun e w' ⟨he, hw⟩ => ⟨?_, hw⟩
  rw [he, e1, e2]
theorem trim_yes (s : ByteArray) (w : World) {c : UInt8} {t : List UInt8} (hl : s.data.toList = c :: t) (hc : (c.toNat : Int) = 43) :
    Calls Tryz.prog 97 #[.string s, .string ⟨#[43]⟩] w fun e w' => e = .returned (.string (bytes t)) ∧ w' = w := by
  have h : Calls Tryz.prog 97 #[.string s, .string ⟨#[43]⟩] w fun e w' => e = .returned (.string ⟨(Lib.trimPrefix s.data.toList [43]).toArray⟩) ∧ w' = w := Any.strings_TrimPrefix Tryz.lays101 s ⟨#[43]⟩ w
  have hc' : c = 43 := (byte_eq (n := 43) (by omega)).1 hc
  have e1 : Lib.hasPrefix s.data.toList [43] = true := by rw [hl, hc']; rfl
  have e2 : Lib.trimPrefix s.data.toList [43] = t := by unfold Lib.trimPrefix; rw [if_pos e1, hl]; rfl
  refine h.mono fun e w' ⟨he, hw⟩ => ⟨?_, hw⟩
  rw [he, e2]; rfl
theorem trim_no (s : ByteArray) (w : World) (hl : s.data.toList = [] ∨ ∃ c t, s.data.toList = c :: t ∧ ¬ c = 43) :
    Calls Tryz.prog 97 #[.string s, .string ⟨#[43]⟩] w fun e w' => e = .returned (.string s) ∧ w' = w := by
  have h : Calls Tryz.prog 97 #[.string s, .string ⟨#[43]⟩] w fun e w' => e = .returned (.string ⟨(Lib.trimPrefix s.data.toList [43]).toArray⟩) ∧ w' = w := Any.strings_TrimPrefix Tryz.lays101 s ⟨#[43]⟩ w
  have e1 := not_prefix hl
  have e2 : Lib.trimPrefix s.data.toList [43] = s.data.toList := by unfold Lib.trimPrefix; rw [if_neg (by rw [e1]; decide)]
  refine h.mono fun e w' ⟨he, hw⟩ => ⟨?_, hw⟩
  rw [he, e2]

theorem fixed_is (s : ByteArray) (w : World) {a b : Int} (h : fixL s.data.toList = (a, b)) :
    Calls Tryz.prog 96 #[.string s] w fun e w' => e = .returned (.tuple #[.int .i64 a, .int .i64 b]) ∧ Below w.heap.size w w' := by
  have := fixed_any s w
  rw [h] at this; exact this

set_option maxRecDepth 100000 in
set_option maxHeartbeats 1000000 in
theorem loose_any (s : ByteArray) (w : World) :
    Calls Tryz.prog 81 #[.string s] w fun e w' => e = IntAnd (looseL s.data.toList) ∧ Below w.heap.size w w' := by
  by_cases hm : ∃ c t, s.data.toList = c :: t ∧ (c.toNat : Int) = 45
  · obtain ⟨c, t, hl, h45⟩ := hm
    obtain ⟨u, hu⟩ : ∃ u, bytes t = u := ⟨_, rfl⟩
    have hud : u.data.toList = t := by rw [← hu]; exact bytes_data _
    have hb := fixL_bound t
    obtain ⟨a, b, hf⟩ : ∃ a b, fixL t = (a, b) := ⟨_, _, rfl⟩
    rw [hf] at hb
    obtain ⟨hb0, hb1⟩ := hb
    have Hf : Hid (fixL u.data.toList = (a, b)) := Lib.hid (by rw [hud]; exact hf)
    have Hr : Hid (looseL s.data.toList = (-a, b)) := Lib.hid (by rw [hl]; show (if (c.toNat : Int) = 45 then _ else _) = _; rw [if_pos h45, hf])
    have Hc := Lib.hid (fun W => cut_yes s W hl h45)
    rw [hu] at Hc
    clear hl h45 hud hf hu
    go_enter Tryz.func81, Tryz.ntmps81
    go_wp2_with fail
    refine (Hc.out _).mono ?_
    rintro e w1 ⟨rfl, rfl⟩
    go_wp2_with fail
    refine (fixed_is u _ Hf.out).mono ?_
    rintro e w1 ⟨rfl, hb⟩
    have Hb := Lib.hid hb
    clear hb
    go_wp2_with fail
    go_ret2
    exact ⟨intAnd_mk (by rw [Hr.out]), Hb.out⟩
  · have hno : s.data.toList = [] ∨ ∃ c t, s.data.toList = c :: t ∧ ¬ (c.toNat : Int) = 45 := by
      cases hl : s.data.toList with
      | nil => exact .inl rfl
      | cons c t => exact .inr ⟨c, t, rfl, fun h => hm ⟨c, t, hl, h⟩⟩
    clear hm
    have hcut : s.data.toList = [] ∨ ∃ c t, s.data.toList = c :: t ∧ ¬ c = 45 := by
      rcases hno with h | ⟨c, t, h, h'⟩
      · exact .inl h
      · exact .inr ⟨c, t, h, fun e => h' (by rw [e]; rfl)⟩
    have Hc := Lib.hid (fun W => cut_no s W hcut)
    clear hcut
    by_cases hp : ∃ c t, s.data.toList = c :: t ∧ (c.toNat : Int) = 43
    · obtain ⟨c, t, hl, h43⟩ := hp
      obtain ⟨u, hu⟩ : ∃ u, bytes t = u := ⟨_, rfl⟩
      have hud : u.data.toList = t := by rw [← hu]; exact bytes_data _
      obtain ⟨a, b, hf⟩ : ∃ a b, fixL t = (a, b) := ⟨_, _, rfl⟩
      have Hf : Hid (fixL u.data.toList = (a, b)) := Lib.hid (by rw [hud]; exact hf)
      have Hr : Hid (looseL s.data.toList = (a, b)) := Lib.hid (by rw [hl]; show (if (c.toNat : Int) = 45 then _ else _) = _; rw [if_neg (by omega), if_pos h43, hf])
      have Ht := Lib.hid (fun W => trim_yes s W hl h43)
      rw [hu] at Ht
      clear hl h43 hud hf hu hno
      go_enter Tryz.func81, Tryz.ntmps81
      go_wp2_with fail
      refine (Hc.out _).mono ?_
      rintro e w1 ⟨rfl, rfl⟩
      go_wp2_with fail
      refine (Ht.out _).mono ?_
      rintro e w1 ⟨rfl, rfl⟩
      go_wp2_with fail
      refine (fixed_is u _ Hf.out).mono ?_
      rintro e w1 ⟨rfl, hb⟩
      have Hb := Lib.hid hb
      clear hb
      go_wp2_with fail
      go_ret2
      exact ⟨intAnd_mk (by rw [Hr.out]), Hb.out⟩
    · have hr : looseL s.data.toList = fixL s.data.toList := by
        rcases hno with h | ⟨c, t, h, h'⟩
        · rw [h]; rfl
        · rw [h]; show (if (c.toNat : Int) = 45 then _ else _) = _
          rw [if_neg h', if_neg (fun e => hp ⟨c, t, h, e⟩)]
      have htrim : s.data.toList = [] ∨ ∃ c t, s.data.toList = c :: t ∧ ¬ c = 43 := by
        rcases hno with h | ⟨c, t, h, _⟩
        · exact .inl h
        · exact .inr ⟨c, t, h, fun e => hp ⟨c, t, h, by rw [e]; rfl⟩⟩
      obtain ⟨a, b, hf⟩ : ∃ a b, fixL s.data.toList = (a, b) := ⟨_, _, rfl⟩
      have Hr : Hid (looseL s.data.toList = (a, b)) := Lib.hid (hr.trans hf)
      have Hf := Lib.hid hf
      have Ht := Lib.hid (fun W => trim_no s W htrim)
      clear hr htrim hf hno hp
      go_enter Tryz.func81, Tryz.ntmps81
      go_wp2_with fail
      refine (Hc.out _).mono ?_
      rintro e w1 ⟨rfl, rfl⟩
      go_wp2_with fail
      refine (Ht.out _).mono ?_
      rintro e w1 ⟨rfl, rfl⟩
      go_wp2_with fail
      refine (fixed_is s _ Hf.out).mono ?_
      rintro e w1 ⟨rfl, hb⟩
      have Hb := Lib.hid hb
      clear hb
      go_wp2_with fail
      go_ret2
      exact ⟨intAnd_mk (by rw [Hr.out]), Hb.out⟩

end
end Go.Proofs.YtejgcnmbngdkiaaGreatDoor
/-
  token.word: a number or a word.
-/
namespace Go.Proofs.YtejgcnmbngdkiaaGreatDoor
section
open Go.RowKit
set_option maxRecDepth 100000

theorem tclone_is (s : ByteArray) (w : World) (h : s.size ≤ 281474976710656) :
    Calls Tryz.prog 35 #[.string s] w fun e w' => e = .returned (.string s) ∧ Below w.heap.size w w' := Any.stringslite_Clone Tryz.laysM316 s w h
theorem clone_is (s : ByteArray) (w : World) (h : s.size ≤ 281474976710656) :
    Calls Tryz.prog 21 #[.string s] w fun e w' => e = .returned (.string s) ∧ Below w.heap.size w w' := by
  go_enter Tryz.func21, Tryz.ntmps21
  go_wp2_with fail
  refine (tclone_is s _ h).mono ?_
  rintro e w1 ⟨rfl, hb⟩
  have Hb := Lib.hid hb
  clear hb
  go_wp2_with fail
  go_ret
  exact ⟨rfl, Hb.out⟩
theorem loose_at (s : ByteArray) (w : World) {a b : Int} (h : looseL s.data.toList = (a, b)) :
    Calls Tryz.prog 81 #[.string s] w fun e w' => e = .returned (.tuple #[.int .i64 a, .int .i64 b]) ∧ Below w.heap.size w w' := by
  have := loose_any s w
  rw [h] at this; exact this

set_option maxHeartbeats 2000000 in
theorem word_any (u : ByteArray) (w : World) (hs : u.size ≤ 100000000) :
    Calls Tryz.prog 58 #[.string u] w fun e w' => e = .returned (wordL u.data.toList).told ∧ Below w.heap.size w w' := by
  obtain ⟨n, hn⟩ : ∃ n, spanN u.data.toList [2] 0 = n := ⟨_, rfl⟩
  have hnl := spanN_le u.data.toList [2] 0
  rw [hn, Nat.sub_zero, ← size_data] at hnl
  have HS : Hid (Calls Tryz.prog 52 #[.string u, .int .i64 0, .slice (some ⟨w.heap.size + 1, 0, none⟩) 1 1] ((w.alloc (.cells #[.int .i64 0, .int .i64 0, .string ⟨#[]⟩, .int .i64 0, .int .i64 0] 52)).alloc (.cells #[.int .i64 2] 3)) fun e w' => e = .returned (.int .i64 (n : Int)) ∧ (w.alloc (.cells #[.int .i64 0, .int .i64 0, .string ⟨#[]⟩, .int .i64 0, .int .i64 0] 52)).alloc (.cells #[.int .i64 2] 3) = w') := Lib.hid (by
    have h := span_one u 0 2 (w.alloc (.cells #[.int .i64 0, .int .i64 0, .string ⟨#[]⟩, .int .i64 0, .int .i64 0] 52)) (by unfold maxLen; omega) hn
    rw [World.size_alloc] at h
    exact h)
  obtain ⟨x, hx⟩ : ∃ x, u.extract 0 n = x := ⟨_, rfl⟩
  have hxd : x.data.toList = u.data.toList.take n := by rw [← hx, Lib.extract_data, List.drop_zero, Nat.sub_zero]
  have hxs : x.size = n := by rw [← hx, ByteArray.size_extract]; omega
  obtain ⟨a, b, hab⟩ : ∃ a b, looseL x.data.toList = (a, b) := ⟨_, _, rfl⟩
  have hcode := (looseL_code x.data.toList).1
  rw [hab] at hcode
  have HL := Lib.hid (fun W => loose_at x W hab)
  have hr : wordL u.data.toList = if b = 0 then ⟨1, a, [], 0, n, 0⟩ else if b = 3 then Sg.err 3 else if 127 < n then Sg.err 8 else ⟨8, 0, x.data.toList, 0, n, 0⟩ := by
    unfold wordL wordOf
    rw [hn, ← hxd, hab, ← size_data, hxs]
  obtain ⟨r, hr'⟩ : ∃ r, wordL u.data.toList = r := ⟨_, rfl⟩
  rw [hr'] at hr ⊢
  have HC := Lib.hid (fun W => clone_is x W (by omega))
  have hbx : bytes x.data.toList = x := bytes_of x
  have hnl' : (n : Int) ≤ (u.size : Int) := by omega
  have Hxs := Lib.hid hxs
  clear hr' hab hn hxd hxs
  by_cases h0 : b = 0
  · rw [if_pos h0] at hr
    subst hr h0
    go_enter Tryz.func58, Tryz.ntmps58
    go_wp2_with fail
    refine HS.out.mono ?_
    rintro e w1 ⟨rfl, rfl⟩
    go_wp2_with fail
    refine (HL.out _).mono ?_
    rintro e w1 ⟨rfl, hb⟩
    have HT0 : Hid (TokCell w1 w.heap.size (tokC 0 0 ⟨#[]⟩ 0 0)) := Lib.hid (((TokCell.new w _).later (B := w.heap.size + 1) ((Below.refl _ _).alloc (by simp) _) (Nat.lt_succ_self _)).later hb (by simp; omega))
    have HW : Hid (Below w.heap.size w w1) := Lib.hid ((((Below.refl _ w).alloc (Nat.le_refl _) _).alloc (by simp) _).trans (hb.mono (by simp; omega)))
    clear hb
    go_wp2_with (refine TokCell.store rfl rfl _ _ rfl w.heap.size (tokC 0 0 ⟨#[]⟩ 0 0) _ _ _ _ _ rfl rfl (HT0.out) rfl w.heap.size w HW.out (Nat.le_refl _) ?_; intro w2 HT HB HO; clear HO)
    obtain ⟨k0, k1, k2, k3, k4⟩ := HT.out.parts
    exact bodyPost_ret (v := .tuple #[.agg #[.int .i64 1, .int .i64 a, .string ⟨#[]⟩, .int .i64 0, .int .i64 n], .int .i64 0]) (by simp [results, Tryz.results58, go_sem, k0, k1, k2, k3, k4]) rfl ⟨rfl, HB.out⟩
  · rw [if_neg h0] at hr
    have h0' : (b == 0) = false := by simpa using h0
    by_cases h3 : b = 3
    · rw [if_pos h3] at hr
      subst hr h3
      go_enter Tryz.func58, Tryz.ntmps58
      go_wp2_with fail
      refine HS.out.mono ?_
      rintro e w1 ⟨rfl, rfl⟩
      go_wp2_with fail
      refine (HL.out _).mono ?_
      rintro e w1 ⟨rfl, hb⟩
      have HT0 : Hid (TokCell w1 w.heap.size (tokC 0 0 ⟨#[]⟩ 0 0)) := Lib.hid (((TokCell.new w _).later (B := w.heap.size + 1) ((Below.refl _ _).alloc (by simp) _) (Nat.lt_succ_self _)).later hb (by simp; omega))
      have HW : Hid (Below w.heap.size w w1) := Lib.hid ((((Below.refl _ w).alloc (Nat.le_refl _) _).alloc (by simp) _).trans (hb.mono (by simp; omega)))
      clear hb
      go_wp2_with (refine TokCell.store rfl rfl _ _ rfl w.heap.size (tokC 0 0 ⟨#[]⟩ 0 0) _ _ _ _ _ rfl rfl (HT0.out) rfl w.heap.size w HW.out (Nat.le_refl _) ?_; intro w2 HT HB HO; clear HO)
      obtain ⟨k0, k1, k2, k3, k4⟩ := HT.out.parts
      exact bodyPost_ret (v := .tuple #[.agg #[.int .i64 0, .int .i64 0, .string ⟨#[]⟩, .int .i64 0, .int .i64 0], .int .i64 3]) (by simp [results, Tryz.results58, go_sem, k0, k1, k2, k3, k4]) rfl ⟨rfl, HB.out⟩
    · rw [if_neg h3] at hr
      have h3' : (b == 3) = false := by simpa using h3
      by_cases hl : 127 < n
      · rw [if_pos hl] at hr
        subst hr
        have hl' : (127 : Int) < (n : Int) := by omega
        clear h0 h3 hcode
        go_enter Tryz.func58, Tryz.ntmps58
        go_wp2_with fail
        refine HS.out.mono ?_
        rintro e w1 ⟨rfl, rfl⟩
        go_wp2_with fail
        refine (HL.out _).mono ?_
        rintro e w1 ⟨rfl, hb⟩
        have HT0 : Hid (TokCell w1 w.heap.size (tokC 0 0 ⟨#[]⟩ 0 0)) := Lib.hid (((TokCell.new w _).later (B := w.heap.size + 1) ((Below.refl _ _).alloc (by simp) _) (Nat.lt_succ_self _)).later hb (by simp; omega))
        have HW : Hid (Below w.heap.size w w1) := Lib.hid ((((Below.refl _ w).alloc (Nat.le_refl _) _).alloc (by simp) _).trans (hb.mono (by simp; omega)))
        clear hb
        go_wp2_with (refine TokCell.store rfl rfl _ _ rfl w.heap.size (tokC 0 0 ⟨#[]⟩ 0 0) _ _ _ _ _ rfl rfl (HT0.out) rfl w.heap.size w HW.out (Nat.le_refl _) ?_; intro w2 HT HB HO; clear HO)
        obtain ⟨k0, k1, k2, k3, k4⟩ := HT.out.parts
        exact bodyPost_ret (v := .tuple #[.agg #[.int .i64 0, .int .i64 0, .string ⟨#[]⟩, .int .i64 0, .int .i64 0], .int .i64 8]) (by simp [results, Tryz.results58, go_sem, k0, k1, k2, k3, k4]) rfl ⟨rfl, HB.out⟩
      · rw [if_neg hl] at hr
        subst hr
        have hl' : ¬ (127 : Int) < (n : Int) := by omega
        clear h0 h3 hcode
        go_enter Tryz.func58, Tryz.ntmps58
        go_wp2_with fail
        refine HS.out.mono ?_
        rintro e w1 ⟨rfl, rfl⟩
        go_wp2_with fail
        refine (HL.out _).mono ?_
        rintro e w1 ⟨rfl, hb⟩
        have HT0 : Hid (TokCell w1 w.heap.size (tokC 0 0 ⟨#[]⟩ 0 0)) := Lib.hid (((TokCell.new w _).later (B := w.heap.size + 1) ((Below.refl _ _).alloc (by simp) _) (Nat.lt_succ_self _)).later hb (by simp; omega))
        have HW : Hid (Below w.heap.size w w1) := Lib.hid ((((Below.refl _ w).alloc (Nat.le_refl _) _).alloc (by simp) _).trans (hb.mono (by simp; omega)))
        clear hb
        go_wp2_with fail
        refine (HC.out _).mono ?_
        rintro e w3 ⟨rfl, hb⟩
        have HT3 := Lib.hid (HT0.out.later hb HT0.out.lt)
        have HW3 := Lib.hid (HW.out.trans (hb.mono HW.out.size))
        clear hb
        go_wp2_with (refine TokCell.store rfl rfl _ _ rfl w.heap.size (tokC 0 0 ⟨#[]⟩ 0 0) _ _ _ _ _ rfl rfl (HT3.out) rfl w.heap.size w HW3.out (Nat.le_refl _) ?_; intro w2 HT HB HO; clear HO)
        obtain ⟨k0, k1, k2, k3, k4⟩ := HT.out.parts
        exact bodyPost_ret (v := .tuple #[.agg #[.int .i64 8, .int .i64 0, .string x, .int .i64 0, .int .i64 n], .int .i64 0]) (by simp [results, Tryz.results58, go_sem, k0, k1, k2, k3, k4]) rfl ⟨by show _ = Ending.returned (Value.tuple #[.agg (tokC 8 0 (bytes x.data.toList) 0 n), .int .i64 0]); rw [hbx]; rfl, HB.out⟩
end
end Go.Proofs.YtejgcnmbngdkiaaGreatDoor
