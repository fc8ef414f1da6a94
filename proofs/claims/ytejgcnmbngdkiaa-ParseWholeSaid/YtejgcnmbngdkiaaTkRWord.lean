/-
  The document's sign and word.
-/
import Derived.Test.YtejgcnmbngdkiaaTkRName
import Derived.Test.YtejgcnmbngdkiaaNTok
import Derived.Test.YtejgcnmbngdkiaaNOct
import Derived.Test.YtejgcnmbngdkiaaNDig
namespace Go.Proofs.Ytejgcnmbngdkiaa
open Go.RowKit
set_option maxRecDepth 100000

theorem name_num : ∀ (k : Nat) (l out : List UInt8) (n : Nat), l.length ≤ k → (nameGo out n l).num = 0
  | k, [], out, n, _ => by rw [name_nil]
  | 0, c :: t, out, n, hk => by simp at hk
  | k + 1, c :: t, out, n, hk => by
    rw [List.length_cons] at hk
    by_cases h : kindI (c.toNat : Int) = 2
    · by_cases h2 : c.toNat = 35
      · cases h3 : hidL (c :: t) with
        | none => rw [name_form h h2 h3]; rfl
        | some b =>
          rw [name_hid h h2 h3]
          split
          · rfl
          · exact name_num k _ _ _ (by rw [List.length_drop]; omega)
      · rw [name_plain h h2]
        split
        · rfl
        · exact name_num k _ _ _ (by omega)
    · rw [name_end h]
theorem text_num : ∀ (k : Nat) (l : List UInt8) (d : Nat) (out : List UInt8) (n : Nat), l.length ≤ k → (textGo d out n l).num = 0
  | k, [], d, out, n, _ => by rw [text_nil]; rfl
  | 0, c :: t, d, out, n, hk => by simp at hk
  | k + 1, c :: t, d, out, n, hk => by
    obtain ⟨p, j, hw⟩ : ∃ p j, withinL (c :: t) = (p, j) := ⟨_, _, rfl⟩
    have hp := within_pos c t
    rw [hw] at hp
    rw [List.length_cons] at hk
    by_cases h : c.toNat = 41 ∧ d = 1
    · rw [text_end h.1 h.2]
    · by_cases hb : 65535 < out.length + p.length
      · rw [text_long h hw hb]; rfl
      · rw [text_step h hw hb]
        simp only at hp
        exact text_num k _ _ _ _ (by simp only [List.length_drop, List.length_cons]; omega)
theorem hex_num : ∀ (l : List UInt8) (ds : List Nat) (n : Nat), (hexGo ds n l).num = 0
  | [], ds, n => rfl
  | c :: t, ds, n => by
    by_cases h : c.toNat = 62
    · rw [hex_end h]; split <;> rfl
    · by_cases h2 : 0 ≤ hexI (c.toNat : Int)
      · rw [hex_put h h2]
        split
        · rfl
        · exact hex_num t _ _
      · by_cases h3 : kindI (c.toNat : Int) = 0
        · rw [hex_white h3]; exact hex_num t _ _
        · rw [hex_bad h h2 h3]; rfl

set_option maxHeartbeats 1000000 in
/-- A sign with bytes, or the error. -/
theorem rSign_any (kd : Int) (j : Nat) (r : Sg) (w : World) (h : r.code = 0 → r.kind = kd ∧ r.num = 0) :
    Calls Try.prog 32 #[.int .i64 kd, .int .i64 (j : Int), .string (bytes r.str), .int .i64 (if r.code = 0 then ((j + r.fin : Nat) : Int) else 0), .int .i64 r.code] w
      fun e w' => e = .returned (r.put j).told ∧ Below w.heap.size w w' := by
  have HW0 := Lib.hid ((Below.refl _ w).alloc (Nat.le_refl _) (.cells (tokC 0 0 ⟨#[]⟩ 0 0) 49))
  have HT0 := Lib.hid (TokCell.new w (tokC 0 0 ⟨#[]⟩ 0 0))
  unfold tokC at HW0 HT0
  by_cases h0 : r.code = 0
  · obtain ⟨h1, h2⟩ := h h0
    rw [Sg.put_ok h0, if_pos h0, h0]
    have hr : (⟨r.kind, r.num, r.str, j, r.fin + j, 0⟩ : Sg).told = .tuple #[.agg (tokC kd 0 (bytes r.str) (j : Int) ((j + r.fin : Nat) : Int)), .int .i64 0] := by
      rw [h1, h2, Nat.add_comm]; rfl
    rw [hr]
    generalize bytes r.str = x
    generalize ((j + r.fin : Nat) : Int) = e
    clear h h0 h1 h2 hr
    go_enter Try.func32, Try.ntmps32
    go_wp2_with (refine TokCell.store rfl rfl _ _ rfl w.heap.size (tokC 0 0 ⟨#[]⟩ 0 0) _ _ _ _ _ rfl rfl (HT0.out) rfl w.heap.size w HW0.out (Nat.le_refl _) ?_; intro w2 HT HB HO; clear HO)
    obtain ⟨k0, k1, k2, k3, k4⟩ := HT.out.parts
    exact bodyPost_ret (v := .tuple #[.agg #[.int .i64 kd, .int .i64 0, .string x, .int .i64 (j : Int), .int .i64 e], .int .i64 0]) (by simp [results, Try.results32, go_sem, k0, k1, k2, k3, k4]) rfl ⟨rfl, HB.out⟩
  · rw [Sg.put_err h0, if_neg h0]
    have hc : (r.code != 0) = true := by simpa using h0
    generalize bytes r.str = x
    generalize r.code = c at hc
    clear h h0
    go_enter Try.func32, Try.ntmps32
    go_wp2_with (refine TokCell.store rfl rfl _ _ rfl w.heap.size (tokC 0 0 ⟨#[]⟩ 0 0) _ _ _ _ _ rfl rfl (HT0.out) rfl w.heap.size w HW0.out (Nat.le_refl _) ?_; intro w2 HT HB HO; clear HO)
    obtain ⟨k0, k1, k2, k3, k4⟩ := HT.out.parts
    exact bodyPost_ret (v := .tuple #[.agg #[.int .i64 0, .int .i64 0, .string ⟨#[]⟩, .int .i64 0, .int .i64 0], .int .i64 c]) (by simp [results, Try.results32, go_sem, k0, k1, k2, k3, k4]) rfl ⟨rfl, HB.out⟩

theorem spanN_drop (l : List UInt8) (zs : List Int) (k : Nat) : spanN l zs k = spanN (l.drop k) zs 0 := by
  unfold spanN; rw [List.drop_zero]
theorem rLoose_at (s : ByteArray) (w : World) (hs : s.size ≤ maxLen) {a b : Int} (h : looseL s.data.toList = (a, b)) :
    Calls Try.prog 61 #[.string s] w fun e w' => e = .returned (.tuple #[.int .i64 a, .int .i64 b]) ∧ w = w' := by
  have := rLoose_any s w hs
  rw [h] at this; exact this
theorem rSpan_one (s : ByteArray) (k : Nat) (z : Int) (w : World) (hs : s.size ≤ maxLen) {n : Nat} (hn : spanN s.data.toList [z] k = n) :
    Calls Try.prog 60 #[.string s, .int .i64 (k : Int), .slice (some ⟨w.heap.size, 0, none⟩) 1 1] (w.alloc (.cells #[.int .i64 z] 3)) fun e w' => e = .returned (.int .i64 (n : Int)) ∧ Below w.heap.size w w' := by
  refine (refSpan_any s (k : Int) (some ⟨w.heap.size, 0, none⟩) 1 [z] _ hs (by simp) (tnums_new w [z] _ rfl)).mono ?_
  rintro e w' ⟨he, m, rfl⟩
  rw [spanI_nat, hn] at he
  exact ⟨he, below_drewN ((Below.refl _ w).alloc (Nat.le_refl _) _) m⟩

set_option maxHeartbeats 2000000 in
theorem rWord_any (s : ByteArray) (k : Nat) (w : World) (hs : s.size ≤ 1000000000) (hk : k ≤ s.size) :
    Calls Try.prog 36 #[.string s, .int .i64 (k : Int)] w fun e w' => e = .returned ((wordL (s.data.toList.drop k)).put k).told ∧ Below w.heap.size w w' := by
  obtain ⟨n, hn⟩ : ∃ n, spanN s.data.toList [2] k = n := ⟨_, rfl⟩
  have hnl := spanN_le s.data.toList [2] k
  rw [hn, ← size_data] at hnl
  have HS : Hid (Calls Try.prog 60 #[.string s, .int .i64 (k : Int), .slice (some ⟨w.heap.size + 1, 0, none⟩) 1 1] ((w.alloc (.cells #[.int .i64 0, .int .i64 0, .string ⟨#[]⟩, .int .i64 0, .int .i64 0] 49)).alloc (.cells #[.int .i64 2] 3)) fun e w' => e = .returned (.int .i64 (n : Int)) ∧ Below (w.heap.size + 1) (w.alloc (.cells #[.int .i64 0, .int .i64 0, .string ⟨#[]⟩, .int .i64 0, .int .i64 0] 49)) w') := Lib.hid (by
    have h := rSpan_one s k 2 (w.alloc (.cells #[.int .i64 0, .int .i64 0, .string ⟨#[]⟩, .int .i64 0, .int .i64 0] 49)) (by unfold maxLen; omega) hn
    rw [World.size_alloc] at h
    exact h)
  obtain ⟨x, hx⟩ : ∃ x, s.extract k (k + n) = x := ⟨_, rfl⟩
  have hxd : x.data.toList = (s.data.toList.drop k).take n := by rw [← hx, Lib.extract_data, Nat.add_sub_cancel_left]
  have hxs : x.size = n := by rw [← hx, ByteArray.size_extract]; omega
  obtain ⟨a, b, hab⟩ : ∃ a b, looseL x.data.toList = (a, b) := ⟨_, _, rfl⟩
  have hcode := (looseL_code x.data.toList).1
  rw [hab] at hcode
  have HL := Lib.hid (fun W => rLoose_at x W (by unfold maxLen; omega) hab)
  have hr : wordL (s.data.toList.drop k) = if b = 0 then ⟨1, a, [], 0, n, 0⟩ else if b = 3 then Sg.err 3 else if 127 < n then Sg.err 8 else ⟨8, 0, x.data.toList, 0, n, 0⟩ := by
    unfold wordL wordOf
    rw [← spanN_drop, hn, ← hxd, hab, ← size_data, hxs]
  obtain ⟨r, hr'⟩ : ∃ r, wordL (s.data.toList.drop k) = r := ⟨_, rfl⟩
  rw [hr'] at hr ⊢
  have hbx : bytes x.data.toList = x := bytes_of x
  have hkn : (k : Int) + (n : Int) ≤ (s.size : Int) := by omega
  have Hkn : Hid ((k : Int) + (n : Int) = ((n + k : Nat) : Int)) := Lib.hid (by omega)
  have Hxs := Lib.hid hxs
  clear hr' hab hn hxd hxs
  by_cases h0 : b = 0
  · rw [if_pos h0] at hr
    subst hr h0
    go_enter Try.func36, Try.ntmps36
    go_wp2_with fail
    refine HS.out.mono ?_
    rintro e w1 ⟨rfl, hb⟩
    have HT0 : Hid (TokCell w1 w.heap.size (tokC 0 0 ⟨#[]⟩ 0 0)) := Lib.hid ((TokCell.new w _).later hb (Nat.lt_succ_self _))
    have HW : Hid (Below w.heap.size w w1) := Lib.hid (((Below.refl _ w).alloc (Nat.le_refl _) _).trans (hb.mono (Nat.le_succ _)))
    clear hb
    go_wp2_with fail
    refine (HL.out _).mono ?_
    rintro e w3 ⟨rfl, rfl⟩
    go_wp2_with (refine TokCell.store rfl rfl _ _ rfl w.heap.size (tokC 0 0 ⟨#[]⟩ 0 0) _ _ _ _ _ rfl rfl (HT0.out) rfl w.heap.size w HW.out (Nat.le_refl _) ?_; intro w2 HT HB HO; clear HO)
    obtain ⟨k0, k1, k2, k3, k4⟩ := HT.out.parts
    exact bodyPost_ret (v := .tuple #[.agg #[.int .i64 1, .int .i64 a, .string ⟨#[]⟩, .int .i64 (k : Int), .int .i64 ((k : Int) + (n : Int))], .int .i64 0]) (by simp [results, Try.results36, go_sem, k0, k1, k2, k3, k4]) rfl ⟨by rw [Sg.put_ok rfl, Hkn.out]; rfl, HB.out⟩
  · rw [if_neg h0] at hr
    have h0' : (b == 0) = false := by simpa using h0
    by_cases h3 : b = 3
    · rw [if_pos h3] at hr
      subst hr h3
      go_enter Try.func36, Try.ntmps36
      go_wp2_with fail
      refine HS.out.mono ?_
      rintro e w1 ⟨rfl, hb⟩
      have HT0 : Hid (TokCell w1 w.heap.size (tokC 0 0 ⟨#[]⟩ 0 0)) := Lib.hid ((TokCell.new w _).later hb (Nat.lt_succ_self _))
      have HW : Hid (Below w.heap.size w w1) := Lib.hid (((Below.refl _ w).alloc (Nat.le_refl _) _).trans (hb.mono (Nat.le_succ _)))
      clear hb
      go_wp2_with fail
      refine (HL.out _).mono ?_
      rintro e w3 ⟨rfl, rfl⟩
      go_wp2_with (refine TokCell.store rfl rfl _ _ rfl w.heap.size (tokC 0 0 ⟨#[]⟩ 0 0) _ _ _ _ _ rfl rfl (HT0.out) rfl w.heap.size w HW.out (Nat.le_refl _) ?_; intro w2 HT HB HO; clear HO)
      obtain ⟨k0, k1, k2, k3, k4⟩ := HT.out.parts
      exact bodyPost_ret (v := .tuple #[.agg #[.int .i64 0, .int .i64 0, .string ⟨#[]⟩, .int .i64 0, .int .i64 0], .int .i64 3]) (by simp [results, Try.results36, go_sem, k0, k1, k2, k3, k4]) rfl ⟨rfl, HB.out⟩
    · rw [if_neg h3] at hr
      have h3' : (b == 3) = false := by simpa using h3
      by_cases hl : 127 < n
      · rw [if_pos hl] at hr
        subst hr
        have hl' : (127 : Int) < (n : Int) := by omega
        clear h0 h3 hcode
        go_enter Try.func36, Try.ntmps36
        go_wp2_with fail
        refine HS.out.mono ?_
        rintro e w1 ⟨rfl, hb⟩
        have HT0 : Hid (TokCell w1 w.heap.size (tokC 0 0 ⟨#[]⟩ 0 0)) := Lib.hid ((TokCell.new w _).later hb (Nat.lt_succ_self _))
        have HW : Hid (Below w.heap.size w w1) := Lib.hid (((Below.refl _ w).alloc (Nat.le_refl _) _).trans (hb.mono (Nat.le_succ _)))
        clear hb
        go_wp2_with fail
        refine (HL.out _).mono ?_
        rintro e w3 ⟨rfl, rfl⟩
        go_wp2_with (refine TokCell.store rfl rfl _ _ rfl w.heap.size (tokC 0 0 ⟨#[]⟩ 0 0) _ _ _ _ _ rfl rfl (HT0.out) rfl w.heap.size w HW.out (Nat.le_refl _) ?_; intro w2 HT HB HO; clear HO)
        obtain ⟨k0, k1, k2, k3, k4⟩ := HT.out.parts
        exact bodyPost_ret (v := .tuple #[.agg #[.int .i64 0, .int .i64 0, .string ⟨#[]⟩, .int .i64 0, .int .i64 0], .int .i64 8]) (by simp [results, Try.results36, go_sem, k0, k1, k2, k3, k4]) rfl ⟨rfl, HB.out⟩
      · rw [if_neg hl] at hr
        subst hr
        have hl' : ¬ (127 : Int) < (n : Int) := by omega
        clear h0 h3 hcode
        go_enter Try.func36, Try.ntmps36
        go_wp2_with fail
        refine HS.out.mono ?_
        rintro e w1 ⟨rfl, hb⟩
        have HT0 : Hid (TokCell w1 w.heap.size (tokC 0 0 ⟨#[]⟩ 0 0)) := Lib.hid ((TokCell.new w _).later hb (Nat.lt_succ_self _))
        have HW : Hid (Below w.heap.size w w1) := Lib.hid (((Below.refl _ w).alloc (Nat.le_refl _) _).trans (hb.mono (Nat.le_succ _)))
        clear hb
        go_wp2_with fail
        refine (HL.out _).mono ?_
        rintro e w3 ⟨rfl, rfl⟩
        go_wp2_with (refine TokCell.store rfl rfl _ _ rfl w.heap.size (tokC 0 0 ⟨#[]⟩ 0 0) _ _ _ _ _ rfl rfl (HT0.out) rfl w.heap.size w HW.out (Nat.le_refl _) ?_; intro w2 HT HB HO; clear HO)
        obtain ⟨k0, k1, k2, k3, k4⟩ := HT.out.parts
        exact bodyPost_ret (v := .tuple #[.agg #[.int .i64 8, .int .i64 0, .string x, .int .i64 (k : Int), .int .i64 ((k : Int) + (n : Int))], .int .i64 0]) (by simp [results, Try.results36, go_sem, k0, k1, k2, k3, k4]) rfl ⟨by rw [Sg.put_ok rfl, Hkn.out]; show _ = Ending.returned (Value.tuple #[.agg (tokC 8 0 (bytes x.data.toList) k ((n + k : Nat) : Int)), .int .i64 0]); rw [hbx]; rfl, HB.out⟩
end Go.Proofs.Ytejgcnmbngdkiaa
