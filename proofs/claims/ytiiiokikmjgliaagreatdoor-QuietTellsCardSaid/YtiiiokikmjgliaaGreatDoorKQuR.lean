/-
  QuRLoud, QuRNames: texts merged.
-/
import Derived.Test.YtiiiokikmjgliaaGreatDoorKQu
import Derived.Test.YtiiiokikmjgliaaGreatDoorKCoR
/-
  The document's answer: whether bytes are loud.
-/
namespace Go.Proofs.YtiiiokikmjgliaaGreatDoor
section
open Go.RowKit
set_option maxRecDepth 100000
set_option maxHeartbeats 400000 in
theorem rStands_at (s p : ByteArray) (k : Nat) (w : World) (hk : k ≤ s.size) (hs : s.size ≤ 1000000) (hp : p.size ≤ 1000) {b : Bool} (hb : preB (s.data.toList.drop k) p.data.toList = b) :
    Calls Tryz.prog 17 #[.string s, .int .i64 (k : Int), .string p] w fun e w' => e = .returned (.bool b) ∧ w = w' := by
  have hst : standsI s.data.toList (k : Int) p.data.toList = b := by
    rw [← hb]
    have hl : k ≤ s.data.toList.length := by rw [← size_data]; exact hk
    unfold standsI preB
    rw [Bool.eq_iff_iff, decide_eq_true_eq, decide_eq_true_eq]
    exact ⟨fun h => h.2.2, fun h => ⟨by omega, by omega, h⟩⟩
  clear hb
  by_cases hlt : k + p.size ≤ s.size
  · have Hr := Lib.hid ((stands_eq s p k hlt).trans hst)
    clear hst
    go_enter Tryz.func17, Tryz.ntmps17
    go_wp2_with fail
    go_ret
    exact ⟨ret_bool Hr.out, rfl⟩
  · have Hr := Lib.hid (hst.symm.trans (stands_far s p k (by omega)))
    clear hst
    go_enter Tryz.func17, Tryz.ntmps17
    go_wp2_with fail
    go_ret
    exact ⟨ret_bool Hr.out.symm, rfl⟩
set_option maxHeartbeats 1000000 in
theorem rLoud_is (s : ByteArray) (w : World) (hs : s.size ≤ 1000000) {r : Bool} (hr : loudQ s.data.toList = r) :
    Calls Tryz.prog 10 #[.string s] w fun e w' => e = .returned (.bool r) ∧ w = w' := by
  have HS := Lib.hid (fun (k : Nat) (b0 b1 b2 : Bool) (e0 : preB (s.data.toList.drop k) [111, 98, 106] = b0) (e1 : preB (s.data.toList.drop k) [120, 114, 101, 102] = b1) (e2 : preB (s.data.toList.drop k) [115, 116, 114, 101, 97, 109] = b2) => show startsQ (s.data.toList.drop k) = (b0 || (b1 || b2)) by unfold startsQ; rw [e0, e1, e2])
  have HP0 := Lib.hid (fun (k : Nat) W (hk : k ≤ s.size) (b : Bool) (e : preB (s.data.toList.drop k) [111, 98, 106] = b) => rStands_at s ⟨#[111, 98, 106]⟩ k W hk hs (by decide) (b := b) e)
  have HP1 := Lib.hid (fun (k : Nat) W (hk : k ≤ s.size) (b : Bool) (e : preB (s.data.toList.drop k) [120, 114, 101, 102] = b) => rStands_at s ⟨#[120, 114, 101, 102]⟩ k W hk hs (by decide) (b := b) e)
  have HP2 := Lib.hid (fun (k : Nat) W (hk : k ≤ s.size) (b : Bool) (e : preB (s.data.toList.drop k) [115, 116, 114, 101, 97, 109] = b) => rStands_at s ⟨#[115, 116, 114, 101, 97, 109]⟩ k W hk hs (by decide) (b := b) e)
  have Hr := Lib.hid hr
  clear hr
  go_enter Tryz.func10, Tryz.ntmps10
  go_wp2_with fail
  go_loopg [3] s.size (fun g s3 wx => ∃ k : Nat, k + g = s.size ∧ s3 = .int .i64 k ∧ Aside (loudQ (s.data.toList.drop k) = r) ∧ w = wx)
  case atStart => exact ⟨0, by omega, rfl, Hr.out, rfl⟩
  case round =>
    obtain ⟨k, hkg, rfl, HR, rfl⟩ := hrel
    cases gk with
    | zero =>
      obtain rfl : k = s.size := by omega
      have HE : Hid (r = false) := Lib.hid (by rw [← HR.out, loudQ_end (by rw [← size_data]; exact Nat.le_refl _)])
      go_wp2_with fail
      go_ret
      exact ⟨ret_bool HE.out.symm, rfl⟩
    | succ g =>
      have hk : k < s.size := by omega
      have hkz : (k : Int) < (s.size : Int) := by omega
      have HN := Lib.hid (loudQ_at (l := s.data.toList) (k := k) (by rw [← size_data]; exact hk))
      obtain ⟨b0, e0⟩ : ∃ b, preB (s.data.toList.drop k) [111, 98, 106] = b := ⟨_, rfl⟩
      obtain ⟨b1, e1⟩ : ∃ b, preB (s.data.toList.drop k) [120, 114, 101, 102] = b := ⟨_, rfl⟩
      obtain ⟨b2, e2⟩ : ∃ b, preB (s.data.toList.drop k) [115, 116, 114, 101, 97, 109] = b := ⟨_, rfl⟩
      have HS0 := Lib.hid (HS.out k _ _ _ e0 e1 e2)
      have HK0 := Lib.hid (fun W => HP0.out k W (by omega) _ e0)
      have HK1 := Lib.hid (fun W => HP1.out k W (by omega) _ e1)
      have HK2 := Lib.hid (fun W => HP2.out k W (by omega) _ e2)
      clear e0 e1 e2
      go_wp2_with fail
      refine (HK0.out _).mono ?_
      rintro e w1 ⟨rfl, rfl⟩
      cases b0 with
      | true =>
        have HE : Hid (r = true) := Lib.hid (by rw [← HR.out, HN.out, HS0.out]; rfl)
        go_wp2_with fail
        go_ret
        exact ⟨ret_bool HE.out.symm, rfl⟩
      | false =>
        go_wp2_with fail
        refine (HK1.out _).mono ?_
        rintro e w1 ⟨rfl, rfl⟩
        cases b1 with
        | true =>
          have HE : Hid (r = true) := Lib.hid (by rw [← HR.out, HN.out, HS0.out]; rfl)
          go_wp2_with fail
          go_ret
          exact ⟨ret_bool HE.out.symm, rfl⟩
        | false =>
          go_wp2_with fail
          refine (HK2.out _).mono ?_
          rintro e w1 ⟨rfl, rfl⟩
          cases b2 with
          | true =>
            have HE : Hid (r = true) := Lib.hid (by rw [← HR.out, HN.out, HS0.out]; rfl)
            go_wp2_with fail
            go_ret
            exact ⟨ret_bool HE.out.symm, rfl⟩
          | false =>
            have HE : Hid (loudQ (s.data.toList.drop (k + 1)) = r) := Lib.hid (by rw [← HR.out, HN.out, HS0.out]; rfl)
            go_wp2_with fail
            go_roundg g
            case measure => omega
            case rel => exact ⟨k + 1, by omega, by go_num, HE.out, rfl⟩
end
end Go.Proofs.YtiiiokikmjgliaaGreatDoor
/-
  The document's answer: by which filters bytes are not loud.
-/
namespace Go.Proofs.YtiiiokikmjgliaaGreatDoor
section
open Go.RowKit
set_option maxRecDepth 100000
set_option maxHeartbeats 2000000 in
theorem rNames_is (a : Option Addr) (cap : Nat) (xs : List ByteArray) (columns : Int) (s : ByteArray) (w : World) (hn : xs.length ≤ 9223372036854775807) (hT : Texts w a xs) (ha : a = none → cap = 0) (hs : s.size ≤ 500)
    {ys : List ByteArray} {c : Int} (hN : namesQ xs columns s.data.toList = (ys, c)) :
    Calls Tryz.prog 8 #[.slice a xs.length cap, .int .i64 columns, .string s] w fun e w' => ∃ p cap', e = .returned (.tuple #[.slice p ys.length cap', .int .i64 c]) ∧ Texts w' p ys ∧ Below w.heap.size w w' := by
  obtain ⟨u, e, hE⟩ := encC_text (kindsC xs) columns s.data.toList
  have hl : s.data.toList.length ≤ 500 := by rw [← size_data]; exact hs
  have hfit := coat_fits (ks := kindsC xs) (columns := columns) (l := s.data.toList) (m := xs.length) hl (kindsC_length xs)
  have HE := Lib.hid (rEncodeC_is a cap xs columns s w hn hT (by omega) hfit hE)
  rw [bytes_of] at HE
  have HT := Lib.hid hT
  have HA := Lib.hid ha
  by_cases he : e = 0
  · subst he
    obtain ⟨_, _, h4, hz, _⟩ := checkC_ok (encC_ok hE)
    rw [kindsC_length] at h4
    have hu : u.size ≤ 1000000 := by rw [size_data]; have := encC_short hl hE; omega
    have h4' := Lib.hid h4
    cases hb : loudQ u.data.toList with
    | false =>
      rw [namesQ_low hE hb] at hN
      obtain ⟨rfl, rfl⟩ := Prod.mk.inj hN
      have HL := Lib.hid (fun W => rLoud_is u W hu hb)
      clear hE hfit hT ha hb hz hN hl hu hs h4
      go_enter Tryz.func8, Tryz.ntmps8
      go_wp2_with fail
      refine HE.out.mono ?_
      rintro e w1 ⟨rfl, hb⟩
      have Hb1 := Lib.hid hb
      clear hb
      go_wp2_with fail
      refine (HL.out _).mono ?_
      rintro e w2 ⟨rfl, rfl⟩
      go_wp2_with (at_builtin; refine wpList_appendT rfl (.tmp 30) (.tmp 31) rfl w.heap.size _ [] rfl (OwnT.made0 w1 Hb1.out.size) a cap xs rfl (HT.out.later (Hb1.out.alloc Hb1.out.size _)) HA.out (by have := h4'.out; simp; omega) w (Hb1.out.alloc Hb1.out.size _) (by have := Hb1.out.size; simp; omega) ?_; intro v' w2 HO2 Hb2)
      obtain ⟨p, c, hp, hT3⟩ := OwnT.form HO2.out
      rw [List.nil_append] at hp hT3
      subst hp
      go_ret2
      exact ⟨_, _, rfl, hT3, Hb2.out⟩
    | true =>
      have HL := Lib.hid (fun W => rLoud_is u W hu hb)
      by_cases h5 : xs.length = 4
      · rw [namesQ_full hE hb h5] at hN
        obtain ⟨rfl, rfl⟩ := Prod.mk.inj hN
        have h5z : ((xs.length : Nat) : Int) = 4 := by omega
        clear hE hfit hT ha hb hz hN hl hu hs h4 h5
        go_enter Tryz.func8, Tryz.ntmps8
        go_wp2_with fail
        refine HE.out.mono ?_
        rintro e w1 ⟨rfl, hb⟩
        have Hb1 := Lib.hid hb
        clear hb
        go_wp2_with fail
        refine (HL.out _).mono ?_
        rintro e w2 ⟨rfl, rfl⟩
        go_wp2_with fail
        go_ret2
        exact ⟨_, _, rfl, .inl rfl, Hb1.out.alloc Hb1.out.size _⟩
      · rw [namesQ_hex hE hb h5] at hN
        obtain ⟨rfl, rfl⟩ := Prod.mk.inj hN
        have h5z : ¬ ((xs.length : Nat) : Int) = 4 := by omega
        have HX := Lib.hid (fun W : World => show Texts ((W.alloc (.cells #[] 9)).alloc (.cells #[.string hexT] 9)) (some ⟨W.heap.size + 1, 0, none⟩) [hexT] from texts_one (W.alloc (.cells #[] 9)) hexT |> fun h => by simpa using h)
        unfold hexT at HX
        clear hE hfit hT ha hb hz hN hl hu hs h4 h5
        go_enter Tryz.func8, Tryz.ntmps8
        go_wp2_with fail
        refine HE.out.mono ?_
        rintro e w1 ⟨rfl, hb⟩
        have Hb1 := Lib.hid hb
        clear hb
        go_wp2_with fail
        refine (HL.out _).mono ?_
        rintro e w2 ⟨rfl, rfl⟩
        go_wp2_with (at_builtin; first
          | (refine wpList_appendT rfl (.tmp 27) (.tmp 28) rfl w.heap.size _ [] rfl ((OwnT.made0 w1 Hb1.out.size).alloc _) _ 1 [_] rfl (HX.out _) (fun h => by cases h) (by simp) w ((Hb1.out.alloc Hb1.out.size _).alloc (by have := Hb1.out.size; simp; omega) _) (by have := Hb1.out.size; simp; omega) ?_; intro v' w2 HO2 Hb2)
          | (refine wpList_appendT rfl (.tmp 30) (.tmp 31) rfl w.heap.size _ _ rfl HO2.out a cap xs rfl (HT.out.later Hb2.out) HA.out (by have := h4'.out; simp; omega) w Hb2.out Hb2.out.size ?_; intro v3 w3 HO3 Hb3))
        obtain ⟨p, c, hp, hT3⟩ := OwnT.form HO3.out
        rw [List.nil_append, List.singleton_append] at hp hT3
        subst hp
        go_ret2
        exact ⟨_, _, rfl, hT3, Hb3.out⟩
  · rw [namesQ_err hE he] at hN
    obtain ⟨rfl, rfl⟩ := Prod.mk.inj hN
    have he' : (e != 0) = true := by simpa using he
    clear hE hfit hT ha hN hl hs he
    go_enter Tryz.func8, Tryz.ntmps8
    go_wp2_with fail
    refine HE.out.mono ?_
    rintro e w1 ⟨rfl, hb⟩
    have Hb1 := Lib.hid hb
    clear hb
    go_wp2_with fail
    go_ret2
    exact ⟨_, _, rfl, .inl rfl, Hb1.out⟩
end
end Go.Proofs.YtiiiokikmjgliaaGreatDoor
