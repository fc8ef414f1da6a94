/-
  The walk of the law CoatWithin.
-/
import Derived.Test.YtnelbahohkjcnaaGreatDoorCoLaw2
namespace Go.Proofs.YtnelbahohkjcnaaGreatDoor
open Go.RowKit
set_option maxRecDepth 100000
theorem growC_add : ∀ (a b n : Nat), growC a (growC b n) = growC (a + b) n
  | 0, b, n => by rw [Nat.zero_add]; rfl
  | a + 1, b, n => by
    rw [growC, growC_add a b n, show a + 1 + b = (a + b) + 1 by omega]
    rfl
set_option maxHeartbeats 4000000 in
theorem cwithin_walk (a : Option Addr) (cap : Nat) (xs : List ByteArray) (c : Nat) (s : ByteArray) (w : World) (hn : xs.length ≤ cap) (hcap : cap ≤ maxLen) (hT : Texts w a xs) (ha : cap = 0 ∨ ∃ b off, a = some ⟨b, off, none⟩) (hs : s.size ≤ maxLen) (hc : c < 256) (hl : LaidQ w) (hi : Laid w) :
    Calls Tryz.prog 6 #[.slice a xs.length cap, .int .u8 (c : Int), .string s] w (YesC w) := by
  unfold maxLen at hs hcap
  have HL := Lib.hid hl
  have HI := Lib.hid hi
  have HS := Lib.hid (fun W (hW : Below w.heap.size w W) => coats_is W (HL.out.later hW) (HI.out.later hW))
  clear hl hi
  by_cases hbig : (4 : Int) < (xs.length : Int) ∨ (¬ (4 : Int) < (xs.length : Int) ∧ (300 : Int) < (s.size : Int))
  · clear hT
    rcases hbig with g1 | ⟨g1, g2⟩
    all_goals
      go_enter Tryz.func6, Tryz.ntmps6
      go_wp2_with fail
      refine (HS.out w (Below.refl _ _)).mono ?_
      rintro e w1 ⟨rfl, hb⟩
      have Hb := Lib.hid hb
      clear hb
      go_wp2_with fail
      go_ret
      exact ⟨rfl, Hb.out⟩
  have g1 : ¬ (4 : Int) < (xs.length : Int) := by omega
  have g2 : ¬ (300 : Int) < (s.size : Int) := by omega
  clear hbig
  obtain ⟨ch, hch⟩ : ∃ ch, checkC (kindsC xs) 0 = ch := ⟨_, rfl⟩
  have H0 := Lib.hid (coCheck_is a cap xs 0 w (by omega) hT hch)
  by_cases h0 : ch = 0
  · subst h0
    have hc64 := byteC hc
    have htl : s.data.toList.length ≤ 300 := by rw [← size_data]; omega
    obtain ⟨k, hk⟩ : ∃ k, c % (xs.length + 1) = k := ⟨_, rfl⟩
    have hkn : k ≤ xs.length := by rw [← hk]; have := Nat.mod_lt c (show 0 < xs.length + 1 by omega); omega
    have hkz : (c : Int) % ((xs.length : Int) + 1) = (k : Int) := by rw [← hk]; exact (Int.natCast_emod c (xs.length + 1)).symm
    obtain ⟨e1, e2, e3, l1, l2⟩ := coat_within k hch htl
    obtain ⟨A, hA⟩ : ∃ A : ByteArray, encKs ((kindsC xs).drop k) s.data.toList = A.data.toList := ⟨bytes _, (bytes_data _).symm⟩
    obtain ⟨B, hB⟩ : ∃ B : ByteArray, encKs (kindsC xs) s.data.toList = B.data.toList := ⟨bytes _, (bytes_data _).symm⟩
    rw [hA] at e1 e2 l1
    rw [hB] at e2 e3 l2
    have hAs : A.size ≤ 100000 := by rw [size_data]; omega
    have f1 : growC ((xs.drop k).length - 1) s.data.toList.length ≤ 10000 := by
      have := (growC_four (m := (xs.drop k).length) (n := s.data.toList.length) (by rw [List.length_drop]; omega)).2
      omega
    have f3 : growC (xs.length - 1) s.data.toList.length ≤ 10000 := by
      have := (growC_four (m := xs.length) (n := s.data.toList.length) (by omega)).2
      omega
    have f2 : growC ((xs.take k).length - 1) A.data.toList.length ≤ 10000 := by
      rw [List.length_take, Nat.min_eq_left hkn]
      have hlA : A.data.toList.length ≤ growC (xs.length - k) s.data.toList.length := by
        have h := encKs_length ((kindsC xs).drop k) s.data.toList (by
          rw [List.length_drop, kindsC_length]
          have := (growC_four (m := xs.length - k) (n := s.data.toList.length) (by omega)).1
          omega)
        rwa [hA, List.length_drop, kindsC_length] at h
      by_cases hk0 : k = 0
      · subst hk0
        show A.data.toList.length ≤ 10000
        omega
      · have h1 := growC_mono (k - 1) _ _ hlA
        rw [growC_add] at h1
        have h2 := (growC_four (m := xs.length) (n := s.data.toList.length) (by omega)).2
        rw [show k - 1 + (xs.length - k) = xs.length - 1 by omega] at h1
        omega
    rw [← kindsC_drop] at e1
    rw [← kindsC_take] at e2
    have H3 := Lib.hid (fun W (hW : Below w.heap.size w W) => encode_is a cap xs 0 s W (by omega) (hT.later hW) (by omega) (by decide) (by decide) (HL.out.later hW) (fun _ => by rw [if_pos rfl]; exact f3) e3)
    rw [bytes_of] at H3
    clear hA hB e3 f3 l1 l2 htl hch
    by_cases hcap0 : cap = 0
    · subst hcap0
      obtain rfl : xs = [] := List.eq_nil_of_length_eq_zero (by omega)
      obtain rfl : k = 0 := Nat.le_zero.1 hkn
      have H1 := Lib.hid (fun W (hW : Below w.heap.size w W) => encode_is a 0 [] 0 s W (by decide) (.inl rfl) (by omega) (by decide) (by decide) (HL.out.later hW) (fun _ => by rw [if_pos rfl]; exact f1) e1)
      have H2 := Lib.hid (fun W (hW : Below w.heap.size w W) => encode_is a 0 [] 0 A W (by decide) (.inl rfl) hAs (by decide) (by decide) (HL.out.later hW) (fun _ => by rw [if_pos rfl]; exact f2) e2)
      rw [bytes_of, List.length_nil] at H1 H2
      rw [List.length_nil] at H0 H3 hkz ⊢
      clear e1 e2 f1 f2 hT hk ha hn hkn g1
      go_enter Tryz.func6, Tryz.ntmps6
      go_wp2_with fail
      refine H0.out.mono ?_
      rintro e w1 ⟨rfl, hb⟩
      have Hb1 := Lib.hid hb
      clear hb
      go_wp2_with fail
      refine (H1.out _ Hb1.out).mono ?_
      rintro e w2 ⟨rfl, hb⟩
      have Hb2 := Lib.hid (Hb1.out.trans (hb.mono Hb1.out.size))
      clear hb
      go_wp2_with fail
      refine (H2.out _ Hb2.out).mono ?_
      rintro e w3 ⟨rfl, hb⟩
      have Hb3 := Lib.hid (Hb2.out.trans (hb.mono Hb2.out.size))
      clear hb
      go_wp2_with fail
      refine (H3.out _ Hb3.out).mono ?_
      rintro e w4 ⟨rfl, hb⟩
      have Hb4 := Lib.hid (Hb3.out.trans (hb.mono Hb3.out.size))
      clear hb
      go_wp2_with fail
      refine (HS.out _ Hb4.out).mono ?_
      rintro e w5 ⟨rfl, hb⟩
      have Hb5 := Lib.hid (Hb4.out.trans (hb.mono Hb4.out.size))
      clear hb
      go_wp2_with fail
      go_ret
      exact ⟨rfl, Hb5.out⟩
    · obtain ⟨b, off, rfl⟩ : ∃ b off, a = some ⟨b, off, none⟩ := by
        rcases ha with h | h
        · exact absurd h hcap0
        · exact h
      by_cases hkc : cap = k
      · subst hkc
        have H1 := Lib.hid (fun W (hW : Below w.heap.size w W) => encode_is (some ⟨b, off, none⟩) 0 (xs.drop cap) 0 s W (by rw [List.length_drop]; omega) (.inl (List.drop_eq_nil_of_le (by omega))) (by omega) (by decide) (by decide) (HL.out.later hW) (fun _ => by rw [if_pos rfl]; exact f1) e1)
        have H2 := Lib.hid (fun W (hW : Below w.heap.size w W) => encode_is (some ⟨b, off, none⟩) cap (xs.take cap) 0 A W (by rw [List.length_take]; omega) (texts_upto (hT.later hW) cap) hAs (by decide) (by decide) (HL.out.later hW) (fun _ => by rw [if_pos rfl]; exact f2) e2)
        rw [bytes_of, List.length_drop, Nat.sub_eq_zero_of_le hn] at H1
        rw [bytes_of, List.length_take, Nat.min_eq_left hkn] at H2
        have hkz2 : (cap : Int) ≤ (xs.length : Int) := by omega
        clear e1 e2 f1 f2 hT hk
        go_enter Tryz.func6, Tryz.ntmps6
        go_wp2_with fail
        refine H0.out.mono ?_
        rintro e w1 ⟨rfl, hb⟩
        have Hb1 := Lib.hid hb
        clear hb
        go_wp2_with fail
        refine (H1.out _ Hb1.out).mono ?_
        rintro e w2 ⟨rfl, hb⟩
        have Hb2 := Lib.hid (Hb1.out.trans (hb.mono Hb1.out.size))
        clear hb
        go_wp2_with fail
        refine (H2.out _ Hb2.out).mono ?_
        rintro e w3 ⟨rfl, hb⟩
        have Hb3 := Lib.hid (Hb2.out.trans (hb.mono Hb2.out.size))
        clear hb
        go_wp2_with fail
        refine (H3.out _ Hb3.out).mono ?_
        rintro e w4 ⟨rfl, hb⟩
        have Hb4 := Lib.hid (Hb3.out.trans (hb.mono Hb3.out.size))
        clear hb
        go_wp2_with fail
        refine (HS.out _ Hb4.out).mono ?_
        rintro e w5 ⟨rfl, hb⟩
        have Hb5 := Lib.hid (Hb4.out.trans (hb.mono Hb4.out.size))
        clear hb
        go_wp2_with fail
        go_ret
        exact ⟨rfl, Hb5.out⟩
      · have H1 := Lib.hid (fun W (hW : Below w.heap.size w W) => encode_is (some ⟨b, off + k, none⟩) (cap - k) (xs.drop k) 0 s W (by rw [List.length_drop]; omega) (texts_from (hT.later hW) k) (by omega) (by decide) (by decide) (HL.out.later hW) (fun _ => by rw [if_pos rfl]; exact f1) e1)
        have H2 := Lib.hid (fun W (hW : Below w.heap.size w W) => encode_is (some ⟨b, off, none⟩) cap (xs.take k) 0 A W (by rw [List.length_take]; omega) (texts_upto (hT.later hW) k) hAs (by decide) (by decide) (HL.out.later hW) (fun _ => by rw [if_pos rfl]; exact f2) e2)
        rw [bytes_of, List.length_drop] at H1
        rw [bytes_of, List.length_take, Nat.min_eq_left hkn] at H2
        have hkz2 : (k : Int) ≤ (xs.length : Int) := by omega
        have hkz3 : (k : Int) ≤ (cap : Int) := by omega
        clear e1 e2 f1 f2 hT hk
        go_enter Tryz.func6, Tryz.ntmps6
        go_wp2_with fail
        refine H0.out.mono ?_
        rintro e w1 ⟨rfl, hb⟩
        have Hb1 := Lib.hid hb
        clear hb
        go_wp2_with fail
        refine (H1.out _ Hb1.out).mono ?_
        rintro e w2 ⟨rfl, hb⟩
        have Hb2 := Lib.hid (Hb1.out.trans (hb.mono Hb1.out.size))
        clear hb
        go_wp2_with fail
        refine (H2.out _ Hb2.out).mono ?_
        rintro e w3 ⟨rfl, hb⟩
        have Hb3 := Lib.hid (Hb2.out.trans (hb.mono Hb2.out.size))
        clear hb
        go_wp2_with fail
        refine (H3.out _ Hb3.out).mono ?_
        rintro e w4 ⟨rfl, hb⟩
        have Hb4 := Lib.hid (Hb3.out.trans (hb.mono Hb3.out.size))
        clear hb
        go_wp2_with fail
        refine (HS.out _ Hb4.out).mono ?_
        rintro e w5 ⟨rfl, hb⟩
        have Hb5 := Lib.hid (Hb4.out.trans (hb.mono Hb4.out.size))
        clear hb
        go_wp2_with fail
        go_ret
        exact ⟨rfl, Hb5.out⟩
  · have h0' : (ch != 0) = true := by simpa using h0
    clear hT hch h0
    go_enter Tryz.func6, Tryz.ntmps6
    go_wp2_with fail
    refine H0.out.mono ?_
    rintro e w1 ⟨rfl, hb⟩
    have Hb1 := Lib.hid hb
    clear hb
    go_wp2_with fail
    refine (HS.out _ Hb1.out).mono ?_
    rintro e w2 ⟨rfl, hb⟩
    have Hb2 := Lib.hid (Hb1.out.trans (hb.mono Hb1.out.size))
    clear hb
    go_wp2_with fail
    go_ret
    exact ⟨rfl, Hb2.out⟩
theorem texts_form {w : World} {a : Option Addr} {len cap : Nat} {ss : List ByteArray}
    (h : (a = none ∧ len = 0 ∧ cap = 0 ∧ ss = []) ∨ ∃ x, a = some x ∧ len ≤ cap ∧ cap ≤ maxLen ∧ ss.length = cap ∧ (∀ i, i < ss.length → w.cell? (x.add i) = some (.string (ss.getD i ByteArray.empty))) ∧ ∀ s ∈ ss, s.size ≤ maxLen) :
    len ≤ cap ∧ cap ≤ maxLen ∧ (cap = 0 ∨ ∃ b off, a = some ⟨b, off, none⟩) := by
  rcases h with ⟨rfl, rfl, rfl, rfl⟩ | ⟨x, rfl, hl, hm, hz, hc, _⟩
  · exact ⟨Nat.le_refl _, Nat.zero_le _, .inl rfl⟩
  · refine ⟨hl, hm, ?_⟩
    by_cases h0 : cap = 0
    · exact .inl h0
    · right
      obtain ⟨b, off, spot⟩ := x
      have hspot : spot = none := by simpa [Addr.add] using World.cell?_spot (hc 0 (by omega))
      subst hspot
      exact ⟨b, off, rfl⟩
end Go.Proofs.YtnelbahohkjcnaaGreatDoor
