/-
  runs.Encode: runs told shortly.
-/
import Derived.Test.YtaoeaadgcdoldaaRunPut
import Derived.WalkMore
import Derived.ScopeJumps
namespace Go.Proofs.Ytaoeaadgcdoldaa
open Go.RowKit

theorem Bld.lt {B b : Nat} {l : List UInt8} {w : World} (h : Bld B b l w) : b < w.heap.size := by
  have key : ∀ p, Lib.BuilderAtF 35 5 B b p (Lib.byteCells l) w → b < w.heap.size := by
    rintro p ⟨hB, x, hb, hown, hne⟩
    exact (Array.getElem?_eq_some_iff.1 hb).1
  exact h.elim (key _) (key _)
theorem pAlike_at (s : ByteArray) (k : Nat) (w : World) (hs : s.size ≤ 1000000) :
    Calls Try.prog 12 #[.string (s.extract k s.size)] w fun e w' => e = .returned (.int .i64 (headLen (s.data.toList.drop k) : Int)) ∧ ∃ q, w.drewN q = w' := by
  have := pAlike_any (s.extract k s.size) w (by rw [ByteArray.size_extract]; omega)
  rwa [Lib.extract_to_end] at this
theorem ext_size {s : ByteArray} {k n : Nat} (h : k + n ≤ s.size) : (s.extract k (k + n)).size = n := by rw [ByteArray.size_extract]; omega
theorem run_end (s : ByteArray) (k n B p : Nat) (out : List UInt8) (w : World) (h : PartAt B p out (s.extract k (k + n)) w) (hk : k + n ≤ s.size) (h3 : 3 ≤ n) (h1 : n ≤ 128) (hl : out.length ≤ 1000000) (hB : B ≤ w.heap.size) :
    Calls Try.prog 21 #[.pointer (some ⟨p, 0, none⟩), .pointer (some ⟨p + 1, 0, none⟩)] w fun e w' => e = .returned (.int .i64 (n : Int)) ∧ Bld B B (out ++ [UInt8.ofNat (257 - n), s[k]'(by omega)]) w' ∧ Below B w w' := by
  have hz := ext_size hk
  have h0 : (s.extract k (k + n))[0]'(by omega) = s[k]'(by omega) := by
    rw [ByteArray.getElem_extract]; rfl
  refine (run1_is B p out _ w h (by omega) (by omega) hl hB).mono ?_
  rintro e w' ⟨rfl, hb, hw⟩
  rw [h0] at hb
  simp only [hz] at hb
  exact ⟨by rw [hz], hb, hw⟩
theorem plain_end (s : ByteArray) (k n B p : Nat) (out : List UInt8) (w : World) (h : PartAt B p out (s.extract k (k + n)) w) (hk : k + n ≤ s.size) (h3 : 1 ≤ n) (h1 : n ≤ 128) (hl : out.length ≤ 1000000) (hB : B ≤ w.heap.size) :
    Calls Try.prog 22 #[.pointer (some ⟨p, 0, none⟩), .pointer (some ⟨p + 1, 0, none⟩)] w fun e w' => e = .returned (.int .i64 (n : Int)) ∧ Bld B B (out ++ ([UInt8.ofNat (n - 1)] ++ (s.data.toList.drop k).take n)) w' ∧ Below B w w' := by
  have hz := ext_size hk
  refine (plain1_is B p out _ w h (by omega) (by omega) hl hB).mono ?_
  rintro e w' ⟨rfl, hb, hw⟩
  rw [ext_take, List.append_assoc] at hb
  simp only [hz] at hb
  exact ⟨by rw [hz], hb, hw⟩

set_option maxRecDepth 100000 in
set_option maxHeartbeats 2000000 in
theorem pEnc_any (s : ByteArray) (w : World) (hs : s.size ≤ 100000) :
    Calls Try.prog 7 #[.string s] w fun e w' => e = .returned (.string ⟨(encAll s.data.toList).toArray⟩) ∧ Below w.heap.size w w' := by
  go_enter Try.func7, Try.ntmps7
  go_wp2_with fail
  go_step3
  go_wp2_with fail
  go_step3
  go_wp2_with fail
  go_loopg [5] s.size (fun g s5 wx => ∃ (k : Nat) (out : List UInt8), k + g = s.size ∧ s5 = .int .i64 k ∧ Aside (Bld w.heap.size w.heap.size out wx) ∧ out.length ≤ 2 * k ∧ Aside (encAll s.data.toList = out ++ encAll (s.data.toList.drop k)) ∧ Below w.heap.size w wx)
  case atStart => exact ⟨0, [], by omega, rfl, Bld.fresh w, by simp, rfl, (Below.refl _ w).alloc (Nat.le_refl _) _⟩
  case round =>
    obtain ⟨k, out, hkg, rfl, HO, hol, HE, hb⟩ := hrel
    have Hb := Lib.hid hb
    clear hb
    cases gk with
    | zero =>
      obtain rfl : k = s.size := by omega
      have Hr : Hid (encAll s.data.toList = out ++ [128]) := Lib.hid (by rw [HE.out, List.drop_of_length_le (by rw [← size_data]; exact Nat.le_refl _)]; rfl)
      clear hkg
      go_wp2_with fail
      refine (wbyte_is w.heap.size w.heap.size out 128 _ HO.out (by omega) Hb.out.size).mono ?_
      rintro e w2 ⟨rfl, hB2, hb2, -⟩
      have HB2 := Lib.hid hB2
      have Hb2 := Lib.hid (Hb.out.trans hb2)
      clear hB2 hb2
      go_wp2_with fail
      refine (string_is w.heap.size w.heap.size _ _ HB2.out Hb2.out.size).mono ?_
      rintro e w3 ⟨rfl, -, hb3, -⟩
      have Hb3 := Lib.hid (Hb2.out.trans hb3)
      clear hb3
      go_wp2_with fail
      rw [Exit.noGoto_ret]
      go_ret
      exact ⟨by rw [Hr.out]; rfl, Hb3.out⟩
    | succ g =>
      have hk : k < s.size := by omega
      have hkz : (k : Int) < (s.size : Int) := by omega
      have hkz' : (k : Int) ≤ (s.size : Int) := by omega
      have Hal := Lib.hid (fun W => pAlike_at s k W (by omega))
      obtain ⟨n, hn⟩ : ∃ n, headLen (s.data.toList.drop k) = n := ⟨_, rfl⟩
      have hle := headLen_le (s.data.toList.drop k)
      have hlen : (s.data.toList.drop k).length = s.size - k := by rw [List.length_drop, ← size_data]
      have hal := headLen_alike (s.data.toList.drop k)
      rw [hn] at Hal hle hal
      by_cases hn3 : 3 ≤ n
      · have ha := hal.1 hn3
        have hrl : runLen s[k] 128 (s.data.toList.drop k) = n := by rw [← hn, drop_at hk]; rfl
        have Hnext := Lib.hid (enc_run_at hk ha hrl)
        have hkn : k + n ≤ s.size := by omega
        have hn128 : n ≤ 128 := hle.1
        have q2 : ((k : Int) + (n : Int)).toNat = k + n := by omega
        have hn3z : (3 : Int) ≤ (n : Int) := by omega
        have hknz : (k : Int) + (n : Int) ≤ (s.size : Int) := by omega
        clear ha hrl hal hle hlen hn
        go_wp2_with fail
        refine (Hal.out _).mono ?_
        rintro e w1 ⟨rfl, q1, rfl⟩
        go_wp2_with fail
        refine (run_is _ _ _).mono ?_
        rintro e w1 ⟨rfl, rfl⟩
        go_wp2_with fail
        refine (run_end s k n w.heap.size _ out _ (PartAt.made (w := wr.drewN q1) HO.out HO.out.lt _) hkn hn3 hn128 (by omega) (by have := Hb.out.size; simp; omega)).mono ?_
        rintro e w2 ⟨rfl, hB2, hb2⟩
        have HB2 := Lib.hid hB2
        have Hb2 := Lib.hid ((((below_drewN Hb.out q1).alloc Hb.out.size _).alloc (by have := Hb.out.size; simp; omega) _).trans hb2)
        clear hB2 hb2
        go_wp2_with fail
        go_roundg (g + 1 - n)
        case measure => omega
        case rel => exact ⟨k + n, _, by omega, by go_num, HB2.out, by simp; omega, by show _ = _; rw [HE.out, Hnext.out, List.append_assoc], Hb2.out⟩
      · have ha : alikeB (s.data.toList.drop k) = false := by
          cases h : alikeB (s.data.toList.drop k)
          · rfl
          · exact absurd (hal.2 h) hn3
        have Ha := Lib.hid ha
        have hn3z : ¬ (3 : Int) ≤ (n : Int) := by omega
        obtain ⟨R, hR1, hR2, hR3, hR4⟩ : ∃ R, R ≤ 128 ∧ k + R ≤ s.size ∧ 1 ≤ R ∧ (k + R = s.size ∨ R = 128) := by
          by_cases h : s.size - k < 128
          · exact ⟨s.size - k, by omega, by omega, by omega, .inl (by omega)⟩
          · exact ⟨128, by omega, by omega, by omega, .inr rfl⟩
        have hmin : min (128 : Int) ((s.size : Int) - (k : Int)) = (R : Int) := by omega
        have hstart : rawLen 128 (s.data.toList.drop k) = 1 + rawLen (128 - 1) (s.data.toList.drop (k + 1)) := by
          have := rawLen_more (s := s) (j := k) (m := 0) hk (by omega) ha
          simpa [Nat.add_comm] using this
        have Hstart := Lib.hid hstart
        clear ha hal hle hlen hn hstart
        go_wp2_with fail
        refine (Hal.out _).mono ?_
        rintro e w1 ⟨rfl, q1, rfl⟩
        go_wp2_with fail
        go_loopg [8] (R - 1) (fun g5 s8 wx => ∃ (m q : Nat), m + g5 = R ∧ s8 = .int .i64 m ∧ 1 ≤ m ∧ Aside (rawLen 128 (s.data.toList.drop k) = m + rawLen (128 - m) (s.data.toList.drop (k + m))) ∧ wr.drewN q = wx)
        case atStart => exact ⟨1, q1, by omega, rfl, Nat.le_refl _, Hstart.out, rfl⟩
        case round =>
          obtain ⟨m, q, hmg, rfl, hm1, HM, rfl⟩ := hrel
          have q2 : ((k : Int) + (m : Int)).toNat = k + m := by omega
          have hkmz : (k : Int) + (m : Int) ≤ (s.size : Int) := by omega
          have hm128 : m ≤ 128 := by omega
          have hkm : k + m ≤ s.size := by omega
          cases gk with
          | zero =>
            obtain rfl : m = R := by omega
            have hstop := rawLen_stop (s := s) (j := k + m) (m := m) (by rcases hR4 with h | h; exact .inl (by omega); exact .inr (.inr (by omega)))
            have Hnext := Lib.hid (enc_raw_at hk Ha.out (show rawLen 128 (s.data.toList.drop k) = m by rw [HM.out, hstop]; omega))
            clear hstop
            go_wp2_with fail
            refine (plain_is _ _ _).mono ?_
            rintro e w1 ⟨rfl, rfl⟩
            go_wp2_with fail
            refine (plain_end s k m w.heap.size _ out _ (PartAt.made (w := wr.drewN q) HO.out HO.out.lt _) hkm hm1 hm128 (by omega) (by have := Hb.out.size; simp; omega)).mono ?_
            rintro e w2 ⟨rfl, hB2, hb2⟩
            have HB2 := Lib.hid hB2
            have Hb2 := Lib.hid ((((below_drewN Hb.out q).alloc Hb.out.size _).alloc (by have := Hb.out.size; simp; omega) _).trans hb2)
            clear hB2 hb2
            go_wp2_with fail
            go_roundg (g + 1 - m)
            case measure => omega
            case rel => exact ⟨k + m, _, by omega, by go_num, HB2.out, by simp; omega, by show _ = _; rw [HE.out, Hnext.out, ← List.append_assoc], Hb2.out⟩
          | succ g5 =>
            have hj : k + m < s.size := by omega
            have hmz : (m : Int) < (R : Int) := by omega
            have Hal2 := Lib.hid (fun W => pAlike_at s (k + m) W (by omega))
            obtain ⟨n2, hn2⟩ : ∃ n2, headLen (s.data.toList.drop (k + m)) = n2 := ⟨_, rfl⟩
            have hal2 := headLen_alike (s.data.toList.drop (k + m))
            rw [hn2] at Hal2 hal2
            by_cases h2 : 3 ≤ n2
            · have h2z : (3 : Int) ≤ (n2 : Int) := by omega
              have hstop := rawLen_stop (s := s) (j := k + m) (m := m) (.inr (.inl (hal2.1 h2)))
              have Hnext := Lib.hid (enc_raw_at hk Ha.out (show rawLen 128 (s.data.toList.drop k) = m by rw [HM.out, hstop]; omega))
              clear hstop hal2 hn2
              go_wp2_with fail
              refine (Hal2.out _).mono ?_
              rintro e w1 ⟨rfl, q5, rfl⟩
              go_wp2_with fail
              refine (plain_is _ _ _).mono ?_
              rintro e w1 ⟨rfl, rfl⟩
              go_wp2_with fail
              refine (plain_end s k m w.heap.size _ out _ (PartAt.made (w := wr.drewN (q + q5)) HO.out HO.out.lt _) hkm hm1 hm128 (by omega) (by have := Hb.out.size; simp; omega)).mono ?_
              rintro e w2 ⟨rfl, hB2, hb2⟩
              have HB2 := Lib.hid hB2
              have Hb2 := Lib.hid ((((below_drewN Hb.out (q + q5)).alloc Hb.out.size _).alloc (by have := Hb.out.size; simp; omega) _).trans hb2)
              clear hB2 hb2
              go_wp2_with fail
              go_roundg (g + 1 - m)
              case measure => omega
              case rel => exact ⟨k + m, _, by omega, by go_num, HB2.out, by simp; omega, by show _ = _; rw [HE.out, Hnext.out, ← List.append_assoc], Hb2.out⟩
            · have h2z : ¬ (3 : Int) ≤ (n2 : Int) := by omega
              have h2a : alikeB (s.data.toList.drop (k + m)) = false := by
                cases h : alikeB (s.data.toList.drop (k + m))
                · rfl
                · exact absurd (hal2.2 h) h2
              have Hm := Lib.hid (rawLen_more (m := m) hj (by omega) h2a)
              clear h2a hal2 hn2
              go_wp2_with fail
              refine (Hal2.out _).mono ?_
              rintro e w1 ⟨rfl, q5, rfl⟩
              go_wp2_with fail
              go_roundg g5
              case measure => omega
              case rel => exact ⟨m + 1, _, by omega, by go_num, by omega, by show _ = _; rw [HM.out, Hm.out, show k + (m + 1) = k + m + 1 from by omega]; omega, rfl⟩

end Go.Proofs.Ytaoeaadgcdoldaa
