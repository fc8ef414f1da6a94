/-
  The contracts of the document's Pad, Fixed, Loose, Read.
-/
import Derived.Test.YtnjmapgmodoodaaDRef
namespace Go.Proofs.Ytnjmapgmodoodaa
open Go.RowKit

/-- Two results: a text and a number. -/
def TextAnd (r : List UInt8 × Int) : Ending := .returned (.tuple #[.string (bytes r.1), .int .i64 r.2])
/-- Two results: two numbers. -/
def TwoInts (r : Int × Int) : Ending := .returned (.tuple #[.int .i64 r.1, .int .i64 r.2])
theorem textAnd_mk {u : ByteArray} {b : Int} {r : List UInt8 × Int} (h : (u.data.toList, b) = r) : Ending.returned (.tuple #[.string u, .int .i64 b]) = TextAnd r := by
  subst h; unfold TextAnd; rw [bytes_of]
theorem twoInts_mk {a b : Int} {r : Int × Int} (h : (a, b) = r) : Ending.returned (.tuple #[.int .i64 a, .int .i64 b]) = TwoInts r := by subst h; rfl

theorem padL_arg {n width : Int} (h : width < 1 ∨ 20 < width) : padL n width = ([], 2) := by unfold padL; rw [if_pos h]
theorem padL_range {n width : Int} (h : ¬ (width < 1 ∨ 20 < width)) (h' : n < 0 ∨ width < ((putL n).length : Int)) : padL n width = ([], 3) := by unfold padL; rw [if_neg h, if_pos h']
theorem padL_ok {n width : Int} (h : ¬ (width < 1 ∨ 20 < width)) (h' : ¬ (n < 0 ∨ width < ((putL n).length : Int))) : padL n width = (List.replicate (width.toNat - (putL n).length) 48 ++ putL n, 0) := by unfold padL; rw [if_neg h, if_neg h']

set_option maxRecDepth 100000 in
set_option maxHeartbeats 1000000 in
theorem rFixed_any (s : ByteArray) (w : World) (hs : s.size ≤ maxLen) :
    Calls Try.prog 49 #[.string s] w fun e w' => e = TwoInts (fixL s.data.toList) ∧ w = w' := by
  have hs' := hs
  unfold maxLen at hs
  by_cases h0 : s.data.toList = []
  · have he := isEmpty_of h0
    have Hr : Hid (fixL s.data.toList = (0, 4)) := Lib.hid (by rw [h0]; exact fixL_empty)
    clear h0
    go_enter Try.func49, Try.ntmps49
    go_wp2_with fail
    go_ret2
    exact ⟨twoInts_mk (by rw [Hr.out]), rfl⟩
  · have he := isEmpty_not h0
    have H0 := Lib.hid h0
    clear h0
    have Hsz := Lib.hid (size_data s)
    by_cases hc : countN s.data.toList = s.size
    · have hq : ((countN s.data.toList : Int) != (s.size : Int)) = false := by simp [hc]
      have hd0 : decide (countN s.data.toList = s.size) = true := by simpa using hc
      have Hc := Lib.hid hc
      clear hc
      go_enter Try.func49, Try.ntmps49
      go_wp2_with fail
      refine (rCount_any s _ hs').mono ?_
      rintro e w1 ⟨rfl, rfl⟩
      rw [Hc.out]
      go_wp2_with fail
      go_loop [4, 5] (fun x i => ∃ k : Nat, k ≤ s.size ∧ i = .int .i64 k ∧ x = .int .i64 (valN (s.data.toList.take k) : Nat) ∧ valN (s.data.toList.take k) ≤ 2147483647) (fun _ i => s.size - (intOf i).toNat)
      case atStart => exact ⟨0, Nat.zero_le _, rfl, rfl, by simp [valN]⟩
      case round =>
        obtain ⟨k, hk, rfl, rfl, hv⟩ := hrel
        have Hc' : Hid (countN s.data.toList = s.data.toList.length) := Lib.hid (by rw [Hc.out, Hsz.out])
        by_cases hlt : k < s.size
        · have hdg := isDig_of (count_full Hc'.out s[k] (byte_mem s k hlt))
          have hst : valN (s.data.toList.take (k + 1)) = 10 * valN (s.data.toList.take k) + (s[k].toNat - 48) := by rw [take_snoc s k hlt, valN_snoc]
          have hmono := valN_take s.data.toList (k + 1)
          obtain ⟨v, hvv⟩ : ∃ v, valN (s.data.toList.take k) = v := ⟨_, rfl⟩
          obtain ⟨v', hvv'⟩ : ∃ v', valN (s.data.toList.take (k + 1)) = v' := ⟨_, rfl⟩
          rw [hvv] at hv hst
          rw [hvv'] at hst hmono
          rw [hvv]
          obtain ⟨hd1, hd2⟩ := hdg
          have hst' : (v' : Int) = 10 * (v : Int) + (s[k].toNat : Int) - 48 := by omega
          have Hst := Lib.hid hst'
          have Hv' := Lib.hid hvv'
          clear hst hst' hvv hvv'
          by_cases hb : 2147483647 < v'
          · have Hr := Lib.hid (fixL_big H0.out Hc'.out (show 2147483647 < valN s.data.toList by omega))
            have hb' : (2147483647 : Int) < 10 * (v : Int) + (s[k].toNat : Int) - 48 := by have := Hst.out; omega
            clear hmono hb
            go_wp2_with fail
            go_ret2
            exact ⟨twoInts_mk (by rw [Hr.out]), rfl⟩
          · have hb' : ¬ (2147483647 : Int) < 10 * (v : Int) + (s[k].toNat : Int) - 48 := by have := Hst.out; omega
            clear hmono
            go_wp2_with fail
            go_round
            case rel => exact ⟨k + 1, by omega, by go_num, by rw [Hv'.out, Hst.out], by rw [Hv'.out]; omega⟩
            case measure => simp [intOf]; omega
        · obtain rfl : k = s.size := by omega
          have hall : s.data.toList.take s.size = s.data.toList := List.take_of_length_le (by rw [Hsz.out]; exact Nat.le_refl _)
          rw [hall] at hv ⊢
          have Hr := Lib.hid (fixL_ok H0.out Hc'.out hv)
          clear hall
          go_wp2_with fail
          go_ret2
          exact ⟨twoInts_mk (by rw [Hr.out]), rfl⟩
    · have Hr : Hid (fixL s.data.toList = (0, 4)) := Lib.hid (fixL_form (by rw [← Hsz.out]; exact hc))
      have hq : ((countN s.data.toList : Int) != (s.size : Int)) = true := by rw [bne_iff_ne]; omega
      clear hc
      go_enter Try.func49, Try.ntmps49
      go_wp2_with fail
      refine (rCount_any s _ hs').mono ?_
      rintro e w1 ⟨rfl, rfl⟩
      go_wp2_with fail
      go_ret2
      exact ⟨twoInts_mk (by rw [Hr.out]), rfl⟩

theorem rFixed_is (s : ByteArray) (w : World) (hs : s.size ≤ maxLen) {a b : Int} (h : fixL s.data.toList = (a, b)) :
    Calls Try.prog 49 #[.string s] w fun e w' => e = .returned (.tuple #[.int .i64 a, .int .i64 b]) ∧ w = w' := by
  have := rFixed_any s w hs
  rw [h] at this; exact this

theorem first_byte {s : ByteArray} {c : UInt8} {t : List UInt8} (h : s.data.toList = c :: t) : 0 < s.size ∧ ∀ h0 : 0 < s.size, s[0] = c := by
  have h0 : 0 < s.size := by rw [size_data, h]; simp
  refine ⟨h0, fun _ => ?_⟩
  have := byte_at s 0 h0
  rw [h] at this
  exact (Option.some.inj this).symm
theorem rest_bytes {s : ByteArray} {c : UInt8} {t : List UInt8} (h : s.data.toList = c :: t) : (s.extract 1 s.size).data.toList = t := by
  rw [Lib.extract_to_end, h]; rfl

set_option maxRecDepth 100000 in
set_option maxHeartbeats 1000000 in
theorem rLoose_any (s : ByteArray) (w : World) (hs : s.size ≤ maxLen) :
    Calls Try.prog 36 #[.string s] w fun e w' => e = TwoInts (looseL s.data.toList) ∧ w = w' := by
  have hes : (s.extract 1 s.size).size ≤ maxLen := by rw [ByteArray.size_extract]; omega
  cases hl : s.data.toList with
  | nil =>
    have he := isEmpty_of hl
    have Hf : Hid (fixL s.data.toList = (0, 4)) := Lib.hid (by rw [hl]; exact fixL_empty)
    clear hl
    go_enter Try.func36, Try.ntmps36
    go_wp2_with fail
    refine (rFixed_is s _ hs Hf.out).mono ?_
    rintro e w1 ⟨rfl, rfl⟩
    go_wp2_with fail
    go_ret2
    exact ⟨twoInts_mk rfl, rfl⟩
  | cons c t =>
    obtain ⟨h0, hc'⟩ := first_byte hl
    have hc := hc' h0
    clear hc'
    have he := isEmpty_not (show ¬ s.data.toList = [] by rw [hl]; simp)
    have hb := fixL_bound t
    obtain ⟨a, b, hf⟩ : ∃ a b, fixL t = (a, b) := ⟨_, _, rfl⟩
    rw [hf] at hb
    obtain ⟨hb0, hb1⟩ := hb
    by_cases h45 : (c.toNat : Int) = 45
    · have Hf : Hid (fixL (s.extract 1 s.size).data.toList = (a, b)) := Lib.hid (by rw [rest_bytes hl]; exact hf)
      have Hr : Hid (looseL (c :: t) = (-a, b)) := Lib.hid (by show (if (c.toNat : Int) = 45 then _ else _) = _; rw [if_pos h45, hf])
      have h1 : ((s[0].toNat : Int) == 45) = true := by rw [hc]; exact beq_iff_eq.2 h45
      have h2 : ((s[0].toNat : Int) == 43) = false := by rw [hc]; exact beq_eq_false_iff_ne.2 (by omega)
      clear hc hl hf h45
      go_enter Try.func36, Try.ntmps36
      go_wp2_with fail
      refine (rFixed_is _ _ hes Hf.out).mono ?_
      rintro e w1 ⟨rfl, rfl⟩
      go_wp2_with fail
      go_ret2
      exact ⟨twoInts_mk (by rw [Hr.out]), rfl⟩
    · by_cases h43 : (c.toNat : Int) = 43
      · have Hf : Hid (fixL (s.extract 1 s.size).data.toList = (a, b)) := Lib.hid (by rw [rest_bytes hl]; exact hf)
        have Hr : Hid (looseL (c :: t) = (a, b)) := Lib.hid (by show (if (c.toNat : Int) = 45 then _ else _) = _; rw [if_neg h45, if_pos h43, hf])
        have h1 : ((s[0].toNat : Int) == 45) = false := by rw [hc]; exact beq_eq_false_iff_ne.2 h45
        have h2 : ((s[0].toNat : Int) == 43) = true := by rw [hc]; exact beq_iff_eq.2 h43
        clear hc hl hf h45 h43
        go_enter Try.func36, Try.ntmps36
        go_wp2_with fail
        refine (rFixed_is _ _ hes Hf.out).mono ?_
        rintro e w1 ⟨rfl, rfl⟩
        go_wp2_with fail
        go_ret2
        exact ⟨twoInts_mk (by rw [Hr.out]), rfl⟩
      · obtain ⟨a', b', hf'⟩ : ∃ a' b', fixL s.data.toList = (a', b') := ⟨_, _, rfl⟩
        have Hr : Hid (looseL (c :: t) = (a', b')) := Lib.hid (by show (if (c.toNat : Int) = 45 then _ else _) = _; rw [if_neg h45, if_neg h43, ← hl, hf'])
        have h1 : ((s[0].toNat : Int) == 45) = false := by rw [hc]; exact beq_eq_false_iff_ne.2 h45
        have h2 : ((s[0].toNat : Int) == 43) = false := by rw [hc]; exact beq_eq_false_iff_ne.2 h43
        have Hf := Lib.hid hf'
        clear hc hl hf hf' h45 h43
        go_enter Try.func36, Try.ntmps36
        go_wp2_with fail
        refine (rFixed_is s _ hs Hf.out).mono ?_
        rintro e w1 ⟨rfl, rfl⟩
        go_wp2_with fail
        go_ret2
        exact ⟨twoInts_mk (by rw [Hr.out]), rfl⟩

end Go.Proofs.Ytnjmapgmodoodaa
