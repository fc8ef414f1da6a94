/-
  Ref, TkRMeant: texts merged.
-/
import Derived.Test.YtejgcnmbngdkiaaNOct
import Derived.Test.YtejgcnmbngdkiaaNText
import Derived.Test.YtejgcnmbngdkiaaTkRSkip
import Derived.Deep.QuietTactic
import Derived.BigQuiet
import Derived.WalkSmall
/-
  The contracts of the document's Ends, Begins, Stands.
-/
namespace Go.Proofs.Ytejgcnmbngdkiaa
section
open Go.RowKit

set_option maxHeartbeats 400000 in
theorem refEnds_any (s : ByteArray) (a : Int) (w : World) :
    Calls Try.prog 57 #[.string s, .int .i64 a] w fun e w' => e = .returned (.int .i64 (endsI s.data.toList a)) ∧ w = w' := by
  by_cases h : a < 0
  · have Hr := Lib.hid (endsI_neg s.data.toList a h)
    go_enter Try.func57, Try.ntmps57
    go_wp2_with fail
    go_ret
    exact ⟨ret_int Hr.out.symm, rfl⟩
  · obtain ⟨k, rfl⟩ := Int.eq_ofNat_of_zero_le (show 0 ≤ a by omega)
    rw [endsI_nat]
    by_cases hlt : k < s.size
    · have h0 : 0 < s.size - k := by omega
      have hx : 0 < (s.extract k s.size).size := by rw [ByteArray.size_extract]; omega
      have Hx := Lib.hid (ext_byte s k hlt hx)
      cases hp : preB (s.data.toList.drop k) [13, 10]
      · have ht : (((s.extract k s.size).extract 0 2).toList == [13, 10]) = false := by rw [crlf_eq]; exact hp
        have Hp := Lib.hid hp
        clear hp
        go_enter Try.func57, Try.ntmps57
        go_wp2_with fail
        all_goals
          generalize hc : (((s.extract k s.size)[0]'hx).toNat : Int) = c
          have Hc := Lib.hid hc
          clear hc
          refine (in_any _ _ _ (by decide)).mono ?_
          rintro e w1 ⟨rfl, rfl⟩
          cases hin : inB [13, 10] c
          · have Hin := Lib.hid hin
            clear hin
            go_wp2_with fail
            go_ret
            exact ⟨ret_int (by
              have e1 := Hc.out; rw [Hx.out] at e1
              have e2 : ¬ (c = 13 ∨ c = 10) := fun h => by have := (in_crlf c).2 h; rw [Hin.out] at this; cases this
              rw [endsN_none s k hlt Hp.out (by omega) (by omega)]; rfl), rfl⟩
          · have Hin := Lib.hid hin
            clear hin
            go_wp2_with fail
            go_ret
            exact ⟨ret_int (by
              have e1 := Hc.out; rw [Hx.out] at e1
              have e2 := (in_crlf c).1 Hin.out
              rw [endsN_one s k hlt Hp.out (by omega)]; rfl), rfl⟩
      · have ht : (((s.extract k s.size).extract 0 2).toList == [13, 10]) = true := by rw [crlf_eq]; exact hp
        have h1 : (1 : Int) < ((s.size - k : Nat) : Int) := by have := pre_two s k hp; omega
        have Hr := Lib.hid (endsN_two _ k hp)
        clear hp
        go_enter Try.func57, Try.ntmps57
        go_wp2_with fail
        go_ret
        exact ⟨ret_int (by rw [Hr.out]; rfl), rfl⟩
    · have Hr := Lib.hid (endsN_far s.data.toList k (by simp; omega))
      go_enter Try.func57, Try.ntmps57
      go_wp2_with fail
      go_ret
      exact ⟨ret_int (by rw [Hr.out]; rfl), rfl⟩

end
end Go.Proofs.Ytejgcnmbngdkiaa
/-
  The document's meant: what stands behind a backslash.
-/
namespace Go.Proofs.Ytejgcnmbngdkiaa
section
open Go.RowKit
set_option maxRecDepth 100000

/-- Digits to the base 8, as a number of any size. -/
def rawV (l : List UInt8) : Nat := l.foldl (fun n c => 8 * n + (c.toNat - 48)) 0
theorem rawV_snoc (l : List UInt8) (c : UInt8) : rawV (l ++ [c]) = 8 * rawV l + (c.toNat - 48) := by
  unfold rawV; rw [List.foldl_append]; rfl
theorem fold_mod (l : List UInt8) : ∀ a b : Nat, a % 256 = b % 256 → l.foldl (fun n c => (8 * n + (c.toNat - 48)) % 256) a % 256 = l.foldl (fun n c => 8 * n + (c.toNat - 48)) b % 256 := by
  induction l with
  | nil => exact fun a b h => h
  | cons c t ih =>
    intro a b h
    rw [List.foldl_cons, List.foldl_cons]
    exact ih _ _ (by omega)
theorem octV_raw (l : List UInt8) : octV l = rawV l % 256 := by
  have h1 := fold_mod l 0 0 rfl
  have h2 := octV_lt l
  unfold octV rawV at *
  omega
theorem rEnds_is (s : ByteArray) (k : Nat) {n : Nat} (h : endsN s.data.toList k = n) (w : World) : Calls Try.prog 57 #[.string s, .int .i64 (k : Int)] w fun e w' => e = .returned (.int .i64 (n : Int)) ∧ w = w' := by
  have := refEnds_any s (k : Int) w
  rw [endsI_nat, h] at this
  exact this
theorem endsN_drop (l : List UInt8) (k : Nat) : endsN (l.drop k) 0 = endsN l k := by
  unfold endsN
  rw [List.drop_zero, List.getElem?_drop, Nat.add_zero]
theorem letter_at : ∀ i : Fin 5, escC ((⟨#[110, 114, 116, 98, 102]⟩ : ByteArray)[i.1]'(show i.1 < 5 from i.2)) = (⟨#[10, 13, 9, 8, 12]⟩ : ByteArray)[i.1]'(show i.1 < 5 from i.2) := by decide
theorem letter_hit {c : UInt8} {i : Nat} (h : i < (⟨#[110, 114, 116, 98, 102]⟩ : ByteArray).size) (h2 : i < (⟨#[10, 13, 9, 8, 12]⟩ : ByteArray).size) (e : (c.toNat : Int) = (((⟨#[110, 114, 116, 98, 102]⟩ : ByteArray)[i]'h).toNat : Int)) : escC c = (⟨#[10, 13, 9, 8, 12]⟩ : ByteArray)[i]'h2 := by
  have hc : c = (⟨#[110, 114, 116, 98, 102]⟩ : ByteArray)[i]'h := UInt8.toNat_inj.1 (by omega)
  rw [hc]
  exact letter_at ⟨i, h⟩
theorem letter_text : ∀ i : Fin 5, (⟨#[10, 13, 9, 8, 12]⟩ : ByteArray).extract i.1 (i.1 + 1) = bytes [(⟨#[10, 13, 9, 8, 12]⟩ : ByteArray)[i.1]'(show i.1 < 5 from i.2)] := by decide
theorem letter_cut {i : Nat} (h : i < (⟨#[10, 13, 9, 8, 12]⟩ : ByteArray).size) : (⟨#[10, 13, 9, 8, 12]⟩ : ByteArray).extract i (i + 1) = bytes [(⟨#[10, 13, 9, 8, 12]⟩ : ByteArray)[i]'h] := letter_text ⟨i, h⟩
theorem letter_none {c : UInt8} (h : ∀ j, j < 5 → ∀ hj : j < (⟨#[110, 114, 116, 98, 102]⟩ : ByteArray).size, ¬ (c.toNat : Int) = (((⟨#[110, 114, 116, 98, 102]⟩ : ByteArray)[j]'hj).toNat : Int)) : escC c = c := by
  have h0 := h 0 (by decide) (by decide)
  have h1 := h 1 (by decide) (by decide)
  have h2 := h 2 (by decide) (by decide)
  have h3 := h 3 (by decide) (by decide)
  have h4 := h 4 (by decide) (by decide)
  have e0 : (((⟨#[110, 114, 116, 98, 102]⟩ : ByteArray)[0]'(by decide)).toNat : Int) = 110 := rfl
  have e1 : (((⟨#[110, 114, 116, 98, 102]⟩ : ByteArray)[1]'(by decide)).toNat : Int) = 114 := rfl
  have e2 : (((⟨#[110, 114, 116, 98, 102]⟩ : ByteArray)[2]'(by decide)).toNat : Int) = 116 := rfl
  have e3 : (((⟨#[110, 114, 116, 98, 102]⟩ : ByteArray)[3]'(by decide)).toNat : Int) = 98 := rfl
  have e4 : (((⟨#[110, 114, 116, 98, 102]⟩ : ByteArray)[4]'(by decide)).toNat : Int) = 102 := rfl
  unfold escC
  rw [if_neg (by omega), if_neg (by omega), if_neg (by omega), if_neg (by omega), if_neg (by omega)]
theorem one_text (s : ByteArray) (k : Nat) (h : k < s.size) : s.extract k (k + 1) = bytes [s[k]] := by
  refine bytes_eq ?_
  rw [Lib.extract_data, Nat.add_sub_cancel_left, drop_byte s k h]; rfl
theorem octAt_drop (l : List UInt8) (k m : Nat) : octAt (l.drop k) m = octAt l (k + m) := by
  unfold octAt; rw [List.getElem?_drop]
/-- A letter is no digit to the base 8, and no end of a line. -/
theorem letter_oct {c : UInt8} {t : List UInt8} (h : c.toNat = 110 ∨ c.toNat = 114 ∨ c.toNat = 116 ∨ c.toNat = 98 ∨ c.toNat = 102) : octN (c :: t) = 0 := by
  refine octN_unique (by omega) (fun m hm => absurd hm (by omega)) (fun _ => ?_)
  show octB c = false
  exact decide_eq_false (by omega)
theorem letter_vals {c : UInt8} {i : Nat} (h : i < (⟨#[110, 114, 116, 98, 102]⟩ : ByteArray).size) (e : (c.toNat : Int) = (((⟨#[110, 114, 116, 98, 102]⟩ : ByteArray)[i]'h).toNat : Int)) : c.toNat = 110 ∨ c.toNat = 114 ∨ c.toNat = 116 ∨ c.toNat = 98 ∨ c.toNat = 102 := by
  have h5 : i < 5 := h
  have hc : i = 0 ∨ i = 1 ∨ i = 2 ∨ i = 3 ∨ i = 4 := by omega
  rcases hc with rfl | rfl | rfl | rfl | rfl
  · have e0 : (((⟨#[110, 114, 116, 98, 102]⟩ : ByteArray)[0]'h).toNat : Int) = 110 := rfl
    omega
  · have e0 : (((⟨#[110, 114, 116, 98, 102]⟩ : ByteArray)[1]'h).toNat : Int) = 114 := rfl
    omega
  · have e0 : (((⟨#[110, 114, 116, 98, 102]⟩ : ByteArray)[2]'h).toNat : Int) = 116 := rfl
    omega
  · have e0 : (((⟨#[110, 114, 116, 98, 102]⟩ : ByteArray)[3]'h).toNat : Int) = 98 := rfl
    omega
  · have e0 : (((⟨#[110, 114, 116, 98, 102]⟩ : ByteArray)[4]'h).toNat : Int) = 102 := rfl
    omega

theorem rMeant_far (s : ByteArray) (k : Nat) (w : World) (hk : s.size ≤ k) :
    Calls Try.prog 58 #[.string s, .int .i64 (k : Int)] w fun e w' => e = .returned (.tuple #[.string ⟨#[]⟩, .int .i64 (-1)]) ∧ w = w' := by
  have hge : (s.size : Int) ≤ (k : Int) := by omega
  go_enter Try.func58, Try.ntmps58
  go_wp2_with fail
  go_ret2
  exact ⟨rfl, rfl⟩

set_option maxHeartbeats 4000000 in
theorem rMeant_any (s : ByteArray) (k : Nat) (w : World) (hs : s.size ≤ 1000000000) (hk : k < s.size) {r : List UInt8} {n : Nat} (hr : escL (s.data.toList.drop k) = (r, n)) :
    Calls Try.prog 58 #[.string s, .int .i64 (k : Int)] w fun e w' => e = .returned (.tuple #[.string (bytes r), .int .i64 ((k + n : Nat) : Int)]) ∧ Below w.heap.size w w' := by
  have hge : ¬ (s.size : Int) ≤ (k : Int) := by omega
  have hge' : decide ((s.size : Int) ≤ (k : Int)) = false := decide_eq_false hge
  obtain ⟨c, hc⟩ : ∃ c, s[k] = c := ⟨_, rfl⟩
  have hdr : s.data.toList.drop k = c :: s.data.toList.drop (k + 1) := by rw [drop_byte s k hk, hc]
  have hel := (esc_len (s.data.toList.drop k)).1
  rw [hr, List.length_drop, ← size_data] at hel
  simp only at hel
  obtain ⟨m, hm⟩ : ∃ m, endsN s.data.toList k = m := ⟨_, rfl⟩
  have HE := Lib.hid (fun W => rEnds_is s k hm W)
  have hmd : endsN (c :: s.data.toList.drop (k + 1)) 0 = m := by rw [← hdr, endsN_drop, hm]
  rw [hdr] at hr
  rcases Nat.eq_zero_or_pos m with rfl | hm0
  · obtain ⟨o, ho⟩ : ∃ o, octN (c :: s.data.toList.drop (k + 1)) = o := ⟨_, rfl⟩
    have hfive : (5 : Nat) ≤ (⟨#[110, 114, 116, 98, 102]⟩ : ByteArray).size := by decide
    have hk0 : (0 : Int) ≤ (k : Int) := by omega
    have hks : (k : Int) < (s.size : Int) := by omega
    have Hr := Lib.hid hr
    have Hmd := Lib.hid hmd
    have Ho := Lib.hid ho
    clear hr hmd ho hm
    go_enter Try.func58, Try.ntmps58
    go_wp2_with fail
    refine (HE.out _).mono ?_
    rintro e w1 ⟨rfl, rfl⟩
    go_wp2_with fail
    go_loopg [9] 5 (fun g v9 wx => ∃ i q : Nat, i + g = 5 ∧ v9 = .int .i64 i ∧ Aside (∀ j, j < i → ∀ hj : j < (⟨#[110, 114, 116, 98, 102]⟩ : ByteArray).size, ¬ (c.toNat : Int) = (((⟨#[110, 114, 116, 98, 102]⟩ : ByteArray)[j]'hj).toNat : Int)) ∧ w.drewN q = wx)
    case atStart => exact ⟨0, 0, by omega, rfl, fun j hj => absurd hj (by omega), rfl⟩
    case round =>
      obtain ⟨i, q, hi, rfl, HI, rfl⟩ := hrel
      cases gk with
      | zero =>
        obtain rfl : i = 5 := by omega
        have hz : ¬ (((5 : Nat) : Int) < 5) := by omega
        have HC := Lib.hid (letter_none HI.out)
        have HB0 := Lib.hid (below_drewN (Below.refl w.heap.size w) q)
        obtain ⟨W, hW⟩ : ∃ W, w.drewN q = W := ⟨_, rfl⟩
        rw [hW] at HB0 ⊢
        have HbW := Lib.hid HB0.out
        clear hW HB0 HI
        go_wp2_with fail
        go_loopg [10, 11] 3 (fun g v10 v11 wx => ∃ j x : Nat, j + g = 3 ∧ v10 = .int .i64 x ∧ v11 = .int .i64 j ∧ k + j ≤ s.size ∧ x < 8 ^ j ∧ Aside (∀ m, m < j → octAt (s.data.toList.drop k) m = true) ∧ Aside (rawV ((s.data.toList.drop k).take j) = x) ∧ W = wx)
        case atStart => exact ⟨0, 0, by omega, rfl, rfl, by omega, by decide, fun m hm => absurd hm (by omega), rfl, rfl⟩
        case round =>
          obtain ⟨j, x, hj, rfl, rfl, hkj, hx, HJ, HX, rfl⟩ := hrel
          cases gk with
          | zero =>
            obtain rfl : j = 3 := by omega
            have hz3 : ¬ (((3 : Nat) : Int) < 3) := by omega
            have Hj : Hid (o = 3) := Lib.hid (by rw [← Ho.out, ← hdr]; exact octN_unique (by omega) HJ.out (fun h => absurd h (by omega)))
            rcases Nat.eq_zero_or_pos 3 with hj0 | hj0
            · exact absurd hj0 (by decide)
            · have hrr := Hr.out
              rw [esc_oct Hmd.out (Ho.out.trans Hj.out) hj0, ← hdr, octV_raw, HX.out] at hrr
              obtain ⟨rfl, rfl⟩ : [UInt8.ofNat (x % 256)] = r ∧ 3 = n := by injection hrr with a b; exact ⟨a, b⟩
              have hx6 : x < 512 := Nat.lt_of_lt_of_le hx (Nat.pow_le_pow_right (n := 8) (by decide) (show 3 ≤ 3 by omega))
              have hconv := conv_one W (UInt8.ofNat (x % 256)) ((x : Int) % 256) (by rw [UInt8.toNat_ofNat']; omega)
              have hjz : (0 : Int) < ((3 : Nat) : Int) := by omega
              clear hrr hx
              go_wp2_with fail
              exact bodyPost_ret (v := .tuple #[.string (bytes [UInt8.ofNat (x % 256)]), .int .i64 ((k : Int) + ((3 : Nat) : Int))]) (by simp [results, Try.results58, go_sem]) rfl ⟨rfl, (HbW.out.alloc HbW.out.size _)⟩
          | succ g =>
            have hz3 : (j : Int) < 3 := by omega
            have hj3 : j < 3 := by omega
            by_cases hin : k + j < s.size
            · have hinz : (k : Int) + (j : Int) < (s.size : Int) := by omega
              have hin0 : (0 : Int) ≤ (k : Int) + (j : Int) := by omega
              obtain ⟨d, hd⟩ : ∃ d, s[k + j] = d := ⟨_, rfl⟩
              have hoc : octAt (s.data.toList.drop k) j = octB d := by rw [octAt_drop, octAt_at hin, hd]
              by_cases h1 : 48 ≤ d.toNat
              · by_cases h2 : d.toNat ≤ 55
                · have h1' : (48 : Int) ≤ (d.toNat : Int) := by omega
                  have h2' : (d.toNat : Int) ≤ 55 := by omega
                  have Hst : Hid (∀ m, m < j + 1 → octAt (s.data.toList.drop k) m = true) := Lib.hid (fun m hm => by
                    by_cases e : m = j
                    · rw [e, hoc]; exact decide_eq_true ⟨h1, h2⟩
                    · exact HJ.out m (by omega))
                  have Hx2 : Hid (rawV ((s.data.toList.drop k).take (j + 1)) = 8 * x + (d.toNat - 48)) := Lib.hid (by
                    have e : (s.data.toList.drop k).take (j + 1) = (s.data.toList.drop k).take j ++ [d] := by
                      rw [List.take_add_one, List.getElem?_drop, byte_at s (k + j) hin, hd]; rfl
                    rw [e, rawV_snoc, HX.out])
                  have Hlt : Hid (8 * x + (d.toNat - 48) < 8 ^ (j + 1)) := Lib.hid (by rw [Nat.pow_succ]; omega)
                  have hx6 : x < 512 := Nat.lt_of_lt_of_le hx (Nat.pow_le_pow_right (n := 8) (by decide) (show j ≤ 3 by omega))
                  have Hval : Hid (8 * (x : Int) + (d.toNat : Int) - 48 = ((8 * x + (d.toNat - 48) : Nat) : Int)) := Lib.hid (by omega)
                  clear h1 h2 hx hoc
                  go_wp2_with fail
                  go_roundg g
                  case measure => omega
                  case rel => exact ⟨j + 1, 8 * x + (d.toNat - 48), by omega, by rw [← Hval.out], by go_num, by omega, Hlt.out, Hst.out, Hx2.out, rfl⟩
                · have h1' : (48 : Int) ≤ (d.toNat : Int) := by omega
                  have h2' : ¬ (d.toNat : Int) ≤ 55 := by omega
                  have Hj : Hid (o = j) := Lib.hid (by rw [← Ho.out, ← hdr]; exact octN_unique (by omega) HJ.out (fun _ => by rw [hoc]; exact decide_eq_false (by omega)))
                  rcases Nat.eq_zero_or_pos j with hj0 | hj0
                  · subst hj0
                    obtain rfl : c = d := hc.symm.trans hd
                    have hrr := Hr.out
                    rw [esc_one Hmd.out (Ho.out.trans Hj.out), HC.out] at hrr
                    obtain ⟨rfl, rfl⟩ : [c] = r ∧ 1 = n := by injection hrr with a b; exact ⟨a, b⟩
                    have hone := one_text s k hk
                    rw [hc] at hone
                    clear hrr h1 h2 hoc
                    go_wp2_with fail
                    exact bodyPost_ret (v := .tuple #[.string (bytes [c]), .int .i64 ((k : Int) + 1)]) (by simp [results, Try.results58, go_sem]) rfl ⟨rfl, HbW.out⟩
                  · have hrr := Hr.out
                    rw [esc_oct Hmd.out (Ho.out.trans Hj.out) hj0, ← hdr, octV_raw, HX.out] at hrr
                    obtain ⟨rfl, rfl⟩ : [UInt8.ofNat (x % 256)] = r ∧ j = n := by injection hrr with a b; exact ⟨a, b⟩
                    have hx6 : x < 512 := Nat.lt_of_lt_of_le hx (Nat.pow_le_pow_right (n := 8) (by decide) (show j ≤ 3 by omega))
                    have hconv := conv_one W (UInt8.ofNat (x % 256)) ((x : Int) % 256) (by rw [UInt8.toNat_ofNat']; omega)
                    have hjz : (0 : Int) < ((j : Nat) : Int) := by omega
                    clear hrr hx h1 h2 hoc
                    go_wp2_with fail
                    exact bodyPost_ret (v := .tuple #[.string (bytes [UInt8.ofNat (x % 256)]), .int .i64 ((k : Int) + ((j : Nat) : Int))]) (by simp [results, Try.results58, go_sem]) rfl ⟨rfl, (HbW.out.alloc HbW.out.size _)⟩
              · have h1' : ¬ (48 : Int) ≤ (d.toNat : Int) := by omega
                have Hj : Hid (o = j) := Lib.hid (by rw [← Ho.out, ← hdr]; exact octN_unique (by omega) HJ.out (fun _ => by rw [hoc]; exact decide_eq_false (by omega)))
                rcases Nat.eq_zero_or_pos j with hj0 | hj0
                · subst hj0
                  obtain rfl : c = d := hc.symm.trans hd
                  have hrr := Hr.out
                  rw [esc_one Hmd.out (Ho.out.trans Hj.out), HC.out] at hrr
                  obtain ⟨rfl, rfl⟩ : [c] = r ∧ 1 = n := by injection hrr with a b; exact ⟨a, b⟩
                  have hone := one_text s k hk
                  rw [hc] at hone
                  clear hrr h1 hoc
                  go_wp2_with fail
                  exact bodyPost_ret (v := .tuple #[.string (bytes [c]), .int .i64 ((k : Int) + 1)]) (by simp [results, Try.results58, go_sem]) rfl ⟨rfl, HbW.out⟩
                · have hrr := Hr.out
                  rw [esc_oct Hmd.out (Ho.out.trans Hj.out) hj0, ← hdr, octV_raw, HX.out] at hrr
                  obtain ⟨rfl, rfl⟩ : [UInt8.ofNat (x % 256)] = r ∧ j = n := by injection hrr with a b; exact ⟨a, b⟩
                  have hx6 : x < 512 := Nat.lt_of_lt_of_le hx (Nat.pow_le_pow_right (n := 8) (by decide) (show j ≤ 3 by omega))
                  have hconv := conv_one W (UInt8.ofNat (x % 256)) ((x : Int) % 256) (by rw [UInt8.toNat_ofNat']; omega)
                  have hjz : (0 : Int) < ((j : Nat) : Int) := by omega
                  clear hrr hx h1 hoc
                  go_wp2_with fail
                  exact bodyPost_ret (v := .tuple #[.string (bytes [UInt8.ofNat (x % 256)]), .int .i64 ((k : Int) + ((j : Nat) : Int))]) (by simp [results, Try.results58, go_sem]) rfl ⟨rfl, (HbW.out.alloc HbW.out.size _)⟩
            · have hinz : ¬ (k : Int) + (j : Int) < (s.size : Int) := by omega
              have Hj : Hid (o = j) := Lib.hid (by rw [← Ho.out, ← hdr]; exact octN_unique (by omega) HJ.out (fun _ => octAt_far (by rw [List.length_drop, ← size_data]; omega)))
              rcases Nat.eq_zero_or_pos j with hj0 | hj0
              · subst hj0
                exact absurd hk (by omega)
              · have hrr := Hr.out
                rw [esc_oct Hmd.out (Ho.out.trans Hj.out) hj0, ← hdr, octV_raw, HX.out] at hrr
                obtain ⟨rfl, rfl⟩ : [UInt8.ofNat (x % 256)] = r ∧ j = n := by injection hrr with a b; exact ⟨a, b⟩
                have hx6 : x < 512 := Nat.lt_of_lt_of_le hx (Nat.pow_le_pow_right (n := 8) (by decide) (show j ≤ 3 by omega))
                have hconv := conv_one W (UInt8.ofNat (x % 256)) ((x : Int) % 256) (by rw [UInt8.toNat_ofNat']; omega)
                have hjz : (0 : Int) < ((j : Nat) : Int) := by omega
                clear hrr hx
                go_wp2_with fail
                exact bodyPost_ret (v := .tuple #[.string (bytes [UInt8.ofNat (x % 256)]), .int .i64 ((k : Int) + ((j : Nat) : Int))]) (by simp [results, Try.results58, go_sem]) rfl ⟨rfl, (HbW.out.alloc HbW.out.size _)⟩
      | succ g =>
        have hi5 : i < 5 := by omega
        have hf : i < (⟨#[110, 114, 116, 98, 102]⟩ : ByteArray).size := hi5
        have ht : i < (⟨#[10, 13, 9, 8, 12]⟩ : ByteArray).size := hi5
        have hiz : (i : Int) < 5 := by omega
        have hi0 : (0 : Int) ≤ (i : Int) := by omega
        have hd0 : (k : Int) < (s.size : Int) := by omega
        by_cases hh : (c.toNat : Int) = (((⟨#[110, 114, 116, 98, 102]⟩ : ByteArray)[i]'hf).toNat : Int)
        · have hv := letter_vals hf hh
          have hesc := letter_hit hf ht hh
          have hb : ((c.toNat : Int) == (((⟨#[110, 114, 116, 98, 102]⟩ : ByteArray)[i]'hf).toNat : Int)) = true := by simpa using hh
          have hcut := letter_cut ht
          have hrr := Hr.out
          rw [esc_one Hmd.out (letter_oct hv), hesc] at hrr
          obtain ⟨rfl, rfl⟩ : _ = r ∧ 1 = n := by injection hrr with a b; exact ⟨a, b⟩
          clear hrr
          go_wp2_with fail
          go_quiet (fail)
          have HbQ := Lib.hid (below_drewN (Below.refl w.heap.size w) (q + nq))
          go_wp2_with fail
          exact bodyPost_ret (v := .tuple #[.string (bytes [(⟨#[10, 13, 9, 8, 12]⟩ : ByteArray)[i]]), .int .i64 ((k : Int) + 1)]) (by simp [results, Try.results58, go_sem]) rfl ⟨rfl, HbQ.out⟩
        · have hb : ((c.toNat : Int) == (((⟨#[110, 114, 116, 98, 102]⟩ : ByteArray)[i]'hf).toNat : Int)) = false := by simpa using hh
          have Hst : Hid (∀ j, j < i + 1 → ∀ hj : j < (⟨#[110, 114, 116, 98, 102]⟩ : ByteArray).size, ¬ (c.toNat : Int) = (((⟨#[110, 114, 116, 98, 102]⟩ : ByteArray)[j]'hj).toNat : Int)) := Lib.hid (fun j hj hjf => by
            by_cases e : j = i
            · subst e; exact hh
            · exact HI.out j (by omega) hjf)
          clear hh
          go_wp2_with fail
          go_quiet (fail)
          go_wp2_with fail
          go_roundg g
          case measure => omega
          case rel => exact ⟨i + 1, _, by omega, by go_num, Hst.out, rfl⟩
  · have hrr := hr
    rw [esc_ends hmd hm0] at hrr
    obtain ⟨rfl, rfl⟩ : [] = r ∧ m = n := by injection hrr with a b; exact ⟨a, b⟩
    clear hrr hr hmd hm
    have hmz : (0 : Int) < (m : Int) := by omega
    go_enter Try.func58, Try.ntmps58
    go_wp2_with fail
    refine (HE.out _).mono ?_
    rintro e w1 ⟨rfl, rfl⟩
    go_wp2_with fail
    go_ret2
    exact ⟨by rw [Int.natCast_add]; rfl, Below.refl _ _⟩
end
end Go.Proofs.Ytejgcnmbngdkiaa
