/-
  HOne, HRef, HRef2: texts merged.
-/
import Derived.Test.YtljgjjbmgjfbcaaDoorRows
import Derived.Test.YtljgjjbmgjfbcaaDoorMBas
import Derived.WalkKit
import Derived.WalkSpells
import Derived.WalkLawsBesides
import Derived.Lib.Hide
import Derived.Deep.QuietTactic
import Derived.BigQuiet
import Derived.Test.YtljgjjbmgjfbcaaDoorMOwn
import Derived.Deep.LoopGhost
import Derived.Deep.RegionWith
/-
  The contracts of the document's Kind, Hex, Digit of one byte, where the program's own are not reached.
-/
namespace Go.Proofs.YtljgjjbmgjfbcaaDoor
section
open Go.RowKit

set_option maxHeartbeats 1000000 in
theorem in_any (s : ByteArray) (c : Int) (w : World) (hs : s.size ≤ maxLen) :
    Calls Tryd.prog 49 #[.string s, .int .u8 c] w fun e w' => e = .returned (.bool (inB s.data.toList c)) ∧ w = w' := by
  unfold maxLen at hs
  go_enter Tryd.func49, Tryd.ntmps49
  go_wp2
  go_loop [5] (fun i => ∃ k : Nat, k ≤ s.size ∧ i = .int .i64 k ∧ inB (s.data.toList.take k) c = false) (fun i => s.size - (intOf i).toNat)
  case atStart => exact ⟨0, Nat.zero_le _, rfl, rfl⟩
  case round =>
    obtain ⟨k, hk, rfl, hno⟩ := hrel
    have Hno := Lib.hid hno
    clear hno
    by_cases hlt : k < s.size
    · have hts := take_snoc s k hlt
      have Hts := Lib.hid hts
      clear hts
      have hm := byte_mem s k hlt
      by_cases hc : (s[k].toNat : Int) = c
      · have Hr : Hid (inB s.data.toList c = true) := Lib.hid (inB_mem hm hc)
        subst hc
        go_wp2
        go_ret
        exact ⟨ret_bool Hr.out.symm, rfl⟩
      · have hc' : ((s[k].toNat : Int) == c) = false := by simpa using hc
        have Hr : Hid (inB (s.data.toList.take (k + 1)) c = false) := Lib.hid (by rw [Hts.out, inB_snoc, Hno.out]; simpa using hc)
        clear hc
        go_wp2
        go_round
        case rel => exact ⟨k + 1, by omega, by go_num, Hr.out⟩
        case measure => simp [intOf]; omega
    · have Hr : Hid (inB s.data.toList c = false) := Lib.hid (by have h := Hno.out; rwa [List.take_of_length_le (by simp; omega)] at h)
      go_wp2
      go_ret
      exact ⟨ret_bool Hr.out.symm, rfl⟩

theorem kind_white (c : Int) : inB [0, 9, 10, 12, 13, 32] c = true → kindI c = 0 := by
  intro h; simp [inB] at h; unfold kindI; rw [if_pos (by omega)]
theorem kind_delim (c : Int) : inB [0, 9, 10, 12, 13, 32] c = false → inB [40, 41, 60, 62, 91, 93, 123, 125, 47, 37] c = true → kindI c = 1 := by
  intro h h'; simp [inB] at h h'; unfold kindI; rw [if_neg (by omega), if_pos (by omega)]
theorem kind_regular (c : Int) : inB [0, 9, 10, 12, 13, 32] c = false → inB [40, 41, 60, 62, 91, 93, 123, 125, 47, 37] c = false → kindI c = 2 := by
  intro h h'; simp [inB] at h h'; unfold kindI; rw [if_neg (by omega), if_neg (by omega)]

set_option maxHeartbeats 1000000 in
theorem refKind_any (c : Int) (w : World) :
    Calls Tryd.prog 29 #[.int .u8 c] w fun e w' => e = .returned (.int .i64 (kindI c)) ∧ w = w' := by
  cases h1 : inB [0, 9, 10, 12, 13, 32] c
  · cases h2 : inB [40, 41, 60, 62, 91, 93, 123, 125, 47, 37] c
    · have Hr := Lib.hid (kind_regular c h1 h2)
      have H1 := Lib.hid h1
      have H2 := Lib.hid h2
      clear h1 h2
      go_enter Tryd.func29, Tryd.ntmps29
      go_wp2_with fail
      refine (in_any _ _ _ (by decide)).mono ?_
      rintro e w1 ⟨rfl, rfl⟩
      rw [H1.out]
      go_wp2_with fail
      refine (in_any _ _ _ (by decide)).mono ?_
      rintro e w1 ⟨rfl, rfl⟩
      rw [H2.out]
      go_wp2_with fail
      go_ret
      exact ⟨ret_int Hr.out.symm, rfl⟩
    · have Hr := Lib.hid (kind_delim c h1 h2)
      have H1 := Lib.hid h1
      have H2 := Lib.hid h2
      clear h1 h2
      go_enter Tryd.func29, Tryd.ntmps29
      go_wp2_with fail
      refine (in_any _ _ _ (by decide)).mono ?_
      rintro e w1 ⟨rfl, rfl⟩
      rw [H1.out]
      go_wp2_with fail
      refine (in_any _ _ _ (by decide)).mono ?_
      rintro e w1 ⟨rfl, rfl⟩
      rw [H2.out]
      go_wp2_with fail
      go_ret
      exact ⟨ret_int Hr.out.symm, rfl⟩
  · have Hr := Lib.hid (kind_white c h1)
    have H1 := Lib.hid h1
    clear h1
    go_enter Tryd.func29, Tryd.ntmps29
    go_wp2_with fail
    refine (in_any _ _ _ (by decide)).mono ?_
    rintro e w1 ⟨rfl, rfl⟩
    rw [H1.out]
    go_wp2_with fail
    go_ret
    exact ⟨ret_int Hr.out.symm, rfl⟩

set_option maxHeartbeats 1000000 in
theorem refDigit_any (n : Int) (w : World) (h0 : -9223372036854775808 ≤ n) (h1 : n ≤ 9223372036854775807) :
    Calls Tryd.prog 50 #[.int .i64 n] w fun e w' => e = .returned (.int .u8 (digitI n)) ∧ w = w' := by
  by_cases h : n < 0 ∨ 15 < n
  · rcases h with h | h
    all_goals
      go_enter Tryd.func50, Tryd.ntmps50
      go_wp2
      go_ret
      exact ⟨ret_int (by unfold digitI; repeat (first | rw [if_pos (by omega)] | rw [if_neg (by omega)])), rfl⟩
  · have hc : n = 0 ∨ n = 1 ∨ n = 2 ∨ n = 3 ∨ n = 4 ∨ n = 5 ∨ n = 6 ∨ n = 7 ∨ n = 8 ∨ n = 9 ∨ n = 10 ∨ n = 11 ∨ n = 12 ∨ n = 13 ∨ n = 14 ∨ n = 15 := by omega
    clear h h0 h1
    rcases hc with rfl | rfl | rfl | rfl | rfl | rfl | rfl | rfl | rfl | rfl | rfl | rfl | rfl | rfl | rfl | rfl
    all_goals
      go_enter Tryd.func50, Tryd.ntmps50
      go_wp2
      go_ret
      exact ⟨ret_int (by decide), rfl⟩

/-- What the loop of the document's Hex still has ahead of it. -/
def hexFrom (c : Int) (k : Nat) : Prop := hexI c = -1 ∨ (k : Int) ≤ hexI c

theorem hexFrom_zero (c : Int) : hexFrom c 0 := by unfold hexFrom hexI; omega
theorem hexFrom_last (c : Int) (h : hexFrom c 16) : hexI c = -1 := by
  unfold hexFrom at h; unfold hexI at *; omega

theorem digitsD (k : Nat) (h : k < (⟨#[48, 49, 50, 51, 52, 53, 54, 55, 56, 57, 65, 66, 67, 68, 69, 70]⟩ : ByteArray).size) :
    (((⟨#[48, 49, 50, 51, 52, 53, 54, 55, 56, 57, 65, 66, 67, 68, 69, 70]⟩ : ByteArray)[k]'h).toNat : Int) = if k < 10 then 48 + (k : Int) else 55 + (k : Int) := by
  have : ∀ k : Fin 16, (((⟨#[48, 49, 50, 51, 52, 53, 54, 55, 56, 57, 65, 66, 67, 68, 69, 70]⟩ : ByteArray)[k.1]'k.2).toNat : Int) = if k.1 < 10 then 48 + (k.1 : Int) else 55 + (k.1 : Int) := by decide
  exact this ⟨k, h⟩
theorem digitsE (k : Nat) (h : k < (⟨#[48, 49, 50, 51, 52, 53, 54, 55, 56, 57, 97, 98, 99, 100, 101, 102]⟩ : ByteArray).size) :
    (((⟨#[48, 49, 50, 51, 52, 53, 54, 55, 56, 57, 97, 98, 99, 100, 101, 102]⟩ : ByteArray)[k]'h).toNat : Int) = if k < 10 then 48 + (k : Int) else 87 + (k : Int) := by
  have : ∀ k : Fin 16, (((⟨#[48, 49, 50, 51, 52, 53, 54, 55, 56, 57, 97, 98, 99, 100, 101, 102]⟩ : ByteArray)[k.1]'k.2).toNat : Int) = if k.1 < 10 then 48 + (k.1 : Int) else 87 + (k.1 : Int) := by decide
  exact this ⟨k, h⟩

theorem hex_hitD (c : Int) (k : Nat) (h : k < (⟨#[48, 49, 50, 51, 52, 53, 54, 55, 56, 57, 65, 66, 67, 68, 69, 70]⟩ : ByteArray).size) (e : (((⟨#[48, 49, 50, 51, 52, 53, 54, 55, 56, 57, 65, 66, 67, 68, 69, 70]⟩ : ByteArray)[k]'h).toNat : Int) = c) : hexI c = k := by
  rw [digitsD k h] at e
  have h' : k < 16 := h
  unfold hexI; split at e <;> repeat (first | rw [if_pos (by omega)] | rw [if_neg (by omega)] | omega)
theorem hex_hitE (c : Int) (k : Nat) (h : k < (⟨#[48, 49, 50, 51, 52, 53, 54, 55, 56, 57, 97, 98, 99, 100, 101, 102]⟩ : ByteArray).size) (e : (((⟨#[48, 49, 50, 51, 52, 53, 54, 55, 56, 57, 97, 98, 99, 100, 101, 102]⟩ : ByteArray)[k]'h).toNat : Int) = c) : hexI c = k := by
  rw [digitsE k h] at e
  have h' : k < 16 := h
  unfold hexI; split at e <;> repeat (first | rw [if_pos (by omega)] | rw [if_neg (by omega)] | omega)
theorem hex_miss (c : Int) (k : Nat) (h : k < (⟨#[48, 49, 50, 51, 52, 53, 54, 55, 56, 57, 65, 66, 67, 68, 69, 70]⟩ : ByteArray).size) (h2 : k < (⟨#[48, 49, 50, 51, 52, 53, 54, 55, 56, 57, 97, 98, 99, 100, 101, 102]⟩ : ByteArray).size)
    (e : ¬ (((⟨#[48, 49, 50, 51, 52, 53, 54, 55, 56, 57, 65, 66, 67, 68, 69, 70]⟩ : ByteArray)[k]'h).toNat : Int) = c)
    (e2 : ¬ (((⟨#[48, 49, 50, 51, 52, 53, 54, 55, 56, 57, 97, 98, 99, 100, 101, 102]⟩ : ByteArray)[k]'h2).toNat : Int) = c) (hf : hexFrom c k) : hexFrom c (k + 1) := by
  rw [digitsD k h] at e
  rw [digitsE k h2] at e2
  have h' : k < 16 := h
  unfold hexFrom hexI at *; split at e <;> split at e2 <;> omega

end
end Go.Proofs.YtljgjjbmgjfbcaaDoor
/-
  The contracts of the document's Encode and Decode of hexadecimal digits.
-/
namespace Go.Proofs.YtljgjjbmgjfbcaaDoor
section
open Go.RowKit
set_option maxRecDepth 100000

theorem rDigit_is (n : Nat) (w : World) (h : n < 16) : Calls Tryd.prog 50 #[.int .i64 (n : Int)] w fun e w' => e = .returned (.int .u8 ((digB n).toNat : Int)) ∧ w = w' := by
  rw [digB_nat h]
  exact refDigit_any (n : Int) w (by omega) (by omega)
theorem encD_take {s : ByteArray} {k : Nat} (h : k < s.size) : encD (s.data.toList.take (k + 1)) = encD (s.data.toList.take k) ++ [digB (s[k].toNat / 16), digB (s[k].toNat % 16)] := by
  rw [take_snoc s k h, encD_snoc]

set_option maxHeartbeats 1000000 in
theorem rEncH_any (s : ByteArray) (w : World) (hs : s.size ≤ 1000000) :
    Calls Tryd.prog 30 #[.string s] w fun e w' => e = .returned (.string (bytes (encH s.data.toList))) ∧ Below w.heap.size w w' := by
  go_enter Tryd.func30, Tryd.ntmps30
  go_wp2_with fail
  go_loopg [3, 4] s.size (fun g s3 s4 wx => ∃ (k : Nat), k + g = s.size ∧ s4 = .int .i64 k ∧ Aside (Own8 wx w.heap.size s3 (encD (s.data.toList.take k))) ∧ Below w.heap.size w wx)
  case atStart => exact ⟨0, by omega, rfl, Own8.made w 0 #[] (Nat.le_refl _) (by decide) rfl, (Below.refl _ w).alloc (Nat.le_refl _) _⟩
  case round =>
    obtain ⟨k, hkg, rfl, HO, hb⟩ := hrel
    have Hb := Lib.hid hb
    clear hb
    cases gk with
    | zero =>
      obtain rfl : k = s.size := by omega
      have Hl : Hid (encD (s.data.toList.take s.size) = encD s.data.toList) := Lib.hid (by rw [List.take_of_length_le (by rw [← size_data]; exact Nat.le_refl _)])
      have hlen : (encD s.data.toList).length ≤ 2000000 := by rw [encD_length, ← size_data]; omega
      rw [Hl.out] at HO
      go_wp2_with (at_builtin; refine wpList_append8 rfl (.tmp 27) (.tmp 28) rfl w.heap.size _ (encD s.data.toList) rfl (HO.out.alloc _) ⟨wr.heap.size, 0, none⟩ 1 [62] rfl (cells_new1 _ 62 62 rfl) (by simp) (by simp; omega) w (Hb.out.alloc Hb.out.size _) (by have := Hb.out.size; simp; omega) ?_; intro v2 w2 Ho2 Hb2 _; have htext := Ho2.out.text)
      go_ret
      exact ⟨rfl, Hb2.out⟩
    | succ g =>
      have hk : k < s.size := by omega
      have hkz : (k : Int) < (s.size : Int) := by omega
      have hc := s[k].toNat_lt
      have hw0 : IntKind.i64.wrap (s[k].toNat : Int) = (s[k].toNat : Int) := by rw [IntKind.wrap_i64]; omega
      have hw1 : IntKind.i64.wrap ((s[k].toNat : Int) / 16) = ((s[k].toNat / 16 : Nat) : Int) := by rw [IntKind.wrap_i64]; omega
      have hw2 : (s[k].toNat : Int).tmod 16 = ((s[k].toNat % 16 : Nat) : Int) := by rw [Int.tmod_eq_emod_of_nonneg (by omega)]; omega
      have hd1 := fun W => rDigit_is (s[k].toNat / 16) W (by omega)
      have hd2 := fun W => rDigit_is (s[k].toNat % 16) W (by omega)
      have hlen : (encD (s.data.toList.take k)).length ≤ 2000000 := by rw [encD_length, List.length_take, ← size_data]; omega
      have Hnext := Lib.hid (encD_take hk)
      obtain ⟨d1, e1⟩ : ∃ d, s[k].toNat / 16 = d := ⟨_, rfl⟩
      obtain ⟨d2, e2⟩ : ∃ d, s[k].toNat % 16 = d := ⟨_, rfl⟩
      rw [e1] at hw1 hd1 Hnext
      rw [e2] at hw2 hd2 Hnext
      have Hd1 := Lib.hid hd1
      have Hd2 := Lib.hid hd2
      have Hc := Lib.hid hc
      clear hd1 hd2 e1 e2 hc
      go_wp2_with fail
      go_region_law (first
        | (refine step_append8 rfl (.tmp 12) (.tmp 25) rfl w.heap.size _ (encD (s.data.toList.take k)) rfl (HO.out.drew.alloc _) ⟨wr.heap.size, 0, none⟩ 2 [digB d1, digB d2] rfl (cells_new2 _ _ _ _ _ rfl rfl) (by simp) (by simp; omega) w (Hb.out.drew.alloc Hb.out.size _) (by have := Hb.out.size; simp; omega) ?_; intro v2 w2 Ho2 Hb2 _)
        | (go_simp; go_at_call_of 50 (d1 : Int); refine (Hd1.out _).mono ?_; rintro e w1 ⟨rfl, rfl⟩; go_wp2_with fail)
        | (go_simp; go_at_call_of 50 (d2 : Int); refine (Hd2.out _).mono ?_; rintro e w1 ⟨rfl, rfl⟩; go_wp2_with fail))
      all_goals
        go_wp2_with fail
        go_roundg g
        case measure => omega
        case rel => exact ⟨k + 1, by omega, by go_num, by show Own8 _ _ _ _; rw [Hnext.out]; exact Ho2.out, Hb2.out⟩

end
end Go.Proofs.YtljgjjbmgjfbcaaDoor
/-
  The contract of the document's Decode of hexadecimal digits.
-/
namespace Go.Proofs.YtljgjjbmgjfbcaaDoor
section
open Go.RowKit
set_option maxRecDepth 100000

theorem drop_atH {s : ByteArray} {k : Nat} (h : k < s.size) : s.data.toList.drop k = s[k] :: s.data.toList.drop (k + 1) := by
  rw [List.drop_eq_getElem_cons (by rw [← size_data]; exact h)]; rfl
theorem white_drop {s : ByteArray} {k : Nat} (h : k < s.size) : (s.data.toList.drop k).all whiteB = (whiteB s[k] && (s.data.toList.drop (k + 1)).all whiteB) := by
  rw [drop_atH h]; rfl
/-- What is ahead once the end was met. -/
def restH (ds : List Nat) (t : List UInt8) : List UInt8 × Int := if t.all whiteB then (pairsH ds, 0) else ([], 4)

/-- Two by two, digits become bytes: the loop's own words. -/
theorem pairs_more {ds : List Nat} {m : Nat} {l : List UInt8} (h : m + 1 < ds.length) (hl : l ++ pairsH (ds.drop m) = pairsH ds) :
    (l ++ [UInt8.ofNat (16 * ds[m] + ds[m + 1])]) ++ pairsH (ds.drop (m + 2)) = pairsH ds := by
  rw [← hl, pairsH_drop (k := m) (List.getElem?_eq_getElem (by omega)) (List.getElem?_eq_getElem h)]
  simp
theorem pair_byte (a b : Nat) : ((16 * (a : Int) + (b : Int)) % 256) = ((UInt8.ofNat (16 * a + b)).toNat : Int) := by
  rw [UInt8.toNat_ofNat']; omega

end
end Go.Proofs.YtljgjjbmgjfbcaaDoor
