/-
  Base, Bytes, HOct, HOne, Ends, Span, RefSpan: texts merged.
-/
import Derived.Test.YtejgcnmbngdkiaaGreatDoorRows
import Derived.Test.YtejgcnmbngdkiaaGreatDoorNPlain
import Derived.WalkKit
import Derived.WalkSpells
import Derived.WalkLawsBesides
import Derived.Lib.Hide
import Derived.Deep.QuietTactic
import Derived.BigQuiet
import Derived.Test.YtejgcnmbngdkiaaGreatDoorNums
import Derived.Deep.LoopGhost
/-
  The contracts of the functions on single bytes: Kind, Hex, Digit, of the program and of the document's answers.
-/
namespace Go.Proofs.YtejgcnmbngdkiaaGreatDoor
section
open Go.RowKit

set_option maxHeartbeats 1000000 in
theorem kind_any (c : Int) (w : World) :
    Calls Tryz.prog 71 #[.int .u8 c] w fun e w' => e = .returned (.int .i64 (kindI c)) ∧ w = w' := by
  go_enter Tryz.func71, Tryz.ntmps71
  go_wp2
  all_goals (go_ret; exact ⟨ret_int (by simp_all [kindI]), rfl⟩)

theorem kind_white (c : Int) : inB [0, 9, 10, 12, 13, 32] c = true → kindI c = 0 := by
  intro h; simp [inB] at h; unfold kindI; rw [if_pos (by omega)]
theorem kind_delim (c : Int) : inB [0, 9, 10, 12, 13, 32] c = false → inB [40, 41, 60, 62, 91, 93, 123, 125, 47, 37] c = true → kindI c = 1 := by
  intro h h'; simp [inB] at h h'; unfold kindI; rw [if_neg (by omega), if_pos (by omega)]
theorem kind_regular (c : Int) : inB [0, 9, 10, 12, 13, 32] c = false → inB [40, 41, 60, 62, 91, 93, 123, 125, 47, 37] c = false → kindI c = 2 := by
  intro h h'; simp [inB] at h h'; unfold kindI; rw [if_neg (by omega), if_neg (by omega)]

end
end Go.Proofs.YtejgcnmbngdkiaaGreatDoor
/-
  The contracts of Hex and Digit, of the program and of the document's answers, and of strings.HasPrefix.
-/
namespace Go.Proofs.YtejgcnmbngdkiaaGreatDoor
section
open Go.RowKit

set_option maxHeartbeats 1000000 in
theorem hex_any (c : Int) (w : World) (h0 : 0 ≤ c) (h1 : c ≤ 255) :
    Calls Tryz.prog 80 #[.int .u8 c] w fun e w' => e = .returned (.int .i64 (hexI c)) ∧ w = w' := by
  have hcases : c < 48 ∨ (48 ≤ c ∧ c ≤ 57) ∨ (57 < c ∧ c < 65) ∨ (65 ≤ c ∧ c ≤ 70) ∨ (70 < c ∧ c < 97) ∨ (97 ≤ c ∧ c ≤ 102) ∨ 102 < c := by omega
  rcases hcases with h | ⟨h, h'⟩ | ⟨h, h'⟩ | ⟨h, h'⟩ | ⟨h, h'⟩ | ⟨h, h'⟩ | h
  all_goals
    go_enter Tryz.func80, Tryz.ntmps80
    go_wp2
    go_ret
    exact ⟨ret_int (by unfold hexI; repeat (first | rw [if_pos (by omega)] | rw [if_neg (by omega)]); try omega), rfl⟩

set_option maxHeartbeats 1000000 in
theorem digit_any (n : Int) (w : World) (h0 : -9223372036854775808 ≤ n) (h1 : n ≤ 9223372036854775807) :
    Calls Tryz.prog 72 #[.int .i64 n] w fun e w' => e = .returned (.int .u8 (digitI n)) ∧ w = w' := by
  have hcases : n < 0 ∨ (0 ≤ n ∧ n ≤ 9) ∨ (10 ≤ n ∧ n ≤ 15) ∨ 15 < n := by omega
  rcases hcases with h | ⟨h, h'⟩ | ⟨h, h'⟩ | h
  all_goals
    go_enter Tryz.func72, Tryz.ntmps72
    go_wp2
    go_ret
    exact ⟨ret_int (by unfold digitI; repeat (first | rw [if_pos (by omega)] | rw [if_neg (by omega)]); try omega), rfl⟩

/-- What the loop of the document's Hex still has ahead of it. -/
def hexFrom (c : Int) (k : Nat) : Prop := hexI c = -1 ∨ (k : Int) ≤ hexI c

theorem hexFrom_zero (c : Int) : hexFrom c 0 := by unfold hexFrom hexI; omega
theorem hexFrom_last (c : Int) (h : hexFrom c 16) : hexI c = -1 := by
  unfold hexFrom at h; unfold hexI at *; omega

theorem digitsD (k : Nat) (h : k < (⟨#[48, 49, 50, 51, 52, 53, 54, 55, 56, 57, 65, 66, 67, 68, 69, 70]⟩ : ByteArray).size) :
    (((⟨#[48, 49, 50, 51, 52, 53, 54, 55, 56, 57, 65, 66, 67, 68, 69, 70]⟩ : ByteArray)[k]'h).toNat : Int) = if k < 10 then 48 + (k : Int) else 55 + (k : Int) := by
  have : ∀ k : Fin 16, (((⟨#[48, 49, 50, 51, 52, 53, 54, 55, 56, 57, 65, 66, 67, 68, 69, 70]⟩ : ByteArray)[k.1]'k.2).toNat : Int) = if k.1 < 10 then 48 + (k.1 : Int) else 55 + (k.1 : Int) := by decide
  exact this ⟨k, h⟩
theorem digitsE (k : Nat) (h : k < (⟨#[48, 49, 50, 51, 52, 53, 54, 55, 56, 57, 97, 98, 99, 100, 101, 102]⟩ : ByteArray).size) :
    (((⟨#[48, 49, 50, 51, 52, 53, 54, 55, 56, 57, 97, 98, 99, 100, 101, 102]⟩ : ByteArray)[k]'h).toNat : Int) = if k < 10 then 48 + (k : Int) else 87 + (k : Int) := by
  have : ∀ k : Fin 16, (((⟨#[48, 49, 50, 51, 52, 53, 54, 55, 56, 57, 97, 98, 99, 100, 101, 102]⟩ : ByteArray)[k.1]'k.2).toNat : Int) = if k.1 < 10 then 48 + (k.1 : Int) else 87 + (k.1 : Int) := by decide
  exact this ⟨k, h⟩

theorem hex_hitD (c : Int) (k : Nat) (h : k < (⟨#[48, 49, 50, 51, 52, 53, 54, 55, 56, 57, 65, 66, 67, 68, 69, 70]⟩ : ByteArray).size) (e : (((⟨#[48, 49, 50, 51, 52, 53, 54, 55, 56, 57, 65, 66, 67, 68, 69, 70]⟩ : ByteArray)[k]'h).toNat : Int) = c) : hexI c = k := by
  rw [digitsD k h] at e
  have h' : k < 16 := h
  unfold hexI; split at e <;> repeat (first | rw [if_pos (by omega)] | rw [if_neg (by omega)] | omega)
theorem hex_hitE (c : Int) (k : Nat) (h : k < (⟨#[48, 49, 50, 51, 52, 53, 54, 55, 56, 57, 97, 98, 99, 100, 101, 102]⟩ : ByteArray).size) (e : (((⟨#[48, 49, 50, 51, 52, 53, 54, 55, 56, 57, 97, 98, 99, 100, 101, 102]⟩ : ByteArray)[k]'h).toNat : Int) = c) : hexI c = k := by
  rw [digitsE k h] at e
  have h' : k < 16 := h
  unfold hexI; split at e <;> repeat (first | rw [if_pos (by omega)] | rw [if_neg (by omega)] | omega)
theorem hex_miss (c : Int) (k : Nat) (h : k < (⟨#[48, 49, 50, 51, 52, 53, 54, 55, 56, 57, 65, 66, 67, 68, 69, 70]⟩ : ByteArray).size) (h2 : k < (⟨#[48, 49, 50, 51, 52, 53, 54, 55, 56, 57, 97, 98, 99, 100, 101, 102]⟩ : ByteArray).size)
    (e : ¬ (((⟨#[48, 49, 50, 51, 52, 53, 54, 55, 56, 57, 65, 66, 67, 68, 69, 70]⟩ : ByteArray)[k]'h).toNat : Int) = c)
    (e2 : ¬ (((⟨#[48, 49, 50, 51, 52, 53, 54, 55, 56, 57, 97, 98, 99, 100, 101, 102]⟩ : ByteArray)[k]'h2).toNat : Int) = c) (hf : hexFrom c k) : hexFrom c (k + 1) := by
  rw [digitsD k h] at e
  rw [digitsE k h2] at e2
  have h' : k < 16 := h
  unfold hexFrom hexI at *; split at e <;> split at e2 <;> omega

end
end Go.Proofs.YtejgcnmbngdkiaaGreatDoor
/-
  octet's contracts lie in Base and Bytes.
-/
namespace Go.Proofs.YtejgcnmbngdkiaaGreatDoor
section
end
end Go.Proofs.YtejgcnmbngdkiaaGreatDoor
/-
  octet's contracts lie in Base and Bytes.
-/
namespace Go.Proofs.YtejgcnmbngdkiaaGreatDoor
section
end
end Go.Proofs.YtejgcnmbngdkiaaGreatDoor
/-
  The contracts of strings.HasPrefix, Ends, behindLine, and of the document's Ends, Begins, Stands.
-/
namespace Go.Proofs.YtejgcnmbngdkiaaGreatDoor
section
open Go.RowKit

set_option maxHeartbeats 400000 in
theorem slPre_any (s p : ByteArray) (w : World) :
    Calls Tryz.prog 78 #[.string s, .string p] w fun e w' => e = .returned (.bool (preB s.data.toList p.data.toList)) ∧ w = w' := by
  by_cases h : p.size ≤ s.size
  · go_enter Tryz.func78, Tryz.ntmps78
    go_wp2
    go_ret
    exact ⟨ret_bool (pre_extract s p), rfl⟩
  · go_enter Tryz.func78, Tryz.ntmps78
    go_wp2
    go_ret
    exact ⟨ret_bool (pre_long s p h).symm, rfl⟩

set_option maxHeartbeats 400000 in
theorem pre_any (s p : ByteArray) (w : World) :
    Calls Tryz.prog 56 #[.string s, .string p] w fun e w' => e = .returned (.bool (preB s.data.toList p.data.toList)) ∧ w = w' := by
  go_enter Tryz.func56, Tryz.ntmps56
  go_wp2_with (go_at_call 78; refine (slPre_any _ _ _).mono ?_; rintro e w' ⟨rfl, rfl⟩)
  go_ret
  exact ⟨rfl, rfl⟩

theorem pre_crlf (s : ByteArray) (k : Nat) (w : World) :
    Calls Tryz.prog 56 #[.string (s.extract k s.size), .string ⟨#[13, 10]⟩] w fun e w' => e = .returned (.bool (preB (s.data.toList.drop k) [13, 10])) ∧ w = w' := by
  have h := pre_any (s.extract k s.size) ⟨#[13, 10]⟩ w
  rw [Lib.extract_to_end] at h
  exact h

set_option maxHeartbeats 400000 in
theorem ends_any (s : ByteArray) (a : Int) (w : World) :
    Calls Tryz.prog 53 #[.string s, .int .i64 a] w fun e w' => e = .returned (.int .i64 (endsI s.data.toList a)) ∧ w = w' := by
  by_cases h : a < 0
  · have Hr := Lib.hid (endsI_neg s.data.toList a h)
    go_enter Tryz.func53, Tryz.ntmps53
    go_wp2_with fail
    go_ret
    exact ⟨ret_int Hr.out.symm, rfl⟩
  · obtain ⟨k, rfl⟩ := Int.eq_ofNat_of_zero_le (show 0 ≤ a by omega)
    rw [endsI_nat]
    by_cases hlt : k < s.size
    · cases hp : preB (s.data.toList.drop k) [13, 10]
      · by_cases h13 : (s[k].toNat : Int) = 13
        · have Hr := Lib.hid (endsN_one s k hlt hp (.inl h13))
          have Hp := Lib.hid hp
          have h13' := beq_iff_eq.2 h13
          clear hp h13
          go_enter Tryz.func53, Tryz.ntmps53
          go_wp2_with fail
          refine (pre_crlf s k _).mono ?_
          rintro e w1 ⟨rfl, rfl⟩
          rw [Hp.out]
          go_wp2_with fail
          go_ret
          exact ⟨ret_int (by rw [Hr.out]; rfl), rfl⟩
        · by_cases h10 : (s[k].toNat : Int) = 10
          · have Hr := Lib.hid (endsN_one s k hlt hp (.inr h10))
            have Hp := Lib.hid hp
            have h13' := beq_eq_false_iff_ne.2 h13
            have h10' := beq_iff_eq.2 h10
            clear hp h13 h10
            go_enter Tryz.func53, Tryz.ntmps53
            go_wp2_with fail
            refine (pre_crlf s k _).mono ?_
            rintro e w1 ⟨rfl, rfl⟩
            rw [Hp.out]
            go_wp2_with fail
            go_ret
            exact ⟨ret_int (by rw [Hr.out]; rfl), rfl⟩
          · have Hr := Lib.hid (endsN_none s k hlt hp h13 h10)
            have Hp := Lib.hid hp
            have h13' := beq_eq_false_iff_ne.2 h13
            have h10' := beq_eq_false_iff_ne.2 h10
            clear hp h13 h10
            go_enter Tryz.func53, Tryz.ntmps53
            go_wp2_with fail
            refine (pre_crlf s k _).mono ?_
            rintro e w1 ⟨rfl, rfl⟩
            rw [Hp.out]
            go_wp2_with fail
            go_ret
            exact ⟨ret_int (by rw [Hr.out]; rfl), rfl⟩
      · have Hr := Lib.hid (endsN_two _ k hp)
        have Hp := Lib.hid hp
        clear hp
        go_enter Tryz.func53, Tryz.ntmps53
        go_wp2_with fail
        refine (pre_crlf s k _).mono ?_
        rintro e w1 ⟨rfl, rfl⟩
        rw [Hp.out]
        go_wp2_with fail
        go_ret
        exact ⟨ret_int (by rw [Hr.out]; rfl), rfl⟩
    · have Hr := Lib.hid (endsN_far s.data.toList k (by simp; omega))
      go_enter Tryz.func53, Tryz.ntmps53
      go_wp2_with fail
      go_ret
      exact ⟨ret_int (by rw [Hr.out]; rfl), rfl⟩

def BehindPost (l : List UInt8) (k : Nat) (w : World) (e : Ending) (w' : World) : Prop :=
  ∃ b : Nat, e = .returned (.int .i64 b) ∧ IsBehind l k b ∧ w = w'

end
end Go.Proofs.YtejgcnmbngdkiaaGreatDoor
/-
  The contract of Span: of any text, place and kinds, the kinds lying in memory as they came.
-/
namespace Go.Proofs.YtejgcnmbngdkiaaGreatDoor
section
open Go.RowKit

set_option maxRecDepth 100000 in
set_option maxHeartbeats 1000000 in
theorem span_any (s : ByteArray) (a : Int) (p : Option Addr) (cap : Nat) (zs : List Int) (w : World) (hs : s.size ≤ maxLen) (hz : zs.length ≤ 9223372036854775807) (hp : Nums w p zs) :
    Calls Tryz.prog 52 #[.string s, .int .i64 a, .slice p zs.length cap] w fun e w' => e = .returned (.int .i64 (spanI s.data.toList a zs)) ∧ w = w' := by
  unfold maxLen at hs
  have Hp := Lib.hid hp
  clear hp
  by_cases h : a < 0
  · have Hr := Lib.hid (spanI_neg s.data.toList zs a h)
    go_enter Tryz.func52, Tryz.ntmps52
    go_wp2_with fail
    go_step3
    go_wp2_with fail
    rw [Exit.noGoto_ret]
    go_ret
    exact ⟨ret_int Hr.out.symm, rfl⟩
  · obtain ⟨k, rfl⟩ := Int.eq_ofNat_of_zero_le (show 0 ≤ a by omega)
    rw [spanI_nat]
    by_cases hlt : k < s.size
    · have hd0 : decide ((k : Int) < 0) = false := by simp
      have hd1 : decide (s.size ≤ k) = false := by simp; omega
      go_enter Tryz.func52, Tryz.ntmps52
      go_wp2_with fail
      go_step3
      go_wp2_with fail
      go_step3
      go_wp2_with fail
      go_loopg [7] (s.size - k) (fun g s7 wx => ∃ n : Nat, n + g + k = s.size ∧ s7 = .int .i64 n ∧ Aside (∀ m, m < n → goodN s.data.toList zs (k + m) = true) ∧ w = wx)
      case atStart => exact ⟨0, by omega, rfl, fun m hm => absurd hm (by omega), rfl⟩
      case round =>
        obtain ⟨n, hng, rfl, HI, rfl⟩ := hrel
        cases gk with
        | zero =>
          have hnot : ¬ ((n : Int) < (s.size : Int) - (k : Int)) := by omega
          have Hr : Hid (spanN s.data.toList zs k = n) := Lib.hid (span_unique _ _ n k HI.out (good_far _ _ _ (by simp; omega)))
          have Hng := Lib.hid hng
          clear hng
          go_wp2_with fail
          go_ret
          exact ⟨ret_int (by rw [Hr.out]), rfl⟩
        | succ g =>
          have hyes : ((n : Int) < (s.size : Int) - (k : Int)) := by omega
          have hin : k + n < s.size := by omega
          have Hng := Lib.hid hng
          clear hng
          go_wp2_with fail
          go_loopg [28] zs.length (fun g2 s28 wy => ∃ j : Nat, j + g2 = zs.length ∧ s28 = .int .i64 j ∧ Aside (∀ i, i < j → ¬ kindI (s[k + n].toNat : Int) = zs[i]?.getD 0) ∧ w = wy)
          case atStart => exact ⟨0, by omega, rfl, fun i hi => absurd hi (by omega), rfl⟩
          case round =>
            obtain ⟨j, hjg, rfl, HJ, rfl⟩ := hrel
            cases gk with
            | zero =>
              have Hgood : Hid (goodN s.data.toList zs (k + n) = false) := Lib.hid (by rw [good_at s zs _ hin]; exact contains_not _ _ (fun i hi => HJ.out i (by omega)))
              have Hr : Hid (spanN s.data.toList zs k = n) := Lib.hid (span_unique _ _ n k HI.out Hgood.out)
              have hjz : ¬ ((j : Int) < (zs.length : Int)) := by omega
              have Hjg := Lib.hid hjg
              clear hjg
              go_wp2_with fail
              go_ret
              exact ⟨ret_int (by rw [Hr.out]), rfl⟩
            | succ g2 =>
              have hj : j < zs.length := by omega
              have hjz : ((j : Int) < (zs.length : Int)) := by omega
              obtain ⟨b, off, rfl, hcell⟩ := Hp.out.at j hj
              have Hjg := Lib.hid hjg
              clear hjg
              by_cases he : kindI (s[k + n].toNat : Int) = zs[j]
              · have Hgood : Hid (goodN s.data.toList zs (k + n) = true) := Lib.hid (by rw [good_at s zs _ hin]; exact contains_at _ j _ hj (by rw [he, List.getElem?_eq_getElem hj]; rfl))
                have he' := beq_iff_eq.2 he
                clear he
                go_wp2_with (go_at_call 71; refine (kind_any _ _).mono ?_; rintro e w' ⟨rfl, rfl⟩)
                go_roundg g
                case measure => omega
                case rel => exact ⟨n + 1, by have := Hng.out; omega, by go_num, fun m hm => by by_cases e : m = n; exact e ▸ Hgood.out; exact HI.out m (by omega), rfl⟩
              · have he' := beq_eq_false_iff_ne.2 he
                have He : Hid (¬ kindI (s[k + n].toNat : Int) = zs[j]?.getD 0) := Lib.hid (by rw [List.getElem?_eq_getElem hj]; exact he)
                clear he
                go_wp2_with (go_at_call 71; refine (kind_any _ _).mono ?_; rintro e w' ⟨rfl, rfl⟩)
                go_roundg g2
                case measure => omega
                case rel => exact ⟨j + 1, by have := Hjg.out; omega, by go_num, fun i hi => by by_cases e : i = j; exact e ▸ He.out; exact HJ.out i (by omega), rfl⟩
    · have Hr := Lib.hid (spanN_far s.data.toList zs k (by simp; omega))
      go_enter Tryz.func52, Tryz.ntmps52
      go_wp2_with fail
      go_step3
      go_wp2_with fail
      rw [Exit.noGoto_ret]
      go_ret
      exact ⟨ret_int (by rw [Hr.out]; rfl), rfl⟩

end
end Go.Proofs.YtejgcnmbngdkiaaGreatDoor
/-
  The contract of the document's Span.
-/
namespace Go.Proofs.YtejgcnmbngdkiaaGreatDoor
section
open Go.RowKit

theorem calm {P : Program} {f : FuncId} {args : Array Value} {w : World} {n : Nat} {v : Value}
    (h : Calls P f args (w.drewN n) fun e w' => e = .returned v ∧ w.drewN n = w') : Calls P f args (w.drewN n) fun e w'' => e = .returned v ∧ ∃ m, w'' = w.drewN m :=
  h.mono fun _ _ ⟨he, hm⟩ => ⟨he, n, hm.symm⟩
theorem calm_add {P : Program} {f : FuncId} {args : Array Value} {w : World} {a n : Nat} {v : Value}
    (h : Calls P f args (w.drewN (a + n)) fun e w' => e = .returned v ∧ w.drewN (a + n) = w') : Calls P f args (w.drewN (a + n)) fun e w'' => e = .returned v ∧ ∃ m, w'' = w.drewN (a + m) :=
  h.mono fun _ _ ⟨he, hm⟩ => ⟨he, n, hm.symm⟩

/-- It answers a number, and draws alone. -/
def Drawn (v : Value) (w : World) (e : Ending) (w' : World) : Prop := e = .returned v ∧ ∃ n, w' = w.drewN n

/-- What 'found' says behind j of the kinds. -/
def FoundIs (l : List UInt8) (zs : List Int) (k : Nat) (c : Int) (j : Nat) (b : Bool) : Prop :=
  if b then goodN l zs k = true else ∀ i, i < j → ¬ c = zs[i]?.getD 0
theorem FoundIs.yes {l : List UInt8} {zs : List Int} {k j : Nat} {c : Int} (h : FoundIs l zs k c j true) : goodN l zs k = true := h
theorem FoundIs.no {l : List UInt8} {zs : List Int} {k j : Nat} {c : Int} (h : FoundIs l zs k c j false) : ∀ i, i < j → ¬ c = zs[i]?.getD 0 := h
theorem FoundIs.mk_yes {l : List UInt8} {zs : List Int} {k j : Nat} {c : Int} (h : goodN l zs k = true) : FoundIs l zs k c j true := h
theorem FoundIs.mk_no {l : List UInt8} {zs : List Int} {k j : Nat} {c : Int} (h : ∀ i, i < j → ¬ c = zs[i]?.getD 0) : FoundIs l zs k c j false := h

theorem contains_step {zs : List Int} {x : Int} {j : Nat} (h : ∀ i, i < j → ¬ x = zs[i]?.getD 0) (hj : ¬ x = zs[j]?.getD 0) : ∀ i, i < j + 1 → ¬ x = zs[i]?.getD 0 := by
  intro i hi
  by_cases e : i = j
  · subst e; exact hj
  · exact h i (by omega)

end
end Go.Proofs.YtejgcnmbngdkiaaGreatDoor
