/-
  The contract of the document's Span.
-/
import Derived.Test.YtnjmapgmodoodaaSpan
import Derived.Deep.QuietTactic
import Derived.BigQuiet
namespace Go.Proofs.Ytnjmapgmodoodaa
open Go.RowKit

theorem calm {P : Program} {f : FuncId} {args : Array Value} {w : World} {n : Nat} {v : Value}
    (h : Calls P f args (w.drewN n) fun e w' => e = .returned v ∧ w.drewN n = w') : Calls P f args (w.drewN n) fun e w'' => e = .returned v ∧ ∃ m, w'' = w.drewN m :=
  h.mono fun _ _ ⟨he, hm⟩ => ⟨he, n, hm.symm⟩
theorem calm_add {P : Program} {f : FuncId} {args : Array Value} {w : World} {a n : Nat} {v : Value}
    (h : Calls P f args (w.drewN (a + n)) fun e w' => e = .returned v ∧ w.drewN (a + n) = w') : Calls P f args (w.drewN (a + n)) fun e w'' => e = .returned v ∧ ∃ m, w'' = w.drewN (a + m) :=
  h.mono fun _ _ ⟨he, hm⟩ => ⟨he, n, hm.symm⟩

/-- It answers a number, and draws alone. -/
def Drawn (v : Value) (w : World) (e : Ending) (w' : World) : Prop := e = .returned v ∧ ∃ n, w' = w.drewN n

/-- What 'found' says behind j of the kinds. -/
def FoundIs (l : List UInt8) (zs : List Int) (k : Nat) (c : Int) (j : Nat) (b : Bool) : Prop :=
  if b then goodN l zs k = true else ∀ i, i < j → ¬ c = zs[i]?.getD 0
theorem FoundIs.yes {l : List UInt8} {zs : List Int} {k j : Nat} {c : Int} (h : FoundIs l zs k c j true) : goodN l zs k = true := h
theorem FoundIs.no {l : List UInt8} {zs : List Int} {k j : Nat} {c : Int} (h : FoundIs l zs k c j false) : ∀ i, i < j → ¬ c = zs[i]?.getD 0 := h
theorem FoundIs.mk_yes {l : List UInt8} {zs : List Int} {k j : Nat} {c : Int} (h : goodN l zs k = true) : FoundIs l zs k c j true := h
theorem FoundIs.mk_no {l : List UInt8} {zs : List Int} {k j : Nat} {c : Int} (h : ∀ i, i < j → ¬ c = zs[i]?.getD 0) : FoundIs l zs k c j false := h

theorem contains_step {zs : List Int} {x : Int} {j : Nat} (h : ∀ i, i < j → ¬ x = zs[i]?.getD 0) (hj : ¬ x = zs[j]?.getD 0) : ∀ i, i < j + 1 → ¬ x = zs[i]?.getD 0 := by
  intro i hi
  by_cases e : i = j
  · subst e; exact hj
  · exact h i (by omega)

set_option maxRecDepth 100000 in
set_option maxHeartbeats 1000000 in
theorem refSpan_any (s : ByteArray) (a : Int) (p : Option Addr) (cap : Nat) (zs : List Int) (w : World) (hs : s.size ≤ maxLen) (hz : zs.length ≤ 9223372036854775807) (hp : Nums w p zs) :
    Calls Try.prog 35 #[.string s, .int .i64 a, .slice p zs.length cap] w (Drawn (.int .i64 (spanI s.data.toList a zs)) w) := by
  unfold maxLen at hs
  have Hp := Lib.hid hp
  clear hp
  by_cases h : a < 0
  · have Hr := Lib.hid (spanI_neg s.data.toList zs a h)
    go_enter Try.func35, Try.ntmps35
    go_wp2_with fail
    go_ret
    exact ⟨ret_int Hr.out.symm, 0, rfl⟩
  · obtain ⟨k, rfl⟩ := Int.eq_ofNat_of_zero_le (show 0 ≤ a by omega)
    rw [spanI_nat]
    have hkb : (k : Int) ≤ 9223372036854775807 ∨ ¬ k < s.size := by omega
    have hd0 : decide ((k : Int) < 0) = false := by simp
    go_enter Try.func35, Try.ntmps35
    go_wp2_with fail
    go_loopg [7, 8] (s.size - k) (fun g s7 s8 wx => ∃ n q : Nat, (n + g + k = s.size ∨ (g = 0 ∧ n = 0 ∧ s.size ≤ k)) ∧ s7 = .int .i64 n ∧ s8 = .int .i64 ((k : Int) + n) ∧ Aside (∀ m, m < n → goodN s.data.toList zs (k + m) = true) ∧ w.drewN q = wx)
    case atStart => exact ⟨0, 0, by omega, rfl, by simp, fun m hm => absurd hm (by omega), rfl⟩
    case round =>
      obtain ⟨n, q, hng, rfl, rfl, HI, rfl⟩ := hrel
      cases gk with
      | zero =>
        have hnot : ¬ ((k : Int) + (n : Int) < (s.size : Int)) := by omega
        have Hr : Hid (spanN s.data.toList zs k = n) := Lib.hid (span_unique _ _ n k HI.out (good_far _ _ _ (by simp; omega)))
        have Hng := Lib.hid hng
        clear hng
        go_wp2_with fail
        go_ret
        exact ⟨ret_int (by rw [Hr.out]), q, rfl⟩
      | succ g =>
        have hyes : ((k : Int) + (n : Int) < (s.size : Int)) := by omega
        have hin : k + n < s.size := by omega
        have Hng := Lib.hid hng
        clear hng
        go_wp2_with fail
        go_loopg [9, 10] zs.length (fun g2 s9 s10 wy => ∃ (j q2 : Nat) (b : Bool), j + g2 = zs.length ∧ s10 = .int .i64 j ∧ s9 = .bool b ∧
          Aside (FoundIs s.data.toList zs (k + n) (kindI (s[k + n].toNat : Int)) j b) ∧ w.drewN q2 = wy)
        case atStart => exact ⟨0, q, false, by omega, rfl, rfl, FoundIs.mk_no fun i hi => absurd hi (by omega), rfl⟩
        case round =>
          obtain ⟨j, q2, b, hjg, rfl, rfl, HJ, rfl⟩ := hrel
          cases gk with
          | zero =>
            have hjz : ¬ ((j : Int) < (zs.length : Int)) := by omega
            cases b
            · have Hgood : Hid (goodN s.data.toList zs (k + n) = false) := Lib.hid (by rw [good_at s zs _ hin]; exact contains_not _ _ (fun i hi => FoundIs.no HJ.out i (by omega)))
              have Hr : Hid (spanN s.data.toList zs k = n) := Lib.hid (span_unique _ _ n k HI.out Hgood.out)
              have Hjg := Lib.hid hjg
              clear hjg
              go_wp2_with fail
              go_ret
              exact ⟨ret_int (by rw [Hr.out]), q2, rfl⟩
            · have Hgood := Lib.hid (FoundIs.yes HJ.out)
              have Hjg := Lib.hid hjg
              clear hjg
              go_wp2_with fail
              go_roundg g
              case measure => omega
              case rel => exact ⟨n + 1, q2, by have := Hng.out; omega, by go_num, by go_num, fun m hm => by by_cases e : m = n; exact e ▸ Hgood.out; exact HI.out m (by omega), rfl⟩
          | succ g2 =>
            have hj : j < zs.length := by omega
            have hjz : ((j : Int) < (zs.length : Int)) := by omega
            obtain ⟨bb, off, rfl, hcell⟩ := Hp.out.at j hj
            have Hjg := Lib.hid hjg
            clear hjg
            cases b
            · have hbi : (0 : Int) ≤ (k : Int) + n := by omega
              by_cases he : kindI (s[k + n].toNat : Int) = zs[j]
              · have Hgood : Hid (goodN s.data.toList zs (k + n) = true) := Lib.hid (by rw [good_at s zs _ hin]; exact contains_at _ j _ hj (by rw [he, List.getElem?_eq_getElem hj]; rfl))
                have he' := beq_iff_eq.2 he
                clear he
                go_wp2_with fail
                go_quiet ((go_at_call 21; exact calm_add (refKind_any _ _)))
                go_wp2_with fail
                go_roundg g2
                case measure => omega
                case rel => exact ⟨j + 1, _, true, by have := Hjg.out; omega, by go_num, rfl, FoundIs.mk_yes Hgood.out, rfl⟩
              · have he' := beq_eq_false_iff_ne.2 he
                have He : Hid (¬ kindI (s[k + n].toNat : Int) = zs[j]?.getD 0) := Lib.hid (by rw [List.getElem?_eq_getElem hj]; exact he)
                clear he
                go_wp2_with fail
                go_quiet ((go_at_call 21; exact calm_add (refKind_any _ _)))
                go_wp2_with fail
                go_roundg g2
                case measure => omega
                case rel => exact ⟨j + 1, _, false, by have := Hjg.out; omega, by go_num, rfl, FoundIs.mk_no (contains_step (FoundIs.no HJ.out) He.out), rfl⟩
            · go_wp2_with fail
              go_quiet (fail)
              go_wp2_with fail
              go_roundg g2
              case measure => omega
              case rel => exact ⟨j + 1, _, true, by have := Hjg.out; omega, by go_num, rfl, FoundIs.mk_yes (FoundIs.yes HJ.out), rfl⟩

end Go.Proofs.Ytnjmapgmodoodaa
