/-
  The contract of Span: of any text, place and kinds, the kinds lying in memory as they came.
-/
import Derived.Test.YtnjmapgmodoodaaEnds
import Derived.Deep.LoopGhost
namespace Go.Proofs.Ytnjmapgmodoodaa
open Go.RowKit

/-- A slice of numbers, as far as its length, in memory. -/
def Nums (w : World) (a : Option Addr) (zs : List Int) : Prop :=
  zs = [] ∨ ∃ b off, a = some ⟨b, off, none⟩ ∧ ∀ i, i < zs.length → w.cell? ⟨b, off + i, none⟩ = some (.int .i64 (zs[i]?.getD 0))

theorem Nums.at {w : World} {a : Option Addr} {zs : List Int} (h : Nums w a zs) (j : Nat) (hj : j < zs.length) :
    ∃ b off, a = some ⟨b, off, none⟩ ∧ w.cell? ⟨b, off + j, none⟩ = some (.int .i64 (zs[j]?.getD 0)) := by
  rcases h with rfl | ⟨b, off, e, h⟩
  · cases hj
  · exact ⟨b, off, e, h j hj⟩

set_option maxRecDepth 100000 in
set_option maxHeartbeats 1000000 in
theorem span_any (s : ByteArray) (a : Int) (p : Option Addr) (cap : Nat) (zs : List Int) (w : World) (hs : s.size ≤ maxLen) (hz : zs.length ≤ 9223372036854775807) (hp : Nums w p zs) :
    Calls Try.prog 23 #[.string s, .int .i64 a, .slice p zs.length cap] w fun e w' => e = .returned (.int .i64 (spanI s.data.toList a zs)) ∧ w = w' := by
  unfold maxLen at hs
  have Hp := Lib.hid hp
  clear hp
  by_cases h : a < 0
  · have Hr := Lib.hid (spanI_neg s.data.toList zs a h)
    go_enter Try.func23, Try.ntmps23
    go_wp2_with fail
    go_step3
    go_wp2_with fail
    rw [Exit.noGoto_ret]
    go_ret
    exact ⟨ret_int Hr.out.symm, rfl⟩
  · obtain ⟨k, rfl⟩ := Int.eq_ofNat_of_zero_le (show 0 ≤ a by omega)
    rw [spanI_nat]
    by_cases hlt : k < s.size
    · have hd0 : decide ((k : Int) < 0) = false := by simp
      have hd1 : decide (s.size ≤ k) = false := by simp; omega
      go_enter Try.func23, Try.ntmps23
      go_wp2_with fail
      go_step3
      go_wp2_with fail
      go_step3
      go_wp2_with fail
      go_loopg [7] (s.size - k) (fun g s7 wx => ∃ n : Nat, n + g + k = s.size ∧ s7 = .int .i64 n ∧ Aside (∀ m, m < n → goodN s.data.toList zs (k + m) = true) ∧ w = wx)
      case atStart => exact ⟨0, by omega, rfl, fun m hm => absurd hm (by omega), rfl⟩
      case round =>
        obtain ⟨n, hng, rfl, HI, rfl⟩ := hrel
        cases gk with
        | zero =>
          have hnot : ¬ ((n : Int) < (s.size : Int) - (k : Int)) := by omega
          have Hr : Hid (spanN s.data.toList zs k = n) := Lib.hid (span_unique _ _ n k HI.out (good_far _ _ _ (by simp; omega)))
          have Hng := Lib.hid hng
          clear hng
          go_wp2_with fail
          go_ret
          exact ⟨ret_int (by rw [Hr.out]), rfl⟩
        | succ g =>
          have hyes : ((n : Int) < (s.size : Int) - (k : Int)) := by omega
          have hin : k + n < s.size := by omega
          have Hng := Lib.hid hng
          clear hng
          go_wp2_with fail
          go_loopg [28] zs.length (fun g2 s28 wy => ∃ j : Nat, j + g2 = zs.length ∧ s28 = .int .i64 j ∧ Aside (∀ i, i < j → ¬ kindI (s[k + n].toNat : Int) = zs[i]?.getD 0) ∧ w = wy)
          case atStart => exact ⟨0, by omega, rfl, fun i hi => absurd hi (by omega), rfl⟩
          case round =>
            obtain ⟨j, hjg, rfl, HJ, rfl⟩ := hrel
            cases gk with
            | zero =>
              have Hgood : Hid (goodN s.data.toList zs (k + n) = false) := Lib.hid (by rw [good_at s zs _ hin]; exact contains_not _ _ (fun i hi => HJ.out i (by omega)))
              have Hr : Hid (spanN s.data.toList zs k = n) := Lib.hid (span_unique _ _ n k HI.out Hgood.out)
              have hjz : ¬ ((j : Int) < (zs.length : Int)) := by omega
              have Hjg := Lib.hid hjg
              clear hjg
              go_wp2_with fail
              go_ret
              exact ⟨ret_int (by rw [Hr.out]), rfl⟩
            | succ g2 =>
              have hj : j < zs.length := by omega
              have hjz : ((j : Int) < (zs.length : Int)) := by omega
              obtain ⟨b, off, rfl, hcell⟩ := Hp.out.at j hj
              have Hjg := Lib.hid hjg
              clear hjg
              by_cases he : kindI (s[k + n].toNat : Int) = zs[j]
              · have Hgood : Hid (goodN s.data.toList zs (k + n) = true) := Lib.hid (by rw [good_at s zs _ hin]; exact contains_at _ j _ hj (by rw [he, List.getElem?_eq_getElem hj]; rfl))
                have he' := beq_iff_eq.2 he
                clear he
                go_wp2_with (go_at_call 37; refine (kind_any _ _).mono ?_; rintro e w' ⟨rfl, rfl⟩)
                go_roundg g
                case measure => omega
                case rel => exact ⟨n + 1, by have := Hng.out; omega, by go_num, fun m hm => by by_cases e : m = n; exact e ▸ Hgood.out; exact HI.out m (by omega), rfl⟩
              · have he' := beq_eq_false_iff_ne.2 he
                have He : Hid (¬ kindI (s[k + n].toNat : Int) = zs[j]?.getD 0) := Lib.hid (by rw [List.getElem?_eq_getElem hj]; exact he)
                clear he
                go_wp2_with (go_at_call 37; refine (kind_any _ _).mono ?_; rintro e w' ⟨rfl, rfl⟩)
                go_roundg g2
                case measure => omega
                case rel => exact ⟨j + 1, by have := Hjg.out; omega, by go_num, fun i hi => by by_cases e : i = j; exact e ▸ He.out; exact HJ.out i (by omega), rfl⟩
    · have Hr := Lib.hid (spanN_far s.data.toList zs k (by simp; omega))
      go_enter Try.func23, Try.ntmps23
      go_wp2_with fail
      go_step3
      go_wp2_with fail
      rw [Exit.noGoto_ret]
      go_ret
      exact ⟨ret_int (by rw [Hr.out]; rfl), rfl⟩

end Go.Proofs.Ytnjmapgmodoodaa
