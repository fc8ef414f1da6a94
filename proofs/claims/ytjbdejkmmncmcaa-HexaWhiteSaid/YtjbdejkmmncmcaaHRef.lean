/-
  The contracts of the document's Encode and Decode of hexadecimal digits.
-/
import Derived.Test.YtjbdejkmmncmcaaHPlain
import Derived.Test.YtjbdejkmmncmcaaHOne
import Derived.Test.YtjbdejkmmncmcaaOwn8
import Derived.Deep.LoopGhost
import Derived.Deep.RegionWith
namespace Go.Proofs.Ytjbdejkmmncmcaa
open Go.RowKit

theorem rDigit_is (n : Nat) (w : World) (h : n < 16) : Calls Try.prog 16 #[.int .i64 (n : Int)] w fun e w' => e = .returned (.int .u8 ((digB n).toNat : Int)) ∧ w = w' := by
  rw [digB_nat h]
  exact refDigit_any (n : Int) w (by omega) (by omega)
theorem encD_take {s : ByteArray} {k : Nat} (h : k < s.size) : encD (s.data.toList.take (k + 1)) = encD (s.data.toList.take k) ++ [digB (s[k].toNat / 16), digB (s[k].toNat % 16)] := by
  rw [take_snoc s k h, encD_snoc]

set_option maxHeartbeats 1000000 in
theorem rEncH_any (s : ByteArray) (w : World) (hs : s.size ≤ 1000000) :
    Calls Try.prog 8 #[.string s] w fun e w' => e = .returned (.string (bytes (encH s.data.toList))) ∧ Below w.heap.size w w' := by
  go_enter Try.func8, Try.ntmps8
  go_wp2_with fail
  go_loopg [3, 4] s.size (fun g s3 s4 wx => ∃ (k : Nat), k + g = s.size ∧ s4 = .int .i64 k ∧ Aside (Own8 wx w.heap.size s3 (encD (s.data.toList.take k))) ∧ Below w.heap.size w wx)
  case atStart => exact ⟨0, by omega, rfl, Own8.made w 0 #[] (Nat.le_refl _) (by decide) rfl, (Below.refl _ w).alloc (Nat.le_refl _) _⟩
  case round =>
    obtain ⟨k, hkg, rfl, HO, hb⟩ := hrel
    have Hb := Lib.hid hb
    clear hb
    cases gk with
    | zero =>
      obtain rfl : k = s.size := by omega
      have Hl : Hid (encD (s.data.toList.take s.size) = encD s.data.toList) := Lib.hid (by rw [List.take_of_length_le (by rw [← size_data]; exact Nat.le_refl _)])
      have hlen : (encD s.data.toList).length ≤ 2000000 := by rw [encD_length, ← size_data]; omega
      rw [Hl.out] at HO
      go_wp2_with (at_builtin; refine wpList_append8 rfl (.tmp 27) (.tmp 28) rfl w.heap.size _ (encD s.data.toList) rfl (HO.out.alloc _) ⟨wr.heap.size, 0, none⟩ 1 [62] rfl (cells_new1 _ 62 62 rfl) (by simp) (by simp; omega) w (Hb.out.alloc Hb.out.size _) (by have := Hb.out.size; simp; omega) ?_; intro v2 w2 Ho2 Hb2 _; have htext := Ho2.out.text)
      go_ret
      exact ⟨rfl, Hb2.out⟩
    | succ g =>
      have hk : k < s.size := by omega
      have hkz : (k : Int) < (s.size : Int) := by omega
      have hc := s[k].toNat_lt
      have hw0 : IntKind.i64.wrap (s[k].toNat : Int) = (s[k].toNat : Int) := by rw [IntKind.wrap_i64]; omega
      have hw1 : IntKind.i64.wrap ((s[k].toNat : Int) / 16) = ((s[k].toNat / 16 : Nat) : Int) := by rw [IntKind.wrap_i64]; omega
      have hw2 : (s[k].toNat : Int).tmod 16 = ((s[k].toNat % 16 : Nat) : Int) := by rw [Int.tmod_eq_emod_of_nonneg (by omega)]; omega
      have hd1 := fun W => rDigit_is (s[k].toNat / 16) W (by omega)
      have hd2 := fun W => rDigit_is (s[k].toNat % 16) W (by omega)
      have hlen : (encD (s.data.toList.take k)).length ≤ 2000000 := by rw [encD_length, List.length_take, ← size_data]; omega
      have Hnext := Lib.hid (encD_take hk)
      obtain ⟨d1, e1⟩ : ∃ d, s[k].toNat / 16 = d := ⟨_, rfl⟩
      obtain ⟨d2, e2⟩ : ∃ d, s[k].toNat % 16 = d := ⟨_, rfl⟩
      rw [e1] at hw1 hd1 Hnext
      rw [e2] at hw2 hd2 Hnext
      have Hd1 := Lib.hid hd1
      have Hd2 := Lib.hid hd2
      have Hc := Lib.hid hc
      clear hd1 hd2 e1 e2 hc
      go_wp2_with fail
      go_region_law (first
        | (refine step_append8 rfl (.tmp 12) (.tmp 25) rfl w.heap.size _ (encD (s.data.toList.take k)) rfl (HO.out.drew.alloc _) ⟨wr.heap.size, 0, none⟩ 2 [digB d1, digB d2] rfl (cells_new2 _ _ _ _ _ rfl rfl) (by simp) (by simp; omega) w (Hb.out.drew.alloc Hb.out.size _) (by have := Hb.out.size; simp; omega) ?_; intro v2 w2 Ho2 Hb2 _)
        | (go_simp; go_at_call_of 16 (d1 : Int); refine (Hd1.out _).mono ?_; rintro e w1 ⟨rfl, rfl⟩; go_wp2_with fail)
        | (go_simp; go_at_call_of 16 (d2 : Int); refine (Hd2.out _).mono ?_; rintro e w1 ⟨rfl, rfl⟩; go_wp2_with fail))
      all_goals
        go_wp2_with fail
        go_roundg g
        case measure => omega
        case rel => exact ⟨k + 1, by omega, by go_num, by show Own8 _ _ _ _; rw [Hnext.out]; exact Ho2.out, Hb2.out⟩

end Go.Proofs.Ytjbdejkmmncmcaa
