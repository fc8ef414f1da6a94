/-
  The contracts of the document's Put, Pad, Count, Fixed, Loose, Read.
-/
import Derived.Test.YtljgjjbmgjfbcaaDoorRows
import Derived.Test.YtljgjjbmgjfbcaaDoorMBas
import Derived.WalkKit
import Derived.WalkSpells
import Derived.WalkLawsBesides
import Derived.Lib.Hide
import Derived.Deep.LoopGhost
namespace Go.Proofs.YtljgjjbmgjfbcaaDoor
open Go.RowKit

set_option maxRecDepth 100000 in
set_option maxHeartbeats 1000000 in
theorem rPut_nat (m : Nat) (w : World) (h : m ≤ 9223372036854775807) :
    Calls Tryd.prog 43 #[.int .i64 (m : Int)] w fun e w' => e = .returned (.string (bytes (decN m))) ∧ w = w' := by
  go_enter Tryd.func43, Tryd.ntmps43
  go_wp2_with fail
  go_loopg [0, 3] (m + 1) (fun g x s wx => ∃ (n : Nat) (t : ByteArray), n + (if t.data.toList = [] then 1 else 0) ≤ g ∧ n ≤ m ∧ x = .int .i64 n ∧ s = .string t ∧ Aside (restN n t.data.toList = decN m) ∧ w = wx)
  case atStart => exact ⟨m, ByteArray.empty, by simp, Nat.le_refl _, rfl, rfl, by show _ = _; simp [restN], rfl⟩
  case round =>
    obtain ⟨n, t, hg, hn, rfl, rfl, HR, rfl⟩ := hrel
    have hsz : t.size ≤ 19 := by
      have h1 := restN_len n t.data.toList
      rw [HR.out] at h1
      have h2 := decN_19 m (by omega)
      rw [size_data]; omega
    have hdig := ten_digit (n % 10) (by omega)
    have Hdig := Lib.hid hdig
    have Hg := Lib.hid hg
    clear hdig hg
    by_cases hgo : 0 < n ∨ t.data.toList = []
    · have Hst := Lib.hid (restN_step n t.data.toList hgo)
      have Hgo := Lib.hid hgo
      by_cases h0 : 0 < n
      · clear hgo
        go_wp2_with fail
        go_roundg (gk - 1)
        case measure => have := Hg.out; omega
        case rel => exact ⟨n / 10, _, by have := Hg.out; rw [app_data, Hdig.out]; simp; omega, by omega, by go_num, rfl, by show _ = _; rw [app_data, Hdig.out]; exact Hst.out.trans HR.out, rfl⟩
      · obtain rfl : n = 0 := by omega
        have he := isEmpty_of (show t.data.toList = [] by rcases hgo with h | h; omega; exact h)
        have Ht := Lib.hid (show t.data.toList = [] by rcases hgo with h | h; omega; exact h)
        clear hgo h0
        go_wp2_with fail
        go_roundg (gk - 1)
        case measure => have := Hg.out; rw [if_pos Ht.out] at this; omega
        case rel => exact ⟨0, _, by have := Hg.out; rw [if_pos Ht.out] at this; rw [app_data, Hdig.out]; simp, by omega, rfl, rfl, by show _ = _; rw [app_data, Hdig.out]; exact Hst.out.trans HR.out, rfl⟩
    · obtain rfl : n = 0 := by omega
      have hne : ¬ t.data.toList = [] := fun h => hgo (.inr h)
      have he := isEmpty_not hne
      have Hd := Lib.hid (restN_done _ hne)
      clear hgo hne
      go_wp2_with fail
      go_ret
      exact ⟨ret_str (by rw [app_data]; exact (Hd.out.symm.trans HR.out)), rfl⟩

set_option maxRecDepth 100000 in
set_option maxHeartbeats 1000000 in
theorem rPut_neg (m : Nat) (w : World) (h0 : 0 < m) (h : m ≤ 9223372036854775808) :
    Calls Tryd.prog 43 #[.int .i64 (-(m : Int))] w fun e w' => e = .returned (.string (bytes (45 :: decN m))) ∧ w = w' := by
  have e1 : (-(m : Int)).tmod 10 = -((m % 10 : Nat) : Int) := by rw [Int.neg_tmod]; rfl
  have e2 : (-(m : Int)).tdiv 10 = -((m / 10 : Nat) : Int) := by rw [Int.neg_tdiv]; rfl
  obtain ⟨d, hd⟩ : ∃ d, m % 10 = d := ⟨_, rfl⟩
  obtain ⟨q, hq⟩ : ∃ q, m / 10 = q := ⟨_, rfl⟩
  have hd10 : d < 10 := by omega
  have hqm : q ≤ 922337203685477580 := by omega
  have hdig0 := ten_digit d hd10
  rw [Nat.add_comm d 1] at hdig0
  have Hdig0 := Lib.hid hdig0
  clear hdig0
  have Hst0 : Hid (restN q [dig d] = decN m) := Lib.hid (by rw [← hq, ← hd, restN_step m [] (.inl h0)]; unfold restN; rw [if_neg (by simp)]; simp)
  rw [hd] at e1
  rw [hq] at e2
  clear hd hq
  by_cases hq0 : q = 0
  · subst hq0
    go_enter Tryd.func43, Tryd.ntmps43
    go_wp2_with fail
    go_ret
    exact ⟨ret_str (by rw [app_data, Hdig0.out, ← Hst0.out]; simp [restN]), rfl⟩
  · have hq1 : 0 < q := by omega
    clear hq0
    go_enter Tryd.func43, Tryd.ntmps43
    go_wp2_with fail
    go_loopg [0, 3] q (fun g x s wx => ∃ (n : Nat) (t : ByteArray), n ≤ g ∧ n ≤ q ∧ x = .int .i64 n ∧ s = .string t ∧ Aside (restN n t.data.toList = decN m ∧ t.data.toList ≠ []) ∧ w = wx)
    case atStart => exact ⟨q, _, Nat.le_refl _, Nat.le_refl _, rfl, rfl, by rw [Hdig0.out]; exact ⟨Hst0.out, by simp⟩, rfl⟩
    case round =>
      obtain ⟨n, t, hg, hn, rfl, rfl, HR, rfl⟩ := hrel
      have hsz : t.size ≤ 19 := by
        have h1 := restN_len n t.data.toList
        rw [HR.out.1] at h1
        have h2 := decN_19 m (by omega)
        rw [size_data]; omega
      have he := isEmpty_not HR.out.2
      have Hdig := Lib.hid (ten_digit (n % 10) (by omega))
      have Hg := Lib.hid hg
      clear hg
      by_cases h0 : 0 < n
      · have Hst := Lib.hid (restN_step n t.data.toList (.inl h0))
        go_wp2_with fail
        go_roundg (gk - 1)
        case measure => have := Hg.out; omega
        case rel => exact ⟨n / 10, _, by have := Hg.out; omega, by omega, by go_num, rfl, by rw [app_data, Hdig.out]; exact ⟨Hst.out.trans HR.out.1, by simp⟩, rfl⟩
      · obtain rfl : n = 0 := by omega
        have Hd := Lib.hid (restN_done _ HR.out.2)
        clear h0
        go_wp2_with fail
        go_ret
        exact ⟨ret_str (by rw [app_data, ← Hd.out, HR.out.1]; rfl), rfl⟩

theorem rPut_any (n : Int) (w : World) (h0 : -9223372036854775808 ≤ n) (h1 : n ≤ 9223372036854775807) :
    Calls Tryd.prog 43 #[.int .i64 n] w fun e w' => e = .returned (.string (bytes (putL n))) ∧ w = w' := by
  by_cases h : n < 0
  · have e : n = -(n.natAbs : Int) := by omega
    have := rPut_neg n.natAbs w (by omega) (by omega)
    rw [← e] at this
    unfold putL; rw [if_pos h]; exact this
  · have e : n = (n.natAbs : Int) := by omega
    have := rPut_nat n.natAbs w (by omega)
    rw [← e] at this
    unfold putL; rw [if_neg h]; exact this

end Go.Proofs.YtljgjjbmgjfbcaaDoor
