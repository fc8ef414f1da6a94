/-
  The contracts of the document's Put and Get of numbers as bytes.
-/
import Derived.Test.YtjdhpemkajijnaaRows
import Derived.Test.YtjdhpemkajijnaaFPlain
import Derived.WalkKit
import Derived.WalkSpells
import Derived.WalkLawsBesides
import Derived.Lib.Hide
import Derived.Deep.LoopGhost
import Derived.Laws.IdiomStrings
namespace Go.Proofs.Ytjdhpemkajijnaa
open Go.RowKit

/-- Two results: a text and a number. -/
def TextNum (r : List UInt8 × Int) : Ending := .returned (.tuple #[.string (bytes r.1), .int .i64 r.2])
theorem textNum_mk {u : ByteArray} {b : Int} {r : List UInt8 × Int} (h : (u.data.toList, b) = r) : Ending.returned (.tuple #[.string u, .int .i64 b]) = TextNum r := by
  subst h; unfold TextNum; rw [bytes_of]
def NumNum (r : Int × Int) : Ending := .returned (.tuple #[.int .i64 r.1, .int .i64 r.2])
theorem numNum_mk {a b : Int} {r : Int × Int} (h : (a, b) = r) : Ending.returned (.tuple #[.int .i64 a, .int .i64 b]) = NumNum r := by subst h; rfl

theorem conv_byte (m : Nat) (W : World) : (convert 48 9 (.slice (some ⟨W.heap.size, 0, none⟩) 1 1)).run Try.prog (W.alloc (.cells #[.int .u8 ((m : Int) % 256)] 5)) =
    .ok (.string (bytes [UInt8.ofNat (m % 256)])) (W.alloc (.cells #[.int .u8 ((m : Int) % 256)] 5)) := by
  have h := run_convert_bytes_back (P := Try.prog) (W.alloc (.cells #[.int .u8 ((m : Int) % 256)] 5)) 48 9 5 ⟨W.heap.size, 0, none⟩ 1 [UInt8.ofNat (m % 256)] Try.underlying48 Try.underlying5 Try.underlying9 (fun j hj => by
    simp at hj
    subst hj
    have e : (⟨W.heap.size, 0, none⟩ : Addr).add 0 = ⟨W.heap.size, 0, none⟩ := rfl
    rw [e, World.cell?_alloc_new]
    simp)
  exact h

set_option maxRecDepth 100000 in
set_option maxHeartbeats 1000000 in
theorem rPutF_nat (n k : Nat) (w : World) (h : n ≤ 9223372036854775807) (hk : k ≤ 8) :
    Calls Try.prog 8 #[.int .i64 (n : Int), .int .i64 (k : Int)] w fun e w' => e = TextNum (putF n k) ∧ Below w.heap.size w w' := by
  have hk1 : ¬ (k : Int) < 0 := by omega
  have hk2 : ¬ (8 : Int) < (k : Int) := by omega
  have hn : ¬ (n : Int) < 0 := by omega
  go_enter Try.func8, Try.ntmps8
  go_wp2_with fail
  go_loopg [0, 6, 7] k (fun g x s i wx => ∃ (j : Nat) (t : ByteArray) (m : Nat), j + g = k ∧ i = .int .i64 j ∧ s = .string t ∧ x = .int .i64 m ∧ m ≤ n ∧ t.size = j ∧ Aside (t.data.toList = loN j n ∧ m = n / 256 ^ j) ∧ Below w.heap.size w wx)
  case atStart => exact ⟨0, ByteArray.empty, n, by omega, rfl, rfl, rfl, Nat.le_refl _, rfl, ⟨rfl, by simp⟩, Below.refl _ _⟩
  case round =>
    obtain ⟨j, t, m, hj, rfl, rfl, rfl, hm, hts, HT, hb⟩ := hrel
    have Hb := Lib.hid hb
    clear hb
    cases gk with
    | zero =>
      obtain rfl : j = k := by omega
      by_cases h0 : m = 0
      · subst h0
        have Hr : Hid (putF n j = (loN j n, 0)) := Lib.hid (putF_ok hk (by
          have := HT.out.2
          exact Nat.lt_of_div_eq_zero (Nat.pow_pos (by omega)) this.symm))
        go_wp2_with fail
        go_ret2
        exact ⟨textNum_mk (by rw [Hr.out, HT.out.1]), Hb.out⟩
      · have Hr : Hid (putF n j = ([], 3)) := Lib.hid (putF_big hk (by
          have := HT.out.2
          rcases Nat.lt_or_ge n (256 ^ j) with h | h
          · exact absurd (this.trans (Nat.div_eq_of_lt h)) h0
          · exact h))
        go_wp2_with fail
        go_ret2
        exact ⟨textNum_mk (by rw [Hr.out]), Hb.out⟩
    | succ g =>
      have hlt : (j : Int) < (k : Int) := by omega
      have hconv := conv_byte m wr
      obtain ⟨u, hu⟩ : ∃ u, bytes [UInt8.ofNat (m % 256)] = u := ⟨_, rfl⟩
      rw [hu] at hconv
      have hus : u.size = 1 := by rw [← hu, bytes_size]; rfl
      have Hu := Lib.hid hu
      clear hu
      have Hb2 := Lib.hid (Hb.out.alloc Hb.out.size (.cells #[.int .u8 ((m : Int) % 256)] 5))
      go_wp2_with fail
      go_roundg g
      case measure => omega
      case rel =>
        refine ⟨j + 1, _, m / 256, by omega, rfl, rfl, by go_num, by omega, ?_, ?_, Hb2.out⟩
        · rw [size_data, app_data, List.length_append, ← size_data, ← size_data, hus, hts]; omega
        · obtain ⟨h1, h2⟩ := HT.out
          rw [app_data, ← Hu.out, bytes_data, h1, h2]
          exact ⟨rfl, by rw [Nat.div_div_eq_div_mul, Nat.pow_succ]⟩

theorem rPutF_any (n width : Int) (w : World) (h0 : -9223372036854775808 ≤ n) (h1 : n ≤ 9223372036854775807) :
    Calls Try.prog 8 #[.int .i64 n, .int .i64 width] w fun e w' => e = TextNum (putF n width) ∧ Below w.heap.size w w' := by
  by_cases hw : width < 0 ∨ 8 < width
  · have Hr := Lib.hid (putF_arg (n := n) hw)
    rcases hw with h | h
    · go_enter Try.func8, Try.ntmps8
      go_wp2_with fail
      go_ret2
      exact ⟨textNum_mk (by rw [Hr.out]), Below.refl _ _⟩
    · have h' : ¬ width < 0 := by omega
      go_enter Try.func8, Try.ntmps8
      go_wp2_with fail
      go_ret2
      exact ⟨textNum_mk (by rw [Hr.out]), Below.refl _ _⟩
  · obtain ⟨k, rfl⟩ := Int.eq_ofNat_of_zero_le (show 0 ≤ width by omega)
    by_cases hn : n < 0
    · have Hr := Lib.hid (putF_neg hw hn)
      have hk1 : ¬ (k : Int) < 0 := by omega
      have hk2 : ¬ (8 : Int) < (k : Int) := by omega
      clear hw
      go_enter Try.func8, Try.ntmps8
      go_wp2_with fail
      go_ret2
      exact ⟨textNum_mk (by rw [Hr.out]), Below.refl _ _⟩
    · obtain ⟨m, rfl⟩ := Int.eq_ofNat_of_zero_le (show 0 ≤ n by omega)
      exact rPutF_nat m k w (by omega) (by omega)

set_option maxRecDepth 100000 in
set_option maxHeartbeats 1000000 in
theorem rGetF_any (s : ByteArray) (w : World) (hs : s.size ≤ maxLen) :
    Calls Try.prog 11 #[.string s] w fun e w' => e = NumNum (getF s.data.toList) ∧ w = w' := by
  unfold maxLen at hs
  by_cases h8 : 8 < s.size
  · have Hr := Lib.hid (getF_arg (l := s.data.toList) (by rw [← size_data]; exact h8))
    have h8' : (8 : Int) < (s.size : Int) := by omega
    clear h8
    go_enter Try.func11, Try.ntmps11
    go_wp2_with fail
    go_ret2
    exact ⟨numNum_mk (by rw [Hr.out]), rfl⟩
  · have h8' : ¬ (8 : Int) < (s.size : Int) := by omega
    by_cases hr : 9223372036854775808 ≤ valB s.data.toList
    · have Hr := Lib.hid (getF_range (by rw [← size_data]; exact h8) hr)
      have he : s.size = 8 := by
        rcases Nat.lt_or_ge s.size 8 with h | h
        · exact absurd hr (valB_low (by rw [← size_data]; omega))
        · omega
      have h0 : 0 < s.size := by omega
      have hb : (127 : Int) < (s[0].toNat : Int) := by
        cases hl : s.data.toList with
        | nil => rw [size_data, hl] at he; simp at he
        | cons c t =>
          have hc : s[0] = c := by
            have := byte_at s 0 h0
            rw [hl] at this; exact (Option.some.inj this).symm
          rw [hl] at hr
          have := (valB_high (c := c) (t := t) (by rw [size_data, hl] at he; simpa using he)).1 hr
          rw [hc]; omega
      clear hr h8
      go_enter Try.func11, Try.ntmps11
      go_wp2_with fail
      go_ret2
      exact ⟨numNum_mk (by rw [Hr.out]), rfl⟩
    · have Hr := Lib.hid (getF_ok (by rw [← size_data]; exact h8) hr)
      have Hsz := Lib.hid (size_data s)
      have hbnd : ∀ k, valB (s.data.toList.take k) ≤ valB s.data.toList := fun k => by
        have h := valB_from (s.data.toList.drop k) (valB (s.data.toList.take k))
        have e : valB s.data.toList = (s.data.toList.drop k).foldl (fun a c => 256 * a + c.toNat) (valB (s.data.toList.take k)) := by
          unfold valB; rw [← List.foldl_append, List.take_append_drop]
        rw [e, h]
        have h4 : 1 ≤ 256 ^ (s.data.toList.drop k).length := Nat.one_le_pow _ _ (by omega)
        have h5 := Nat.mul_le_mul_left (valB (s.data.toList.take k)) h4
        omega
      have Hbnd := Lib.hid hbnd
      have hcase : ¬ (s.size = 8) ∨ ∃ h0 : 0 < s.size, s.size = 8 ∧ ¬ (127 : Int) < (s[0].toNat : Int) := by
        by_cases he : s.size = 8
        · right
          have h0 : 0 < s.size := by omega
          refine ⟨h0, he, ?_⟩
          cases hl : s.data.toList with
          | nil => rw [size_data, hl] at he; simp at he
          | cons c t =>
            have hc : s[0] = c := by
              have := byte_at s 0 h0
              rw [hl] at this; exact (Option.some.inj this).symm
            rw [hl] at hr
            have := mt (valB_high (c := c) (t := t) (by rw [size_data, hl] at he; simpa using he)).2 hr
            rw [hc]; omega
        · exact .inl he
      have Hv : Hid (valB s.data.toList ≤ 9223372036854775807) := Lib.hid (by omega)
      clear hr hbnd h8
      rcases hcase with he | ⟨h0, he, hb⟩
      all_goals
        go_enter Try.func11, Try.ntmps11
        go_wp2_with fail
        go_loop [4, 5] (fun x i => ∃ k : Nat, k ≤ s.size ∧ i = .int .i64 k ∧ x = .int .i64 (valB (s.data.toList.take k) : Nat)) (fun _ i => s.size - (intOf i).toNat)
        case atStart => exact ⟨0, Nat.zero_le _, rfl, rfl⟩
        case round =>
          obtain ⟨k, hk, rfl, rfl⟩ := hrel
          by_cases hlt : k < s.size
          · have hst := valB_take s k hlt
            have hb1 := Hbnd.out (k + 1)
            obtain ⟨v, hvv⟩ : ∃ v, valB (s.data.toList.take k) = v := ⟨_, rfl⟩
            obtain ⟨v', hvv'⟩ : ∃ v', valB (s.data.toList.take (k + 1)) = v' := ⟨_, rfl⟩
            rw [hvv, hvv'] at hst
            rw [hvv'] at hb1
            rw [hvv]
            have hv1 : (v' : Int) ≤ 9223372036854775807 := by have := Hv.out; omega
            have hst' : (v' : Int) = 256 * (v : Int) + (s[k].toNat : Int) := by omega
            have hlim : 256 * (v : Int) + (s[k].toNat : Int) ≤ 9223372036854775807 := by omega
            have Hst := Lib.hid hst'
            have Hv' := Lib.hid hvv'
            clear hst hst' hvv hvv' hb1 hv1
            go_wp2_with fail
            go_round
            case rel => exact ⟨k + 1, by omega, by go_num, by rw [Hv'.out, Hst.out]⟩
            case measure => simp [intOf]; omega
          · obtain rfl : k = s.size := by omega
            have hall : s.data.toList.take s.size = s.data.toList := List.take_of_length_le (by rw [← size_data]; exact Nat.le_refl _)
            rw [hall]
            clear hall
            go_wp2_with fail
            go_ret2
            exact ⟨numNum_mk (by rw [Hr.out]), rfl⟩

end Go.Proofs.Ytjdhpemkajijnaa
