/-
  The contract of the document's Put of rows of bits.
-/
import Derived.Test.YtcnokejjpcpphaaBitRef
import Derived.Test.YtcnokejjpcpphaaBitText
namespace Go.Proofs.Ytcnokejjpcpphaa
open Go.RowKit

set_option maxHeartbeats 1000000 in
theorem rPutB_is (g c : Nat) (row : List Nat) (n width : Int) (w : World) (hr : BitsAt w g row) (hl : row.length ≤ 1000000) (_h0 : -9223372036854775808 ≤ n) (_h1 : n ≤ 9223372036854775807) (_h2 : -9223372036854775808 ≤ width) (_h3 : width ≤ 9223372036854775807)
    {row' : List Nat} {e : Int} (h : putB row n width = (row', e)) :
    Calls Try.prog 9 #[.slice (some ⟨g, 0, none⟩) row.length c, .int .i64 n, .int .i64 width] w (RowOut w g row' e) := by
  have Hin := Lib.hid hr
  clear hr
  by_cases hbad : width < 0 ∨ 16 < width
  · have Hr := Lib.hid ((putB_arg hbad).symm.trans h)
    have hcase : width < 0 ∨ (¬ width < 0 ∧ 16 < width) := by omega
    clear hbad h
    rcases hcase with h | ⟨h, h'⟩
    all_goals
      go_enter Try.func9, Try.ntmps9
      go_wp2_with fail
      go_ret2
      obtain ⟨rfl, rfl⟩ := Prod.mk.inj Hr.out
      exact ⟨g, c, rfl, Hin.out, Below.refl _ _, .inl rfl⟩
  · obtain ⟨v, rfl⟩ := Int.eq_ofNat_of_zero_le (show 0 ≤ width by omega)
    have hv : v ≤ 16 := by omega
    have hv1 : ¬ (v : Int) < 0 := by omega
    have hv2 : ¬ 16 < (v : Int) := by omega
    have Hpow := Lib.hid fun W => rPower_any v W hv
    clear hbad
    by_cases hneg : n < 0
    · have Hr := Lib.hid ((putB_range hv (.inl hneg)).symm.trans h)
      clear h
      go_enter Try.func9, Try.ntmps9
      go_wp2_with fail
      go_ret2
      obtain ⟨rfl, rfl⟩ := Prod.mk.inj Hr.out
      exact ⟨g, c, rfl, Hin.out, Below.refl _ _, .inl rfl⟩
    · obtain ⟨m, rfl⟩ := Int.eq_ofNat_of_zero_le (show 0 ≤ n by omega)
      have hp : ((2 ^ v : Nat) : Int) = (2 : Int) ^ v := by simp
      obtain ⟨z, hz⟩ : ∃ z, 2 ^ v = z := ⟨_, rfl⟩
      by_cases hbig : (2 : Int) ^ v ≤ (m : Int)
      · have Hr := Lib.hid ((putB_range hv (.inr hbig)).symm.trans h)
        have hzm : (z : Int) ≤ (m : Int) := by rw [← hz, hp]; exact hbig
        rw [hz] at Hpow
        clear h hbig hp hz
        go_enter Try.func9, Try.ntmps9
        go_wp2_with fail
        refine (Hpow.out _).mono ?_
        rintro e w1 ⟨rfl, rfl⟩
        go_wp2_with fail
        go_ret2
        obtain ⟨rfl, rfl⟩ := Prod.mk.inj Hr.out
        exact ⟨g, c, rfl, Hin.out, Below.refl _ _, .inl rfl⟩
      · have hmz : m < 2 ^ v := by rw [← hp] at hbig; omega
        have Hr := Lib.hid ((putB_ok hv hmz).symm.trans h)
        have hzm : ¬ (z : Int) ≤ (m : Int) := by rw [← hz]; omega
        rw [hz] at Hpow
        have hm16 : m ≤ 65536 := by
          have : (2 : Nat) ^ v ≤ 2 ^ 16 := Nat.pow_le_pow_right (by omega) hv
          omega
        have hal : (asZ row).length = row.length := asZ_length row
        have Hal := Lib.hid hal
        clear h hbig hp hz hmz hal
        go_enter Try.func9, Try.ntmps9
        go_wp2_with fail
        refine (Hpow.out _).mono ?_
        rintro e w1 ⟨rfl, rfl⟩
        go_wp2_with (at_builtin; refine wpList_append64_any rfl (.tmp 26) (.tmp 27) rfl w.heap.size _ [] rfl (Own64.made w 0 #[] (Nat.le_refl _) (by decide) rfl) ⟨g, 0, none⟩ c (asZ row) (by rw [Hal.out]; rfl) (Hin.out.news_alloc _) (by rw [Hal.out]; simp; omega) w ((Below.refl _ w).alloc (Nat.le_refl _) _) (by simp) ?_; intro v2 w2 Ho2 Hb2 _)
        go_loopg [1, 8, 9] v (fun gg s1 s8 s9 wx => ∃ (j x : Nat), j + gg = v ∧ s9 = .int .i64 j ∧ s1 = .int .i64 x ∧ x ≤ 65536 ∧ Aside (x = m / 2 ^ j ∧ Own64 wx w.heap.size s8 (asZ (row ++ bitsN j m))) ∧ Below w.heap.size w wx)
        case atStart => exact ⟨0, m, by omega, rfl, rfl, hm16, ⟨by simp, by rw [bitsN, List.append_nil]; exact Ho2.out⟩, Hb2.out⟩
        case round =>
          obtain ⟨j, x, hjg, rfl, rfl, hx, HX, hb⟩ := hrel
          have Hb := Lib.hid hb
          clear hb
          cases gk with
          | zero =>
            obtain rfl : j = v := by omega
            go_wp2_with fail
            go_ret2
            obtain ⟨rfl, rfl⟩ := Prod.mk.inj Hr.out
            exact HX.out.2.row_out Hb.out
          | succ gg =>
            have hjz : (j : Int) < (v : Int) := by omega
            have hlen : (asZ (row ++ bitsN j m)).length ≤ 2000000 := by rw [asZ_length, List.length_append, bitsN_length]; omega
            obtain ⟨r, hr2⟩ : ∃ r, x % 2 = r := ⟨_, rfl⟩
            obtain ⟨y, hy2⟩ : ∃ y, x / 2 = y := ⟨_, rfl⟩
            have hb2 : (x : Int) % 2 = (r : Int) := by omega
            have hx2 : (x : Int) / 2 = (y : Int) := by omega
            have hyb : y ≤ 65536 := by omega
            have Hnext : Hid (y = m / 2 ^ (j + 1) ∧ bitsN (j + 1) m = bitsN j m ++ [r]) := Lib.hid (by
              rw [← hy2, ← hr2, HX.out.1]
              exact ⟨by rw [Nat.div_div_eq_div_mul, Nat.pow_succ], bitsN_snoc j m⟩)
            clear hr2 hy2
            go_wp2_with (at_builtin; refine wpList_append64 rfl (.tmp 34) (.tmp 37) rfl w.heap.size _ (asZ (row ++ bitsN j m)) rfl (HX.out.2.alloc _) ⟨wr.heap.size, 0, none⟩ 1 [(r : Int)] rfl (cells_newZ _ _) (by simp) (by simp; omega) w (Hb.out.alloc Hb.out.size _) (by have := Hb.out.size; simp; omega) ?_; intro v3 w3 Ho3 Hb3 _)
            go_roundg gg
            case measure => omega
            case rel => exact ⟨j + 1, y, by omega, by go_num, by go_num, hyb, ⟨Hnext.out.1, by rw [Hnext.out.2, ← List.append_assoc, asZ_snoc]; exact Ho3.out⟩, Hb3.out⟩


end Go.Proofs.Ytcnokejjpcpphaa
