/-
  The contracts of isWidth, spread and Need of package fields.
-/
import Derived.Test.YtjdhpemkajijnaaFRef2
import Derived.WalkKit
import Derived.WalkSpells
import Derived.WalkLawsBesides
import Derived.Lib.Hide
import Derived.Deep.LoopGhost
import Derived.BigQuiet
import Derived.Deep.QuietTactic
namespace Go.Proofs.Ytjdhpemkajijnaa
open Go.RowKit

theorem isWidth_yes (v : Int) (w : World) (h0 : ¬ v < 0) (h1 : ¬ 8 < v) : Calls Try.prog 19 #[.int .i64 v] w fun e w' => e = .returned (.bool true) ∧ w = w' := by
  have a : 0 ≤ v := by omega
  have b : v ≤ 8 := by omega
  clear h0 h1
  go_enter Try.func19, Try.ntmps19
  go_wp2_with fail
  go_ret
  exact ⟨rfl, rfl⟩
theorem isWidth_no (v : Int) (w : World) (h : v < 0 ∨ 8 < v) : Calls Try.prog 19 #[.int .i64 v] w fun e w' => e = .returned (.bool false) ∧ w = w' := by
  rcases h with h | h
  · have a : ¬ 0 ≤ v := by omega
    go_enter Try.func19, Try.ntmps19
    go_wp2_with fail
    go_ret
    exact ⟨rfl, rfl⟩
  · have a : 0 ≤ v := by omega
    have b : ¬ v ≤ 8 := by omega
    go_enter Try.func19, Try.ntmps19
    go_wp2_with fail
    go_ret
    exact ⟨rfl, rfl⟩

set_option maxHeartbeats 1000000 in
theorem spread_any (n : Nat) (w : World) (h : n ≤ 9223372036854775807) :
    Calls Try.prog 20 #[.int .i64 (n : Int)] w fun e w' => e = .returned (.agg #[.int .u8 ((n / 256 ^ 7 % 256 : Nat) : Int), .int .u8 ((n / 256 ^ 6 % 256 : Nat) : Int), .int .u8 ((n / 256 ^ 5 % 256 : Nat) : Int), .int .u8 ((n / 256 ^ 4 % 256 : Nat) : Int), .int .u8 ((n / 256 ^ 3 % 256 : Nat) : Int), .int .u8 ((n / 256 ^ 2 % 256 : Nat) : Int), .int .u8 ((n / 256 ^ 1 % 256 : Nat) : Int), .int .u8 ((n / 256 ^ 0 % 256 : Nat) : Int)]) ∧ Below w.heap.size w w' := by
  have hv : (#[.int .u8 ((n / 256 ^ 7 % 256 : Nat) : Int), .int .u8 ((n / 256 ^ 6 % 256 : Nat) : Int), .int .u8 ((n / 256 ^ 5 % 256 : Nat) : Int), .int .u8 ((n / 256 ^ 4 % 256 : Nat) : Int), .int .u8 ((n / 256 ^ 3 % 256 : Nat) : Int), .int .u8 ((n / 256 ^ 2 % 256 : Nat) : Int), .int .u8 ((n / 256 ^ 1 % 256 : Nat) : Int), .int .u8 ((n / 256 ^ 0 % 256 : Nat) : Int)] : Array Value) =
    #[.int .u8 ((n : Int) / 72057594037927936), .int .u8 ((n : Int) / 281474976710656 % 256), .int .u8 ((n : Int) / 1099511627776 % 256), .int .u8 ((n : Int) / 4294967296 % 256), .int .u8 ((n : Int) / 16777216 % 256), .int .u8 ((n : Int) / 65536 % 256), .int .u8 ((n : Int) / 256 % 256), .int .u8 ((n : Int) % 256)] := by
    have e : (n : Int) / 72057594037927936 = ((n / 256 ^ 7 % 256 : Nat) : Int) := by omega
    rw [e]
    simp
  rw [hv]
  clear hv
  go_enter Try.func20, Try.ntmps20
  go_wp2_with fail
  refine wp_loop_rounds 9 ?_
  iterate 9 (rw [rounds_succ]; go_wp2_with fail)
  exact bodyPost_ret (by simp [results, Try.results20, go_sem]) rfl ⟨rfl, ((Below.refl _ w).alloc (Nat.le_refl _) _).alloc (by simp) _⟩
theorem u8_of (m : Nat) : ((UInt8.ofNat (m % 256)).toNat : Int) = ((m % 256 : Nat) : Int) := by simp
theorem spread_is (n : Nat) (w : World) (h : n ≤ 9223372036854775807) {c0 c1 c2 c3 c4 c5 c6 c7 : UInt8} (hl : loN 8 n = [c0, c1, c2, c3, c4, c5, c6, c7]) :
    Calls Try.prog 20 #[.int .i64 (n : Int)] w fun e w' => e = .returned (.agg #[.int .u8 (c0.toNat : Int), .int .u8 (c1.toNat : Int), .int .u8 (c2.toNat : Int), .int .u8 (c3.toNat : Int), .int .u8 (c4.toNat : Int), .int .u8 (c5.toNat : Int), .int .u8 (c6.toNat : Int), .int .u8 (c7.toNat : Int)]) ∧ Below w.heap.size w w' := by
  simp only [loN, List.cons.injEq, and_true] at hl
  obtain ⟨rfl, rfl, rfl, rfl, rfl, rfl, rfl, rfl⟩ := hl
  have := spread_any n w h
  simp only [u8_of]
  exact this
theorem loN8 (n : Nat) : ∃ c0 c1 c2 c3 c4 c5 c6 c7, loN 8 n = [c0, c1, c2, c3, c4, c5, c6, c7] := ⟨_, _, _, _, _, _, _, _, rfl⟩

theorem widN_mono {a b : Nat} (h : a ≤ b) : widN a ≤ widN b := (widN_iff _ _).2 (Nat.lt_of_le_of_lt h ((widN_iff _ _).1 (Nat.le_refl _)))
theorem widN_at {m j : Nat} (h0 : 256 ^ j ≤ m) (h1 : m < 256 ^ (j + 1)) : widN m = j + 1 := by
  have a := (widN_iff (j + 1) m).2 h1
  have b := mt (widN_iff j m).1 (by omega)
  omega
/-- Which of a number's eight bytes is the first that is not 0. -/
theorem first_byte {m : Nat} (h : m ≤ 9223372036854775807) {c0 c1 c2 c3 c4 c5 c6 c7 : UInt8} (hl : loN 8 m = [c0, c1, c2, c3, c4, c5, c6, c7]) :
    (((c0.toNat : Int) != 0) = true ∧ widN m = 8) ∨ (c0 = 0 ∧ ((c1.toNat : Int) != 0) = true ∧ widN m = 7) ∨ (c0 = 0 ∧ c1 = 0 ∧ ((c2.toNat : Int) != 0) = true ∧ widN m = 6) ∨
    (c0 = 0 ∧ c1 = 0 ∧ c2 = 0 ∧ ((c3.toNat : Int) != 0) = true ∧ widN m = 5) ∨ (c0 = 0 ∧ c1 = 0 ∧ c2 = 0 ∧ c3 = 0 ∧ ((c4.toNat : Int) != 0) = true ∧ widN m = 4) ∨
    (c0 = 0 ∧ c1 = 0 ∧ c2 = 0 ∧ c3 = 0 ∧ c4 = 0 ∧ ((c5.toNat : Int) != 0) = true ∧ widN m = 3) ∨ (c0 = 0 ∧ c1 = 0 ∧ c2 = 0 ∧ c3 = 0 ∧ c4 = 0 ∧ c5 = 0 ∧ ((c6.toNat : Int) != 0) = true ∧ widN m = 2) ∨
    (c0 = 0 ∧ c1 = 0 ∧ c2 = 0 ∧ c3 = 0 ∧ c4 = 0 ∧ c5 = 0 ∧ c6 = 0 ∧ ((c7.toNat : Int) != 0) = true ∧ widN m = 1) ∨ (c0 = 0 ∧ c1 = 0 ∧ c2 = 0 ∧ c3 = 0 ∧ c4 = 0 ∧ c5 = 0 ∧ c6 = 0 ∧ c7 = 0 ∧ widN m = 0) := by
  simp only [loN, List.cons.injEq, and_true] at hl
  obtain ⟨rfl, rfl, rfl, rfl, rfl, rfl, rfl, rfl⟩ := hl
  have zero : ∀ k, k % 256 = 0 → UInt8.ofNat (k % 256) = 0 := fun k hk => by rw [hk]; rfl
  have some' : ∀ k, ¬ k % 256 = 0 → (((UInt8.ofNat (k % 256)).toNat : Int) != 0) = true := fun k hk => by rw [u8_of]; simp; omega
  by_cases h7 : 256 ^ 7 ≤ m
  · exact .inl ⟨some' _ (by omega), widN_at h7 (by omega)⟩
  by_cases h6 : 256 ^ 6 ≤ m
  · exact .inr (.inl ⟨zero _ (by omega), some' _ (by omega), widN_at h6 (by omega)⟩)
  by_cases h5 : 256 ^ 5 ≤ m
  · exact .inr (.inr (.inl ⟨zero _ (by omega), zero _ (by omega), some' _ (by omega), widN_at h5 (by omega)⟩))
  by_cases h4 : 256 ^ 4 ≤ m
  · exact .inr (.inr (.inr (.inl ⟨zero _ (by omega), zero _ (by omega), zero _ (by omega), some' _ (by omega), widN_at h4 (by omega)⟩)))
  by_cases h3 : 256 ^ 3 ≤ m
  · exact .inr (.inr (.inr (.inr (.inl ⟨zero _ (by omega), zero _ (by omega), zero _ (by omega), zero _ (by omega), some' _ (by omega), widN_at h3 (by omega)⟩))))
  by_cases h2 : 256 ^ 2 ≤ m
  · exact .inr (.inr (.inr (.inr (.inr (.inl ⟨zero _ (by omega), zero _ (by omega), zero _ (by omega), zero _ (by omega), zero _ (by omega), some' _ (by omega), widN_at h2 (by omega)⟩)))))
  by_cases h1 : 256 ^ 1 ≤ m
  · exact .inr (.inr (.inr (.inr (.inr (.inr (.inl ⟨zero _ (by omega), zero _ (by omega), zero _ (by omega), zero _ (by omega), zero _ (by omega), zero _ (by omega), some' _ (by omega), widN_at h1 (by omega)⟩))))))
  by_cases h0 : 256 ^ 0 ≤ m
  · exact .inr (.inr (.inr (.inr (.inr (.inr (.inr (.inl ⟨zero _ (by omega), zero _ (by omega), zero _ (by omega), zero _ (by omega), zero _ (by omega), zero _ (by omega), zero _ (by omega), some' _ (by omega), widN_at h0 (by omega)⟩)))))))
  · obtain rfl : m = 0 := by omega
    exact .inr (.inr (.inr (.inr (.inr (.inr (.inr (.inr ⟨rfl, rfl, rfl, rfl, rfl, rfl, rfl, rfl, widN_zero⟩)))))))

set_option maxRecDepth 100000 in
set_option maxHeartbeats 2000000 in
theorem fNeed_any (p : Option Addr) (cap : Nat) (zs : List Int) (w : World) (hz : zs.length ≤ 9223372036854775807) (hi : Ints zs) (hp : Nums w p zs) :
    Calls Try.prog 12 #[.slice p zs.length cap] w fun e w' => e = .returned (.int .i64 (needF zs)) ∧ Below w.heap.size w w' := by
  have Hi := Lib.hid hi
  have Hp := Lib.hid hp
  clear hi hp
  go_enter Try.func12, Try.ntmps12
  go_wp2_with fail
  go_loopg [3, 10] zs.length (fun g s3 s10 wx => ∃ (j m : Nat), j + g = zs.length ∧ s10 = .int .i64 j ∧ s3 = .int .i64 m ∧ m ≤ 9223372036854775807 ∧ Aside (needF zs = needFrom (widN m) (zs.drop j)) ∧ w = wx)
  case atStart => exact ⟨0, 0, by omega, rfl, rfl, by omega, by show needF zs = needFrom (widN 0) _; rw [widN_zero]; rfl, rfl⟩
  case round =>
    obtain ⟨j, m, hjg, rfl, rfl, hm, HN, rfl⟩ := hrel
    cases gk with
    | zero =>
      obtain rfl : j = zs.length := by omega
      have Hr : Hid (needF zs = widN m) := Lib.hid (by rw [HN.out, List.drop_length]; rfl)
      clear hjg
      obtain ⟨c0, c1, c2, c3, c4, c5, c6, c7, hl⟩ := loN8 m
      have hf := first_byte hm hl
      have Hl := Lib.hid hl
      clear hl
      rcases hf with ⟨t, hw⟩ | ⟨rfl, t, hw⟩ | ⟨rfl, rfl, t, hw⟩ | ⟨rfl, rfl, rfl, t, hw⟩ | ⟨rfl, rfl, rfl, rfl, t, hw⟩ | ⟨rfl, rfl, rfl, rfl, rfl, t, hw⟩ | ⟨rfl, rfl, rfl, rfl, rfl, rfl, t, hw⟩ | ⟨rfl, rfl, rfl, rfl, rfl, rfl, rfl, t, hw⟩ | ⟨rfl, rfl, rfl, rfl, rfl, rfl, rfl, rfl, hw⟩
      all_goals
        have Hw := Lib.hid hw
        clear hw
        go_wp2_with fail
        refine (spread_is m _ hm Hl.out).mono ?_
        rintro e w1 ⟨rfl, hb⟩
        have Hb := Lib.hid hb
        clear hb
        go_wp2_with fail
        refine wp_loop_rounds 9 ?_
        repeat (rw [rounds_succ]; go_wp2_with fail)
        go_ret
        exact ⟨ret_int (by rw [Hr.out, Hw.out]; rfl), Hb.out.alloc Hb.out.size _⟩
    | succ g =>
      have hj : j < zs.length := by omega
      have hjz : ((j : Int) < (zs.length : Int)) := by omega
      obtain ⟨b, off, rfl, hcell⟩ := Hp.out.at j hj
      obtain ⟨n, hn⟩ : ∃ n, zs[j]?.getD 0 = n := ⟨_, rfl⟩
      have hnb := Hi.out j hj
      rw [hn] at hcell hnb
      have Hn := Lib.hid hn
      have Hjg := Lib.hid hjg
      clear hjg hn
      obtain ⟨hn0, hn1⟩ := hnb
      by_cases hneg : n < 0
      · have Hr : Hid (needF zs = -1) := Lib.hid (by rw [HN.out]; exact need_neg hj (by rw [Hn.out]; exact hneg))
        go_wp2_with fail
        go_ret
        exact ⟨ret_int (by rw [Hr.out]), Below.refl _ _⟩
      · have Hstep : Hid (needF zs = needFrom (max (widN m) (widN n.toNat)) (zs.drop (j + 1))) := Lib.hid (by rw [HN.out, need_step hj (by rw [Hn.out]; exact hneg), Hn.out])
        obtain ⟨k, rfl⟩ := Int.eq_ofNat_of_zero_le (show 0 ≤ n by omega)
        have Hk : Hid ((k : Int).toNat = k) := Lib.hid (Int.toNat_natCast k)
        by_cases hmk : m < k
        · go_wp2_with fail
          go_roundg g
          case measure => omega
          case rel => exact ⟨j + 1, k, by have := Hjg.out; omega, by go_num, rfl, by omega, by
            have h := Hstep.out
            rw [Hk.out, Nat.max_eq_right (widN_mono (by omega))] at h
            exact h, rfl⟩
        · go_wp2_with fail
          go_roundg g
          case measure => omega
          case rel => exact ⟨j + 1, m, by have := Hjg.out; omega, by go_num, rfl, by omega, by
            have h := Hstep.out
            rw [Hk.out, Nat.max_eq_left (widN_mono (by omega))] at h
            exact h, rfl⟩

end Go.Proofs.Ytjdhpemkajijnaa
