/-
  The contracts of package crc: Sum, More, Join.
-/
import Derived.Test.YtllimejpmihpfaaDoorCSteps
import Derived.Test.YtllimejpmihpfaaDoorTexts
namespace Go.Proofs.YtllimejpmihpfaaDoor
open Go.RowKit

/-- All bits turned. -/
theorem turn_all (z : Nat) (hz : z < 4294967296) : bits .xor .u32 IntKind.u32.max (z : Int) = ((z ^^^ 4294967295 : Nat) : Int) := by
  have h := u32_xor_nat 4294967295 z (by omega) hz
  rw [Nat.xor_comm] at h
  exact h
theorem turned_lt {z : Nat} (hz : z < 4294967296) : z ^^^ 4294967295 < 4294967296 := Nat.xor_lt_two_pow (n := 32) hz (by omega)

set_option maxRecDepth 100000 in
set_option maxHeartbeats 1000000 in
theorem crSum_is (p : Option Addr) (cap n : Nat) (xs : List ByteArray) (w : World) (hn : n = xs.length) (hz : xs.length ≤ 9223372036854775807) (hs : ∀ x ∈ xs, x.size ≤ maxLen) (hp : Texts w p xs) (hl : Laid w) {r : Nat} (h : sumN (flatT xs) = r) :
    Calls Tryd.prog 8 #[.slice p n cap] w fun e w' => e = .returned (.int .i64 (r : Int)) ∧ Below w.heap.size w w' := by
  subst hn
  have H := Lib.hid h
  have Hp := Lib.hid hp
  have Hs := Lib.hid hs
  have Hl := Lib.hid hl
  clear h hp hs hl
  go_enter Tryd.func8, Tryd.ntmps8
  go_wp2_with fail
  go_loopg [3, 8] xs.length (fun g s3 s8 wx => ∃ (j z : Nat), j + g = xs.length ∧ s8 = .int .i64 j ∧ s3 = .int .u32 z ∧ z < 4294967296 ∧ Aside (z = foldN 4294967295 (flatT (xs.take j))) ∧ w = wx)
  case atStart => exact ⟨0, 4294967295, by omega, rfl, rfl, by omega, rfl, rfl⟩
  case round =>
    obtain ⟨j, z, hjg, rfl, rfl, hz2, HZ, rfl⟩ := hrel
    cases gk with
    | zero =>
      obtain rfl : j = xs.length := by omega
      have Hr : Hid (r = z ^^^ 4294967295) := Lib.hid (by rw [← H.out]; unfold sumN; rw [HZ.out, List.take_length])
      have hx := turn_all z hz2
      have hl2 := turned_lt hz2
      obtain ⟨y, hy⟩ : ∃ y, z ^^^ 4294967295 = y := ⟨_, rfl⟩
      rw [hy] at hx hl2 Hr
      clear hjg hy
      go_wp2_with fail
      go_ret
      exact ⟨ret_int (by rw [Hr.out]; first | done | (unfold wrap64; omega)), Below.refl _ _⟩
    | succ g =>
      have hj : j < xs.length := by omega
      have hjz : ((j : Int) < (xs.length : Int)) := by omega
      obtain ⟨b1, o1, rfl, hc1⟩ := Hp.out.at j hj
      obtain ⟨x, hx⟩ : ∃ x, xs[j]?.getD ByteArray.empty = x := ⟨_, rfl⟩
      rw [hx] at hc1
      have hft := flatT_take hj hx
      have hxs : x.size ≤ maxLen := Hs.out x (by rw [← hx, List.getElem?_eq_getElem hj]; exact List.getElem_mem hj)
      have Hft : Hid (foldN 4294967295 (flatT (xs.take (j + 1))) = foldN z x.data.toList) := Lib.hid (by rw [hft, foldN_append, HZ.out])
      have Hjg := Lib.hid hjg
      clear hjg hx hft
      have hlt := foldN_lt x.data.toList hz2
      go_wp2_with fail
      refine (take_any z x _ hxs hz2 Hl.out).mono ?_
      rintro e w1 ⟨rfl, rfl⟩
      go_wp2_with fail
      go_roundg g
      case measure => omega
      case rel => exact ⟨j + 1, foldN z x.data.toList, by have := Hjg.out; omega, by go_num, rfl, hlt, Hft.out.symm, rfl⟩
set_option maxHeartbeats 1000000 in
theorem crMore_is (n : Int) (s : ByteArray) (w : World) (hs : s.size ≤ maxLen) (h0 : -9223372036854775808 ≤ n) (h1 : n ≤ 9223372036854775807) (hl : Laid w) {a b : Int} (h : cMore n s.data.toList = (a, b)) :
    Calls Tryd.prog 10 #[.int .i64 n, .string s] w fun e w' => e = .returned (.tuple #[.int .i64 a, .int .i64 b]) ∧ Below w.heap.size w w' := by
  have Hl := Lib.hid hl
  clear hl
  by_cases hb : n < 0 ∨ 4294967295 < n
  · have Hb := Lib.hid hb
    have Hr := Lib.hid ((cMore_no (l := s.data.toList) hb).symm.trans h)
    clear hb h
    go_enter Tryd.func10, Tryd.ntmps10
    go_wp2_with fail
    refine (isSum_no n _ h0 h1 Hb.out).mono ?_
    rintro e w1 ⟨rfl, rfl⟩
    go_wp2_with fail
    go_ret2
    obtain ⟨rfl, rfl⟩ := Prod.mk.inj Hr.out
    exact ⟨rfl, Below.refl _ _⟩
  · obtain ⟨m, rfl⟩ := Int.eq_ofNat_of_zero_le (show 0 ≤ n by omega)
    have hm : m ≤ 4294967295 := by omega
    have Hr := Lib.hid ((cMore_ok (l := s.data.toList) hm).symm.trans h)
    have hx := turn_all m (by omega)
    have hl1 := turned_lt (show m < 4294967296 by omega)
    obtain ⟨y, hy⟩ : ∃ y, m ^^^ 4294967295 = y := ⟨_, rfl⟩
    rw [hy] at hx hl1 Hr
    have hfl := foldN_lt s.data.toList hl1
    have hx2 := turn_all _ hfl
    have hl2 := turned_lt hfl
    obtain ⟨v, hv⟩ : ∃ v, foldN y s.data.toList = v := ⟨_, rfl⟩
    rw [hv] at hfl hx2 hl2 Hr
    have Hv := Lib.hid hv
    obtain ⟨u, hu⟩ : ∃ u, v ^^^ 4294967295 = u := ⟨_, rfl⟩
    rw [hu] at hx2 hl2 Hr
    clear hb h h0 h1 hy hv hu
    go_enter Tryd.func10, Tryd.ntmps10
    go_wp2_with fail
    refine (isSum_yes m _ hm).mono ?_
    rintro e w1 ⟨rfl, rfl⟩
    go_wp2_with fail
    refine (take_any y s _ hs hl1 Hl.out).mono ?_
    rw [Hv.out]
    rintro e w1 ⟨rfl, rfl⟩
    go_wp2_with fail
    go_ret2
    obtain ⟨rfl, rfl⟩ := Prod.mk.inj Hr.out
    exact ⟨rfl, Below.refl _ _⟩

theorem fillAt_new (W : World) (k : Nat) : FillAt (W.alloc (.cells #[.int .u32 0, .int .u32 0, .int .u32 0, .int .u32 0, .int .u32 0, .int .u32 0, .int .u32 0, .int .u32 0, .int .u32 0, .int .u32 0, .int .u32 0, .int .u32 0, .int .u32 0, .int .u32 0, .int .u32 0, .int .u32 0, .int .u32 0, .int .u32 0, .int .u32 0, .int .u32 0, .int .u32 0, .int .u32 0, .int .u32 0, .int .u32 0, .int .u32 0, .int .u32 0, .int .u32 0, .int .u32 0, .int .u32 0, .int .u32 0, .int .u32 0, .int .u32 0] 45)) W.heap.size k 0 := by
  unfold FillAt; rw [filled_zero]; exact heap_alloc_new W _
/-- How the steps are doubled: what stands before a turn, and behind it. -/
theorem join_odd (a n j : Nat) (h : n / 2 ^ j % 2 = 1) : HN (8 * 2 ^ j) (HN (8 * (n % 2 ^ j)) a) = HN (8 * (n % 2 ^ (j + 1))) a := by
  rw [← HN_add]
  congr 1
  rw [Nat.mod_pow_succ, h]; omega
theorem join_even (n j : Nat) (h : n / 2 ^ j % 2 = 0) : n % 2 ^ (j + 1) = n % 2 ^ j := by
  rw [Nat.mod_pow_succ, h]; omega
set_option maxHeartbeats 1000000 in
theorem crJoin_nat (a b n : Nat) (w : World) (ha : a ≤ 4294967295) (hb : b ≤ 4294967295) (hn : n ≤ 9223372036854775807) (hl : Laid w) {y : Nat} (h : HN (8 * n) a ^^^ b = y) :
    Calls Tryd.prog 12 #[.int .i64 (a : Int), .int .i64 (b : Int), .int .i64 (n : Int)] w fun e w' => e = .returned (.tuple #[.int .i64 (y : Int), .int .i64 0]) ∧ Below w.heap.size w w' := by
  have H := Lib.hid h
  have Hl := Lib.hid hl
  clear h hl
  go_enter Tryd.func12, Tryd.ntmps12
  go_wp2_with fail
  refine (isSum_yes a _ ha).mono ?_
  rintro e w1 ⟨rfl, rfl⟩
  go_wp2_with fail
  refine (isSum_yes b _ hb).mono ?_
  rintro e w1 ⟨rfl, rfl⟩
  go_wp2_with fail
  refine (ofByte_any _ Hl.out).mono ?_
  rintro e w1 ⟨rfl, hb1⟩
  have hb2 : Below w.heap.size w (w1.alloc (.cells #[.int .u32 0, .int .u32 0, .int .u32 0, .int .u32 0, .int .u32 0, .int .u32 0, .int .u32 0, .int .u32 0, .int .u32 0, .int .u32 0, .int .u32 0, .int .u32 0, .int .u32 0, .int .u32 0, .int .u32 0, .int .u32 0, .int .u32 0, .int .u32 0, .int .u32 0, .int .u32 0, .int .u32 0, .int .u32 0, .int .u32 0, .int .u32 0, .int .u32 0, .int .u32 0, .int .u32 0, .int .u32 0, .int .u32 0, .int .u32 0, .int .u32 0, .int .u32 0] 45)) := hb1.alloc hb1.size _
  have Hf := Lib.hid (fillAt_new w1 8)
  have Hb2 := Lib.hid hb2
  have Hb1 := Lib.hid hb1
  clear hb1 hb2
  go_wp2_with (with_reducible refine wpList_store_steps rfl rfl (.tmp 9) (.tmp 24) rfl w1.heap.size 8 8 0 rfl rfl Hf.out w.heap.size w Hb2.out Hb1.out.size ?_; intro w2 H2 Hb3)
  go_loopg [2, 8] n (fun g s2 s8 wx => ∃ (j q z : Nat), Aside (q = g) ∧ s2 = .int .i64 q ∧ s8 = .int .u32 z ∧ z < 4294967296 ∧ Aside (q = n / 2 ^ j ∧ z = HN (8 * (n % 2 ^ j)) a ∧ FillAt wx w1.heap.size (8 * 2 ^ j) 32) ∧ Below w.heap.size w wx)
  case atStart => exact ⟨0, n, a, rfl, rfl, rfl, by omega, ⟨by rw [Nat.pow_zero, Nat.div_one], by rw [Nat.pow_zero, Nat.mod_one]; rfl, H2.out⟩, Hb3.out⟩
  case round =>
    obtain ⟨j, q, z, hq, rfl, rfl, hz, HI, hb4⟩ := hrel
    have Hb4 := Lib.hid hb4
    clear hb4
    cases gk with
    | zero =>
      obtain rfl : q = 0 := hq.out
      have hxor := u32_xor_nat z b hz (by omega)
      have hlt2 : z ^^^ b < 4294967296 := Nat.xor_lt_two_pow (n := 32) hz (by omega)
      have Hr : Hid (z ^^^ b = y) := Lib.hid (by
        rw [← H.out, HI.out.2.1]
        have : n / 2 ^ j = 0 := HI.out.1.symm
        have hlt : n < 2 ^ j := Nat.lt_of_div_eq_zero (Nat.pow_pos (by omega)) this
        rw [Nat.mod_eq_of_lt hlt])
      rw [Hr.out] at hxor hlt2
      go_wp2_with fail
      go_ret2
      exact ⟨rfl, Hb4.out⟩
    | succ g =>
      have hqg : q = g + 1 := hq.out
      have hq0 : q ≠ 0 := by omega
      have hpos : (0 : Int) < (q : Int) := by omega
      have Hqg := Lib.hid hqg
      clear hqg hq0
      have hdiv : q / 2 = n / 2 ^ (j + 1) := by rw [HI.out.1, Nat.div_div_eq_div_mul, Nat.pow_succ]
      have Hdiv := Lib.hid hdiv
      have hle : q ≤ n := by rw [HI.out.1]; exact Nat.div_le_self _ _
      have hq2 := Lib.hid (show wrap64 ((q : Int) / 2) = ((q / 2 : Nat) : Int) by unfold wrap64; omega)
      have hlt1 : w1.heap.size < wr.heap.size := HI.out.2.2.lt
      have hge := Hb1.out.size
      have h88 : Hid (8 * 2 ^ (j + 1) = 8 * 2 ^ j + 8 * 2 ^ j) := Lib.hid (by rw [Nat.pow_succ]; omega)
      clear hdiv
      by_cases hodd : q % 2 = 1
      · have ho : (((q : Int) % 2) == 1) = true := beq_iff_eq.2 (by omega)
        have hz2 : HN (8 * 2 ^ j) z < 4294967296 := HN_lt _ hz
        have Hz : Hid (HN (8 * 2 ^ j) z = HN (8 * (n % 2 ^ (j + 1))) a) := Lib.hid (by rw [HI.out.2.1]; exact join_odd a n j (by rw [← HI.out.1]; exact hodd))
        have Hg := Lib.hid hge
        have Hlt1 := Lib.hid hlt1
        have Hle := Lib.hid hle
        clear hodd hge hlt1 hle
        go_wp2_with fail
        refine (of_any w1.heap.size (8 * 2 ^ j) z _ hz (fun i hi => HI.out.2.2.step hi)).mono ?_
        rintro e w3 ⟨rfl, rfl⟩
        go_wp2_with fail
        refine (twice_any w1.heap.size (8 * 2 ^ j) _ HI.out.2.2).mono ?_
        rintro e w4 ⟨rfl, hb5⟩
        have Hb5 := Lib.hid (Hb4.out.trans (hb5.mono Hb4.out.size))
        have Hf4 := Lib.hid (HI.out.2.2.later hb5)
        clear hb5
        go_wp2_with (with_reducible refine wpList_store_steps rfl rfl (.tmp 9) (.tmp 34) rfl w1.heap.size (8 * 2 ^ j + 8 * 2 ^ j) (8 * 2 ^ j) 32 rfl rfl Hf4.out w.heap.size w Hb5.out Hg.out ?_; intro w5 H5 Hb6)
        go_roundg (q / 2)
        case measure => have := Hqg.out; omega
        case rel => exact ⟨j + 1, q / 2, _, rfl, by rw [hq2.out], rfl, hz2, ⟨Hdiv.out, Hz.out, by rw [h88.out]; exact H5.out⟩, Hb6.out⟩
      · have ho : (((q : Int) % 2) == 1) = false := beq_eq_false_iff_ne.2 (by omega)
        have Hz : Hid (z = HN (8 * (n % 2 ^ (j + 1))) a) := Lib.hid (by rw [HI.out.2.1, join_even n j (by rw [← HI.out.1]; omega)])
        have Hg := Lib.hid hge
        clear hodd hge hlt1 hle
        go_wp2_with fail
        refine (twice_any w1.heap.size (8 * 2 ^ j) _ HI.out.2.2).mono ?_
        rintro e w4 ⟨rfl, hb5⟩
        have Hb5 := Lib.hid (Hb4.out.trans (hb5.mono Hb4.out.size))
        have Hf4 := Lib.hid (HI.out.2.2.later hb5)
        clear hb5
        go_wp2_with (with_reducible refine wpList_store_steps rfl rfl (.tmp 9) (.tmp 34) rfl w1.heap.size (8 * 2 ^ j + 8 * 2 ^ j) (8 * 2 ^ j) 32 rfl rfl Hf4.out w.heap.size w Hb5.out Hg.out ?_; intro w5 H5 Hb6)
        go_roundg (q / 2)
        case measure => have := Hqg.out; omega
        case rel => exact ⟨j + 1, q / 2, z, rfl, by rw [hq2.out], rfl, hz, ⟨Hdiv.out, Hz.out, by rw [h88.out]; exact H5.out⟩, Hb6.out⟩

set_option maxHeartbeats 1000000 in
theorem crJoin_is (a b n : Int) (w : World) (ha0 : -9223372036854775808 ≤ a) (ha1 : a ≤ 9223372036854775807) (hb0 : -9223372036854775808 ≤ b) (hb1 : b ≤ 9223372036854775807) (_hn0 : -9223372036854775808 ≤ n) (hn : n ≤ 9223372036854775807) (hl : Laid w) {x y : Int} (h : cJoin a b n = (x, y)) :
    Calls Tryd.prog 12 #[.int .i64 a, .int .i64 b, .int .i64 n] w fun e w' => e = .returned (.tuple #[.int .i64 x, .int .i64 y]) ∧ Below w.heap.size w w' := by
  by_cases h1 : a < 0 ∨ 4294967295 < a
  · have Hr := Lib.hid ((cJoin_no (b := b) (n := n) (.inl h1)).symm.trans h)
    have H1 := Lib.hid h1
    clear h1 h
    go_enter Tryd.func12, Tryd.ntmps12
    go_wp2_with fail
    refine (isSum_no a _ ha0 ha1 H1.out).mono ?_
    rintro e w1 ⟨rfl, rfl⟩
    go_wp2_with fail
    go_ret2
    obtain ⟨rfl, rfl⟩ := Prod.mk.inj Hr.out
    exact ⟨rfl, Below.refl _ _⟩
  · obtain ⟨a, rfl⟩ := Int.eq_ofNat_of_zero_le (show 0 ≤ a by omega)
    have ha : a ≤ 4294967295 := by omega
    by_cases h2 : b < 0 ∨ 4294967295 < b
    · have Hr := Lib.hid ((cJoin_no (a := (a : Int)) (n := n) (.inr (.inl h2))).symm.trans h)
      have H2 := Lib.hid h2
      clear h1 h2 h
      go_enter Tryd.func12, Tryd.ntmps12
      go_wp2_with fail
      refine (isSum_yes a _ ha).mono ?_
      rintro e w1 ⟨rfl, rfl⟩
      go_wp2_with fail
      refine (isSum_no b _ hb0 hb1 H2.out).mono ?_
      rintro e w1 ⟨rfl, rfl⟩
      go_wp2_with fail
      go_ret2
      obtain ⟨rfl, rfl⟩ := Prod.mk.inj Hr.out
      exact ⟨rfl, Below.refl _ _⟩
    · obtain ⟨b, rfl⟩ := Int.eq_ofNat_of_zero_le (show 0 ≤ b by omega)
      have hb : b ≤ 4294967295 := by omega
      by_cases h3 : n < 0
      · have Hr := Lib.hid ((cJoin_no (a := (a : Int)) (b := (b : Int)) (.inr (.inr h3))).symm.trans h)
        clear h1 h2 h
        go_enter Tryd.func12, Tryd.ntmps12
        go_wp2_with fail
        refine (isSum_yes a _ ha).mono ?_
        rintro e w1 ⟨rfl, rfl⟩
        go_wp2_with fail
        refine (isSum_yes b _ hb).mono ?_
        rintro e w1 ⟨rfl, rfl⟩
        go_wp2_with fail
        go_ret2
        obtain ⟨rfl, rfl⟩ := Prod.mk.inj Hr.out
        exact ⟨rfl, Below.refl _ _⟩
      · obtain ⟨n, rfl⟩ := Int.eq_ofNat_of_zero_le (show 0 ≤ n by omega)
        have hr := (cJoin_ok (n := n) ha hb).symm.trans h
        obtain ⟨rfl, rfl⟩ := Prod.mk.inj hr
        exact crJoin_nat a b n w ha hb (by omega) hl rfl

end Go.Proofs.YtllimejpmihpfaaDoor
