/-
  The contracts of package adler: goOn, Sum, More, Join.
-/
import Derived.Test.YtpanhjhdohdbkaaAPart
import Derived.Test.YtpanhjhdohdbkaaBytesRow
import Derived.OwnWalk
namespace Go.Proofs.Ytpanhjhdohdbkaa
open Go.RowKit

/-- Both halves lie in a block. -/
def HalvesAt (w : World) (b x y : Nat) : Prop := w.heap[b]? = some (.cells #[.int .i64 (x : Int), .int .i64 (y : Int)] 46 (0, 0))
theorem HalvesAt.low {w : World} {b x y : Nat} (h : HalvesAt w b x y) : w.cell? ⟨b, 0, none⟩ = some (.int .i64 (x : Int)) := by rw [cell_of_row _ _ _ _ _ _ h]; rfl
theorem HalvesAt.high {w : World} {b x y : Nat} (h : HalvesAt w b x y) : w.cell? ⟨b, 1, none⟩ = some (.int .i64 (y : Int)) := by rw [cell_of_row _ _ _ _ _ _ h]; rfl
theorem HalvesAt.free {w : World} {b x y : Nat} (h : HalvesAt w b x y) (j : Nat) : w.frozen? ⟨b, j, none⟩ = false := frozen_of_row _ _ _ _ _ h
theorem HalvesAt.turn {w : World} {b x y : Nat} (h : HalvesAt w b x y) (x' y' : Nat) : HalvesAt ((w.setCell ⟨b, 0, none⟩ (.int .i64 (x' : Int))).setCell ⟨b, 1, none⟩ (.int .i64 (y' : Int))).drew b x' y' := by
  have h1 := heap_setCell_same _ _ 0 _ _ (.int .i64 (x' : Int)) h
  exact heap_setCell_same _ _ 1 _ _ (.int .i64 (y' : Int)) h1
theorem halves_new (w : World) (o : Obj) (x y : Nat) : Aside <| HalvesAt ((w.alloc o).alloc (.cells #[.int .i64 (x : Int), .int .i64 (y : Int)] 46)) (w.heap.size + 1) x y := by
  unfold Aside HalvesAt
  have h := heap_alloc_new (w.alloc o) (.cells #[.int .i64 (x : Int), .int .i64 (y : Int)] 46)
  rw [show (w.alloc o).heap.size = w.heap.size + 1 by simp] at h
  exact h

set_option maxHeartbeats 1000000 in
theorem goOn_is (a h : Nat) (s : ByteArray) (w : World) (hs : s.size ≤ maxLen) (ha : a < 65521) (hh : h < 65521) {r : Nat} (hr : aNum (aFold (a, h) s.data.toList) = r) :
    Calls Try.prog 14 #[.agg #[.int .i64 (a : Int), .int .i64 (h : Int)], .string s] w fun e w' => e = .returned (.int .i64 (r : Int)) ∧ Below w.heap.size w w' := by
  unfold maxLen at hs
  have Hr := Lib.hid hr
  clear hr
  go_enter Try.func14, Try.ntmps14
  go_wp2_with fail
  go_loopg [6, 11] s.size (fun g _ s11 wx => ∃ (k x y : Nat), k + g = s.size ∧ s11 = .int .i64 k ∧ x < 65521 ∧ y < 65521 ∧ Aside (aFold (a, h) (s.data.toList.take k) = (x, y)) ∧ Aside (HalvesAt wx (w.heap.size + 1) x y) ∧ Below w.heap.size w wx)
  case atStart => exact ⟨0, a, h, by omega, rfl, ha, hh, rfl, halves_new _ _ _ _, ((Below.refl _ w).alloc (Nat.le_refl _) _).alloc (by simp) _⟩
  case round =>
    obtain ⟨k, x, y, hkg, rfl, hx, hy, HZ, HA, hb⟩ := hrel
    have Hb := Lib.hid hb
    clear hb
    cases gk with
    | zero =>
      obtain rfl : k = s.size := by omega
      have Hr2 : Hid (y * 65536 + x = r) := Lib.hid (by
        have h1 := HZ.out
        rw [List.take_of_length_le (by rw [← size_data]; exact Nat.le_refl _)] at h1
        rw [← Hr.out, h1]; rfl)
      have c0 := HA.out.low
      have c1 := HA.out.high
      go_wp2_with fail
      refine (sum_any x y _ (by omega) (by omega)).mono ?_
      rintro e w1 ⟨rfl, hb⟩
      have Hb2 := Lib.hid (Hb.out.trans (hb.mono Hb.out.size))
      clear hb
      go_wp2_with fail
      go_ret
      exact ⟨ret_int (by have := Hr2.out; omega), Hb2.out⟩
    | succ g =>
      have hk : k < s.size := by omega
      have hkz : (k : Int) < (s.size : Int) := by omega
      have hc : s[k].toNat < 256 := s[k].toNat_lt
      obtain ⟨x', hx'⟩ : ∃ x', (x + s[k].toNat) % 65521 = x' := ⟨_, rfl⟩
      obtain ⟨y', hy'⟩ : ∃ y', (y + x') % 65521 = y' := ⟨_, rfl⟩
      have Hst : Hid (aFold (a, h) (s.data.toList.take (k + 1)) = (x', y')) := Lib.hid (by rw [aFold_take _ s k hk, HZ.out]; simp only; rw [hx', hy'])
      have Hx := Lib.hid hx'
      have Hy := Lib.hid hy'
      have Hkg := Lib.hid hkg
      have hx2 : x' < 65521 := by omega
      have hy2 : y' < 65521 := by omega
      have hge : w.heap.size ≤ w.heap.size + 1 := by omega
      clear hx' hy' hkg
      go_wp2_with fail
      refine (grow_is (w.heap.size + 1) x y s[k].toNat x' y' _ hx hy hc HA.out.low HA.out.high (HA.out.free _) (HA.out.free _) Hx.out Hy.out).mono ?_
      rintro e w1 ⟨rfl, rfl⟩
      have Ht := Lib.hid (HA.out.turn x' y')
      have Hbt := Lib.hid (below_set (below_set Hb.out (B := w.heap.size + 1) hge 0 (.int .i64 (x' : Int))) (B := w.heap.size + 1) hge 1 (.int .i64 (y' : Int))).drew
      go_wp2_with fail
      go_roundg g
      case measure => omega
      case rel => exact ⟨k + 1, x', y', by have := Hkg.out; omega, by go_num, hx2, hy2, Hst.out, Ht.out, Hbt.out⟩

theorem adSum_is (s : ByteArray) (w : World) (hs : s.size ≤ maxLen) {r : Nat} (h : aSum s.data.toList = r) :
    Calls Try.prog 7 #[.string s] w fun e w' => e = .returned (.int .i64 (r : Int)) ∧ Below w.heap.size w w' := by
  have H := Lib.hid (fun W => goOn_is 1 0 s W hs (by omega) (by omega) h)
  clear h
  go_enter Try.func7, Try.ntmps7
  go_wp2_with fail
  refine (H.out _).mono ?_
  rintro e w1 ⟨rfl, hb⟩
  have Hb := Lib.hid hb
  clear hb
  go_wp2_with fail
  go_ret
  exact ⟨rfl, Hb.out⟩

/-- A number that is no sum, parted. -/
theorem part_bad (n : Int) (w : World) (h0 : -9223372036854775808 ≤ n) (h1 : n ≤ 9223372036854775807) (hb : aBad n) {q r : Int} (hq : n / 65536 = q) (hr : n % 65536 = r) :
    Calls Try.prog 15 #[.int .i64 n] w fun e w' => e = .returned (.tuple #[.agg #[.int .i64 r, .int .i64 q], .bool false]) ∧ Below w.heap.size w w' := by
  unfold aBad at hb
  have hno : ¬ (r = r % 65521 ∧ q = q % 65521) := by omega
  refine part_any n q r (q % 65521) (r % 65521) w h0 h1 hq hr rfl rfl ?_ (by simpa using hno)
  by_cases hc : r = r % 65521
  · have hc2 : ¬ q = q % 65521 := fun e => hno ⟨hc, e⟩
    exact .inr (.inr ⟨hc, hc2, beq_eq_false_iff_ne.2 hc2⟩)
  · exact .inr (.inl ⟨hc, beq_eq_false_iff_ne.2 hc⟩)
theorem part_good (m : Nat) (w : World) (hm : aIs m) {q r : Nat} (hq : m / 65536 = q) (hr : m % 65536 = r) :
    Calls Try.prog 15 #[.int .i64 (m : Int)] w fun e w' => e = .returned (.tuple #[.agg #[.int .i64 (r : Int), .int .i64 (q : Int)], .bool true]) ∧ Below w.heap.size w w' := by
  unfold aIs at hm
  have hyes : (r : Int) = (r : Int) % 65521 ∧ (q : Int) = (q : Int) % 65521 := by omega
  exact part_any (m : Int) q r ((q : Int) % 65521) ((r : Int) % 65521) w (by omega) (by omega) (by omega) (by omega) rfl rfl (.inl hyes) (by simpa using hyes)

theorem adMore_is (n : Int) (s : ByteArray) (w : World) (hs : s.size ≤ maxLen) (h0 : -9223372036854775808 ≤ n) (h1 : n ≤ 9223372036854775807) {a b : Int} (h : aMore n s.data.toList = (a, b)) :
    Calls Try.prog 10 #[.int .i64 n, .string s] w fun e w' => e = .returned (.tuple #[.int .i64 a, .int .i64 b]) ∧ Below w.heap.size w w' := by
  by_cases hbad : aBad n
  · have Hr := Lib.hid ((aMore_no (l := s.data.toList) hbad).symm.trans h)
    have Hp := Lib.hid (fun W => part_bad n W h0 h1 hbad rfl rfl)
    clear hbad h
    obtain ⟨q, hq⟩ : ∃ q, n / 65536 = q := ⟨_, rfl⟩
    obtain ⟨r, hr⟩ : ∃ r, n % 65536 = r := ⟨_, rfl⟩
    rw [hq, hr] at Hp
    clear hq hr
    go_enter Try.func10, Try.ntmps10
    go_wp2_with fail
    refine (Hp.out _).mono ?_
    rintro e w1 ⟨rfl, hb⟩
    have Hb := Lib.hid hb
    clear hb
    go_wp2_with fail
    go_ret2
    obtain ⟨rfl, rfl⟩ := Prod.mk.inj Hr.out
    exact ⟨rfl, Hb.out.alloc Hb.out.size _⟩
  · obtain ⟨m, rfl, hm⟩ := not_bad hbad
    have Hr := Lib.hid ((aMore_ok (l := s.data.toList) hm).symm.trans h)
    have Hp := Lib.hid (fun W => part_good m W hm rfl rfl)
    have Ho := Lib.hid (fun W => goOn_is (m % 65536) (m / 65536) s W hs hm.2 hm.1 rfl)
    clear hbad h hm
    obtain ⟨q, hq⟩ : ∃ q, m / 65536 = q := ⟨_, rfl⟩
    obtain ⟨r, hr⟩ : ∃ r, m % 65536 = r := ⟨_, rfl⟩
    unfold aOn at Hr
    rw [hq, hr] at Hp Ho Hr
    clear hq hr
    go_enter Try.func10, Try.ntmps10
    go_wp2_with fail
    refine (Hp.out _).mono ?_
    rintro e w1 ⟨rfl, hb⟩
    have Hb := Lib.hid hb
    clear hb
    go_wp2_with fail
    refine (Ho.out _).mono ?_
    rintro e w2 ⟨rfl, hb⟩
    have Hb1 := Lib.hid (Hb.out.alloc Hb.out.size (.cells #[.int .i64 (r : Int), .int .i64 (q : Int)] 39))
    have Hb2 := Lib.hid (Hb1.out.trans (hb.mono Hb1.out.size))
    clear hb
    go_wp2_with fail
    go_ret2
    obtain ⟨rfl, rfl⟩ := Prod.mk.inj Hr.out
    exact ⟨rfl, Hb2.out⟩

theorem join_bad (x y n q r q2 r2 : Int) (b b2 : Bool) (w : World)
    (Hp : Hid (∀ W, Calls Try.prog 15 #[.int .i64 x] W fun e w' => e = .returned (.tuple #[.agg #[.int .i64 r, .int .i64 q], .bool b]) ∧ Below W.heap.size W w'))
    (Hp2 : Hid (∀ W, Calls Try.prog 15 #[.int .i64 y] W fun e w' => e = .returned (.tuple #[.agg #[.int .i64 r2, .int .i64 q2], .bool b2]) ∧ Below W.heap.size W w'))
    (hc : b = false ∨ (b = true ∧ b2 = false) ∨ (b = true ∧ b2 = true ∧ n < 0)) :
    Calls Try.prog 12 #[.int .i64 x, .int .i64 y, .int .i64 n] w fun e w' => e = .returned (.tuple #[.int .i64 0, .int .i64 3]) ∧ Below w.heap.size w w' := by
  rcases hc with rfl | ⟨rfl, rfl⟩ | ⟨rfl, rfl, hn⟩
  all_goals
    go_enter Try.func12, Try.ntmps12
    go_wp2_with fail
    refine (Hp.out _).mono ?_
    rintro e w1 ⟨rfl, hb⟩
    have Hb := Lib.hid (hb.alloc hb.size (.cells #[.int .i64 r, .int .i64 q] 39))
    clear hb
    go_wp2_with fail
    refine (Hp2.out _).mono ?_
    rintro e w2 ⟨rfl, hb⟩
    have Hb2 := Lib.hid (Hb.out.trans (hb.mono Hb.out.size))
    have Hb3 := Lib.hid (Hb2.out.alloc Hb2.out.size (.cells #[.int .i64 r2, .int .i64 q2] 39))
    clear hb
    go_wp2_with fail
    go_ret2
    exact ⟨rfl, Hb3.out⟩

theorem join_good (x y n nr q r q2 r2 : Int) (a b : Nat) (w : World) (hn : ¬ n < 0) (hnr : n.tmod 65521 = nr) (n0 : 0 ≤ nr) (n1 : nr < 65521) (hr0 : 0 ≤ r) (hr : r < 65521) (hq0 : 0 ≤ q) (hq : q < 65521) (hr20 : 0 ≤ r2) (hr2 : r2 < 65521) (hq20 : 0 ≤ q2) (hq2 : q2 < 65521)
    (Hp : Hid (∀ W, Calls Try.prog 15 #[.int .i64 x] W fun e w' => e = .returned (.tuple #[.agg #[.int .i64 r, .int .i64 q], .bool true]) ∧ Below W.heap.size W w'))
    (Hp2 : Hid (∀ W, Calls Try.prog 15 #[.int .i64 y] W fun e w' => e = .returned (.tuple #[.agg #[.int .i64 r2, .int .i64 q2], .bool true]) ∧ Below W.heap.size W w'))
    (ha : (r + r2 - 1) % 65521 = (a : Int)) (hb : (q + q2 + nr * (r - 1)) % 65521 = (b : Int)) :
    Calls Try.prog 12 #[.int .i64 x, .int .i64 y, .int .i64 n] w fun e w' => e = .returned (.tuple #[.int .i64 ((b * 65536 + a : Nat) : Int), .int .i64 0]) ∧ Below w.heap.size w w' := by
  have ha' : a < 65536 := by omega
  have hb' : b < 65536 := by omega
  have hp0 : -65520 ≤ nr * (r - 1) := by
    have h1 : nr * (r - 1) = nr * r - nr := by rw [Int.mul_sub, Int.mul_one]
    have h2 : 0 ≤ nr * r := Int.mul_nonneg n0 hr0
    omega
  have hp1 : nr * (r - 1) ≤ 65520 * 65520 := by
    have h1 : nr * (r - 1) = nr * r - nr := by rw [Int.mul_sub, Int.mul_one]
    have h2 : nr * r ≤ 65520 * 65520 := Int.mul_le_mul (by omega) (by omega) hr0 (by omega)
    omega
  obtain ⟨p, hp⟩ : ∃ p, nr * (r - 1) = p := ⟨_, rfl⟩
  rw [hp] at hp0 hp1 hb
  have HW := Lib.hid (fun W => within_any (r + r2 - 1) (q + q2 + p) W ha hb)
  have HS := Lib.hid (fun W => sum_any a b W ha' hb')
  clear ha hb ha' hb'
  go_enter Try.func12, Try.ntmps12
  go_wp2_with fail
  refine (Hp.out _).mono ?_
  rintro e w1 ⟨rfl, hb⟩
  have Hb := Lib.hid (hb.alloc hb.size (.cells #[.int .i64 r, .int .i64 q] 39))
  clear hb
  go_wp2_with fail
  refine (Hp2.out _).mono ?_
  rintro e w2 ⟨rfl, hb⟩
  have Hb2 := Lib.hid (Hb.out.trans (hb.mono Hb.out.size))
  have Hb3 := Lib.hid (Hb2.out.alloc Hb2.out.size (.cells #[.int .i64 r2, .int .i64 q2] 39))
  have hlt : w1.heap.size < w2.heap.size := by have := hb.size; simp at this; omega
  have k0 : w2.cell? ⟨w1.heap.size, 0, none⟩ = some (.int .i64 r) := by rw [(bcell hb).1 _ _ (by simp)]; simp [go_sem]
  have k1 : w2.cell? ⟨w1.heap.size, 1, none⟩ = some (.int .i64 q) := by rw [(bcell hb).1 _ _ (by simp)]; simp [go_sem]
  clear hb
  go_wp2_with fail
  refine (HW.out _).mono ?_
  rintro e w3 ⟨rfl, hb⟩
  have Hb4 := Lib.hid (Hb3.out.alloc Hb3.out.size (.cells #[.int .i64 (r + r2 - 1), .int .i64 (q + q2 + p)] 39))
  have Hb5 := Lib.hid (Hb4.out.trans (hb.mono Hb4.out.size))
  clear hb
  go_wp2_with fail
  refine (HS.out _).mono ?_
  rintro e w4 ⟨rfl, hb⟩
  have Hb6 := Lib.hid (Hb5.out.trans (hb.mono Hb5.out.size))
  clear hb
  go_wp2_with fail
  go_ret2
  exact ⟨rfl, Hb6.out⟩

theorem adJoin_is (x y n : Int) (w : World) (hx0 : -9223372036854775808 ≤ x) (hx1 : x ≤ 9223372036854775807) (hy0 : -9223372036854775808 ≤ y) (hy1 : y ≤ 9223372036854775807) (_hn0 : -9223372036854775808 ≤ n) (_hn1 : n ≤ 9223372036854775807) {a b : Int} (h : aJoin x y n = (a, b)) :
    Calls Try.prog 12 #[.int .i64 x, .int .i64 y, .int .i64 n] w fun e w' => e = .returned (.tuple #[.int .i64 a, .int .i64 b]) ∧ Below w.heap.size w w' := by
  by_cases h1 : aBad x
  · have hr := (aJoin_no (y := y) (n := n) (.inl h1)).symm.trans h
    obtain ⟨rfl, rfl⟩ := Prod.mk.inj hr
    have Hp := Lib.hid (fun W => part_bad x W hx0 hx1 h1 rfl rfl)
    by_cases h2 : aBad y
    · exact join_bad _ _ _ _ _ _ _ _ _ w Hp (Lib.hid (fun W => part_bad y W hy0 hy1 h2 rfl rfl)) (.inl rfl)
    · obtain ⟨y, rfl, hy⟩ := not_bad h2
      exact join_bad _ _ _ _ _ _ _ _ _ w Hp (Lib.hid (fun W => part_good y W hy rfl rfl)) (.inl rfl)
  · obtain ⟨x, rfl, hx⟩ := not_bad h1
    have Hp := Lib.hid (fun W => part_good x W hx rfl rfl)
    by_cases h2 : aBad y
    · have hr := (aJoin_no (x := (x : Int)) (n := n) (.inr (.inl h2))).symm.trans h
      obtain ⟨rfl, rfl⟩ := Prod.mk.inj hr
      exact join_bad _ _ _ _ _ _ _ _ _ w Hp (Lib.hid (fun W => part_bad y W hy0 hy1 h2 rfl rfl)) (.inr (.inl ⟨rfl, rfl⟩))
    · obtain ⟨y, rfl, hy⟩ := not_bad h2
      have Hp2 := Lib.hid (fun W => part_good y W hy rfl rfl)
      by_cases h3 : n < 0
      · have hr := (aJoin_no (x := (x : Int)) (y := (y : Int)) (.inr (.inr h3))).symm.trans h
        obtain ⟨rfl, rfl⟩ := Prod.mk.inj hr
        exact join_bad _ _ _ _ _ _ _ _ _ w Hp Hp2 (.inr (.inr ⟨rfl, rfl, h3⟩))
      · obtain ⟨n, rfl⟩ := Int.eq_ofNat_of_zero_le (show 0 ≤ n by omega)
        have hr := (aJoin_ok (n := n) hx hy).symm.trans h
        obtain ⟨rfl, rfl⟩ := Prod.mk.inj hr
        unfold aPut aNum
        have e1 := hx.1
        have e2 := hx.2
        have e3 := hy.1
        have e4 := hy.2
        refine join_good _ _ (n : Int) ((n % 65521 : Nat) : Int) _ _ _ _ _ _ w h3 (tmod_nat n 65521) (by omega) (by omega) (by omega) (by omega) (by omega) (by omega) (by omega) (by omega) (by omega) (by omega) Hp Hp2 ?_ ?_
        · omega
        · obtain ⟨xl, hxl⟩ : ∃ xl, x % 65536 = xl := ⟨_, rfl⟩
          obtain ⟨nr, hnr⟩ : ∃ nr, n % 65521 = nr := ⟨_, rfl⟩
          rw [hxl, hnr]
          rw [hxl] at e2
          have key : ∃ t : Int, ((nr * ((xl + 65520) % 65521) : Nat) : Int) = (nr : Int) * ((xl : Int) - 1) + 65521 * t := by
            by_cases h0 : xl = 0
            · subst h0
              exact ⟨nr, by simp; omega⟩
            · refine ⟨0, ?_⟩
              have : (xl + 65520) % 65521 = xl - 1 := by omega
              rw [this, Int.natCast_mul, Int.natCast_sub (by omega)]
              simp
          obtain ⟨t, ht⟩ := key
          generalize (nr * ((xl + 65520) % 65521) : Nat) = P at ht ⊢
          generalize (nr : Int) * ((xl : Int) - 1) = P2 at ht ⊢
          omega

end Go.Proofs.Ytpanhjhdohdbkaa
