/-
  token.escaped, within: what the bytes of a text stand for.
-/
import Derived.Test.YtnjmapgmodoodaaTkOct
namespace Go.Proofs.Ytnjmapgmodoodaa
open Go.RowKit
set_option maxRecDepth 100000

theorem ends_here (u : ByteArray) {n : Nat} (h : endsN u.data.toList 0 = n) (w : World) : Calls Try.prog 24 #[.string u, .int .i64 0] w fun e w' => e = .returned (.int .i64 (n : Int)) ∧ w = w' := by
  have := ends_any u ((0 : Nat) : Int) w
  rw [endsI_nat, h] at this
  exact this
theorem octals_is (u : ByteArray) {n : Nat} (hs : u.size ≤ maxLen) (h : octN u.data.toList = n) (w : World) : Calls Try.prog 59 #[.string u] w fun e w' => e = .returned (.int .i64 (n : Int)) ∧ w = w' := by
  rw [← h]; exact octals_any u w hs
theorem oct_all (l : List UInt8) : (l.take (octN l)).all octB = true := by
  have hp := List.takeWhile_prefix octB (l := l.take 3)
  have e : l.take (octN l) = (l.take 3).takeWhile octB := by
    have h1 := List.prefix_iff_eq_take.1 hp
    have h2 := (octN_le l).2
    conv => rhs; rw [h1]
    show l.take (octN l) = (l.take 3).take (octN l)
    rw [List.take_take, Nat.min_eq_left h2]
  rw [e]
  exact List.all_takeWhile
theorem first_text (u : ByteArray) (c : UInt8) (t : List UInt8) (h : u.data.toList = c :: t) : u.extract 0 1 = bytes [c] := by
  refine bytes_eq ?_
  rw [Lib.extract_data, h]; rfl
theorem rest_text (u : ByteArray) (c : UInt8) (t : List UInt8) (h : u.data.toList = c :: t) : (u.extract 1 u.size).data.toList = t := by
  rw [Lib.extract_to_end, h]; rfl
theorem esc_ends {c : UInt8} {t : List UInt8} {n : Nat} (h : endsN (c :: t) 0 = n) (h0 : 0 < n) : escL (c :: t) = ([], n) := by
  unfold escL; simp only [h, if_pos h0]
theorem esc_oct {c : UInt8} {t : List UInt8} {n : Nat} (h : endsN (c :: t) 0 = 0) (h0 : octN (c :: t) = n) (hn : 0 < n) : escL (c :: t) = ([UInt8.ofNat (octV ((c :: t).take n))], n) := by
  unfold escL; simp only [h, h0, if_pos hn, Nat.lt_irrefl, if_false]
theorem esc_one {c : UInt8} {t : List UInt8} (h : endsN (c :: t) 0 = 0) (h0 : octN (c :: t) = 0) : escL (c :: t) = ([escC c], 1) := by
  unfold escL; simp only [h, h0, Nat.lt_irrefl, if_false]

set_option maxHeartbeats 2000000 in
theorem escaped_any (u : ByteArray) (w : World) (hs : u.size ≤ maxLen) :
    Calls Try.prog 51 #[.string u] w fun e w' => e = .returned (.tuple #[.string (bytes (escL u.data.toList).1), .int .i64 ((escL u.data.toList).2 : Int)]) ∧ Below w.heap.size w w' := by
  have hs' := hs
  unfold maxLen at hs
  obtain ⟨r, n, hr⟩ : ∃ r n, escL u.data.toList = (r, n) := ⟨_, _, rfl⟩
  rw [hr]
  cases hl : u.data.toList with
  | nil =>
    have h0 : u.size = 0 := by rw [size_data, hl]; rfl
    obtain rfl : u = ⟨#[]⟩ := bytes_eq hl
    rw [hl] at hr
    obtain ⟨rfl, rfl⟩ : [] = r ∧ 0 = n := by injection hr with h1 h2; exact ⟨h1, h2⟩
    clear hr
    go_enter Try.func51, Try.ntmps51
    go_wp2_with fail
    go_ret2
    exact ⟨rfl, Below.refl _ _⟩
  | cons c t =>
    have h0 : 0 < u.size := by rw [size_data, hl]; simp
    have he := isEmpty_not (show ¬ u.data.toList = [] by rw [hl]; simp)
    have hne : ¬ u = ByteArray.empty := by rintro rfl; exact absurd h0 (by decide)
    have hc : u[0] = c := by have h1 := byte_at u 0 h0; rw [hl] at h1; exact (by simpa using h1.symm)
    obtain ⟨m, hm⟩ : ∃ m, endsN u.data.toList 0 = m := ⟨_, rfl⟩
    have HE := Lib.hid (fun W => ends_here u hm W)
    rcases Nat.eq_zero_or_pos m with rfl | hm0
    · obtain ⟨o, ho⟩ : ∃ o, octN u.data.toList = o := ⟨_, rfl⟩
      have HO := Lib.hid (fun W => octals_is u hs' ho W)
      have hol := octN_le u.data.toList
      rw [ho, ← size_data] at hol
      rcases Nat.eq_zero_or_pos o with rfl | ho0
      · rw [hl, esc_one (by rw [← hl]; exact hm) (by rw [← hl]; exact ho)] at hr
        obtain ⟨rfl, rfl⟩ : [escC c] = r ∧ 1 = n := by injection hr with h1 h2; exact ⟨h1, h2⟩
        have hft := first_text u c t hl
        clear hr hl hm ho
        by_cases h1 : c.toNat = 110 ∨ c.toNat = 114 ∨ c.toNat = 116 ∨ c.toNat = 98 ∨ c.toNat = 102
        · rcases h1 with h1 | h1 | h1 | h1 | h1
          all_goals
            have hz : (c.toNat : Int) = _ := congrArg Int.ofNat h1
            simp only [Int.ofNat_eq_natCast, Int.cast_ofNat_Int] at hz
            have HC := Lib.hid (show escC c = _ by unfold escC; simp only [h1]; rfl)
            clear h1
            go_enter Try.func51, Try.ntmps51
            go_wp2_with fail
            refine (HE.out _).mono ?_
            rintro e w1 ⟨rfl, rfl⟩
            go_wp2_with fail
            refine (HO.out _).mono ?_
            rintro e w1 ⟨rfl, rfl⟩
            go_wp2_with fail
            go_ret2
            exact ⟨by rw [HC.out]; rfl, Below.refl _ _⟩
        · have HC : Hid (escC c = c) := Lib.hid (by unfold escC; rw [if_neg (by omega), if_neg (by omega), if_neg (by omega), if_neg (by omega), if_neg (by omega)])
          have g1 : ((c.toNat : Int) == 110) = false := by simp; omega
          have g2 : ((c.toNat : Int) == 114) = false := by simp; omega
          have g3 : ((c.toNat : Int) == 116) = false := by simp; omega
          have g4 : ((c.toNat : Int) == 98) = false := by simp; omega
          have g5 : ((c.toNat : Int) == 102) = false := by simp; omega
          clear h1
          go_enter Try.func51, Try.ntmps51
          go_wp2_with fail
          refine (HE.out _).mono ?_
          rintro e w1 ⟨rfl, rfl⟩
          go_wp2_with fail
          refine (HO.out _).mono ?_
          rintro e w1 ⟨rfl, rfl⟩
          go_wp2_with fail
          go_ret2
          exact ⟨by rw [HC.out]; rfl, Below.refl _ _⟩
      · rw [hl, esc_oct (by rw [← hl]; exact hm) (by rw [← hl]; exact ho) ho0] at hr
        obtain ⟨h1, rfl⟩ : _ = r ∧ o = n := by injection hr with h1 h2; exact ⟨h1, h2⟩
        have hx : (u.extract 0 o).data.toList = u.data.toList.take o := by rw [Lib.extract_data, List.drop_zero, Nat.sub_zero]
        have hall : (u.extract 0 o).data.toList.all octB = true := by rw [hx, ← ho]; exact oct_all _
        have HV := Lib.hid (fun W => octal_any (u.extract 0 o) W (by rw [ByteArray.size_extract]; omega) hall)
        rw [hx, hl] at HV
        rw [h1] at HV
        clear hr hl hm ho h1 hx hall
        go_enter Try.func51, Try.ntmps51
        go_wp2_with fail
        refine (HE.out _).mono ?_
        rintro e w1 ⟨rfl, rfl⟩
        go_wp2_with fail
        refine (HO.out _).mono ?_
        rintro e w1 ⟨rfl, rfl⟩
        go_wp2_with fail
        refine (HV.out _).mono ?_
        rintro e w1 ⟨rfl, hb⟩
        have Hb := Lib.hid hb
        clear hb
        go_wp2_with fail
        go_ret2
        exact ⟨rfl, Hb.out⟩
    · rw [hl, esc_ends (by rw [← hl]; exact hm) hm0] at hr
      obtain ⟨rfl, rfl⟩ : [] = r ∧ m = n := by injection hr with h1 h2; exact ⟨h1, h2⟩
      clear hr hl hm
      go_enter Try.func51, Try.ntmps51
      go_wp2_with fail
      refine (HE.out _).mono ?_
      rintro e w1 ⟨rfl, rfl⟩
      go_wp2_with fail
      go_ret2
      exact ⟨rfl, Below.refl _ _⟩

theorem within_ends {c : UInt8} {t : List UInt8} {n : Nat} (h : endsN (c :: t) 0 = n) (h0 : 0 < n) : withinL (c :: t) = ([10], n) := by
  unfold withinL; simp only [h, if_pos h0]
theorem within_esc {c : UInt8} {t : List UInt8} (h : endsN (c :: t) 0 = 0) (h0 : c.toNat = 92) : withinL (c :: t) = ((escL t).1, 1 + (escL t).2) := by
  unfold withinL; simp only [h, if_pos h0, Nat.lt_irrefl, if_false]
theorem within_one {c : UInt8} {t : List UInt8} (h : endsN (c :: t) 0 = 0) (h0 : ¬ c.toNat = 92) : withinL (c :: t) = ([c], 1) := by
  unfold withinL; simp only [h, if_neg h0, Nat.lt_irrefl, if_false]

set_option maxHeartbeats 2000000 in
theorem within_any (u : ByteArray) (c : UInt8) (t : List UInt8) (w : World) (hs : u.size ≤ maxLen) (hl : u.data.toList = c :: t) {r : List UInt8} {n : Nat} (hr : withinL (c :: t) = (r, n)) :
    Calls Try.prog 42 #[.string u] w fun e w' => e = .returned (.tuple #[.string (bytes r), .int .i64 (n : Int)]) ∧ Below w.heap.size w w' := by
  have hs' := hs
  unfold maxLen at hs
  have h0 : 0 < u.size := by rw [size_data, hl]; simp
  have hc : u[0] = c := by have h1 := byte_at u 0 h0; rw [hl] at h1; exact (by simpa using h1.symm)
  have hn := (within_len (c :: t)).1
  rw [← hl, ← size_data, hl, hr] at hn
  obtain ⟨m, hm⟩ : ∃ m, endsN u.data.toList 0 = m := ⟨_, rfl⟩
  have HE := Lib.hid (fun W => ends_here u hm W)
  rcases Nat.eq_zero_or_pos m with rfl | hm0
  · by_cases h92 : c.toNat = 92
    · rw [within_esc (by rw [← hl]; exact hm) h92] at hr
      obtain ⟨rfl, rfl⟩ : (escL t).1 = r ∧ 1 + (escL t).2 = n := by injection hr with h1 h2; exact ⟨h1, h2⟩
      have HX := Lib.hid (fun W => escaped_any (u.extract 1 u.size) W (by rw [ByteArray.size_extract]; unfold maxLen; omega))
      rw [rest_text u c t hl] at HX
      obtain ⟨k, hk⟩ : ∃ k, (escL t).2 = k := ⟨_, rfl⟩
      rw [hk] at HX hn ⊢
      generalize (escL t).1 = q at HX
      have hz : (c.toNat : Int) = 92 := by omega
      clear hr hl hm h92 hk
      go_enter Try.func42, Try.ntmps42
      go_wp2_with fail
      refine (HE.out _).mono ?_
      rintro e w1 ⟨rfl, rfl⟩
      go_wp2_with fail
      refine (HX.out _).mono ?_
      rintro e w1 ⟨rfl, hb⟩
      have Hb := Lib.hid hb
      clear hb
      go_wp2_with fail
      go_ret2
      exact ⟨by rw [Int.natCast_add]; rfl, Hb.out⟩
    · rw [within_one (by rw [← hl]; exact hm) h92] at hr
      obtain ⟨rfl, rfl⟩ : [c] = r ∧ 1 = n := by injection hr with h1 h2; exact ⟨h1, h2⟩
      have hft := first_text u c t hl
      have hz : ((c.toNat : Int) == 92) = false := by simp; omega
      clear hr hl hm h92
      go_enter Try.func42, Try.ntmps42
      go_wp2_with fail
      refine (HE.out _).mono ?_
      rintro e w1 ⟨rfl, rfl⟩
      go_wp2_with fail
      go_ret2
      exact ⟨rfl, Below.refl _ _⟩
  · rw [within_ends (by rw [← hl]; exact hm) hm0] at hr
    obtain ⟨rfl, rfl⟩ : [10] = r ∧ m = n := by injection hr with h1 h2; exact ⟨h1, h2⟩
    clear hr hl hm
    go_enter Try.func42, Try.ntmps42
    go_wp2_with fail
    refine (HE.out _).mono ?_
    rintro e w1 ⟨rfl, rfl⟩
    go_wp2_with fail
    go_ret2
    exact ⟨rfl, Below.refl _ _⟩
end Go.Proofs.Ytnjmapgmodoodaa
