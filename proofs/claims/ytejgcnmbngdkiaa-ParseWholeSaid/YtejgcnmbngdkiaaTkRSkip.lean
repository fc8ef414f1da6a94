/-
  The document's Skip.
-/
import Derived.Test.YtejgcnmbngdkiaaNSkip
namespace Go.Proofs.Ytejgcnmbngdkiaa
open Go.RowKit
set_option maxRecDepth 100000

theorem rKind_is (c : UInt8) {x : Int} (h : kindI (c.toNat : Int) = x) (w : World) : Calls Try.prog 35 #[.int .u8 (c.toNat : Int)] w fun e w' => e = .returned (.int .i64 x) ∧ w = w' := by
  rw [← h]; exact refKind_any _ w
theorem skip_far {n : Bool} : skipGo n [] = 0 := by cases n <;> rfl
/-- One byte farther. -/
theorem skip_byte {n : Bool} {c : UInt8} {t : List UInt8} :
    (c.toNat = 10 ∧ skipGo n (c :: t) = skipGo false t + 1 ∧ kindI (c.toNat : Int) = 0) ∨ (c.toNat = 13 ∧ skipGo n (c :: t) = skipGo false t + 1 ∧ kindI (c.toNat : Int) = 0) ∨
    (c.toNat = 37 ∧ skipGo n (c :: t) = skipGo true t + 1) ∨ (¬ c.toNat = 10 ∧ ¬ c.toNat = 13 ∧ ¬ c.toNat = 37 ∧ n = true ∧ skipGo n (c :: t) = skipGo true t + 1) ∨
    (¬ c.toNat = 10 ∧ ¬ c.toNat = 13 ∧ ¬ c.toNat = 37 ∧ n = false ∧ kindI (c.toNat : Int) = 0 ∧ skipGo n (c :: t) = skipGo false t + 1) ∨
    (¬ c.toNat = 10 ∧ ¬ c.toNat = 13 ∧ ¬ c.toNat = 37 ∧ n = false ∧ ¬ kindI (c.toNat : Int) = 0 ∧ skipGo n (c :: t) = 0) := by
  by_cases h1 : c.toNat = 10
  · exact .inl ⟨h1, skip_eol (.inl h1), kind_zero.2 (by omega)⟩
  · by_cases h2 : c.toNat = 13
    · exact .inr (.inl ⟨h2, skip_eol (.inr h2), kind_zero.2 (by omega)⟩)
    · by_cases h3 : c.toNat = 37
      · exact .inr (.inr (.inl ⟨h3, skip_note h3⟩))
      · cases n
        · by_cases h4 : kindI (c.toNat : Int) = 0
          · exact .inr (.inr (.inr (.inr (.inl ⟨h1, h2, h3, rfl, h4, skip_white h4⟩))))
          · exact .inr (.inr (.inr (.inr (.inr ⟨h1, h2, h3, rfl, h4, skip_stop h4 h3⟩))))
        · exact .inr (.inr (.inr (.inl ⟨h1, h2, h3, rfl, skip_in (by omega)⟩)))

set_option maxHeartbeats 2000000 in
theorem rSkip_any (s : ByteArray) (a : Int) (w : World) (hs : s.size ≤ maxLen) {R : Nat} (hR : skipI s.data.toList a = R) :
    Calls Try.prog 30 #[.string s, .int .i64 a] w fun e w' => e = .returned (.int .i64 (R : Int)) ∧ w = w' := by
  unfold maxLen at hs
  obtain ⟨p, hp⟩ : ∃ p, placeN s.data.toList a = p := ⟨_, rfl⟩
  have hpl : p ≤ s.size := by rw [← hp, size_data]; exact placeN_le _ _
  have hpi : (a ≤ 0 ∧ p = 0) ∨ (0 < a ∧ a < (s.size : Int) ∧ a = (p : Int)) ∨ (0 < a ∧ ¬ a < (s.size : Int) ∧ p = s.size) := by
    have : p = (min (max a 0) (s.size : Int)).toNat := by rw [← hp, size_data]; rfl
    omega
  unfold skipI skipN at hR
  rw [hp] at hR
  have HR := Lib.hid hR
  clear hR hp
  rcases hpi with ⟨h1, rfl⟩ | ⟨h1, h2, rfl⟩ | ⟨h1, h2, rfl⟩
  case inr.inr =>
    have hr : s.size = R := by have h := HR.out; rwa [drop_end s _ (Nat.le_refl _)] at h
    subst hr
    go_enter Try.func30, Try.ntmps30
    go_wp2_with fail
    refine wp_loop_rounds 1 ?_
    iterate 1 (rw [rounds_succ]; go_wp2_with fail)
    go_ret
    exact ⟨rfl, rfl⟩
  all_goals
    go_enter Try.func30, Try.ntmps30
    go_wp2_with fail
  · go_loopg [5, 6] (s.size - 0) (fun g v5 v6 wx => ∃ (k : Nat) (b : Bool), k + g = s.size ∧ v5 = .bool b ∧ v6 = .int .i64 k ∧ Aside (k + skipGo b (s.data.toList.drop k) = R) ∧ w = wx)
    case atStart => exact ⟨0, false, by omega, rfl, rfl, HR.out, rfl⟩
    case round =>
      obtain ⟨k, b, hk, rfl, rfl, HK, rfl⟩ := hrel
      clear HR
      cases gk with
      | zero =>
        obtain rfl : k = s.size := by omega
        have hr : s.size = R := by have h := HK.out; rwa [drop_end s _ (Nat.le_refl _), skip_far] at h
        subst hr
        have hz : ¬ ((s.size : Int) < (s.size : Int)) := by omega
        go_wp2_with fail
        go_ret
        exact ⟨rfl, rfl⟩
      | succ g =>
        have hlt : k < s.size := by omega
        have hz : (k : Int) < (s.size : Int) := by omega
        obtain ⟨c, hc⟩ : ∃ c, s[k] = c := ⟨_, rfl⟩
        have h := HK.out
        rw [drop_byte s k hlt, hc] at h
        clear HK
        rcases skip_byte (n := b) (c := c) (t := s.data.toList.drop (k + 1)) with ⟨e1, e2, e3⟩ | ⟨e1, e2, e3⟩ | ⟨e1, e2⟩ | ⟨e1, e2, e3, rfl, e4⟩ | ⟨e1, e2, e3, rfl, e4, e5⟩ | ⟨e1, e2, e3, rfl, e4, e5⟩
        · have Hn : Hid (k + 1 + skipGo false (s.data.toList.drop (k + 1)) = R) := Lib.hid (by omega)
          have HK := Lib.hid (fun W => rKind_is c e3 W)
          have hcz : (c.toNat : Int) = 10 := by omega
          rw [hcz] at HK
          clear h e1 e2 e3
          go_wp2_with fail
          refine (HK.out _).mono ?_
          rintro e w1 ⟨rfl, rfl⟩
          go_wp2_with fail
          go_roundg g
          case measure => omega
          case rel => exact ⟨k + 1, false, by omega, rfl, by go_num, Hn.out, rfl⟩
        · have Hn : Hid (k + 1 + skipGo false (s.data.toList.drop (k + 1)) = R) := Lib.hid (by omega)
          have HK := Lib.hid (fun W => rKind_is c e3 W)
          have hcz : (c.toNat : Int) = 13 := by omega
          rw [hcz] at HK
          clear h e1 e2 e3
          go_wp2_with fail
          refine (HK.out _).mono ?_
          rintro e w1 ⟨rfl, rfl⟩
          go_wp2_with fail
          go_roundg g
          case measure => omega
          case rel => exact ⟨k + 1, false, by omega, rfl, by go_num, Hn.out, rfl⟩
        · have Hn : Hid (k + 1 + skipGo true (s.data.toList.drop (k + 1)) = R) := Lib.hid (by omega)
          have hcz : (c.toNat : Int) = 37 := by omega
          clear h e1 e2
          go_wp2_with fail
          go_roundg g
          case measure => omega
          case rel => exact ⟨k + 1, true, by omega, rfl, by go_num, Hn.out, rfl⟩
        · have Hn : Hid (k + 1 + skipGo true (s.data.toList.drop (k + 1)) = R) := Lib.hid (by omega)
          have c1 : ((c.toNat : Int) == 10) = false := by simp; omega
          have c2 : ((c.toNat : Int) == 13) = false := by simp; omega
          have c3 : ((c.toNat : Int) == 37) = false := by simp; omega
          clear h e1 e2 e3 e4
          go_wp2_with fail
          go_roundg g
          case measure => omega
          case rel => exact ⟨k + 1, true, by omega, rfl, by go_num, Hn.out, rfl⟩
        · have Hn : Hid (k + 1 + skipGo false (s.data.toList.drop (k + 1)) = R) := Lib.hid (by omega)
          have HK := Lib.hid (fun W => rKind_is c e4 W)
          have c1 : ((c.toNat : Int) == 10) = false := by simp; omega
          have c2 : ((c.toNat : Int) == 13) = false := by simp; omega
          have c3 : ((c.toNat : Int) == 37) = false := by simp; omega
          clear h e1 e2 e3 e4 e5
          go_wp2_with fail
          refine (HK.out _).mono ?_
          rintro e w1 ⟨rfl, rfl⟩
          go_wp2_with fail
          go_roundg g
          case measure => omega
          case rel => exact ⟨k + 1, false, by omega, rfl, by go_num, Hn.out, rfl⟩
        · have hr : k = R := by omega
          subst hr
          obtain ⟨x, hx⟩ : ∃ x, kindI (c.toNat : Int) = x := ⟨_, rfl⟩
          have HK := Lib.hid (fun W => rKind_is c hx W)
          have c1 : ((c.toNat : Int) == 10) = false := by simp; omega
          have c2 : ((c.toNat : Int) == 13) = false := by simp; omega
          have c3 : ((c.toNat : Int) == 37) = false := by simp; omega
          have c4 : (x != 0) = true := by rw [← hx]; simpa using e4
          clear h e1 e2 e3 e4 e5 hx
          go_wp2_with fail
          refine (HK.out _).mono ?_
          rintro e w1 ⟨rfl, rfl⟩
          go_wp2_with fail
          go_ret
          exact ⟨rfl, rfl⟩
  · go_loopg [5, 6] (s.size - p) (fun g v5 v6 wx => ∃ (k : Nat) (b : Bool), k + g = s.size ∧ v5 = .bool b ∧ v6 = .int .i64 k ∧ Aside (k + skipGo b (s.data.toList.drop k) = R) ∧ w = wx)
    case atStart => exact ⟨p, false, by omega, rfl, rfl, HR.out, rfl⟩
    case round =>
      obtain ⟨k, b, hk, rfl, rfl, HK, rfl⟩ := hrel
      clear HR
      cases gk with
      | zero =>
        obtain rfl : k = s.size := by omega
        have hr : s.size = R := by have h := HK.out; rwa [drop_end s _ (Nat.le_refl _), skip_far] at h
        subst hr
        have hz : ¬ ((s.size : Int) < (s.size : Int)) := by omega
        go_wp2_with fail
        go_ret
        exact ⟨rfl, rfl⟩
      | succ g =>
        have hlt : k < s.size := by omega
        have hz : (k : Int) < (s.size : Int) := by omega
        obtain ⟨c, hc⟩ : ∃ c, s[k] = c := ⟨_, rfl⟩
        have h := HK.out
        rw [drop_byte s k hlt, hc] at h
        clear HK
        rcases skip_byte (n := b) (c := c) (t := s.data.toList.drop (k + 1)) with ⟨e1, e2, e3⟩ | ⟨e1, e2, e3⟩ | ⟨e1, e2⟩ | ⟨e1, e2, e3, rfl, e4⟩ | ⟨e1, e2, e3, rfl, e4, e5⟩ | ⟨e1, e2, e3, rfl, e4, e5⟩
        · have Hn : Hid (k + 1 + skipGo false (s.data.toList.drop (k + 1)) = R) := Lib.hid (by omega)
          have HK := Lib.hid (fun W => rKind_is c e3 W)
          have hcz : (c.toNat : Int) = 10 := by omega
          rw [hcz] at HK
          clear h e1 e2 e3
          go_wp2_with fail
          refine (HK.out _).mono ?_
          rintro e w1 ⟨rfl, rfl⟩
          go_wp2_with fail
          go_roundg g
          case measure => omega
          case rel => exact ⟨k + 1, false, by omega, rfl, by go_num, Hn.out, rfl⟩
        · have Hn : Hid (k + 1 + skipGo false (s.data.toList.drop (k + 1)) = R) := Lib.hid (by omega)
          have HK := Lib.hid (fun W => rKind_is c e3 W)
          have hcz : (c.toNat : Int) = 13 := by omega
          rw [hcz] at HK
          clear h e1 e2 e3
          go_wp2_with fail
          refine (HK.out _).mono ?_
          rintro e w1 ⟨rfl, rfl⟩
          go_wp2_with fail
          go_roundg g
          case measure => omega
          case rel => exact ⟨k + 1, false, by omega, rfl, by go_num, Hn.out, rfl⟩
        · have Hn : Hid (k + 1 + skipGo true (s.data.toList.drop (k + 1)) = R) := Lib.hid (by omega)
          have hcz : (c.toNat : Int) = 37 := by omega
          clear h e1 e2
          go_wp2_with fail
          go_roundg g
          case measure => omega
          case rel => exact ⟨k + 1, true, by omega, rfl, by go_num, Hn.out, rfl⟩
        · have Hn : Hid (k + 1 + skipGo true (s.data.toList.drop (k + 1)) = R) := Lib.hid (by omega)
          have c1 : ((c.toNat : Int) == 10) = false := by simp; omega
          have c2 : ((c.toNat : Int) == 13) = false := by simp; omega
          have c3 : ((c.toNat : Int) == 37) = false := by simp; omega
          clear h e1 e2 e3 e4
          go_wp2_with fail
          go_roundg g
          case measure => omega
          case rel => exact ⟨k + 1, true, by omega, rfl, by go_num, Hn.out, rfl⟩
        · have Hn : Hid (k + 1 + skipGo false (s.data.toList.drop (k + 1)) = R) := Lib.hid (by omega)
          have HK := Lib.hid (fun W => rKind_is c e4 W)
          have c1 : ((c.toNat : Int) == 10) = false := by simp; omega
          have c2 : ((c.toNat : Int) == 13) = false := by simp; omega
          have c3 : ((c.toNat : Int) == 37) = false := by simp; omega
          clear h e1 e2 e3 e4 e5
          go_wp2_with fail
          refine (HK.out _).mono ?_
          rintro e w1 ⟨rfl, rfl⟩
          go_wp2_with fail
          go_roundg g
          case measure => omega
          case rel => exact ⟨k + 1, false, by omega, rfl, by go_num, Hn.out, rfl⟩
        · have hr : k = R := by omega
          subst hr
          obtain ⟨x, hx⟩ : ∃ x, kindI (c.toNat : Int) = x := ⟨_, rfl⟩
          have HK := Lib.hid (fun W => rKind_is c hx W)
          have c1 : ((c.toNat : Int) == 10) = false := by simp; omega
          have c2 : ((c.toNat : Int) == 13) = false := by simp; omega
          have c3 : ((c.toNat : Int) == 37) = false := by simp; omega
          have c4 : (x != 0) = true := by rw [← hx]; simpa using e4
          clear h e1 e2 e3 e4 e5 hx
          go_wp2_with fail
          refine (HK.out _).mono ?_
          rintro e w1 ⟨rfl, rfl⟩
          go_wp2_with fail
          go_ret
          exact ⟨rfl, rfl⟩
end Go.Proofs.Ytejgcnmbngdkiaa
