/-
  The contracts of the document's small functions: how far two numbers are apart, what is added, the byte of a place.
-/
import Derived.Test.YtjkppdgakokelaaPrPlain3
import Derived.Test.YtjkppdgakokelaaOwn8
import Derived.WalkSpells
import Derived.WalkLawsBesides
import Derived.Deep.LoopGhost
import Derived.IntWalk
namespace Go.Proofs.Ytjkppdgakokelaa
open Go.RowKit

theorem rAway_any (a b : Int) (w : World) (ha : -1000 ≤ a) (ha' : a ≤ 1000) (hb : -1000 ≤ b) (hb' : b ≤ 1000) :
    Calls Try.prog 27 #[.int .i64 a, .int .i64 b] w fun e w' => e = .returned (.int .i64 (awayP a b)) ∧ w = w' := by
  by_cases h : a < b
  · have Hr : Hid (awayP a b = b - a) := Lib.hid (by unfold awayP; rw [if_pos h])
    go_enter Try.func27, Try.ntmps27
    go_wp2_with fail
    go_ret
    exact ⟨ret_int Hr.out.symm, rfl⟩
  · have Hr : Hid (awayP a b = a - b) := Lib.hid (by unfold awayP; rw [if_neg h])
    go_enter Try.func27, Try.ntmps27
    go_wp2_with fail
    go_ret
    exact ⟨ret_int Hr.out.symm, rfl⟩

set_option maxHeartbeats 2000000 in
theorem rGuess_any (kind a b c : Nat) (w : World) (hk : kind ≤ 4) (ha : a < 256) (hb : b < 256) (hc : c < 256) :
    Calls Try.prog 17 #[.int .i64 (kind : Int), .int .i64 (a : Int), .int .i64 (b : Int), .int .i64 (c : Int)] w fun e w' => e = .returned (.int .i64 (guessP kind a b c : Nat)) ∧ w = w' := by
  have hk5 : kind = 0 ∨ kind = 1 ∨ kind = 2 ∨ kind = 3 ∨ kind = 4 := by omega
  rcases hk5 with rfl | rfl | rfl | rfl | rfl
  · go_enter Try.func17, Try.ntmps17
    go_wp2_with fail
    go_ret
    exact ⟨rfl, rfl⟩
  · go_enter Try.func17, Try.ntmps17
    go_wp2_with fail
    go_ret
    exact ⟨rfl, rfl⟩
  · go_enter Try.func17, Try.ntmps17
    go_wp2_with fail
    go_ret
    exact ⟨rfl, rfl⟩
  · go_enter Try.func17, Try.ntmps17
    go_wp2_with fail
    go_ret
    exact ⟨ret_int (by unfold guessP; simp), rfl⟩
  · have hp0 : -1000 ≤ (a : Int) + b - c := by omega
    have hp1 : (a : Int) + b - c ≤ 1000 := by omega
    have HA := Lib.hid (fun W => rAway_any ((a : Int) + b - c) a W hp0 hp1 (by omega) (by omega))
    have HB := Lib.hid (fun W => rAway_any ((a : Int) + b - c) b W hp0 hp1 (by omega) (by omega))
    have HC := Lib.hid (fun W => rAway_any ((a : Int) + b - c) c W hp0 hp1 (by omega) (by omega))
    have HG : Hid (guessP 4 a b c = if awayP ((a : Int) + b - c) a ≤ awayP ((a : Int) + b - c) b ∧ awayP ((a : Int) + b - c) a ≤ awayP ((a : Int) + b - c) c then a else if awayP ((a : Int) + b - c) b ≤ awayP ((a : Int) + b - c) c then b else c) := Lib.hid (by unfold guessP; rfl)
    obtain ⟨x, hx⟩ : ∃ x, awayP ((a : Int) + b - c) a = x := ⟨_, rfl⟩
    obtain ⟨y, hy⟩ : ∃ y, awayP ((a : Int) + b - c) b = y := ⟨_, rfl⟩
    obtain ⟨z, hz⟩ : ∃ z, awayP ((a : Int) + b - c) c = z := ⟨_, rfl⟩
    rw [hx] at HA HG
    rw [hy] at HB HG
    rw [hz] at HC HG
    clear hx hy hz hp0 hp1
    by_cases h1 : x ≤ y
    · by_cases h2 : x ≤ z
      · have Hr : Hid (guessP 4 a b c = a) := Lib.hid (by rw [HG.out, if_pos ⟨h1, h2⟩])
        clear HG
        go_enter Try.func17, Try.ntmps17
        go_wp2_with fail
        refine (HA.out _).mono ?_
        rintro e w1 ⟨rfl, rfl⟩
        go_wp2_with fail
        refine (HB.out _).mono ?_
        rintro e w1 ⟨rfl, rfl⟩
        go_wp2_with fail
        refine (HA.out _).mono ?_
        rintro e w1 ⟨rfl, rfl⟩
        go_wp2_with fail
        refine (HC.out _).mono ?_
        rintro e w1 ⟨rfl, rfl⟩
        go_wp2_with fail
        go_ret
        exact ⟨ret_int (by rw [Hr.out]), rfl⟩
      · have h3 : ¬ y ≤ z := by omega
        have Hr : Hid (guessP 4 a b c = c) := Lib.hid (by rw [HG.out, if_neg (fun h => h2 h.2), if_neg h3])
        clear HG
        go_enter Try.func17, Try.ntmps17
        go_wp2_with fail
        refine (HA.out _).mono ?_
        rintro e w1 ⟨rfl, rfl⟩
        go_wp2_with fail
        refine (HB.out _).mono ?_
        rintro e w1 ⟨rfl, rfl⟩
        go_wp2_with fail
        refine (HA.out _).mono ?_
        rintro e w1 ⟨rfl, rfl⟩
        go_wp2_with fail
        refine (HC.out _).mono ?_
        rintro e w1 ⟨rfl, rfl⟩
        go_wp2_with fail
        refine (HB.out _).mono ?_
        rintro e w1 ⟨rfl, rfl⟩
        go_wp2_with fail
        refine (HC.out _).mono ?_
        rintro e w1 ⟨rfl, rfl⟩
        go_wp2_with fail
        go_ret
        exact ⟨ret_int (by rw [Hr.out]), rfl⟩
    · by_cases h3 : y ≤ z
      · have Hr : Hid (guessP 4 a b c = b) := Lib.hid (by rw [HG.out, if_neg (fun h => h1 h.1), if_pos h3])
        clear HG
        go_enter Try.func17, Try.ntmps17
        go_wp2_with fail
        refine (HA.out _).mono ?_
        rintro e w1 ⟨rfl, rfl⟩
        go_wp2_with fail
        refine (HB.out _).mono ?_
        rintro e w1 ⟨rfl, rfl⟩
        go_wp2_with fail
        refine (HB.out _).mono ?_
        rintro e w1 ⟨rfl, rfl⟩
        go_wp2_with fail
        refine (HC.out _).mono ?_
        rintro e w1 ⟨rfl, rfl⟩
        go_wp2_with fail
        go_ret
        exact ⟨ret_int (by rw [Hr.out]), rfl⟩
      · have Hr : Hid (guessP 4 a b c = c) := Lib.hid (by rw [HG.out, if_neg (fun h => h1 h.1), if_neg h3])
        clear HG
        go_enter Try.func17, Try.ntmps17
        go_wp2_with fail
        refine (HA.out _).mono ?_
        rintro e w1 ⟨rfl, rfl⟩
        go_wp2_with fail
        refine (HB.out _).mono ?_
        rintro e w1 ⟨rfl, rfl⟩
        go_wp2_with fail
        refine (HB.out _).mono ?_
        rintro e w1 ⟨rfl, rfl⟩
        go_wp2_with fail
        refine (HC.out _).mono ?_
        rintro e w1 ⟨rfl, rfl⟩
        go_wp2_with fail
        go_ret
        exact ⟨ret_int (by rw [Hr.out]), rfl⟩

theorem w64_byte (c : UInt8) : wrap64 (c.toNat : Int) = (c.toNat : Int) := by
  have h1 := c.toNat_lt
  unfold wrap64; omega
theorem rAt_out (v : Value) (n row col : Int) (w : World) (h : row < 0 ∨ col < 0) :
    Calls Try.prog 18 #[v, .int .i64 n, .int .i64 row, .int .i64 col] w fun e w' => e = .returned (.int .i64 0) ∧ w = w' := by
  by_cases h1 : row < 0
  · clear h
    go_enter Try.func18, Try.ntmps18
    go_wp2_with fail
    go_ret
    exact ⟨rfl, rfl⟩
  · have h2 : col < 0 := by omega
    clear h
    go_enter Try.func18, Try.ntmps18
    go_wp2_with fail
    go_ret
    exact ⟨rfl, rfl⟩
theorem rAt_in (g len cap n row col i : Nat) (x : UInt8) (w : World) (hi : row * n + col = i) (hl : i < len) (hlen : len ≤ 1000000) (hc : w.cell? ⟨g, i, none⟩ = some (.int .u8 (x.toNat : Int))) :
    Calls Try.prog 18 #[.slice (some ⟨g, 0, none⟩) len cap, .int .i64 (n : Int), .int .i64 (row : Int), .int .i64 (col : Int)] w fun e w' => e = .returned (.int .i64 (x.toNat : Int)) ∧ w = w' := by
  obtain ⟨p, hp⟩ : ∃ p, row * n = p := ⟨_, rfl⟩
  have hpz : (row : Int) * (n : Int) = (p : Int) := by rw [← hp]; simp
  have hw1 : IntKind.i64.wrap (p : Int) = (p : Int) := IntWalk.i64_in _ (by omega)
  have hiz : (p : Int) + (col : Int) = (i : Int) := by omega
  have hw2 : IntKind.i64.wrap (i : Int) = (i : Int) := IntWalk.i64_in _ (by omega)
  have hl1 : (i : Int) < (len : Int) := by omega
  have h0 : ¬ (row : Int) < 0 := by omega
  have h1 : ¬ (col : Int) < 0 := by omega
  have hx64 := w64_byte x
  clear hi hp
  go_enter Try.func18, Try.ntmps18
  go_wp2_with fail
  go_ret
  exact ⟨rfl, rfl⟩

/-- The byte on the left, of the next place. -/
theorem rLeft_any (g len cap n r k : Nat) (l : List UInt8) (w : World) (hlen : l.length = len) (hL : len = r * n + k) (hk : k < n) (hmax : len ≤ 1000000) (hc : ∀ j (h : j < l.length), w.cell? ⟨g, j, none⟩ = some (.int .u8 (l[j].toNat : Int))) :
    Calls Try.prog 18 #[.slice (some ⟨g, 0, none⟩) len cap, .int .i64 (n : Int), .int .i64 (r : Int), .int .i64 ((k : Int) - 1)] w fun e w' => e = .returned (.int .i64 ((leftP l n len).toNat : Int)) ∧ w = w' := by
  have hm : len % n = k := by rw [hL, Nat.mul_comm, Nat.mul_add_mod, Nat.mod_eq_of_lt hk]
  by_cases h0 : k = 0
  · have e : leftP l n len = 0 := by unfold leftP; rw [hm, if_pos h0]
    rw [e]
    exact rAt_out _ _ _ _ w (.inr (by omega))
  · obtain ⟨j, rfl⟩ : ∃ j, k = j + 1 := ⟨k - 1, by omega⟩
    have hj : r * n + j < l.length := by omega
    have e : leftP l n len = l[r * n + j] := by
      unfold leftP
      rw [hm, if_neg h0, show len - 1 = r * n + j by omega, List.getElem?_eq_getElem hj]; rfl
    rw [e, show ((j + 1 : Nat) : Int) - 1 = (j : Int) by omega]
    exact rAt_in g len cap n r j _ _ w rfl (by omega) hmax (hc _ hj)
/-- The byte above the next place. -/
theorem rAbove_any (g len cap n r k : Nat) (l : List UInt8) (w : World) (hlen : l.length = len) (hL : len = r * n + k) (hk : k < n) (hmax : len ≤ 1000000) (hc : ∀ j (h : j < l.length), w.cell? ⟨g, j, none⟩ = some (.int .u8 (l[j].toNat : Int))) :
    Calls Try.prog 18 #[.slice (some ⟨g, 0, none⟩) len cap, .int .i64 (n : Int), .int .i64 ((r : Int) - 1), .int .i64 (k : Int)] w fun e w' => e = .returned (.int .i64 ((aboveP l n len).toNat : Int)) ∧ w = w' := by
  cases r with
  | zero =>
    rw [Nat.zero_mul] at hL
    have e : aboveP l n len = 0 := by unfold aboveP; rw [if_neg (by omega)]
    rw [e]
    exact rAt_out _ _ _ _ w (.inl (by omega))
  | succ r =>
    rw [Nat.add_mul, Nat.one_mul] at hL
    have hj : r * n + k < l.length := by omega
    have e : aboveP l n len = l[r * n + k] := by
      unfold aboveP
      rw [if_pos (by omega), show len - n = r * n + k by omega, List.getElem?_eq_getElem hj]; rfl
    rw [e, show ((r + 1 : Nat) : Int) - 1 = (r : Int) by omega]
    exact rAt_in g len cap n r k _ _ w rfl (by omega) hmax (hc _ hj)
/-- The byte above the left one, of the next place. -/
theorem rCorner_at (g len cap n r k : Nat) (l : List UInt8) (w : World) (hlen : l.length = len) (hL : len = r * n + k) (hk : k < n) (hmax : len ≤ 1000000) (hc : ∀ j (h : j < l.length), w.cell? ⟨g, j, none⟩ = some (.int .u8 (l[j].toNat : Int))) :
    Calls Try.prog 18 #[.slice (some ⟨g, 0, none⟩) len cap, .int .i64 (n : Int), .int .i64 ((r : Int) - 1), .int .i64 ((k : Int) - 1)] w fun e w' => e = .returned (.int .i64 ((cornerP l n len).toNat : Int)) ∧ w = w' := by
  have hm : len % n = k := by rw [hL, Nat.mul_comm, Nat.mul_add_mod, Nat.mod_eq_of_lt hk]
  by_cases h0 : k = 0
  · have e : cornerP l n len = 0 := by unfold cornerP; rw [hm, if_pos (.inl h0)]
    rw [e]
    exact rAt_out _ _ _ _ w (.inr (by omega))
  · cases r with
    | zero =>
      rw [Nat.zero_mul] at hL
      have e : cornerP l n len = 0 := by unfold cornerP; rw [if_pos (.inr (by omega))]
      rw [e]
      exact rAt_out _ _ _ _ w (.inl (by omega))
    | succ r =>
      rw [Nat.add_mul, Nat.one_mul] at hL
      obtain ⟨j, rfl⟩ : ∃ j, k = j + 1 := ⟨k - 1, by omega⟩
      have hj : r * n + j < l.length := by omega
      have e : cornerP l n len = l[r * n + j] := by
        unfold cornerP
        rw [hm, if_neg (by omega), show len - n - 1 = r * n + j by omega, List.getElem?_eq_getElem hj]; rfl
      rw [e, show ((j + 1 : Nat) : Int) - 1 = (j : Int) by omega, show ((r + 1 : Nat) : Int) - 1 = (r : Int) by omega]
      exact rAt_in g len cap n r j _ _ w rfl (by omega) hmax (hc _ hj)
theorem rCorner_any (g len cap n r k : Nat) (l : List UInt8) (w : World) (hlen : l.length = len) (hL : len = r * n + k) (hk : k < n) (hr : r ≤ 1000000) (hn : n ≤ 1000000) (hmax : len ≤ 1000000) (hc : ∀ j (h : j < l.length), w.cell? ⟨g, j, none⟩ = some (.int .u8 (l[j].toNat : Int))) :
    Calls Try.prog 19 #[.slice (some ⟨g, 0, none⟩) len cap, .int .i64 (n : Int), .int .i64 (r : Int), .int .i64 (k : Int)] w fun e w' => e = .returned (.int .i64 ((cornerP l n len).toNat : Int)) ∧ w = w' := by
  have H := Lib.hid (rCorner_at g len cap n r k l w hlen hL hk hmax hc)
  clear hc hL hlen
  go_enter Try.func19, Try.ntmps19
  go_wp2_with fail
  refine H.out.mono ?_
  rintro e w1 ⟨rfl, rfl⟩
  go_wp2_with fail
  go_ret
  exact ⟨rfl, rfl⟩

end Go.Proofs.Ytjkppdgakokelaa
