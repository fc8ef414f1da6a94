/-
  PrRef, PrRef2, PrRef3: texts merged.
-/
import Derived.Test.YtnelbahohkjcnaaGreatDoorKPlain
import Derived.Test.YtnelbahohkjcnaaGreatDoorKRows
import Derived.WalkSpells
import Derived.WalkLawsBesides
import Derived.Deep.LoopGhost
import Derived.IntWalk
/-
  The contracts of the document's small functions: how far two numbers are apart, what is added, the byte of a place.
-/
namespace Go.Proofs.YtnelbahohkjcnaaGreatDoor
section
open Go.RowKit
set_option maxRecDepth 100000
theorem rAway_any (a b : Int) (w : World) (ha : -1000 ≤ a) (ha' : a ≤ 1000) (hb : -1000 ≤ b) (hb' : b ≤ 1000) :
    Calls Tryz.prog 70 #[.int .i64 a, .int .i64 b] w fun e w' => e = .returned (.int .i64 (awayP a b)) ∧ w = w' := by
  by_cases h : a < b
  · have Hr : Hid (awayP a b = b - a) := Lib.hid (by unfold awayP; rw [if_pos h])
    go_enter Tryz.func70, Tryz.ntmps70
    go_wp2_with fail
    go_ret
    exact ⟨ret_int Hr.out.symm, rfl⟩
  · have Hr : Hid (awayP a b = a - b) := Lib.hid (by unfold awayP; rw [if_neg h])
    go_enter Tryz.func70, Tryz.ntmps70
    go_wp2_with fail
    go_ret
    exact ⟨ret_int Hr.out.symm, rfl⟩
set_option maxHeartbeats 2000000 in
theorem rGuess_any (kind a b c : Nat) (w : World) (hk : kind ≤ 4) (ha : a < 256) (hb : b < 256) (hc : c < 256) :
    Calls Tryz.prog 46 #[.int .i64 (kind : Int), .int .i64 (a : Int), .int .i64 (b : Int), .int .i64 (c : Int)] w fun e w' => e = .returned (.int .i64 (guessP kind a b c : Nat)) ∧ w = w' := by
  have hk5 : kind = 0 ∨ kind = 1 ∨ kind = 2 ∨ kind = 3 ∨ kind = 4 := by omega
  rcases hk5 with rfl | rfl | rfl | rfl | rfl
  · go_enter Tryz.func46, Tryz.ntmps46
    go_wp2_with fail
    go_ret
    exact ⟨rfl, rfl⟩
  · go_enter Tryz.func46, Tryz.ntmps46
    go_wp2_with fail
    go_ret
    exact ⟨rfl, rfl⟩
  · go_enter Tryz.func46, Tryz.ntmps46
    go_wp2_with fail
    go_ret
    exact ⟨rfl, rfl⟩
  · go_enter Tryz.func46, Tryz.ntmps46
    go_wp2_with fail
    go_ret
    exact ⟨ret_int (by unfold guessP; simp), rfl⟩
  · have hp0 : -1000 ≤ (a : Int) + b - c := by omega
    have hp1 : (a : Int) + b - c ≤ 1000 := by omega
    have HA := Lib.hid (fun W => rAway_any ((a : Int) + b - c) a W hp0 hp1 (by omega) (by omega))
    have HB := Lib.hid (fun W => rAway_any ((a : Int) + b - c) b W hp0 hp1 (by omega) (by omega))
    have HC := Lib.hid (fun W => rAway_any ((a : Int) + b - c) c W hp0 hp1 (by omega) (by omega))
    have HG : Hid (guessP 4 a b c = if awayP ((a : Int) + b - c) a ≤ awayP ((a : Int) + b - c) b ∧ awayP ((a : Int) + b - c) a ≤ awayP ((a : Int) + b - c) c then a else if awayP ((a : Int) + b - c) b ≤ awayP ((a : Int) + b - c) c then b else c) := Lib.hid (by unfold guessP; rfl)
    obtain ⟨x, hx⟩ : ∃ x, awayP ((a : Int) + b - c) a = x := ⟨_, rfl⟩
    obtain ⟨y, hy⟩ : ∃ y, awayP ((a : Int) + b - c) b = y := ⟨_, rfl⟩
    obtain ⟨z, hz⟩ : ∃ z, awayP ((a : Int) + b - c) c = z := ⟨_, rfl⟩
    rw [hx] at HA HG
    rw [hy] at HB HG
    rw [hz] at HC HG
    clear hx hy hz hp0 hp1
    by_cases h1 : x ≤ y
    · by_cases h2 : x ≤ z
      · have Hr : Hid (guessP 4 a b c = a) := Lib.hid (by rw [HG.out, if_pos ⟨h1, h2⟩])
        clear HG
        go_enter Tryz.func46, Tryz.ntmps46
        go_wp2_with fail
        refine (HA.out _).mono ?_
        rintro e w1 ⟨rfl, rfl⟩
        go_wp2_with fail
        refine (HB.out _).mono ?_
        rintro e w1 ⟨rfl, rfl⟩
        go_wp2_with fail
        refine (HA.out _).mono ?_
        rintro e w1 ⟨rfl, rfl⟩
        go_wp2_with fail
        refine (HC.out _).mono ?_
        rintro e w1 ⟨rfl, rfl⟩
        go_wp2_with fail
        go_ret
        exact ⟨ret_int (by rw [Hr.out]), rfl⟩
      · have h3 : ¬ y ≤ z := by omega
        have Hr : Hid (guessP 4 a b c = c) := Lib.hid (by rw [HG.out, if_neg (fun h => h2 h.2), if_neg h3])
        clear HG
        go_enter Tryz.func46, Tryz.ntmps46
        go_wp2_with fail
        refine (HA.out _).mono ?_
        rintro e w1 ⟨rfl, rfl⟩
        go_wp2_with fail
        refine (HB.out _).mono ?_
        rintro e w1 ⟨rfl, rfl⟩
        go_wp2_with fail
        refine (HA.out _).mono ?_
        rintro e w1 ⟨rfl, rfl⟩
        go_wp2_with fail
        refine (HC.out _).mono ?_
        rintro e w1 ⟨rfl, rfl⟩
        go_wp2_with fail
        refine (HB.out _).mono ?_
        rintro e w1 ⟨rfl, rfl⟩
        go_wp2_with fail
        refine (HC.out _).mono ?_
        rintro e w1 ⟨rfl, rfl⟩
        go_wp2_with fail
        go_ret
        exact ⟨ret_int (by rw [Hr.out]), rfl⟩
    · by_cases h3 : y ≤ z
      · have Hr : Hid (guessP 4 a b c = b) := Lib.hid (by rw [HG.out, if_neg (fun h => h1 h.1), if_pos h3])
        clear HG
        go_enter Tryz.func46, Tryz.ntmps46
        go_wp2_with fail
        refine (HA.out _).mono ?_
        rintro e w1 ⟨rfl, rfl⟩
        go_wp2_with fail
        refine (HB.out _).mono ?_
        rintro e w1 ⟨rfl, rfl⟩
        go_wp2_with fail
        refine (HB.out _).mono ?_
        rintro e w1 ⟨rfl, rfl⟩
        go_wp2_with fail
        refine (HC.out _).mono ?_
        rintro e w1 ⟨rfl, rfl⟩
        go_wp2_with fail
        go_ret
        exact ⟨ret_int (by rw [Hr.out]), rfl⟩
      · have Hr : Hid (guessP 4 a b c = c) := Lib.hid (by rw [HG.out, if_neg (fun h => h1 h.1), if_neg h3])
        clear HG
        go_enter Tryz.func46, Tryz.ntmps46
        go_wp2_with fail
        refine (HA.out _).mono ?_
        rintro e w1 ⟨rfl, rfl⟩
        go_wp2_with fail
        refine (HB.out _).mono ?_
        rintro e w1 ⟨rfl, rfl⟩
        go_wp2_with fail
        refine (HB.out _).mono ?_
        rintro e w1 ⟨rfl, rfl⟩
        go_wp2_with fail
        refine (HC.out _).mono ?_
        rintro e w1 ⟨rfl, rfl⟩
        go_wp2_with fail
        go_ret
        exact ⟨ret_int (by rw [Hr.out]), rfl⟩
theorem w64_byte (c : UInt8) : wrap64 (c.toNat : Int) = (c.toNat : Int) := by
  have h1 := c.toNat_lt
  unfold wrap64; omega
theorem rAt_out (v : Value) (n row col : Int) (w : World) (h : row < 0 ∨ col < 0) :
    Calls Tryz.prog 47 #[v, .int .i64 n, .int .i64 row, .int .i64 col] w fun e w' => e = .returned (.int .i64 0) ∧ w = w' := by
  by_cases h1 : row < 0
  · clear h
    go_enter Tryz.func47, Tryz.ntmps47
    go_wp2_with fail
    go_ret
    exact ⟨rfl, rfl⟩
  · have h2 : col < 0 := by omega
    clear h
    go_enter Tryz.func47, Tryz.ntmps47
    go_wp2_with fail
    go_ret
    exact ⟨rfl, rfl⟩
theorem rAt_in (g len cap n row col i : Nat) (x : UInt8) (w : World) (hi : row * n + col = i) (hl : i < len) (hlen : len ≤ 1000000) (hc : w.cell? ⟨g, i, none⟩ = some (.int .u8 (x.toNat : Int))) :
    Calls Tryz.prog 47 #[.slice (some ⟨g, 0, none⟩) len cap, .int .i64 (n : Int), .int .i64 (row : Int), .int .i64 (col : Int)] w fun e w' => e = .returned (.int .i64 (x.toNat : Int)) ∧ w = w' := by
  obtain ⟨p, hp⟩ : ∃ p, row * n = p := ⟨_, rfl⟩
  have hpz : (row : Int) * (n : Int) = (p : Int) := by rw [← hp]; simp
  have hw1 : IntKind.i64.wrap (p : Int) = (p : Int) := IntWalk.i64_in _ (by omega)
  have hiz : (p : Int) + (col : Int) = (i : Int) := by omega
  have hw2 : IntKind.i64.wrap (i : Int) = (i : Int) := IntWalk.i64_in _ (by omega)
  have hl1 : (i : Int) < (len : Int) := by omega
  have h0 : ¬ (row : Int) < 0 := by omega
  have h1 : ¬ (col : Int) < 0 := by omega
  have hx64 := w64_byte x
  clear hi hp
  go_enter Tryz.func47, Tryz.ntmps47
  go_wp2_with fail
  go_ret
  exact ⟨rfl, rfl⟩
theorem rLeft_any (g len cap n r k : Nat) (l : List UInt8) (w : World) (hlen : l.length = len) (hL : len = r * n + k) (hk : k < n) (hmax : len ≤ 1000000) (hc : ∀ j (h : j < l.length), w.cell? ⟨g, j, none⟩ = some (.int .u8 (l[j].toNat : Int))) :
    Calls Tryz.prog 47 #[.slice (some ⟨g, 0, none⟩) len cap, .int .i64 (n : Int), .int .i64 (r : Int), .int .i64 ((k : Int) - 1)] w fun e w' => e = .returned (.int .i64 ((leftP l n len).toNat : Int)) ∧ w = w' := by
  have hm : len % n = k := by rw [hL, Nat.mul_comm, Nat.mul_add_mod, Nat.mod_eq_of_lt hk]
  by_cases h0 : k = 0
  · have e : leftP l n len = 0 := by unfold leftP; rw [hm, if_pos h0]
    rw [e]
    exact rAt_out _ _ _ _ w (.inr (by omega))
  · obtain ⟨j, rfl⟩ : ∃ j, k = j + 1 := ⟨k - 1, by omega⟩
    have hj : r * n + j < l.length := by omega
    have e : leftP l n len = l[r * n + j] := by
      unfold leftP
      rw [hm, if_neg h0, show len - 1 = r * n + j by omega, List.getElem?_eq_getElem hj]; rfl
    rw [e, show ((j + 1 : Nat) : Int) - 1 = (j : Int) by omega]
    exact rAt_in g len cap n r j _ _ w rfl (by omega) hmax (hc _ hj)
theorem rAbove_any (g len cap n r k : Nat) (l : List UInt8) (w : World) (hlen : l.length = len) (hL : len = r * n + k) (hk : k < n) (hmax : len ≤ 1000000) (hc : ∀ j (h : j < l.length), w.cell? ⟨g, j, none⟩ = some (.int .u8 (l[j].toNat : Int))) :
    Calls Tryz.prog 47 #[.slice (some ⟨g, 0, none⟩) len cap, .int .i64 (n : Int), .int .i64 ((r : Int) - 1), .int .i64 (k : Int)] w fun e w' => e = .returned (.int .i64 ((aboveP l n len).toNat : Int)) ∧ w = w' := by
  cases r with
  | zero =>
    rw [Nat.zero_mul] at hL
    have e : aboveP l n len = 0 := by unfold aboveP; rw [if_neg (by omega)]
    rw [e]
    exact rAt_out _ _ _ _ w (.inl (by omega))
  | succ r =>
    rw [Nat.add_mul, Nat.one_mul] at hL
    have hj : r * n + k < l.length := by omega
    have e : aboveP l n len = l[r * n + k] := by
      unfold aboveP
      rw [if_pos (by omega), show len - n = r * n + k by omega, List.getElem?_eq_getElem hj]; rfl
    rw [e, show ((r + 1 : Nat) : Int) - 1 = (r : Int) by omega]
    exact rAt_in g len cap n r k _ _ w rfl (by omega) hmax (hc _ hj)
theorem rCorner_at (g len cap n r k : Nat) (l : List UInt8) (w : World) (hlen : l.length = len) (hL : len = r * n + k) (hk : k < n) (hmax : len ≤ 1000000) (hc : ∀ j (h : j < l.length), w.cell? ⟨g, j, none⟩ = some (.int .u8 (l[j].toNat : Int))) :
    Calls Tryz.prog 47 #[.slice (some ⟨g, 0, none⟩) len cap, .int .i64 (n : Int), .int .i64 ((r : Int) - 1), .int .i64 ((k : Int) - 1)] w fun e w' => e = .returned (.int .i64 ((cornerP l n len).toNat : Int)) ∧ w = w' := by
  have hm : len % n = k := by rw [hL, Nat.mul_comm, Nat.mul_add_mod, Nat.mod_eq_of_lt hk]
  by_cases h0 : k = 0
  · have e : cornerP l n len = 0 := by unfold cornerP; rw [hm, if_pos (.inl h0)]
    rw [e]
    exact rAt_out _ _ _ _ w (.inr (by omega))
  · cases r with
    | zero =>
      rw [Nat.zero_mul] at hL
      have e : cornerP l n len = 0 := by unfold cornerP; rw [if_pos (.inr (by omega))]
      rw [e]
      exact rAt_out _ _ _ _ w (.inl (by omega))
    | succ r =>
      rw [Nat.add_mul, Nat.one_mul] at hL
      obtain ⟨j, rfl⟩ : ∃ j, k = j + 1 := ⟨k - 1, by omega⟩
      have hj : r * n + j < l.length := by omega
      have e : cornerP l n len = l[r * n + j] := by
        unfold cornerP
        rw [hm, if_neg (by omega), show len - n - 1 = r * n + j by omega, List.getElem?_eq_getElem hj]; rfl
      rw [e, show ((j + 1 : Nat) : Int) - 1 = (j : Int) by omega, show ((r + 1 : Nat) : Int) - 1 = (r : Int) by omega]
      exact rAt_in g len cap n r j _ _ w rfl (by omega) hmax (hc _ hj)
theorem rCorner_any (g len cap n r k : Nat) (l : List UInt8) (w : World) (hlen : l.length = len) (hL : len = r * n + k) (hk : k < n) (hr : r ≤ 1000000) (hn : n ≤ 1000000) (hmax : len ≤ 1000000) (hc : ∀ j (h : j < l.length), w.cell? ⟨g, j, none⟩ = some (.int .u8 (l[j].toNat : Int))) :
    Calls Tryz.prog 48 #[.slice (some ⟨g, 0, none⟩) len cap, .int .i64 (n : Int), .int .i64 (r : Int), .int .i64 (k : Int)] w fun e w' => e = .returned (.int .i64 ((cornerP l n len).toNat : Int)) ∧ w = w' := by
  have H := Lib.hid (rCorner_at g len cap n r k l w hlen hL hk hmax hc)
  clear hc hL hlen
  go_enter Tryz.func48, Tryz.ntmps48
  go_wp2_with fail
  refine H.out.mono ?_
  rintro e w1 ⟨rfl, rfl⟩
  go_wp2_with fail
  go_ret
  exact ⟨rfl, rfl⟩
end
end Go.Proofs.YtnelbahohkjcnaaGreatDoor
/-
  The contract of the document's Encode of rows.
-/
namespace Go.Proofs.YtnelbahohkjcnaaGreatDoor
section
open Go.RowKit
set_option maxRecDepth 100000
end
end Go.Proofs.YtnelbahohkjcnaaGreatDoor
/-
  The contract of the document's Decode of rows.
-/
namespace Go.Proofs.YtnelbahohkjcnaaGreatDoor
section
open Go.RowKit
set_option maxRecDepth 100000
def endR (o : Option (List UInt8)) : List UInt8 × Int :=
  match o with
  | none => ([], 4)
  | some o => (o, 0)
theorem over4 {c : UInt8} (h : 4 < c.toNat) : (4 : Int) < (c.toNat : Int) := by omega
theorem not_over4 {c : UInt8} (h : ¬ 4 < c.toNat) : ¬ (4 : Int) < (c.toNat : Int) := by omega
theorem sum_byteP (x : UInt8) (G : Nat) : IntKind.u8.wrap ((x.toNat : Int) + (G : Int)) = ((UInt8.ofNat (x.toNat + G)).toNat : Int) := by
  rw [IntKind.wrap_u8, UInt8.toNat_ofNat']; omega
theorem sum64 (x : UInt8) (G : Nat) (h : G < 256) : IntKind.i64.wrap ((x.toNat : Int) + (G : Int)) = (x.toNat : Int) + (G : Int) := by
  have h1 := x.toNat_lt
  exact IntWalk.i64_in _ (by omega)
theorem decP_endR {l : List UInt8} {n : Nat} (h1 : 1 ≤ n) (h2 : n ≤ 256) (hl : l.length % (n + 1) = 0) : decP l (n : Int) = endR (decRows n (l.length / (n + 1)) [] l) := by
  unfold decP endR
  rw [if_neg (by omega), Int.toNat_natCast, if_neg (by omega)]
  cases decRows n (l.length / (n + 1)) [] l <;> rfl
theorem Own8.cells {w : World} {B g len cap : Nat} {l : List UInt8} (h : Own8 w B (.slice (some ⟨g, 0, none⟩) len cap) l) : l.length = len ∧ ∀ j (h : j < l.length), w.cell? ⟨g, j, none⟩ = some (.int .u8 (l[j].toNat : Int)) := by
  obtain ⟨h1, g', cap', e⟩ := h
  obtain ⟨_, e2, _⟩ := Value.slice.inj e
  refine ⟨e2.symm, fun j hj => ?_⟩
  have := h1.cells (g := g) rfl j _ (cellsB_at hj)
  have e3 : (⟨g, 0, none⟩ : Addr).add j = ⟨g, j, none⟩ := by unfold Addr.add; split <;> simp_all
  rwa [e3] at this
set_option maxRecDepth 100000 in
set_option maxHeartbeats 4000000 in
theorem rDecP_is (s : ByteArray) (columns : Int) (w : World) (hs : s.size ≤ 100000) (hc0 : -9223372036854775808 ≤ columns) (hc1 : columns ≤ 9223372036854775807) {a : List UInt8} {b : Int} (h : decP s.data.toList columns = (a, b)) :
    Calls Tryz.prog 28 #[.string s, .int .i64 columns] w fun e w' => e = .returned (.tuple #[.string (bytes a), .int .i64 b]) ∧ Below w.heap.size w w' := by
  by_cases hw : columns < 1 ∨ 256 < columns
  · obtain ⟨rfl, rfl⟩ : [] = a ∧ 2 = b := by unfold decP at h; rw [if_pos hw] at h; exact Prod.mk.inj h
    clear h
    by_cases hw1 : columns < 1
    · clear hw
      go_enter Tryz.func28, Tryz.ntmps28
      go_wp2_with fail
      go_ret2
      exact ⟨rfl, Below.refl _ _⟩
    · have hw2 : 256 < columns := by omega
      clear hw
      go_enter Tryz.func28, Tryz.ntmps28
      go_wp2_with fail
      go_ret2
      exact ⟨rfl, Below.refl _ _⟩
  · obtain ⟨n, rfl⟩ := Int.eq_ofNat_of_zero_le (show 0 ≤ columns by omega)
    have h1 : 1 ≤ n := by omega
    have h2 : n ≤ 256 := by omega
    have hw1 : ¬ (n : Int) < 1 := by omega
    have hw2 : ¬ 256 < (n : Int) := by omega
    have hsz := size_data s
    have hn0 : ¬ (n : Int) + 1 = 0 := by omega
    have hwn : IntKind.i64.wrap ((n : Int) + 1) = (n : Int) + 1 := IntWalk.i64_in _ (by omega)
    have hmod : (s.size : Int) % ((n : Int) + 1) = ((s.size % (n + 1) : Nat) : Int) := by
      rw [show (n : Int) + 1 = ((n + 1 : Nat) : Int) by omega]; exact (Int.natCast_emod s.size (n + 1)).symm
    clear hw
    by_cases hm : s.size % (n + 1) = 0
    · have hmz : ((s.size : Int) % ((n : Int) + 1) != 0) = false := by
        rw [bne_eq_false_iff_eq, hmod, hm]; rfl
      obtain ⟨M, hM⟩ : ∃ M, s.size = M * (n + 1) := ⟨s.size / (n + 1), by have := Nat.div_add_mod s.size (n + 1); rw [hm, Nat.mul_comm] at this; omega⟩
      have hdiv : (s.size : Int) / ((n : Int) + 1) = (M : Int) := by
        rw [hM, show (n : Int) + 1 = ((n + 1 : Nat) : Int) by omega, Int.natCast_mul]
        exact Int.mul_ediv_cancel _ (by omega)
      have hMs : M ≤ s.size := by rw [hM]; exact Nat.le_mul_of_pos_right _ (by omega)
      have hMz : (M : Int) ≤ 100000 := by omega
      have HD : Hid ((a, b) = endR (decRows n M [] s.data.toList)) := Lib.hid (by
        rw [← h, decP_endR h1 h2 (by rw [← hsz]; exact hm), ← hsz, hM, Nat.mul_div_cancel _ (by omega)])
      have HM := Lib.hid hM
      have Hsz := Lib.hid hsz
      have H1 := Lib.hid h1
      have H2 := Lib.hid h2
      have HMs := Lib.hid hMs
      clear h hm hmod hsz hM hMs
      go_enter Tryz.func28, Tryz.ntmps28
      go_wp2_with fail
      go_loopg [7, 8] M (fun g s7 s8 wx => ∃ (r : Nat) (out : List UInt8), r + g = M ∧ s8 = .int .i64 (r : Int) ∧ Aside (Own8 wx w.heap.size s7 out) ∧ Aside (out.length = r * n) ∧ Aside ((a, b) = endR (decRows n g out (s.data.toList.drop (r * (n + 1))))) ∧ Aside (Below w.heap.size w wx))
      case atStart => exact ⟨0, [], by omega, rfl, Own8.made w 0 #[] (Nat.le_refl _) (by decide) rfl, (Nat.zero_mul n).symm, by show _ = _; rw [Nat.zero_mul, List.drop_zero]; exact HD.out, (Below.refl _ w).alloc (Nat.le_refl _) _⟩
      case round =>
        obtain ⟨r, out, hrg, rfl, HO, hol, HE, hb⟩ := hrel
        have Hb := Lib.hid hb
        clear hb
        cases gk with
        | zero =>
          obtain rfl : r = M := by omega
          have Hr : Hid ((a, b) = (out, 0)) := Lib.hid (by rw [HE]; rfl)
          have htext := Own8.text HO
          clear hrg
          go_wp2_with fail
          go_ret2
          obtain ⟨rfl, rfl⟩ := Prod.mk.inj Hr.out
          exact ⟨rfl, Hb.out⟩
        | succ g =>
          have hrM : (r : Int) < (M : Int) := by omega
          obtain ⟨p, hp⟩ : ∃ p, r * (n + 1) = p := ⟨_, rfl⟩
          have hpz : (r : Int) * ((n : Int) + 1) = (p : Int) := by rw [← hp, Int.natCast_mul]; rfl
          have hps : p + (n + 1) ≤ s.size := by
            have h5 : (r + 1) * (n + 1) ≤ M * (n + 1) := Nat.mul_le_mul_right _ (by omega)
            rw [Nat.add_mul, Nat.one_mul, hp, ← HM.out] at h5
            exact h5
          have hpw : IntKind.i64.wrap (p : Int) = (p : Int) := IntWalk.i64_in _ (by omega)
          have hpl : (p : Int) < (s.size : Int) := by omega
          have hpl' : p < s.size := by omega
          obtain ⟨c, hc⟩ : ∃ c, s[p] = c := ⟨_, rfl⟩
          obtain ⟨D, hD⟩ : ∃ D, s.data.toList.drop p = D := ⟨_, rfl⟩
          have hD0 : D[0]?.getD 0 = c := by
            rw [← hD, List.getElem?_drop, Nat.add_zero, List.getElem?_eq_getElem (by rw [← Hsz.out]; exact hpl'), ← hc]; rfl
          have hrec := HE
          rw [hp, hD] at hrec
          unfold decRows at hrec
          rw [hD0] at hrec
          have hnext : D.drop (n + 1) = s.data.toList.drop ((r + 1) * (n + 1)) := by rw [← hD, List.drop_drop, Nat.add_mul, Nat.one_mul, hp]
          rw [hnext] at hrec
          obtain ⟨row, hrow⟩ : ∃ row, (D.drop 1).take n = row := ⟨_, rfl⟩
          rw [hrow] at hrec
          have hrl : row.length = n := by rw [← hrow, List.length_take, List.length_drop, ← hD, List.length_drop, ← Hsz.out]; omega
          have hrat : ∀ k (hk : k < n) (hk2 : p + 1 + k < s.size), row[k]? = some s[p + 1 + k] := fun k hk hk2 => by
            rw [← hrow, List.getElem?_take_of_lt hk, List.getElem?_drop, ← hD, List.getElem?_drop, show p + (1 + k) = p + 1 + k by omega, List.getElem?_eq_getElem (by rw [← Hsz.out]; exact hk2)]; rfl
          have Hrec := Lib.hid hrec
          have Hrl := Lib.hid hrl
          have Hrat := Lib.hid hrat
          have Hp := Lib.hid hp
          have Hps := Lib.hid hps
          have Hol := Lib.hid hol
          have Hrb : Hid (r ≤ 100000) := Lib.hid (by omega)
          have Hnb : Hid (r * n + n ≤ 1000000) := Lib.hid (by
            have h6 : r * n ≤ r * (n + 1) := Nat.mul_le_mul_left _ (by omega)
            omega)
          clear hrec hnext hrow hrl hrat hp hps hol hD hD0 HE
          by_cases h4 : 4 < c.toNat
          · have h4z := over4 h4
            have Hr : Hid ((a, b) = ([], 4)) := Lib.hid (by have := Hrec.out; rwa [if_pos h4] at this)
            have hw64 := w64_byte
            clear Hrec h4
            go_wp2_with fail
            go_ret2
            obtain ⟨rfl, rfl⟩ := Prod.mk.inj Hr.out
            exact ⟨rfl, Hb.out⟩
          · have h4z := not_over4 h4
            have Hr : Hid ((a, b) = endR (decRows n g (decRow n c.toNat out row) (s.data.toList.drop ((r + 1) * (n + 1))))) := Lib.hid (by have := Hrec.out; rwa [if_neg h4] at this)
            have Hk4 : Hid (c.toNat ≤ 4) := Lib.hid (Nat.le_of_not_lt h4)
            have hw64 := w64_byte
            clear Hrec h4
            go_wp2_with fail
            go_loopg [7, 10] n (fun gi s7 s10 wx => ∃ k : Nat, k + gi = n ∧ s10 = .int .i64 (k : Int) ∧ Aside (Own8 wx w.heap.size s7 (decRow n c.toNat out (row.take k))) ∧ Aside (Below w.heap.size w wx))
            case atStart => exact ⟨0, by omega, rfl, HO, Hb.out⟩
            case round =>
              obtain ⟨k, hki, rfl, HOk, hbk⟩ := hrel
              have Hbk := Lib.hid hbk
              clear hbk
              cases gk with
              | zero =>
                obtain rfl : k = n := by omega
                have hall : row.take k = row := List.take_of_length_le (by rw [Hrl.out]; exact Nat.le_refl _)
                rw [hall] at HOk
                have HO3 := Lib.hid HOk
                clear hki hall HOk
                go_wp2_with fail
                go_roundg g
                case measure => omega
                case rel => exact ⟨r + 1, _, by omega, by go_num, HO3.out, by show _ = _; rw [decRow_length, Hrl.out, Hol.out, Nat.add_mul, Nat.one_mul], Hr.out, Hbk.out⟩
              | succ gi =>
                have hkn : k < n := by omega
                have hkz : (k : Int) < (n : Int) := by omega
                have hxk : p + 1 + k < s.size := by have := Hps.out; omega
                have hxz : (p : Int) + 1 + (k : Int) < (s.size : Int) := by omega
                have hxt : ((p : Int) + 1 + (k : Int)).toNat = p + 1 + k := by omega
                have hx0 : (0 : Int) ≤ (p : Int) + 1 + (k : Int) := by omega
                have hxw : IntKind.i64.wrap ((p : Int) + 1 + (k : Int)) = (p : Int) + 1 + (k : Int) := IntWalk.i64_in _ (by omega)
                have hxw1 : IntKind.i64.wrap ((p : Int) + 1) = (p : Int) + 1 := IntWalk.i64_in _ (by omega)
                obtain ⟨x, hx⟩ : ∃ x, s[p + 1 + k] = x := ⟨_, rfl⟩
                have hxr : row[k]? = some x := by rw [Hrat.out k hkn hxk, hx]
                have hkr : k < row.length := by rw [Hrl.out]; exact hkn
                have hstep : decRow n c.toNat out (row.take (k + 1)) = decOne n c.toNat (decRow n c.toNat out (row.take k)) x := by
                  rw [List.take_succ_eq_append_getElem hkr, decRow_snoc]
                  rw [List.getElem?_eq_getElem hkr] at hxr
                  rw [Option.some.inj hxr]
                have hol2 : (decRow n c.toNat out (row.take k)).length = r * n + k := by rw [decRow_length, Hol.out, List.length_take, Hrl.out]; omega
                obtain ⟨o2, ho2⟩ : ∃ o2, decRow n c.toNat out (row.take k) = o2 := ⟨_, rfl⟩
                rw [ho2] at hstep hol2 HOk
                have HOk2 := Lib.hid HOk
                obtain ⟨-, g7, cap7, rfl⟩ := HOk
                have hcells := (Own8.cells HOk2.out).2
                have hlm : o2.length ≤ 1000000 := by rw [hol2]; have := Hnb.out; omega
                have HL := Lib.hid (rLeft_any g7 o2.length cap7 n r k o2 wr rfl hol2 hkn hlm hcells)
                have HA := Lib.hid (rAbove_any g7 o2.length cap7 n r k o2 wr rfl hol2 hkn hlm hcells)
                have HC := Lib.hid (rCorner_any g7 o2.length cap7 n r k o2 wr rfl hol2 hkn (by have := Hrb.out; omega) (by have := H2.out; omega) hlm hcells)
                unfold decOne at hstep
                obtain ⟨lf, hlf⟩ : ∃ lf, leftP o2 n o2.length = lf := ⟨_, rfl⟩
                obtain ⟨ab, hab⟩ : ∃ ab, aboveP o2 n o2.length = ab := ⟨_, rfl⟩
                obtain ⟨co, hco⟩ : ∃ co, cornerP o2 n o2.length = co := ⟨_, rfl⟩
                rw [hlf] at HL
                rw [hab] at HA
                rw [hco] at HC
                rw [hlf, hab, hco] at hstep
                have HG := Lib.hid (fun W => rGuess_any c.toNat lf.toNat ab.toNat co.toNat W Hk4.out lf.toNat_lt ab.toNat_lt co.toNat_lt)
                have hG256 := guessP_bound c.toNat lf.toNat ab.toNat co.toNat lf.toNat_lt ab.toNat_lt co.toNat_lt
                obtain ⟨G, hG⟩ : ∃ G, guessP c.toNat lf.toNat ab.toNat co.toNat = G := ⟨_, rfl⟩
                rw [hG] at HG hG256 hstep
                obtain ⟨y, hy⟩ : ∃ y : UInt8, UInt8.ofNat (x.toNat + G) = y := ⟨_, rfl⟩
                have hyw := sum_byteP x G
                rw [hy] at hyw
                rw [hy] at hstep
                have Hstep := Lib.hid hstep
                have Hlm := Lib.hid hlm
                have Hyw := Lib.hid hyw
                have hxg : ∀ x : UInt8, IntKind.i64.wrap ((x.toNat : Int) + (G : Int)) = (x.toNat : Int) + (G : Int) := fun x => sum64 x G hG256
                clear hyw hstep hlf hab hco hG hy hol2 ho2 hcells hlm hxr hkr
                go_wp2_with fail
                refine HL.out.mono ?_
                rintro e w1 ⟨rfl, rfl⟩
                go_wp2_with fail
                refine HA.out.mono ?_
                rintro e w1 ⟨rfl, rfl⟩
                go_wp2_with fail
                refine HC.out.mono ?_
                rintro e w1 ⟨rfl, rfl⟩
                go_wp2_with fail
                refine (HG.out _).mono ?_
                rintro e w1 ⟨rfl, rfl⟩
                have hyw := Hyw.out
                go_wp2_with (at_builtin; refine wpList_append8 rfl (.tmp 66) (.tmp 79) rfl w.heap.size _ o2 rfl (HOk2.out.alloc _) ⟨wr.heap.size, 0, none⟩ 1 [y] rfl (cells_new1 _ y _ rfl) (by simp) (by have := Hlm.out; simp; omega) w (Hbk.out.alloc Hbk.out.size _) (by have := Hbk.out.size; simp; omega) ?_; intro v3 w3 Ho3 Hb3 hf3; obtain ⟨g3, cap3, rfl⟩ := hf3)
                clear hyw
                go_roundg gi
                case measure => omega
                case rel => exact ⟨k + 1, by omega, by go_num, by show Own8 _ _ _ _; rw [Hstep.out]; exact Ho3.out, Hb3.out⟩
    · obtain ⟨rfl, rfl⟩ : [] = a ∧ 4 = b := by
        unfold decP at h; rw [if_neg (by omega), Int.toNat_natCast, if_pos (by rw [← hsz]; exact hm)] at h; exact Prod.mk.inj h
      have hmz : ((s.size : Int) % ((n : Int) + 1) != 0) = true := by
        rw [bne_iff_ne, hmod]; omega
      clear h hm hmod hsz
      go_enter Tryz.func28, Tryz.ntmps28
      go_wp2_with fail
      go_ret2
      exact ⟨rfl, Below.refl _ _⟩
end
end Go.Proofs.YtnelbahohkjcnaaGreatDoor
