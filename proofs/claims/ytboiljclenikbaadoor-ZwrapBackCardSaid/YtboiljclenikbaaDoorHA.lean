/-
  ARef, AHalves, APart, AContracts: texts merged.
-/
import Derived.Test.YtboiljclenikbaaDoorRows
import Derived.Test.YtboiljclenikbaaDoorHPlain
import Derived.WalkKit
import Derived.WalkSpells
import Derived.WalkLawsBesides
import Derived.WalkSmall
import Derived.Lib.Hide
import Derived.Deep.LoopGhost
import Derived.Deep.RegionWith
import Derived.BigQuiet
import Derived.Deep.QuietTactic
import Derived.Deep.RegionLaw
import Derived.Laws.BitsAllLaws
import Derived.Laws.BitsLemmas
import Derived.Deep.RegionHeld3
import Derived.Test.YtboiljclenikbaaDoorBytesRow
import Derived.OwnWalk
/-
  The contracts of the document's sum behind deflated bytes.
-/
namespace Go.Proofs.YtboiljclenikbaaDoor
section
open Go.RowKit

def ANums (r : Int × Int) : Ending := .returned (.tuple #[.int .i64 r.1, .int .i64 r.2])
theorem aNums_mk {a b : Int} {r : Int × Int} (h : (a, b) = r) : Ending.returned (.tuple #[.int .i64 a, .int .i64 b]) = ANums r := by subst h; rfl

theorem aFold_take (p : Nat × Nat) (s : ByteArray) (k : Nat) (h : k < s.size) : aFold p (s.data.toList.take (k + 1)) =
    (((aFold p (s.data.toList.take k)).1 + s[k].toNat) % 65521, ((aFold p (s.data.toList.take k)).2 + ((aFold p (s.data.toList.take k)).1 + s[k].toNat) % 65521) % 65521) := by
  rw [take_snoc s k h, aFold_snoc]

theorem tdiv_nat (m : Nat) (k : Nat) : (m : Int).tdiv (k : Int) = ((m / k : Nat) : Int) := by rw [Int.tdiv_eq_ediv_of_nonneg (by omega)]; rfl
theorem tmod_nat (m : Nat) (k : Nat) : (m : Int).tmod (k : Int) = ((m % k : Nat) : Int) := by rw [Int.tmod_eq_emod_of_nonneg (by omega)]; rfl

theorem not_bad {n : Int} (h : ¬ aBad n) : ∃ m : Nat, n = m ∧ aIs m := by
  have h' := h
  unfold aBad at h
  obtain ⟨m, rfl⟩ := Int.eq_ofNat_of_zero_le (show 0 ≤ n by omega)
  exact ⟨m, rfl, Classical.byContradiction fun e => h' (aBad_nat.2 e)⟩


end
end Go.Proofs.YtboiljclenikbaaDoor
/-
  The contracts of package adler's halves: rest, within, sum, grow, part.
-/
namespace Go.Proofs.YtboiljclenikbaaDoor
section
open Go.RowKit

theorem i64_and16 (n : Int) : bits .and .i64 n 65535 = n % 65536 := by
  have h : (BitVec.ofInt 64 65535).toNat = 2 ^ 16 - 1 := by decide
  have key : (BitVec.ofInt 64 n &&& BitVec.ofInt 64 65535).toNat = (n % ((2 ^ 64 : Nat) : Int)).toNat % 2 ^ 16 := by
    rw [BitVec.toNat_and, BitVec.toNat_ofInt, h, Nat.and_two_pow_sub_one_eq_mod]
  show IntKind.i64.wrap ((BitVec.ofInt 64 n &&& BitVec.ofInt 64 65535).toNat : Nat) = n % 65536
  rw [key, IntKind.wrap_i64]
  omega
theorem i64_or_halves (a b : Nat) (h0 : a < 65536) (h1 : b < 65536) : bits .or .i64 ((b : Int) * 65536) (a : Int) = ((b * 65536 + a : Nat) : Int) := by
  show IntKind.i64.wrap ((BitVec.ofInt 64 ((b * 65536 : Nat) : Int) ||| BitVec.ofInt 64 (a : Int)).toNat : Int) = _
  rw [BitVec.toNat_or, ofInt_u64 _ (by omega), ofInt_u64 _ (by omega), nat_join 16 _ _ (by omega) (by omega), IntKind.wrap_i64]
  omega

theorem tmod_near (n : Int) : -65521 < n.tmod 65521 ∧ n.tmod 65521 < 65521 ∧ (n.tmod 65521 + 65521) % 65521 = n % 65521 := by
  by_cases hn : 0 ≤ n
  · rw [Int.tmod_eq_emod_of_nonneg hn]; omega
  · obtain ⟨m, rfl⟩ : ∃ m, n = -m := ⟨-n, by omega⟩
    have hm : 0 ≤ m := by omega
    rw [Int.neg_tmod, Int.tmod_eq_emod_of_nonneg hm]; omega
theorem sum_any (a b : Nat) (w : World) (h0 : a < 65536) (h1 : b < 65536) :
    Calls Tryd.prog 34 #[.agg #[.int .i64 (a : Int), .int .i64 (b : Int)]] w fun e w' => e = .returned (.int .i64 ((b * 65536 + a : Nat) : Int)) ∧ Below w.heap.size w w' := by
  have hor := i64_or_halves a b h0 h1
  go_enter Tryd.func34, Tryd.ntmps34
  go_wp2_with fail
  go_ret
  exact ⟨ret_int (by first | rfl | simp), (Below.refl _ _).alloc (Nat.le_refl _) _⟩

theorem grow_is (b : Nat) (x y c x' y' : Nat) (w : World) (hx : x < 65521) (hy : y < 65521) (hc : c < 256) (h0 : w.cell? ⟨b, 0, none⟩ = some (.int .i64 (x : Int))) (h1 : w.cell? ⟨b, 1, none⟩ = some (.int .i64 (y : Int)))
   (hf : w.frozen? ⟨b, 0, none⟩ = false) (hf1 : w.frozen? ⟨b, 1, none⟩ = false) (hx' : (x + c) % 65521 = x') (hy' : (y + x') % 65521 = y') :
    Calls Tryd.prog 33 #[.pointer (some ⟨b, 0, none⟩), .int .u8 (c : Int)] w fun e w' => e = .returned (.tuple #[]) ∧ w' = ((w.setCell ⟨b, 0, none⟩ (.int .i64 (x' : Int))).setCell ⟨b, 1, none⟩ (.int .i64 (y' : Int))).drew := by
  have E1 : Hid (((x : Int) + (c : Int)) % 65521 = (x' : Int)) := Lib.hid (by omega)
  have E2 : Hid (((y : Int) + ((x : Int) + (c : Int))) % 65521 = (y' : Int)) := Lib.hid (by omega)
  clear hx' hy'
  go_enter Tryd.func33, Tryd.ntmps33
  go_wp2_with fail
  go_region
  all_goals
    go_wp2_with fail
    go_end0
    rw [E1.out, E2.out]
    exact ⟨rfl, rfl⟩

end
end Go.Proofs.YtboiljclenikbaaDoor
/-
  The contract of package adler's part.
-/
namespace Go.Proofs.YtboiljclenikbaaDoor
section
open Go.RowKit

theorem bcell {W w1 : World} (hb : Below W.heap.size W w1) : (∀ b o, b < W.heap.size → w1.cell? ⟨b, o, none⟩ = W.cell? ⟨b, o, none⟩) ∧ (∀ b o, b < W.heap.size → w1.frozen? ⟨b, o, none⟩ = W.frozen? ⟨b, o, none⟩) :=
  ⟨fun b o h => hb.cell (p := ⟨b, o, none⟩) h, fun b o h => hb.frozen (p := ⟨b, o, none⟩) h⟩

theorem part_below {w w1 : World} {a b : Value} {x y : Obj} (hb : Below (((w.alloc x).alloc y).drew.heap.size) ((w.alloc x).alloc y).drew w1) :
    Below w.heap.size w ((w1.setCell ⟨w.heap.size, 0, none⟩ a).setCell ⟨w.heap.size, 1, none⟩ b) :=
  ((((((Below.refl _ w).alloc (Nat.le_refl _) _).alloc (by simp) _).drew).trans (hb.mono (by simp; omega))).setCell (by simp) _).setCell (by simp) _

theorem part_cells {w w1 : World} {a b c d x y : Value} {T : TypeId} (hb : Below (((w.alloc (.cells #[c, d] T)).alloc (.cells #[x, y] T)).drew.heap.size) ((w.alloc (.cells #[c, d] T)).alloc (.cells #[x, y] T)).drew w1) :
    (w1.setCell ⟨w.heap.size, 0, none⟩ a).cell? ⟨w.heap.size, 0, none⟩ = some a ∧ ((w1.setCell ⟨w.heap.size, 0, none⟩ a).setCell ⟨w.heap.size, 1, none⟩ b).cell? ⟨w.heap.size, 1, none⟩ = some b := by
  have h0 : w1.cell? ⟨w.heap.size, 0, none⟩ = some c := by
    rw [(bcell hb).1 _ _ (by simp; omega)]; simp [go_sem]
  have h1 : w1.cell? ⟨w.heap.size, 1, none⟩ = some d := by
    rw [(bcell hb).1 _ _ (by simp; omega)]; simp [go_sem]
  refine ⟨World.cell?_setCell_same _ _ _ h0, World.cell?_setCell_same _ _ _ (u := d) ?_⟩
  rw [World.cell?_setCell_other _ _ _ _ (by simp)]; exact h1

theorem part_zero {w w1 : World} {c d x y : Value} {T : TypeId} (hb : Below (((w.alloc (.cells #[c, d] T)).alloc (.cells #[x, y] T)).drew.heap.size) ((w.alloc (.cells #[c, d] T)).alloc (.cells #[x, y] T)).drew w1) :
    w1.cell? ⟨w.heap.size, 0, none⟩ = some c ∧ w1.cell? ⟨w.heap.size, 1, none⟩ = some d := by
  refine ⟨?_, ?_⟩
  · rw [(bcell hb).1 _ _ (by simp; omega)]; simp [go_sem]
  · rw [(bcell hb).1 _ _ (by simp; omega)]; simp [go_sem]
theorem part_keep {w w1 : World} {c d x y : Value} {T : TypeId} (hb : Below (((w.alloc (.cells #[c, d] T)).alloc (.cells #[x, y] T)).drew.heap.size) ((w.alloc (.cells #[c, d] T)).alloc (.cells #[x, y] T)).drew w1) :
    w1.cell? ⟨w.heap.size + 1, 0, none⟩ = some x ∧ w1.cell? ⟨w.heap.size + 1, 1, none⟩ = some y ∧ w1.frozen? ⟨w.heap.size, 0, none⟩ = false ∧ w1.frozen? ⟨w.heap.size, 1, none⟩ = false := by
  refine ⟨?_, ?_, ?_, ?_⟩
  · rw [(bcell hb).1 _ _ (by simp)]; simp [go_sem]
  · rw [(bcell hb).1 _ _ (by simp)]; simp [go_sem]
  · rw [(bcell hb).2 _ _ (by simp; omega)]; simp [go_sem]
  · rw [(bcell hb).2 _ _ (by simp; omega)]; simp [go_sem]

end
end Go.Proofs.YtboiljclenikbaaDoor
/-
  The contracts of package adler: goOn, Sum, More, Join.
-/
namespace Go.Proofs.YtboiljclenikbaaDoor
section
open Go.RowKit

/-- Both halves lie in a block. -/
def HalvesAt (w : World) (b x y : Nat) : Prop := w.heap[b]? = some (.cells #[.int .i64 (x : Int), .int .i64 (y : Int)] 60 (0, 0))
theorem HalvesAt.low {w : World} {b x y : Nat} (h : HalvesAt w b x y) : w.cell? ⟨b, 0, none⟩ = some (.int .i64 (x : Int)) := by rw [cell_of_row _ _ _ _ _ _ h]; rfl
theorem HalvesAt.high {w : World} {b x y : Nat} (h : HalvesAt w b x y) : w.cell? ⟨b, 1, none⟩ = some (.int .i64 (y : Int)) := by rw [cell_of_row _ _ _ _ _ _ h]; rfl
theorem HalvesAt.free {w : World} {b x y : Nat} (h : HalvesAt w b x y) (j : Nat) : w.frozen? ⟨b, j, none⟩ = false := frozen_of_row _ _ _ _ _ h
theorem HalvesAt.turn {w : World} {b x y : Nat} (h : HalvesAt w b x y) (x' y' : Nat) : HalvesAt ((w.setCell ⟨b, 0, none⟩ (.int .i64 (x' : Int))).setCell ⟨b, 1, none⟩ (.int .i64 (y' : Int))).drew b x' y' := by
  have h1 := heap_setCell_same _ _ 0 _ _ (.int .i64 (x' : Int)) h
  exact heap_setCell_same _ _ 1 _ _ (.int .i64 (y' : Int)) h1
theorem halves_new (w : World) (o : Obj) (x y : Nat) : Aside <| HalvesAt ((w.alloc o).alloc (.cells #[.int .i64 (x : Int), .int .i64 (y : Int)] 60)) (w.heap.size + 1) x y := by
  unfold Aside HalvesAt
  have h := heap_alloc_new (w.alloc o) (.cells #[.int .i64 (x : Int), .int .i64 (y : Int)] 60)
  rw [show (w.alloc o).heap.size = w.heap.size + 1 by simp] at h
  exact h

set_option maxHeartbeats 1000000 in
theorem goOn_is (a h : Nat) (s : ByteArray) (w : World) (hs : s.size ≤ maxLen) (ha : a < 65521) (hh : h < 65521) {r : Nat} (hr : aNum (aFold (a, h) s.data.toList) = r) :
    Calls Tryd.prog 17 #[.agg #[.int .i64 (a : Int), .int .i64 (h : Int)], .string s] w fun e w' => e = .returned (.int .i64 (r : Int)) ∧ Below w.heap.size w w' := by
  unfold maxLen at hs
  have Hr := Lib.hid hr
  clear hr
  go_enter Tryd.func17, Tryd.ntmps17
  go_wp2_with fail
  go_loopg [6, 11] s.size (fun g _ s11 wx => ∃ (k x y : Nat), k + g = s.size ∧ s11 = .int .i64 k ∧ x < 65521 ∧ y < 65521 ∧ Aside (aFold (a, h) (s.data.toList.take k) = (x, y)) ∧ Aside (HalvesAt wx (w.heap.size + 1) x y) ∧ Below w.heap.size w wx)
  case atStart => exact ⟨0, a, h, by omega, rfl, ha, hh, rfl, halves_new _ _ _ _, ((Below.refl _ w).alloc (Nat.le_refl _) _).alloc (by simp) _⟩
  case round =>
    obtain ⟨k, x, y, hkg, rfl, hx, hy, HZ, HA, hb⟩ := hrel
    have Hb := Lib.hid hb
    clear hb
    cases gk with
    | zero =>
      obtain rfl : k = s.size := by omega
      have Hr2 : Hid (y * 65536 + x = r) := Lib.hid (by
        have h1 := HZ.out
        rw [List.take_of_length_le (by rw [← size_data]; exact Nat.le_refl _)] at h1
        rw [← Hr.out, h1]; rfl)
      have c0 := HA.out.low
      have c1 := HA.out.high
      go_wp2_with fail
      refine (sum_any x y _ (by omega) (by omega)).mono ?_
      rintro e w1 ⟨rfl, hb⟩
      have Hb2 := Lib.hid (Hb.out.trans (hb.mono Hb.out.size))
      clear hb
      go_wp2_with fail
      go_ret
      exact ⟨ret_int (by have := Hr2.out; omega), Hb2.out⟩
    | succ g =>
      have hk : k < s.size := by omega
      have hkz : (k : Int) < (s.size : Int) := by omega
      have hc : s[k].toNat < 256 := s[k].toNat_lt
      obtain ⟨x', hx'⟩ : ∃ x', (x + s[k].toNat) % 65521 = x' := ⟨_, rfl⟩
      obtain ⟨y', hy'⟩ : ∃ y', (y + x') % 65521 = y' := ⟨_, rfl⟩
      have Hst : Hid (aFold (a, h) (s.data.toList.take (k + 1)) = (x', y')) := Lib.hid (by rw [aFold_take _ s k hk, HZ.out]; simp only; rw [hx', hy'])
      have Hx := Lib.hid hx'
      have Hy := Lib.hid hy'
      have Hkg := Lib.hid hkg
      have hx2 : x' < 65521 := by omega
      have hy2 : y' < 65521 := by omega
      have hge : w.heap.size ≤ w.heap.size + 1 := by omega
      clear hx' hy' hkg
      go_wp2_with fail
      refine (grow_is (w.heap.size + 1) x y s[k].toNat x' y' _ hx hy hc HA.out.low HA.out.high (HA.out.free _) (HA.out.free _) Hx.out Hy.out).mono ?_
      rintro e w1 ⟨rfl, rfl⟩
      have Ht := Lib.hid (HA.out.turn x' y')
      have Hbt := Lib.hid (below_set (below_set Hb.out (B := w.heap.size + 1) hge 0 (.int .i64 (x' : Int))) (B := w.heap.size + 1) hge 1 (.int .i64 (y' : Int))).drew
      go_wp2_with fail
      go_roundg g
      case measure => omega
      case rel => exact ⟨k + 1, x', y', by have := Hkg.out; omega, by go_num, hx2, hy2, Hst.out, Ht.out, Hbt.out⟩

theorem adSum_is (s : ByteArray) (w : World) (hs : s.size ≤ maxLen) {r : Nat} (h : aSum s.data.toList = r) :
    Calls Tryd.prog 8 #[.string s] w fun e w' => e = .returned (.int .i64 (r : Int)) ∧ Below w.heap.size w w' := by
  have H := Lib.hid (fun W => goOn_is 1 0 s W hs (by omega) (by omega) h)
  clear h
  go_enter Tryd.func8, Tryd.ntmps8
  go_wp2_with fail
  refine (H.out _).mono ?_
  rintro e w1 ⟨rfl, hb⟩
  have Hb := Lib.hid hb
  clear hb
  go_wp2_with fail
  go_ret
  exact ⟨rfl, Hb.out⟩

end
end Go.Proofs.YtboiljclenikbaaDoor
