/-
  ARef, AHalves, APart, BytesRow, AContracts: texts merged.
-/
import Derived.Test.YtiiiokikmjgliaaGreatDoorRows
import Derived.Test.YtiiiokikmjgliaaGreatDoorKPlain
import Derived.WalkKit
import Derived.WalkSpells
import Derived.WalkLawsBesides
import Derived.WalkSmall
import Derived.Lib.Hide
import Derived.Deep.LoopGhost
import Derived.Deep.RegionWith
import Derived.BigQuiet
import Derived.Deep.QuietTactic
import Derived.Deep.RegionLaw
import Derived.Laws.BitsAllLaws
import Derived.Laws.BitsLemmas
import Derived.Deep.RegionHeld3
import Derived.Lib.ConvBytes
import Derived.Lib.AtoiErrMem
import Derived.Laws.IdiomStrings
import Derived.OwnWalk
/-
  The contracts of the document's sum behind deflated bytes.
-/
namespace Go.Proofs.YtiiiokikmjgliaaGreatDoor
section
open Go.RowKit
theorem aFold_take (p : Nat × Nat) (s : ByteArray) (k : Nat) (h : k < s.size) : aFold p (s.data.toList.take (k + 1)) =
    (((aFold p (s.data.toList.take k)).1 + s[k].toNat) % 65521, ((aFold p (s.data.toList.take k)).2 + ((aFold p (s.data.toList.take k)).1 + s[k].toNat) % 65521) % 65521) := by
  rw [take_snoc s k h, aFold_snoc]
set_option maxHeartbeats 1000000 in
theorem rSumA_any (s : ByteArray) (w : World) (hs : s.size ≤ maxLen) :
    Calls Tryz.prog 64 #[.string s] w fun e w' => e = .returned (.int .i64 (aSum s.data.toList : Int)) ∧ w = w' := by
  unfold maxLen at hs
  go_enter Tryz.func64, Tryz.ntmps64
  go_wp2_with fail
  go_loop [3, 4, 5] (fun x y i => ∃ k a b : Nat, k ≤ s.size ∧ i = .int .i64 k ∧ x = .int .i64 a ∧ y = .int .i64 b ∧ a < 65521 ∧ b < 65521 ∧ Aside (aFold (1, 0) (s.data.toList.take k) = (a, b))) (fun _ _ i => s.size - (intOf i).toNat)
  case atStart => exact ⟨0, 1, 0, Nat.zero_le _, rfl, rfl, rfl, by omega, by omega, rfl⟩
  case round =>
    obtain ⟨k, a, b, hk, rfl, rfl, rfl, ha, hb, HZ⟩ := hrel
    by_cases hlt : k < s.size
    · have hc : s[k].toNat < 256 := s[k].toNat_lt
      have Hst : Hid (aFold (1, 0) (s.data.toList.take (k + 1)) = ((a + s[k].toNat) % 65521, (b + (a + s[k].toNat) % 65521) % 65521)) := Lib.hid (by rw [aFold_take _ s k hlt, HZ.out])
      go_wp2_with fail
      go_round
      case rel => exact ⟨k + 1, (a + s[k].toNat) % 65521, (b + (a + s[k].toNat) % 65521) % 65521, by omega, by go_num, by go_num, by go_num, Nat.mod_lt _ (by omega), Nat.mod_lt _ (by omega), Hst.out⟩
      case measure => simp [intOf]; omega
    · obtain rfl : k = s.size := by omega
      have Hr : Hid (((aSum s.data.toList : Nat) : Int) = (b : Int) * 65536 + a) := Lib.hid (by
        have h := HZ.out
        rw [List.take_of_length_le (by rw [← size_data]; exact Nat.le_refl _)] at h
        unfold aSum; rw [h]; unfold aNum; omega)
      go_wp2_with fail
      go_ret
      exact ⟨ret_int (by rw [Hr.out]), rfl⟩
theorem rSumA_is (s : ByteArray) (w : World) (hs : s.size ≤ maxLen) {r : Nat} (h : aSum s.data.toList = r) :
    Calls Tryz.prog 64 #[.string s] w fun e w' => e = .returned (.int .i64 (r : Int)) ∧ w = w' := by
  rw [← h]; exact rSumA_any s w hs
end
end Go.Proofs.YtiiiokikmjgliaaGreatDoor
/-
  The contracts of package adler's halves: rest, within, sum, grow, part.
-/
namespace Go.Proofs.YtiiiokikmjgliaaGreatDoor
section
open Go.RowKit
theorem i64_or_halves (a b : Nat) (h0 : a < 65536) (h1 : b < 65536) : bits .or .i64 ((b : Int) * 65536) (a : Int) = ((b * 65536 + a : Nat) : Int) := by
  show IntKind.i64.wrap ((BitVec.ofInt 64 ((b * 65536 : Nat) : Int) ||| BitVec.ofInt 64 (a : Int)).toNat : Int) = _
  rw [BitVec.toNat_or, ofInt_u64 _ (by omega), ofInt_u64 _ (by omega), nat_join 16 _ _ (by omega) (by omega), IntKind.wrap_i64]
  omega
theorem sum_any (a b : Nat) (w : World) (h0 : a < 65536) (h1 : b < 65536) :
    Calls Tryz.prog 132 #[.agg #[.int .i64 (a : Int), .int .i64 (b : Int)]] w fun e w' => e = .returned (.int .i64 ((b * 65536 + a : Nat) : Int)) ∧ Below w.heap.size w w' := by
  have hor := i64_or_halves a b h0 h1
  go_enter Tryz.func132, Tryz.ntmps132
  go_wp2_with fail
  go_ret
  exact ⟨ret_int (by first | rfl | simp), (Below.refl _ _).alloc (Nat.le_refl _) _⟩
theorem agrow_is (b : Nat) (x y c x' y' : Nat) (w : World) (hx : x < 65521) (hy : y < 65521) (hc : c < 256) (h0 : w.cell? ⟨b, 0, none⟩ = some (.int .i64 (x : Int))) (h1 : w.cell? ⟨b, 1, none⟩ = some (.int .i64 (y : Int)))
   (hf : w.frozen? ⟨b, 0, none⟩ = false) (hf1 : w.frozen? ⟨b, 1, none⟩ = false) (hx' : (x + c) % 65521 = x') (hy' : (y + x') % 65521 = y') :
    Calls Tryz.prog 131 #[.pointer (some ⟨b, 0, none⟩), .int .u8 (c : Int)] w fun e w' => e = .returned (.tuple #[]) ∧ w' = ((w.setCell ⟨b, 0, none⟩ (.int .i64 (x' : Int))).setCell ⟨b, 1, none⟩ (.int .i64 (y' : Int))).drew := by
  have E1 : Hid (((x : Int) + (c : Int)) % 65521 = (x' : Int)) := Lib.hid (by omega)
  have E2 : Hid (((y : Int) + ((x : Int) + (c : Int))) % 65521 = (y' : Int)) := Lib.hid (by omega)
  clear hx' hy'
  go_enter Tryz.func131, Tryz.ntmps131
  go_wp2_with fail
  go_region
  all_goals
    go_wp2_with fail
    go_end0
    rw [E1.out, E2.out]
    exact ⟨rfl, rfl⟩
end
end Go.Proofs.YtiiiokikmjgliaaGreatDoor
/-
  The contract of package adler's part.
-/
namespace Go.Proofs.YtiiiokikmjgliaaGreatDoor
section
open Go.RowKit
end
end Go.Proofs.YtiiiokikmjgliaaGreatDoor
/-
  A row of bytes of a call's own: made of a text, written at a place, made a text again.
-/
namespace Go.Proofs.YtiiiokikmjgliaaGreatDoor
section
open Go.RowKit
def BRowAt (W : World) (B : Nat) (l : List UInt8) : Prop :=
  (∀ j (h : j < l.length), W.cell? ⟨B, j, none⟩ = some (.int .u8 (l[j].toNat : Int))) ∧ ∀ j, j < l.length → W.frozen? ⟨B, j, none⟩ = false
theorem row_new (w : World) (T : TypeId) (s : ByteArray) : BRowAt (Lib.bytesWorld w T s) w.heap.size s.data.toList := by
  constructor
  · intro j h
    have hj : j < s.size := by simpa using h
    rw [Lib.bytesWorld_cell w T s j hj]
    simp [List.getD, List.getElem?_eq_getElem h]
  · intro j h
    have hj : j < s.size := by simpa using h
    have hs : s.size ≤ (Lib.bytesCells w T s).size := by simp [Lib.bytesCells]
    unfold World.frozen?
    rw [Lib.bytesWorld_at_new]
    simp; omega
theorem frozen_setCell (W : World) (p q : Addr) (v : Value) : (W.setCell p v).frozen? q = W.frozen? q := by
  unfold World.setCell World.frozen?
  simp only [Array.getElem?_modify]
  by_cases h : p.block = q.block
  · rw [if_pos h]
    cases hq : W.heap[q.block]? with
    | none => rfl
    | some o => cases o <;> rfl
  · rw [if_neg h]
theorem BRowAt.set {W : World} {B : Nat} {l : List UInt8} (h : BRowAt W B l) (i : Nat) (d : UInt8) : BRowAt (W.setCell ⟨B, i, none⟩ (.int .u8 (d.toNat : Int))) B (l.set i d) := by
  constructor
  · intro j hj
    rw [List.length_set] at hj
    by_cases e : i = j
    · subst e
      rw [World.cell?_setCell_same _ _ _ (h.1 i hj)]
      simp
    · rw [World.cell?_setCell_other _ _ _ _ (by intro e2; exact e (congrArg Addr.off e2)), h.1 j hj]
      simp [e]
  · intro j hj
    rw [List.length_set] at hj
    rw [frozen_setCell]
    exact h.2 j hj
theorem BRowAt.later {W W' : World} {B : Nat} {l : List UInt8} (h : BRowAt W B l) (hb : Below W.heap.size W W') : BRowAt W' B l := by
  constructor
  · intro j hj
    have hc := h.1 j hj
    have hlt : B < W.heap.size := by
      rcases Nat.lt_or_ge B W.heap.size with h' | h'
      · exact h'
      · unfold World.cell? at hc
        simp [Array.getElem?_eq_none h'] at hc
    exact (hb.cell (p := ⟨B, j, none⟩) hlt).trans hc
  · intro j hj
    have hc := h.1 j hj
    have hlt : B < W.heap.size := by
      rcases Nat.lt_or_ge B W.heap.size with h' | h'
      · exact h'
      · unfold World.cell? at hc
        simp [Array.getElem?_eq_none h'] at hc
    have hf := h.2 j hj
    unfold World.frozen? at hf ⊢
    rw [hb.block B hlt]
    exact hf
theorem below_set {B' : Nat} {a W : World} (h : Below B' a W) {B : Nat} (hB : B' ≤ B) (i : Nat) (v : Value) : Below B' a (W.setCell ⟨B, i, none⟩ v) :=
  h.trans ⟨rfl, rfl, rfl, by simp [World.setCell], fun k hk => Below.heap_setCell _ _ _ _ (by show k ≠ B; omega)⟩
end
end Go.Proofs.YtiiiokikmjgliaaGreatDoor
/-
  The contracts of package adler: goOn, Sum, More, Join.
-/
namespace Go.Proofs.YtiiiokikmjgliaaGreatDoor
section
open Go.RowKit
def HalvesAt (w : World) (b x y : Nat) : Prop := w.heap[b]? = some (.cells #[.int .i64 (x : Int), .int .i64 (y : Int)] 144 (0, 0))
theorem HalvesAt.low {w : World} {b x y : Nat} (h : HalvesAt w b x y) : w.cell? ⟨b, 0, none⟩ = some (.int .i64 (x : Int)) := by rw [cell_of_row _ _ _ _ _ _ h]; rfl
theorem HalvesAt.high {w : World} {b x y : Nat} (h : HalvesAt w b x y) : w.cell? ⟨b, 1, none⟩ = some (.int .i64 (y : Int)) := by rw [cell_of_row _ _ _ _ _ _ h]; rfl
theorem HalvesAt.free {w : World} {b x y : Nat} (h : HalvesAt w b x y) (j : Nat) : w.frozen? ⟨b, j, none⟩ = false := frozen_of_row _ _ _ _ _ h
theorem HalvesAt.turn {w : World} {b x y : Nat} (h : HalvesAt w b x y) (x' y' : Nat) : HalvesAt ((w.setCell ⟨b, 0, none⟩ (.int .i64 (x' : Int))).setCell ⟨b, 1, none⟩ (.int .i64 (y' : Int))).drew b x' y' := by
  have h1 := heap_setCell_same _ _ 0 _ _ (.int .i64 (x' : Int)) h
  exact heap_setCell_same _ _ 1 _ _ (.int .i64 (y' : Int)) h1
theorem halves_new (w : World) (o : Obj) (x y : Nat) : Aside <| HalvesAt ((w.alloc o).alloc (.cells #[.int .i64 (x : Int), .int .i64 (y : Int)] 144)) (w.heap.size + 1) x y := by
  unfold Aside HalvesAt
  have h := heap_alloc_new (w.alloc o) (.cells #[.int .i64 (x : Int), .int .i64 (y : Int)] 144)
  rw [show (w.alloc o).heap.size = w.heap.size + 1 by simp] at h
  exact h
set_option maxHeartbeats 1000000 in
theorem goOn_is (a h : Nat) (s : ByteArray) (w : World) (hs : s.size ≤ maxLen) (ha : a < 65521) (hh : h < 65521) {r : Nat} (hr : aNum (aFold (a, h) s.data.toList) = r) :
    Calls Tryz.prog 113 #[.agg #[.int .i64 (a : Int), .int .i64 (h : Int)], .string s] w fun e w' => e = .returned (.int .i64 (r : Int)) ∧ Below w.heap.size w w' := by
  unfold maxLen at hs
  have Hr := Lib.hid hr
  clear hr
  go_enter Tryz.func113, Tryz.ntmps113
  go_wp2_with fail
  go_loopg [6, 11] s.size (fun g _ s11 wx => ∃ (k x y : Nat), k + g = s.size ∧ s11 = .int .i64 k ∧ x < 65521 ∧ y < 65521 ∧ Aside (aFold (a, h) (s.data.toList.take k) = (x, y)) ∧ Aside (HalvesAt wx (w.heap.size + 1) x y) ∧ Below w.heap.size w wx)
  case atStart => exact ⟨0, a, h, by omega, rfl, ha, hh, rfl, halves_new _ _ _ _, ((Below.refl _ w).alloc (Nat.le_refl _) _).alloc (by simp) _⟩
  case round =>
    obtain ⟨k, x, y, hkg, rfl, hx, hy, HZ, HA, hb⟩ := hrel
    have Hb := Lib.hid hb
    clear hb
    cases gk with
    | zero =>
      obtain rfl : k = s.size := by omega
      have Hr2 : Hid (y * 65536 + x = r) := Lib.hid (by
        have h1 := HZ.out
        rw [List.take_of_length_le (by rw [← size_data]; exact Nat.le_refl _)] at h1
        rw [← Hr.out, h1]; rfl)
      have c0 := HA.out.low
      have c1 := HA.out.high
      go_wp2_with fail
      refine (sum_any x y _ (by omega) (by omega)).mono ?_
      rintro e w1 ⟨rfl, hb⟩
      have Hb2 := Lib.hid (Hb.out.trans (hb.mono Hb.out.size))
      clear hb
      go_wp2_with fail
      go_ret
      exact ⟨ret_int (by have := Hr2.out; omega), Hb2.out⟩
    | succ g =>
      have hk : k < s.size := by omega
      have hkz : (k : Int) < (s.size : Int) := by omega
      have hc : s[k].toNat < 256 := s[k].toNat_lt
      obtain ⟨x', hx'⟩ : ∃ x', (x + s[k].toNat) % 65521 = x' := ⟨_, rfl⟩
      obtain ⟨y', hy'⟩ : ∃ y', (y + x') % 65521 = y' := ⟨_, rfl⟩
      have Hst : Hid (aFold (a, h) (s.data.toList.take (k + 1)) = (x', y')) := Lib.hid (by rw [aFold_take _ s k hk, HZ.out]; simp only; rw [hx', hy'])
      have Hx := Lib.hid hx'
      have Hy := Lib.hid hy'
      have Hkg := Lib.hid hkg
      have hx2 : x' < 65521 := by omega
      have hy2 : y' < 65521 := by omega
      have hge : w.heap.size ≤ w.heap.size + 1 := by omega
      clear hx' hy' hkg
      go_wp2_with fail
      refine (agrow_is (w.heap.size + 1) x y s[k].toNat x' y' _ hx hy hc HA.out.low HA.out.high (HA.out.free _) (HA.out.free _) Hx.out Hy.out).mono ?_
      rintro e w1 ⟨rfl, rfl⟩
      have Ht := Lib.hid (HA.out.turn x' y')
      have Hbt := Lib.hid (below_set (below_set Hb.out (B := w.heap.size + 1) hge 0 (.int .i64 (x' : Int))) (B := w.heap.size + 1) hge 1 (.int .i64 (y' : Int))).drew
      go_wp2_with fail
      go_roundg g
      case measure => omega
      case rel => exact ⟨k + 1, x', y', by have := Hkg.out; omega, by go_num, hx2, hy2, Hst.out, Ht.out, Hbt.out⟩
theorem adSum_is (s : ByteArray) (w : World) (hs : s.size ≤ maxLen) {r : Nat} (h : aSum s.data.toList = r) :
    Calls Tryz.prog 96 #[.string s] w fun e w' => e = .returned (.int .i64 (r : Int)) ∧ Below w.heap.size w w' := by
  have H := Lib.hid (fun W => goOn_is 1 0 s W hs (by omega) (by omega) h)
  clear h
  go_enter Tryz.func96, Tryz.ntmps96
  go_wp2_with fail
  refine (H.out _).mono ?_
  rintro e w1 ⟨rfl, hb⟩
  have Hb := Lib.hid hb
  clear hb
  go_wp2_with fail
  go_ret
  exact ⟨rfl, Hb.out⟩
end
end Go.Proofs.YtiiiokikmjgliaaGreatDoor
