/-
  token.pairing: the function that puts digits together.
-/
import Derived.Test.YtnjmapgmodoodaaHPlain
import Derived.Test.YtnjmapgmodoodaaRows
import Derived.Test.YtnjmapgmodoodaaBuilder
import Derived.WalkKit
import Derived.WalkSpells
import Derived.WalkLawsBesides
import Derived.Lib.Hide
namespace Go.Proofs.Ytnjmapgmodoodaa
open Go.RowKit
set_option maxRecDepth 100000

theorem pairing_is (b : Nat) (w : World) :
    Calls Try.prog 45 #[.pointer (some ⟨b, 0, none⟩)] w fun e w' =>
      e = .returned (.func (.func 52) #[] #[.pointer (some ⟨w.heap.size + 1, 0, none⟩), .pointer (some ⟨w.heap.size, 0, none⟩)]) ∧
      (w.alloc (.cells #[.pointer (some ⟨b, 0, none⟩)] 60)).alloc (.cells #[.int .i64 (-1)] 3) = w' := by
  go_enter Try.func45, Try.ntmps45
  go_wp2_with fail
  go_ret
  exact ⟨rfl, rfl⟩

/-- A builder, the pointer to it, and the digit that waits, in blocks side by side. -/
def PairAt (B : Nat) (a : Int) (l : List UInt8) (w : World) : Prop :=
  Bld B B l w ∧ w.heap[B + 1]? = some (.cells #[.pointer (some ⟨B, 0, none⟩)] 60 (0, 0)) ∧ w.heap[B + 2]? = some (.cells #[.int .i64 a] 3 (0, 0))

theorem Bld.set {B : Nat} {l : List UInt8} {w : World} (h : Bld B B l w) {a : Int} (h2 : w.heap[B + 2]? = some (.cells #[.int .i64 a] 3 (0, 0))) (v : Value) : Bld B B l (w.setCell ⟨B + 2, 0, none⟩ v) := by
  have key : ∀ p, Lib.BuilderAtF 62 5 B B p (Lib.byteCells l) w → Lib.BuilderAtF 62 5 B B p (Lib.byteCells l) (w.setCell ⟨B + 2, 0, none⟩ v) := by
    rintro p ⟨hB, x, hb, hown, hne⟩
    refine ⟨hB, x, ?_, ?_, hne⟩
    · rw [Below.heap_setCell _ _ _ _ (by simp)]; exact hb
    · exact hown.kept (row := some (B + 2)) ⟨rfl, rfl, rfl, by simp [World.setCell], fun k _ hk => Below.heap_setCell _ _ _ _ (fun e => hk (by simp [e]))⟩ (Or.inr (Lib.ownBlock_neF hown h2 (by decide)))
  exact h.imp (key _) (key _)

theorem PairAt.set {B : Nat} {a : Int} {l : List UInt8} {w : World} (h : PairAt B a l w) (d : Int) : PairAt B d l (w.setCell ⟨B + 2, 0, none⟩ (.int .i64 d)) := by
  obtain ⟨h0, h1, h2⟩ := h
  refine ⟨h0.set h2 _, ?_, ?_⟩
  · rw [Below.heap_setCell _ _ _ _ (by simp)]; exact h1
  · simp [World.setCell, Array.getElem?_modify, h2]

set_option maxHeartbeats 1000000 in
/-- A digit where none waits: it waits. -/
theorem put_wait (B : Nat) (d : Nat) (l : List UInt8) (w : World) (h : PairAt B (-1) l w) :
    Calls Try.prog 52 #[.int .i64 (d : Int), .pointer (some ⟨B + 2, 0, none⟩), .pointer (some ⟨B + 1, 0, none⟩)] w fun e w' => e = .returned (.tuple #[]) ∧ PairAt B (d : Int) l w' ∧ Below B w w' := by
  have H := Lib.hid h
  obtain ⟨-, -, h2⟩ := h
  have c2 : w.cell? ⟨B + 2, 0, none⟩ = some (.int .i64 (-1)) := by rw [Lib.cell_of_heap h2]; rfl
  have f2 : w.frozen? ⟨B + 2, 0, none⟩ = false := Lib.frozen_of_heap h2 0
  clear h2
  go_enter Try.func52, Try.ntmps52
  go_wp2_with fail
  refine bodyPost_ret (v := .tuple #[]) (by simp [results, go_sem]) rfl ⟨rfl, H.out.set _, (Below.refl B w).setCell (p := ⟨B + 2, 0, none⟩) (by simp) _⟩

theorem or_byteH {a d : Nat} (ha : a < 16) (hd : d < 16) : bits BinOp.or IntKind.i64 ((a : Int) * 16) (d : Int) % 256 = ((UInt8.ofNat (16 * a + d)).toNat : Int) := by
  have : ∀ a d : Fin 16, bits BinOp.or IntKind.i64 ((a.1 : Int) * 16) (d.1 : Int) % 256 = ((UInt8.ofNat (16 * a.1 + d.1)).toNat : Int) := by decide +kernel
  exact this ⟨a, ha⟩ ⟨d, hd⟩

set_option maxHeartbeats 1000000 in
/-- A digit where one waits: a byte. -/
theorem put_pair (B : Nat) (a d : Nat) (l : List UInt8) (w : World) (h : PairAt B (a : Int) l w) (ha : a < 16) (hd : d < 16) (hl : l.length ≤ 1000000000) (hB : B ≤ w.heap.size) :
    Calls Try.prog 52 #[.int .i64 (d : Int), .pointer (some ⟨B + 2, 0, none⟩), .pointer (some ⟨B + 1, 0, none⟩)] w fun e w' => e = .returned (.tuple #[]) ∧ PairAt B (-1) (l ++ [UInt8.ofNat (16 * a + d)]) w' ∧ Below B w w' := by
  have H := Lib.hid h
  obtain ⟨-, h1, h2⟩ := h
  have c1 : w.cell? ⟨B + 1, 0, none⟩ = some (.pointer (some ⟨B, 0, none⟩)) := by rw [Lib.cell_of_heap h1]; rfl
  have c2 : w.cell? ⟨B + 2, 0, none⟩ = some (.int .i64 (a : Int)) := by rw [Lib.cell_of_heap h2]; rfl
  have f2 : w.frozen? ⟨B + 2, 0, none⟩ = false := Lib.frozen_of_heap h2 0
  clear h1 h2
  have hne : ¬ (a : Int) = -1 := by omega
  go_enter Try.func52, Try.ntmps52
  go_wp2_with fail
  have hor := or_byteH ha hd
  rw [hor]
  refine (wbyte_is B B l _ w H.out.1 (by omega) hB).mono ?_
  rintro e w2 ⟨rfl, hB2, hb, hk⟩
  have HB2 := Lib.hid hB2
  have Hb2 := Lib.hid hb
  have Hk2 := Lib.hid hk
  clear hB2 hb hk
  have h1 := H.out.2.1
  have h2 := H.out.2.2
  have g1 : w2.heap[B + 1]? = some (.cells #[.pointer (some ⟨B, 0, none⟩)] 60 (0, 0)) := Hk2.out _ _ h1 (by simp) (by simp)
  have g2 : w2.heap[B + 2]? = some (.cells #[.int .i64 (a : Int)] 3 (0, 0)) := Hk2.out _ _ h2 (by simp) (by simp)
  have H2 : Hid (PairAt B (a : Int) (l ++ [UInt8.ofNat (16 * a + d)]) w2) := Lib.hid ⟨HB2.out, g1, g2⟩
  have k2 : w2.cell? ⟨B + 2, 0, none⟩ = some (.int .i64 (a : Int)) := by rw [Lib.cell_of_heap g2]; rfl
  have kf2 : w2.frozen? ⟨B + 2, 0, none⟩ = false := Lib.frozen_of_heap g2 0
  clear h1 h2 g1 g2 c1 c2 f2
  go_wp2_with fail
  go_end0
  exact ⟨rfl, H2.out.set _, Hb2.out.setCell (p := ⟨B + 2, 0, none⟩) (by simp) _⟩

theorem pairsH_short : ∀ ds : List Nat, (pairsH ds).length ≤ ds.length
  | [] => Nat.le_refl _
  | [_] => Nat.le_refl _
  | a :: b :: r => by
    show (pairsH r).length + 1 ≤ r.length + 1 + 1
    have := pairsH_short r
    omega

/-- The digits that were put, one behind the other. -/
def DigAt (B : Nat) (ds : List Nat) (w : World) : Prop :=
  (ds.length % 2 = 0 ∧ PairAt B (-1) (pairsH ds) w) ∨ ∃ (p : List Nat) (d : Nat), ds = p ++ [d] ∧ p.length % 2 = 0 ∧ d < 16 ∧ PairAt B (d : Int) (pairsH p) w

theorem put_any (B : Nat) (ds : List Nat) (d : Nat) (w : World) (h : DigAt B ds w) (hd : d < 16) (hl : ds.length ≤ 1000000000) (hB : B ≤ w.heap.size) :
    Calls Try.prog 52 #[.int .i64 (d : Int), .pointer (some ⟨B + 2, 0, none⟩), .pointer (some ⟨B + 1, 0, none⟩)] w fun e w' => e = .returned (.tuple #[]) ∧ DigAt B (ds ++ [d]) w' ∧ Below B w w' := by
  rcases h with ⟨h0, h⟩ | ⟨p, a, rfl, h0, ha, h⟩
  · refine (put_wait B d _ w h).mono ?_
    rintro e w' ⟨he, h1, h2⟩
    exact ⟨he, Or.inr ⟨ds, d, rfl, h0, hd, h1⟩, h2⟩
  · have := pairsH_short p
    refine (put_pair B a d _ w h ha hd (by simp at hl; omega) hB).mono ?_
    rintro e w' ⟨he, h1, h2⟩
    refine ⟨he, Or.inl ⟨by simp; omega, ?_⟩, h2⟩
    rw [pairsH_snoc2 p a d h0]
    exact h1

/-- Behind a 0 all that was met is told. -/
theorem DigAt.told {B : Nat} {ds : List Nat} {w : World} (h : DigAt B (ds ++ [0]) w) : Bld B B (pairsH ds) w := by
  rcases h with ⟨h0, h⟩ | ⟨p, d, e, h0, -, h⟩
  · rw [pairsH_pad ds (by simp at h0; omega)] at h
    exact h.1
  · obtain ⟨rfl, -⟩ := List.append_inj' e rfl
    exact h.1

theorem pairsH_even : ∀ (ds : List Nat), ds.length % 2 = 0 → (pairsH ds).length = ds.length / 2
  | [], _ => rfl
  | [_], h => by simp at h
  | a :: b :: r, h => by
    show (pairsH r).length + 1 = _
    rw [pairsH_even r (by simp at h; omega)]
    simp only [List.length_cons]; omega
theorem pairsH_odd : ∀ (ds : List Nat), ds.length % 2 = 1 → (pairsH ds).length = ds.length / 2 + 1
  | [], h => by simp at h
  | [_], _ => by simp [pairsH]
  | a :: b :: r, h => by
    show (pairsH r).length + 1 = _
    rw [pairsH_odd r (by simp at h; omega)]
    simp only [List.length_cons]; omega
/-- How many bytes stand there already. -/
theorem DigAt.some {B : Nat} {ds : List Nat} {w : World} (h : DigAt B ds w) : ∃ l, Bld B B l w ∧ l.length = ds.length / 2 := by
  rcases h with ⟨h0, h⟩ | ⟨p, d, rfl, h0, -, h⟩
  · exact ⟨_, h.1, pairsH_even ds h0⟩
  · exact ⟨_, h.1, by rw [pairsH_even p h0, List.length_append, List.length_singleton]; omega⟩
end Go.Proofs.Ytnjmapgmodoodaa
