/-
  The contract of package adler's part.
-/
import Derived.Test.YtpanhjhdohdbkaaAHalves
import Derived.Deep.RegionWith
import Derived.Deep.RegionHeld3
namespace Go.Proofs.Ytpanhjhdohdbkaa
open Go.RowKit

theorem bcell {W w1 : World} (hb : Below W.heap.size W w1) : (∀ b o, b < W.heap.size → w1.cell? ⟨b, o, none⟩ = W.cell? ⟨b, o, none⟩) ∧ (∀ b o, b < W.heap.size → w1.frozen? ⟨b, o, none⟩ = W.frozen? ⟨b, o, none⟩) :=
  ⟨fun b o h => hb.cell (p := ⟨b, o, none⟩) h, fun b o h => hb.frozen (p := ⟨b, o, none⟩) h⟩

theorem part_below {w w1 : World} {a b : Value} {x y : Obj} (hb : Below (((w.alloc x).alloc y).drew.heap.size) ((w.alloc x).alloc y).drew w1) :
    Below w.heap.size w ((w1.setCell ⟨w.heap.size, 0, none⟩ a).setCell ⟨w.heap.size, 1, none⟩ b) :=
  ((((((Below.refl _ w).alloc (Nat.le_refl _) _).alloc (by simp) _).drew).trans (hb.mono (by simp; omega))).setCell (by simp) _).setCell (by simp) _

theorem part_cells {w w1 : World} {a b c d x y : Value} {T : TypeId} (hb : Below (((w.alloc (.cells #[c, d] T)).alloc (.cells #[x, y] T)).drew.heap.size) ((w.alloc (.cells #[c, d] T)).alloc (.cells #[x, y] T)).drew w1) :
    (w1.setCell ⟨w.heap.size, 0, none⟩ a).cell? ⟨w.heap.size, 0, none⟩ = some a ∧ ((w1.setCell ⟨w.heap.size, 0, none⟩ a).setCell ⟨w.heap.size, 1, none⟩ b).cell? ⟨w.heap.size, 1, none⟩ = some b := by
  have h0 : w1.cell? ⟨w.heap.size, 0, none⟩ = some c := by
    rw [(bcell hb).1 _ _ (by simp; omega)]; simp [go_sem]
  have h1 : w1.cell? ⟨w.heap.size, 1, none⟩ = some d := by
    rw [(bcell hb).1 _ _ (by simp; omega)]; simp [go_sem]
  refine ⟨World.cell?_setCell_same _ _ _ h0, World.cell?_setCell_same _ _ _ (u := d) ?_⟩
  rw [World.cell?_setCell_other _ _ _ _ (by simp)]; exact h1

theorem part_zero {w w1 : World} {c d x y : Value} {T : TypeId} (hb : Below (((w.alloc (.cells #[c, d] T)).alloc (.cells #[x, y] T)).drew.heap.size) ((w.alloc (.cells #[c, d] T)).alloc (.cells #[x, y] T)).drew w1) :
    w1.cell? ⟨w.heap.size, 0, none⟩ = some c ∧ w1.cell? ⟨w.heap.size, 1, none⟩ = some d := by
  refine ⟨?_, ?_⟩
  · rw [(bcell hb).1 _ _ (by simp; omega)]; simp [go_sem]
  · rw [(bcell hb).1 _ _ (by simp; omega)]; simp [go_sem]
theorem part_keep {w w1 : World} {c d x y : Value} {T : TypeId} (hb : Below (((w.alloc (.cells #[c, d] T)).alloc (.cells #[x, y] T)).drew.heap.size) ((w.alloc (.cells #[c, d] T)).alloc (.cells #[x, y] T)).drew w1) :
    w1.cell? ⟨w.heap.size + 1, 0, none⟩ = some x ∧ w1.cell? ⟨w.heap.size + 1, 1, none⟩ = some y ∧ w1.frozen? ⟨w.heap.size, 0, none⟩ = false ∧ w1.frozen? ⟨w.heap.size, 1, none⟩ = false := by
  refine ⟨?_, ?_, ?_, ?_⟩
  · rw [(bcell hb).1 _ _ (by simp)]; simp [go_sem]
  · rw [(bcell hb).1 _ _ (by simp)]; simp [go_sem]
  · rw [(bcell hb).2 _ _ (by simp; omega)]; simp [go_sem]
  · rw [(bcell hb).2 _ _ (by simp; omega)]; simp [go_sem]

set_option maxHeartbeats 2000000 in
/-- A number parted into halves: which they are, and whether it is a sum. -/
theorem part_any (n q r q' r' : Int) (w : World) (h0 : -9223372036854775808 ≤ n) (h1 : n ≤ 9223372036854775807) (hq : n / 65536 = q) (hr : n % 65536 = r) (hq' : q % 65521 = q') (hr' : r % 65521 = r') (hc : (r = r' ∧ q = q') ∨ (¬ r = r' ∧ (r == r') = false) ∨ (r = r' ∧ ¬ q = q' ∧ (q == q') = false)) {b : Bool} (hb : decide (r = r' ∧ q = q') = b) :
    Calls Try.prog 15 #[.int .i64 n] w fun e w' => e = .returned (.tuple #[.agg #[.int .i64 r, .int .i64 q], .bool b]) ∧ Below w.heap.size w w' := by
  have hand := i64_and16 n
  rw [hr] at hand
  have Hw := fun W => within_any r q W hr' hq'
  have HW := Lib.hid Hw
  clear Hw
  have q0 : -9223372036854775808 ≤ q := by omega
  have q1 : q ≤ 9223372036854775807 := by omega
  clear hr hq' hr'
  rcases hc with ⟨rfl, rfl⟩ | ⟨c1, c2⟩ | ⟨rfl, c1, c2⟩
  · obtain rfl : b = true := by rw [← hb]; simp
    clear hb
    go_enter Try.func15, Try.ntmps15
    go_wp2_with fail
    go_region_held3 (fun w' => w'.cell? ⟨w.heap.size + 1, 0, none⟩ = some (.int .i64 r) ∧ w'.cell? ⟨w.heap.size + 1, 1, none⟩ = some (.int .i64 q) ∧ w'.frozen? ⟨w.heap.size, 0, none⟩ = false ∧ w'.frozen? ⟨w.heap.size, 1, none⟩ = false)
      (first | go_keep | (simp [go_sem]; done) | exact part_keep Hb.out)
      (first | (go_simp; go_at_call 17; refine (HW.out _).mono ?_; rintro e w1 ⟨rfl, hb⟩; have Hb := Lib.hid hb; clear hb; obtain ⟨kz0, kz1⟩ := part_zero Hb.out))
    all_goals
      go_wp2_with fail
      obtain ⟨k0, k1⟩ := part_cells (a := .int .i64 r) (b := .int .i64 q) Hb.out
      exact bodyPost_ret (v := .tuple #[.agg #[.int .i64 r, .int .i64 q], .bool true]) (by simp [results, Try.results15, go_sem, k0, k1]) rfl ⟨rfl, part_below Hb.out⟩
  · obtain rfl : b = false := by rw [← hb]; simp [c1]
    clear hb
    go_enter Try.func15, Try.ntmps15
    go_wp2_with fail
    go_region_held3 (fun w' => w'.cell? ⟨w.heap.size + 1, 0, none⟩ = some (.int .i64 r) ∧ w'.cell? ⟨w.heap.size + 1, 1, none⟩ = some (.int .i64 q) ∧ w'.frozen? ⟨w.heap.size, 0, none⟩ = false ∧ w'.frozen? ⟨w.heap.size, 1, none⟩ = false)
      (first | go_keep | (simp [go_sem]; done) | exact part_keep Hb.out)
      (first | (go_simp; go_at_call 17; refine (HW.out _).mono ?_; rintro e w1 ⟨rfl, hb⟩; have Hb := Lib.hid hb; clear hb; obtain ⟨kz0, kz1⟩ := part_zero Hb.out))
    all_goals
      go_wp2_with fail
      obtain ⟨k0, k1⟩ := part_cells (a := .int .i64 r) (b := .int .i64 q) Hb.out
      exact bodyPost_ret (v := .tuple #[.agg #[.int .i64 r, .int .i64 q], .bool false]) (by simp [results, Try.results15, go_sem, k0, k1]) rfl ⟨rfl, part_below Hb.out⟩
  · obtain rfl : b = false := by rw [← hb]; simp [c1]
    clear hb
    go_enter Try.func15, Try.ntmps15
    go_wp2_with fail
    go_region_held3 (fun w' => w'.cell? ⟨w.heap.size + 1, 0, none⟩ = some (.int .i64 r) ∧ w'.cell? ⟨w.heap.size + 1, 1, none⟩ = some (.int .i64 q) ∧ w'.frozen? ⟨w.heap.size, 0, none⟩ = false ∧ w'.frozen? ⟨w.heap.size, 1, none⟩ = false)
      (first | go_keep | (simp [go_sem]; done) | exact part_keep Hb.out)
      (first | (go_simp; go_at_call 17; refine (HW.out _).mono ?_; rintro e w1 ⟨rfl, hb⟩; have Hb := Lib.hid hb; clear hb; obtain ⟨kz0, kz1⟩ := part_zero Hb.out))
    all_goals
      go_wp2_with fail
      obtain ⟨k0, k1⟩ := part_cells (a := .int .i64 r) (b := .int .i64 q) Hb.out
      exact bodyPost_ret (v := .tuple #[.agg #[.int .i64 r, .int .i64 q], .bool false]) (by simp [results, Try.results15, go_sem, k0, k1]) rfl ⟨rfl, part_below Hb.out⟩

end Go.Proofs.Ytpanhjhdohdbkaa
