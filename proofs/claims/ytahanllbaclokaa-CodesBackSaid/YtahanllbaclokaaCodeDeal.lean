/-
  The contract of codes' deal; rows of numbers that were made at their whole length.
-/
import Derived.Test.YtahanllbaclokaaCodeCount
import Derived.Test.YtahanllbaclokaaOwn64
import Derived.Test.YtahanllbaclokaaCodeRef2
import Derived.Deep.OwnRows
namespace Go.Proofs.Ytahanllbaclokaa
open Go.RowKit

/-- A row of numbers that fills a block of its own. -/
def RowAt (w : World) (g : Nat) (l : List Nat) : Prop := w.heap[g]? = some (.cells (cellsZ (asZ l)).toArray 3 (0, 0))
theorem RowAt.cell {w : World} {g : Nat} {l : List Nat} (h : RowAt w g l) {j x : Nat} (hj : l[j]? = some x) : w.cell? ⟨g, j, none⟩ = some (.int .i64 (x : Int)) := by
  obtain ⟨h1, h2⟩ := List.getElem?_eq_some_iff.1 hj
  rw [cell_of_row _ _ _ _ _ _ h, List.getElem?_toArray, cellsZ_at (by rw [asZ_length]; exact h1), asZ_get, h2]
theorem RowAt.free {w : World} {g : Nat} {l : List Nat} (h : RowAt w g l) (j : Nat) : w.frozen? ⟨g, j, none⟩ = false := frozen_of_row _ _ _ _ _ h
theorem RowAt.put {w : World} {g : Nat} {l : List Nat} (h : RowAt w g l) (j x : Nat) : RowAt (w.setCell ⟨g, j, none⟩ (.int .i64 (x : Int))) g (l.set j x) := by
  unfold RowAt
  rw [heap_setCell_same _ _ _ _ _ _ h, List.setIfInBounds_toArray]
  unfold cellsZ asZ
  rw [List.map_set, List.map_set]
theorem RowAt.lt {w : World} {g : Nat} {l : List Nat} (h : RowAt w g l) : g < w.heap.size := by
  rcases Nat.lt_or_ge g w.heap.size with h' | h'
  · exact h'
  · unfold RowAt at h; rw [Array.getElem?_eq_none h'] at h; simp at h
theorem RowAt.later {w w' : World} {g : Nat} {l : List Nat} (h : RowAt w g l) (hb : Below w.heap.size w w') : RowAt w' g l := (hb.block g h.lt).trans h
theorem RowAt.other {w : World} {g : Nat} {l : List Nat} (h : RowAt w g l) {a : Addr} (v : Value) (hne : g ≠ a.block) : RowAt (w.setCell a v) g l := (heap_setCell_other _ _ _ _ hne).trans h
theorem RowAt.nums {w : World} {g : Nat} {l : List Nat} (h : RowAt w g l) : Nums w (some ⟨g, 0, none⟩) (asZ l) :=
  .inr ⟨g, 0, rfl, fun i hi => by
    rw [asZ_length] at hi
    rw [Nat.zero_add, h.cell (List.getElem?_eq_getElem hi), asZ_getD l hi]⟩
theorem made_zeros (n : Nat) : madeCells (Value.int .i64 0).cells n = (cellsZ (asZ (List.replicate n 0))).toArray := by
  unfold madeCells cellsZ asZ
  apply Array.ext
  · simp
  · intro i h1 h2
    simp [Value.cells, Nat.mod_one]
theorem make_row (n : Nat) (W : World) (h : n ≤ 100000) :
    (Instr.makeSlice 22 (.int .i64 (n : Int)) (.int .i64 (n : Int))).run Try.prog W = .ok (.slice (some ⟨W.heap.size, 0, none⟩) n n) (W.alloc (.cells (cellsZ (asZ (List.replicate n 0))).toArray 3)) := by
  obtain ⟨i0, hi, hz0, hz1, hz2⟩ := info_parts info64
  have hr := run_make (P := Try.prog) W 22 3 i0 (.int .i64 0) Try.underlying22 hi hz0 .i64 .i64 (n : Int) (n : Int) (by omega) (by omega) (by rw [hz2]; omega) (by omega)
  rw [hz1, Int.toNat_natCast, Nat.mul_one, made_zeros] at hr
  exact hr

set_option maxHeartbeats 2000000 in
theorem deal_any (p : Option Addr) (cap : Nat) (ls : List Int) (g : Nat → Nat) (w : World) (hl : ls.length ≤ 320) (hall : ∀ l ∈ ls, 0 ≤ l ∧ l ≤ 15) (hg : ∀ l, l ≤ 15 → g l ≤ 20971520) (hp : Nums w p ls) :
    Calls Try.prog 26 #[.slice p ls.length cap, .agg (arr16 g)] w fun e w' => ∃ a, e = .returned (.slice (some ⟨a, 0, none⟩) ls.length ls.length) ∧ RowAt w' a (dealN (natsOf ls) g) ∧ w.heap.size ≤ a ∧ Below w.heap.size w w' := by
  have Hp := Lib.hid hp
  have Hall := Lib.hid hall
  have Hg := Lib.hid hg
  have Hmake := Lib.hid (make_row ls.length (w.alloc (.cells (arr16 g) 57)) (by omega))
  have hB : Below w.heap.size w ((w.alloc (.cells (arr16 g) 57)).alloc (.cells (cellsZ (asZ (List.replicate ls.length 0))).toArray 3)) := ((Below.refl _ w).alloc (Nat.le_refl _) _).alloc (by simp) _
  have HB := Lib.hid hB
  have HA0 : Hid (ArrAt ((w.alloc (.cells (arr16 g) 57)).alloc (.cells (cellsZ (asZ (List.replicate ls.length 0))).toArray 3)) w.heap.size g) := Lib.hid (heap_alloc2_old w _ _)
  have HR0 : Hid (RowAt ((w.alloc (.cells (arr16 g) 57)).alloc (.cells (cellsZ (asZ (List.replicate ls.length 0))).toArray 3)) (w.heap.size + 1) (List.replicate ls.length 0)) := Lib.hid (heap_alloc2_new w _ _)
  clear hp hB hall hg
  have hmake := Hmake.out
  go_enter Try.func26, Try.ntmps26
  go_wp2_with fail
  go_loopg [13] ls.length (fun gg s13 wx => ∃ j : Nat, j + gg = ls.length ∧ s13 = .int .i64 (j : Int) ∧ Aside (ArrAt wx w.heap.size (nextG (natsOf ls) g j) ∧ RowAt wx (w.heap.size + 1) (dealtN (natsOf ls) g j)) ∧ Below w.heap.size w wx)
  case atStart => exact ⟨0, by omega, rfl, ⟨by rw [nextG_zero]; exact HA0.out, by rw [dealtN_none, natsOf_length]; exact HR0.out⟩, HB.out⟩
  case round =>
    obtain ⟨j, hjg, rfl, HI, hb⟩ := hrel
    have Hb := Lib.hid hb
    clear hb
    cases gk with
    | zero =>
      obtain rfl : j = ls.length := by omega
      have HR : Hid (RowAt wr (w.heap.size + 1) (dealN (natsOf ls) g)) := Lib.hid (by have := HI.out.2; rwa [← natsOf_length ls, dealtN_all] at this)
      go_wp2_with fail
      go_ret
      exact ⟨w.heap.size + 1, rfl, HR.out, by omega, Hb.out⟩
    | succ gg =>
      have hj : j < ls.length := by omega
      have hjz : (j : Int) < (ls.length : Int) := by omega
      obtain ⟨b, off, rfl, hc⟩ := (Hp.out.later Hb.out).at j hj
      obtain ⟨v, hv⟩ : ∃ v, ls[j]?.getD 0 = v := ⟨_, rfl⟩
      rw [hv] at hc
      have hv0 : 0 ≤ v ∧ v ≤ 15 := by
        have h1 := hv
        rw [List.getElem?_eq_getElem hj] at h1
        simp only [Option.getD_some] at h1
        have := Hall.out _ (List.getElem_mem hj)
        rwa [h1] at this
      obtain ⟨n, rfl⟩ := Int.eq_ofNat_of_zero_le hv0.1
      have hjn : j < (natsOf ls).length := by rw [natsOf_length]; exact hj
      have hns : (natsOf ls)[j]? = some n := by
        have := natsOf_at hj
        rw [hv, Int.toNat_natCast, List.getElem?_eq_getElem hjn] at this
        rw [List.getElem?_eq_getElem hjn]
        simpa using this
      cases n with
      | zero =>
        have Hsk : Hid (nextG (natsOf ls) g (j + 1) = nextG (natsOf ls) g j ∧ dealtN (natsOf ls) g (j + 1) = dealtN (natsOf ls) g j) := Lib.hid ⟨nextG_skip hns, (dealtN_skip (by rw [hns]; rfl)).symm⟩
        clear hv hv0 hns hjn
        go_wp2_with fail
        go_roundg gg
        case measure => omega
        case rel => exact ⟨j + 1, by omega, by go_num, ⟨by rw [Hsk.out.1]; exact HI.out.1, by rw [Hsk.out.2]; exact HI.out.2⟩, Hb.out⟩
      | succ n =>
        have hpz : (0 : Int) < ((n + 1 : Nat) : Int) := by omega
        have hn16 : ((n + 1 : Nat) : Int) < 16 := by omega
        have c1 := HI.out.1.cell (i := n + 1) (by omega)
        have f1 := HI.out.1.free (n + 1)
        have hgl := Hg.out (n + 1) (by omega)
        obtain ⟨x, hx⟩ : ∃ x, nextG (natsOf ls) g j (n + 1) = x := ⟨_, rfl⟩
        have hxl : x ≤ 20972000 := by
          rw [← hx]
          unfold nextG
          rw [if_neg (by omega)]
          have := List.count_le_length (a := n + 1) (l := (natsOf ls).take j)
          rw [List.length_take] at this; omega
        have hd : dealAt (natsOf ls) g j = x := by rw [← nextG_at hns, hx]
        have c2 := HI.out.2.cell (j := j) (x := (dealtN (natsOf ls) g j)[j]?.getD 0) (by
          rw [List.getElem?_eq_getElem (by rw [dealtN_length]; exact hjn)]; rfl)
        have f2 := HI.out.2.free j
        have Hset : Hid ((dealtN (natsOf ls) g j).set j x = dealtN (natsOf ls) g (j + 1)) := Lib.hid (by rw [← hd, dealtN_set])
        have Hmore : Hid ((fun k => if k = n + 1 then x + 1 else nextG (natsOf ls) g j k) = nextG (natsOf ls) g (j + 1)) := Lib.hid (by rw [nextG_more hns, hx])
        rw [hx] at c1
        obtain ⟨y, hy⟩ : ∃ y, (dealtN (natsOf ls) g j)[j]?.getD 0 = y := ⟨_, rfl⟩
        rw [hy] at c2
        clear hv hv0 hns hjn hx hd hgl hy
        obtain ⟨m, hm⟩ : ∃ m, n + 1 = m := ⟨_, rfl⟩
        rw [hm] at hpz hn16 c1 f1 hc Hmore
        go_wp2_with fail
        go_roundg gg
        case measure => omega
        case rel =>
          refine ⟨j + 1, by omega, by go_num, ⟨?_, ?_⟩, (Hb.out.setCell (by simp) _).setCell (by simp) _⟩
          · rw [← Hmore.out]
            exact (HI.out.1.other (a := ⟨w.heap.size + 1, j, none⟩) _ (by simp)).put m (x + 1)
          · rw [← Hset.out]
            exact (HI.out.2.put j x).other _ (by simp)

end Go.Proofs.Ytahanllbaclokaa
