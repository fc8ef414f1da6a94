/-
  InfRepeat, InfConcat: texts merged.
-/
import Derived.Test.YtboiljclenikbaaDoorHCodeR
import Derived.Test.YtboiljclenikbaaDoorHPlain
import Derived.Test.YtboiljclenikbaaDoorHRows
import Derived.Test.YtboiljclenikbaaDoorShelf
import Derived.Laws.CopyOwn
import Derived.OwnWalk
import Derived.Deep.RegionLaw
import Derived.Deep.LoopGhost
import Derived.WalkSpells
import Derived.WalkLawsBesides
import Derived.Lib.AppendZerosOnto
import Derived.Lib.SliceRun
import Derived.Laws.Append
/-
  The contracts of slices.Repeat of one number, and of package inflate's alike.
-/
namespace Go.Proofs.YtboiljclenikbaaDoor
section
open Go.RowKit
set_option maxRecDepth 100000
/-- The cells that are copied. -/
def SrcIs (w : World) (a : Addr) (cs : List Value) : Prop := ∀ j v, cs[j]? = some v → w.cell? (a.add j) = some v
theorem mul_one_is (k : Nat) (w : World) (hk : k ≤ 100000) : Calls Tryd.prog 93 #[.int .u64 1, .int .u64 (k : Int)] w fun e w' => e = .returned (.tuple #[.int .u64 0, .int .u64 (k : Int)]) ∧ w' = w := by
  have h := Any.bits_Mul Tryd.lays212 1 k (by omega) (by omega) w
  rw [Nat.one_mul, Nat.div_eq_of_lt (by omega), Nat.mod_eq_of_lt (by omega)] at h
  exact h
theorem splice_cells (L : List Nat) (j : Nat) (M : List Nat) : splice (cellsZ (asZ L)) j (cellsZ (asZ M)) = cellsZ (asZ (splice L j M)) := by
  unfold splice cellsZ asZ
  simp [List.map_take, List.map_drop]
theorem splice_alike (n m k c : Nat) (h : n + m ≤ k) : splice (List.replicate n c ++ List.replicate (k - n) 0) n (List.replicate m c) = List.replicate (n + m) c ++ List.replicate (k - (n + m)) 0 := by
  unfold splice
  rw [List.take_left' (List.length_replicate), List.drop_append, List.length_replicate, List.drop_replicate, List.drop_replicate, ← List.append_assoc, List.replicate_append_replicate, List.length_replicate, show n - (n + m) = 0 by omega, List.replicate_zero, List.nil_append, show k - n - (n + m - n) = k - (n + m) by omega]
theorem cellsZ_get {l : List Nat} {j : Nat} {v : Value} (h : (cellsZ (asZ l))[j]? = some v) : ∃ x, l[j]? = some x ∧ v = .int .i64 (x : Int) := by
  unfold cellsZ asZ at h
  rw [List.map_map, List.getElem?_map] at h
  cases hl : l[j]? with
  | none => rw [hl] at h; cases h
  | some x => rw [hl] at h; exact ⟨x, rfl, (Option.some.inj h).symm⟩

set_option maxHeartbeats 2000000 in
theorem repeat_is (gx c k : Nat) (w : World) (h1 : 1 ≤ k) (h2 : k ≤ 320) (hx : w.cell? ⟨gx, 0, none⟩ = some (.int .i64 (c : Int))) :
    Calls Tryd.prog 83 #[.slice (some ⟨gx, 0, none⟩) 1 1, .int .i64 (k : Int)] w fun e w' => ∃ g, e = .returned (.slice (some ⟨g, 0, none⟩) k k) ∧ RowAt w' g (List.replicate k c) ∧ w.heap.size ≤ g ∧ Below w.heap.size w w' := by
  have HX : Hid ((w.alloc (.cells (cellsZ (asZ (List.replicate k 0))).toArray 3)).cell? ⟨gx, 0, none⟩ = some (.int .i64 (c : Int))) := Lib.hid ((World.cell?_of_block (w := w) (Below.heap_alloc _ _ _ (cell_block hx))).trans hx)
  have hk0 : ¬ (k : Int) < 0 := by omega
  have hkw : IntKind.i64.wrap (k : Int) = (k : Int) := by rw [IntKind.wrap_i64]; omega
  have hku : IntKind.u64.wrap (k : Int) = (k : Int) := IntWalk.u64_in _ (by omega)
  have hmax : ¬ (9223372036854775807 : Int) < (k : Int) := by omega
  have Hmul := Lib.hid (mul_one_is k w (by omega))
  have hmake := make_row k w (by omega)
  have HB : Hid (Below w.heap.size w (w.alloc (.cells (cellsZ (asZ (List.replicate k 0))).toArray 3))) := Lib.hid ((Below.refl _ w).alloc (Nat.le_refl _) _)
  have HR : Hid (RowAt (w.alloc (.cells (cellsZ (asZ (List.replicate k 0))).toArray 3)) w.heap.size (List.replicate k 0)) := Lib.hid (heap_alloc_new w _)
  clear hx
  go_enter Tryd.func83, Tryd.ntmps83
  go_wp2_with fail
  refine Hmul.out.mono ?_
  rintro e w1 ⟨rfl, rfl⟩
  obtain ⟨Z, hZ⟩ : ∃ Z, cellsZ (asZ (List.replicate k 0)) = Z := ⟨_, rfl⟩
  obtain ⟨C1, hC1⟩ : ∃ C1, cellsZ (asZ (List.replicate 1 c)) = C1 := ⟨_, rfl⟩
  have HZl : Hid (Z.length = k) := Lib.hid (by rw [← hZ, cellsZ_length, asZ_length, List.length_replicate])
  have hCl : C1.length = 1 := by rw [← hC1]; rfl
  have HC1 : Hid (∀ j v, C1[j]? = some v → j = 0 ∧ v = .int .i64 (c : Int)) := Lib.hid fun j v hj => by
    rw [← hC1] at hj
    obtain ⟨x, h, rfl⟩ := cellsZ_get hj
    have h0 := (List.getElem?_eq_some_iff.1 h).1
    rw [List.length_replicate] at h0
    obtain rfl : j = 0 := by omega
    exact ⟨rfl, by rw [← Option.some.inj h]⟩
  have Hone : Hid (∀ v ∈ C1, v.oneCell' = true) := Lib.hid (by rw [← hC1]; exact cellsZ_one _)
  have Hsp : Hid (splice Z 0 C1 = cellsZ (asZ (List.replicate 1 c ++ List.replicate (k - 1) 0))) := Lib.hid (by
    have h := splice_alike 0 1 k c (by omega)
    rw [List.replicate_zero, List.nil_append, Nat.sub_zero, Nat.zero_add] at h
    rw [← hZ, ← hC1, splice_cells, h])
  unfold RowAt at HR
  rw [hZ] at HR HX HB hmake
  clear hZ hC1 Hmul
  have hmin : C1.length = Nat.min 1 k := by rw [hCl]; exact (Nat.min_eq_left h1).symm
  have hfit : 0 + C1.length ≤ Z.length := by rw [hCl, HZl.out]; omega
  have hinfo : (Tryd.prog.info? 3).map (·.size) = some 1 := by kernel_rfl
  have Hsrc : Hid (SrcIs (w1.alloc (.cells Z.toArray 3)) ⟨gx, 0, none⟩ C1) := Lib.hid fun j v hj => by
    obtain ⟨rfl, rfl⟩ := HC1.out j v hj
    exact HX.out
  go_wp2_with (refine wpList_copy_splice rfl (.tmp 31) (.tmp 32) 58 58 rfl 3 Tryd.underlying58 hinfo _ _ k k 1 1 rfl rfl w1.heap.size 0 Z 3 HR.out C1 hmin (fun _ => ⟨rfl, _, rfl, Hsrc.out⟩) hfit Hone.out w1.heap.size w1 HB.out (Nat.le_refl _) ?_; intro w2 H2 hb2; have Hb2 := Lib.hid hb2; clear hb2)
  rw [Hsp.out] at H2
  have HR2 : Hid (RowAt w2 w1.heap.size (List.replicate 1 c ++ List.replicate (k - 1) 0)) := Lib.hid H2.out
  clear H2 hmake HB HX HR HZl hCl HC1 Hone Hsp hmin hfit Hsrc
  go_loopg [8] (k - 1) (fun g s8 wx => ∃ n : Nat, n + g = k ∧ 1 ≤ n ∧ s8 = .int .i64 (n : Int) ∧ Aside (RowAt wx w1.heap.size (List.replicate n c ++ List.replicate (k - n) 0)) ∧ Below w1.heap.size w1 wx)
  case atStart => exact ⟨1, by omega, by omega, rfl, HR2.out, Hb2.out⟩
  case round =>
    obtain ⟨n, hng, hn1, rfl, HA, hb⟩ := hrel
    have Hb := Lib.hid hb
    clear hb HR2 Hb2
    cases gk with
    | zero =>
      obtain rfl : n = k := by omega
      have hnn : ¬ (n : Int) < (n : Int) := by omega
      have HF : Hid (RowAt wr w1.heap.size (List.replicate n c)) := Lib.hid (by
        have := HA.out
        rwa [Nat.sub_self, List.replicate_zero, List.append_nil] at this)
      go_wp2_with fail
      go_ret
      exact ⟨w1.heap.size, rfl, HF.out, Nat.le_refl _, Hb.out⟩
    | succ g =>
      have hnk : (n : Int) < (k : Int) := by omega
      have hnk2 : (n : Int) ≤ (k : Int) := by omega
      have hkn : ¬ k = n := by omega
      obtain ⟨m, hm⟩ : ∃ m, Nat.min n (k - n) = m := ⟨_, rfl⟩
      have hm1 : 1 ≤ m ∧ n + m ≤ k ∧ m ≤ n := by
        have : m = min n (k - n) := hm.symm
        omega
      obtain ⟨Z, hZ⟩ : ∃ Z, cellsZ (asZ (List.replicate n c ++ List.replicate (k - n) 0)) = Z := ⟨_, rfl⟩
      obtain ⟨C1, hC1⟩ : ∃ C1, cellsZ (asZ (List.replicate m c)) = C1 := ⟨_, rfl⟩
      have hZl : Z.length = k := by rw [← hZ, cellsZ_length, asZ_length, List.length_append, List.length_replicate, List.length_replicate]; omega
      have hCl : C1.length = m := by rw [← hC1, cellsZ_length, asZ_length, List.length_replicate]
      have HR : Hid (wr.drew.heap[w1.heap.size]? = some (.cells Z.toArray 3 (0, 0))) := Lib.hid (by rw [← hZ]; exact HA.out)
      have Hsrc : Hid (SrcIs wr.drew ⟨w1.heap.size, 0, none⟩ C1) := Lib.hid fun j v hj => by
        rw [← hC1] at hj
        obtain ⟨x, h, rfl⟩ := cellsZ_get hj
        have h0 := (List.getElem?_eq_some_iff.1 h).1
        rw [List.length_replicate] at h0
        have hx := (List.getElem?_eq_some_iff.1 h).2
        rw [List.getElem_replicate] at hx
        subst hx
        have e : (⟨w1.heap.size, 0, none⟩ : Addr).add j = ⟨w1.heap.size, j, none⟩ := by rw [Addr.add_lit, Nat.zero_add]
        rw [e]
        refine RowAt.cell (w := wr.drew) (l := List.replicate n c ++ List.replicate (k - n) 0) HA.out ?_
        rw [List.getElem?_append_left (by rw [List.length_replicate]; omega), List.getElem?_replicate, if_pos (by omega)]
      have Hone : Hid (∀ v ∈ C1, v.oneCell' = true) := Lib.hid (by rw [← hC1]; exact cellsZ_one _)
      have Hsp : Hid (splice Z n C1 = cellsZ (asZ (List.replicate (n + m) c ++ List.replicate (k - (n + m)) 0))) := Lib.hid (by rw [← hZ, ← hC1, splice_cells, splice_alike n m k c hm1.2.1])
      have hmin : C1.length = Nat.min n (k - n) := by rw [hCl, hm]
      have hfit : n + C1.length ≤ Z.length := by rw [hCl, hZl]; omega
      have hinfo : (Tryd.prog.info? 3).map (·.size) = some 1 := by kernel_rfl
      have Hsz : Hid (w1.heap.size ≤ w1.heap.size) := Lib.hid (Nat.le_refl _)
      have HCl := Lib.hid hCl
      obtain ⟨d, hdk⟩ : ∃ d, k - n = d := ⟨_, rfl⟩
      rw [hdk] at hmin
      have hdz : k - n = d := hdk
      clear hZ hC1 hm hZl hCl HA
      obtain ⟨W5, hW5⟩ : ∃ W5, wr.drew.setRow w1.heap.size (Z.toArray.toList.take n ++ C1 ++ Z.toArray.toList.drop (n + C1.length)).toArray = W5 := ⟨_, rfl⟩
      have hcopy : (Builtin.copy_ #[58, 58] 3 #[.slice (some ⟨w1.heap.size, n, none⟩) d d, .slice (some ⟨w1.heap.size, 0, none⟩) n k]).run Tryd.prog wr.drew = .ok (.int .i64 (m : Int)) W5 := by
        have h := run_copy_row (P := Tryd.prog) wr.drew 58 58 3 3 w1.heap.size n d d ⟨w1.heap.size, 0, none⟩ n k Z.toArray 3 C1 Tryd.underlying58 hinfo HR.out hmin Hsrc.out (by simpa using hfit) Hone.out
        rw [hW5, HCl.out] at h
        exact h
      have H5 : Hid (RowAt W5 w1.heap.size (List.replicate (n + m) c ++ List.replicate (k - (n + m)) 0)) := Lib.hid (by
        unfold RowAt
        rw [← hW5, ← Hsp.out]
        rw [setRow_heap _ _ _ _ _ _ HR.out]
        unfold splice
        simp)
      have Hb5 : Hid (Below w1.heap.size w1 W5) := Lib.hid (by rw [← hW5]; exact below_setRow Hb.out.drew Hsz.out _)
      clear hW5 hmin hfit hinfo Hsrc HR Hone Hsp HCl hdk
      go_wp2_with fail
      go_region
      all_goals
        go_wp2_with fail
        go_roundg (k - (n + m))
        case measure => omega
        case rel => exact ⟨n + m, by omega, by omega, by go_num, H5.out, Hb5.out⟩

set_option maxHeartbeats 1000000 in
theorem alike_is (c k : Nat) (w : World) (h1 : 1 ≤ k) (h2 : k ≤ 320) :
    Calls Tryd.prog 71 #[.int .i64 (c : Int), .int .i64 (k : Int)] w fun e w' => ∃ g, e = .returned (.slice (some ⟨g, 0, none⟩) k k) ∧ RowAt w' g (List.replicate k c) ∧ w.heap.size ≤ g ∧ Below w.heap.size w w' := by
  have HR := Lib.hid (repeat_is w.heap.size c k (w.alloc (.cells #[.int .i64 (c : Int)] 3)) h1 h2 (by rw [World.cell?_alloc_new]; rfl))
  go_enter Tryd.func71, Tryd.ntmps71
  go_wp2_with fail
  refine HR.out.mono ?_
  rintro e w1 ⟨g, rfl, hr, hg, hb⟩
  have H1 := Lib.hid hr
  have Hg : Hid (w.heap.size ≤ g) := Lib.hid (by simp at hg; omega)
  have Hb : Hid (Below w.heap.size w w1) := Lib.hid (((Below.refl _ w).alloc (Nat.le_refl _) _).trans (hb.mono (by simp)))
  clear hr hg hb
  go_wp2_with fail
  go_ret
  exact ⟨g, rfl, H1.out, Hg.out, Hb.out⟩

end
end Go.Proofs.YtboiljclenikbaaDoor
/-
  The contracts of slices.Grow of nothing, and of slices.Concat.
-/
namespace Go.Proofs.YtboiljclenikbaaDoor
section
open Go.RowKit
set_option maxRecDepth 100000
set_option maxHeartbeats 1000000 in
theorem grow_none (k : Nat) (w : World) (h1 : 1 ≤ k) (h2 : k ≤ 1000) :
    Calls Tryd.prog 82 #[.slice none 0 0, .int .i64 (k : Int)] w fun e w' => ∃ v, e = .returned v ∧ Own64 w' w.heap.size v [] ∧ Below w.heap.size w w' := by
  obtain ⟨i0, hi, hz0, hz1, hz2⟩ := info_parts info64
  have hr : ∀ ty, (Builtin.append_ #[58, 3] ty #[.slice none 0 0, .int .i64 (k : Int)]).run Tryd.prog w = _ := fun ty =>
    Lib.run_append_grow_zeros (P := Tryd.prog) w 58 3 ty 3 i0 (.int .i64 0) .i64 .i64 Tryd.underlying58 Tryd.underlying3 hi hz0 none 0 0 [] (run_firstCells_none w.drew i0.size 0 0 0) k (by omega) (by omega) (by omega) (by omega) (by rw [hz2]; omega) (by rw [Nat.zero_add, nextslicecap_zero (by omega), hz2]; omega)
  have hge := grownCap_ge w (0 + k) 0 3
  have hle := grownCap_le_maxLen w (0 + k) 0 3 (by unfold maxLen; omega)
  have hz1c : (Value.int IntKind.i64 0).cells.size = 1 := rfl
  obtain ⟨G, hG⟩ : ∃ G, grownCap w (0 + k) 0 3 = G := ⟨_, rfl⟩
  rw [hG] at hge hle
  simp only [hG] at hr
  obtain ⟨cur, hcur⟩ : ∃ cur, (([] : List Value).toArray ++ Builtin.zeroCells (Value.int IntKind.i64 0).cells k ++ Builtin.zeroCells (Value.int IntKind.i64 0).cells (G - (0 + k))) = cur := ⟨_, rfl⟩
  have hsz : cur.size = G := by
    rw [← hcur, Array.size_append, Array.size_append, size_zeroCells, size_zeroCells, hz1c]
    simp
    omega
  simp only [hcur] at hr
  have HO : Hid (Own64 (w.drew.alloc (.cells cur 3)) w.heap.size (.slice (some ⟨w.heap.size, 0, none⟩) 0 G) []) := Lib.hid (Own64.made w.drew G cur (Nat.le_refl _) hle hsz)
  have HB : Hid (Below w.heap.size w (w.drew.alloc (.cells cur 3))) := Lib.hid ((Below.refl _ w).drew.alloc (Nat.le_refl _) _)
  have hG63 : G ≤ 9223372036854775807 := by unfold maxLen at hle; omega
  obtain ⟨W1, hW1⟩ : ∃ W1, w.drew.alloc (.cells cur 3) = W1 := ⟨_, rfl⟩
  rw [hW1] at HO HB
  simp only [hW1] at hr
  clear hcur hsz hG hle hi hz0 hz1 hz2 hW1
  go_enter Tryd.func82, Tryd.ntmps82
  go_wp2_with (at_builtin; refine Lib.wpList_append_run _ rfl _ _ _ _ rfl _ _ rfl rfl _ _ (hr _) ?_)
  all_goals (go_ret; exact ⟨_, rfl, HO.out, HB.out⟩)

/-- Rows, one behind the other. -/
def flatR (rows : List (Nat × List Nat)) : List Nat := rows.flatMap (·.2)
theorem flatR_more {rows : List (Nat × List Nat)} {j g : Nat} {l : List Nat} (h : rows[j]? = some (g, l)) : flatR (rows.take (j + 1)) = flatR (rows.take j) ++ l := by
  unfold flatR
  rw [List.take_add_one, h, List.flatMap_append]
  simp
theorem flatR_le {rows : List (Nat × List Nat)} (j : Nat) : (flatR (rows.take j)).length ≤ (flatR rows).length := by
  conv => rhs; rw [← List.take_append_drop j rows]
  unfold flatR
  rw [List.flatMap_append, List.length_append]
  omega
/-- Rows that lie in memory, and a slice of them. -/
def RowsAt (w : World) (gs : Nat) (rows : List (Nat × List Nat)) : Prop := ∀ j g l, rows[j]? = some (g, l) → w.cell? ⟨gs, j, none⟩ = some (.slice (some ⟨g, 0, none⟩) l.length l.length) ∧ RowAt w g l
theorem RowsAt.later {w w' : World} {gs : Nat} {rows : List (Nat × List Nat)} (h : RowsAt w gs rows) (hb : Below w.heap.size w w') : RowsAt w' gs rows := fun j g l hj => ⟨cell_later (h j g l hj).1 hb, (h j g l hj).2.later hb⟩

set_option maxHeartbeats 2000000 in
theorem concat_is (gs n : Nat) (rows : List (Nat × List Nat)) (w : World) (hn : n = rows.length) (hn2 : n ≤ 100) (hr : RowsAt w gs rows) (h1 : 1 ≤ (flatR rows).length) (h2 : (flatR rows).length ≤ 1000) :
    Calls Tryd.prog 50 #[.slice (some ⟨gs, 0, none⟩) n n] w fun e w' => ∃ v, e = .returned v ∧ Own64 w' w.heap.size v (asZ (flatR rows)) ∧ Below w.heap.size w w' := by
  have HR := Lib.hid hr
  have hn0 : (0 : Int) ≤ (n : Int) := by omega
  have Hn := Lib.hid hn
  clear hr hn
  go_enter Tryd.func50, Tryd.ntmps50
  go_wp2_with fail
  go_loopg [3, 11] n (fun g s3 s11 wx => ∃ j : Nat, j + g = n ∧ s11 = .int .i64 (j : Int) ∧ s3 = .int .i64 ((flatR (rows.take j)).length : Int) ∧ w = wx)
  case atStart => exact ⟨0, by omega, rfl, rfl, rfl⟩
  case round =>
    obtain ⟨j, hjg, rfl, rfl, rfl⟩ := hrel
    have hle := flatR_le (rows := rows) j
    cases gk with
    | succ gg =>
      have hjn : (j : Int) < (n : Int) := by omega
      obtain ⟨x, hx⟩ : ∃ x, rows[j]? = some x := ⟨_, List.getElem?_eq_getElem (by have := Hn.out; omega)⟩
      obtain ⟨g, l⟩ := x
      have c0 := (HR.out j g l hx).1
      have hm := flatR_more hx
      have hle2 := flatR_le (rows := rows) (j + 1)
      have hlen := congrArg List.length hm
      rw [List.length_append] at hlen
      obtain ⟨a, ha⟩ : ∃ a, (flatR (rows.take j)).length = a := ⟨_, rfl⟩
      obtain ⟨b, hb⟩ : ∃ b, (flatR (rows.take (j + 1))).length = b := ⟨_, rfl⟩
      obtain ⟨y, hy⟩ : ∃ y, l.length = y := ⟨_, rfl⟩
      rw [ha] at hle
      rw [hb] at hle2
      rw [ha, hb, hy] at hlen
      rw [hy] at c0
      rw [ha]
      have Hb := Lib.hid hb
      have hneg : ¬ (a : Int) + (y : Int) < 0 := by omega
      have ha1 : a ≤ 1000 := by omega
      have hy1 : y ≤ 1000 := by omega
      have Hlz : Hid ((b : Int) = (a : Int) + (y : Int)) := Lib.hid (by omega)
      clear hm ha hb hy hx hlen hle hle2 h1 h2
      go_wp2_with fail
      go_roundg gg
      case measure => omega
      case rel => exact ⟨j + 1, by omega, by go_num, by rw [Hb.out, Hlz.out], rfl⟩
    | zero =>
      obtain rfl : j = n := by omega
      have htk : rows.take j = rows := List.take_of_length_le (by have := Hn.out; omega)
      rw [htk]
      have Hg := Lib.hid (grow_none (flatR rows).length w h1 h2)
      have hge : ¬ (j : Int) < (j : Int) := by omega
      clear htk hle
      go_wp2_with fail
      refine Hg.out.mono ?_
      rintro e w1 ⟨v, rfl, ho, hb⟩
      have HO := Lib.hid ho
      have HB := Lib.hid hb
      have HR1 := Lib.hid (HR.out.later hb)
      clear ho hb Hg
      go_wp2_with fail
      go_loopg [6, 27] j (fun g s6 s27 wx => ∃ i : Nat, i + g = j ∧ s27 = .int .i64 (i : Int) ∧ Aside (Own64 wx w.heap.size s6 (asZ (flatR (rows.take i))) ∧ Below w.heap.size w wx))
      case atStart => exact ⟨0, by omega, rfl, HO.out, HB.out⟩
      case round =>
        obtain ⟨i, hig, rfl, HI⟩ := hrel
        cases gk with
        | succ gg =>
          have hin : (i : Int) < (j : Int) := by omega
          obtain ⟨x, hx⟩ : ∃ x, rows[i]? = some x := ⟨_, List.getElem?_eq_getElem (by have := Hn.out; omega)⟩
          obtain ⟨g, l⟩ := x
          have hri := HR.out.later HI.out.2 i g l hx
          have c0 := hri.1
          have Hrow := Lib.hid hri.2
          have Hm := Lib.hid (flatR_more hx)
          have hle2 := flatR_le (rows := rows) (i + 1)
          rw [Hm.out, List.length_append] at hle2
          have hlz : (asZ l).length = l.length := asZ_length l
          obtain ⟨y, hy⟩ : ∃ y, l.length = y := ⟨_, rfl⟩
          have hla : (asZ (flatR (rows.take i))).length + (asZ l).length ≤ 17592186044416 := by rw [asZ_length, asZ_length]; omega
          have Hnews : Hid (∀ (t : Nat) (h : t < (asZ l).length), wr.cell? ((⟨g, 0, none⟩ : Addr).add t) = some (.int .i64 ((asZ l)[t]))) := Lib.hid fun t ht => by
            rw [Addr.add_lit, Nat.zero_add, Hrow.out.cell (List.getElem?_eq_getElem (by rwa [asZ_length] at ht))]
            simp [asZ]
          have HI2 := Lib.hid HI.out
          rw [hy] at c0 hlz
          have Hlz := Lib.hid hlz
          clear hri hle2 hy hx hlz
          go_wp2_with (at_builtin; refine wpList_append64_any rfl (.tmp 31) (.tmp 32) rfl w.heap.size _ _ rfl HI2.out.1 ⟨g, 0, none⟩ y (asZ l) (by rw [Hlz.out]; rfl) Hnews.out hla w HI2.out.2 HI2.out.2.size ?_; intro v3 w3 Ho3 Hb3 _)
          go_roundg gg
          case measure => omega
          case rel => exact ⟨i + 1, by omega, by go_num, by rw [Hm.out, asZ_append]; exact Ho3.out, Hb3.out⟩
        | zero =>
          obtain rfl : i = j := by omega
          have htk : rows.take i = rows := List.take_of_length_le (by have := Hn.out; omega)
          have HF := Lib.hid HI.out
          rw [htk] at HF
          have hge2 : ¬ (i : Int) < (i : Int) := by omega
          clear htk
          go_wp2_with fail
          go_ret
          exact ⟨_, rfl, HF.out.1, HF.out.2⟩

end
end Go.Proofs.YtboiljclenikbaaDoor
