/-
  InfRepeat, InfConcat, InfTrees, InfFixed: texts merged.
-/
import Derived.Test.YtiiiokikmjgliaaGreatDoorKCodeR
import Derived.Test.YtiiiokikmjgliaaGreatDoorKPlain
import Derived.Test.YtiiiokikmjgliaaGreatDoorKRows
import Derived.Test.YtiiiokikmjgliaaGreatDoorShelf
import Derived.Laws.CopyOwn
import Derived.OwnWalk
import Derived.Deep.RegionLaw
import Derived.Deep.LoopGhost
import Derived.WalkSpells
import Derived.WalkLawsBesides
import Derived.Lib.AppendZerosOnto
import Derived.Lib.SliceRun
import Derived.Laws.Append
import Derived.Test.YtiiiokikmjgliaaGreatDoorCodeNew
import Derived.Test.YtiiiokikmjgliaaGreatDoorInfTell2
/-
  The contracts of slices.Repeat of one number, and of package inflate's alike.
-/
namespace Go.Proofs.YtiiiokikmjgliaaGreatDoor
section
open Go.RowKit
set_option maxRecDepth 100000
def SrcIs (w : World) (a : Addr) (cs : List Value) : Prop := ∀ j v, cs[j]? = some v → w.cell? (a.add j) = some v
theorem mul_one_is (k : Nat) (w : World) (hk : k ≤ 100000) : Calls Tryz.prog 49 #[.int .u64 1, .int .u64 (k : Int)] w fun e w' => e = .returned (.tuple #[.int .u64 0, .int .u64 (k : Int)]) ∧ w' = w := by
  have h := Any.bits_Mul Tryz.lays212 1 k (by omega) (by omega) w
  rw [Nat.one_mul, Nat.div_eq_of_lt (by omega), Nat.mod_eq_of_lt (by omega)] at h
  exact h
theorem splice_cells (L : List Nat) (j : Nat) (M : List Nat) : splice (cellsZ (asZ L)) j (cellsZ (asZ M)) = cellsZ (asZ (splice L j M)) := by
  unfold splice cellsZ asZ
  simp [List.map_take, List.map_drop]
theorem splice_alike (n m k c : Nat) (h : n + m ≤ k) : splice (List.replicate n c ++ List.replicate (k - n) 0) n (List.replicate m c) = List.replicate (n + m) c ++ List.replicate (k - (n + m)) 0 := by
  unfold splice
  rw [List.take_left' (List.length_replicate), List.drop_append, List.length_replicate, List.drop_replicate, List.drop_replicate, ← List.append_assoc, List.replicate_append_replicate, List.length_replicate, show n - (n + m) = 0 by omega, List.replicate_zero, List.nil_append, show k - n - (n + m - n) = k - (n + m) by omega]
theorem cellsZ_get {l : List Nat} {j : Nat} {v : Value} (h : (cellsZ (asZ l))[j]? = some v) : ∃ x, l[j]? = some x ∧ v = .int .i64 (x : Int) := by
  unfold cellsZ asZ at h
  rw [List.map_map, List.getElem?_map] at h
  cases hl : l[j]? with
  | none => rw [hl] at h; cases h
  | some x => rw [hl] at h; exact ⟨x, rfl, (Option.some.inj h).symm⟩
set_option maxHeartbeats 2000000 in
theorem repeat_is (gx c k : Nat) (w : World) (h1 : 1 ≤ k) (h2 : k ≤ 320) (hx : w.cell? ⟨gx, 0, none⟩ = some (.int .i64 (c : Int))) :
    Calls Tryz.prog 181 #[.slice (some ⟨gx, 0, none⟩) 1 1, .int .i64 (k : Int)] w fun e w' => ∃ g, e = .returned (.slice (some ⟨g, 0, none⟩) k k) ∧ RowAt w' g (List.replicate k c) ∧ w.heap.size ≤ g ∧ Below w.heap.size w w' := by
  have HX : Hid ((w.alloc (.cells (cellsZ (asZ (List.replicate k 0))).toArray 3)).cell? ⟨gx, 0, none⟩ = some (.int .i64 (c : Int))) := Lib.hid ((World.cell?_of_block (w := w) (Below.heap_alloc _ _ _ (cell_block hx))).trans hx)
  have hk0 : ¬ (k : Int) < 0 := by omega
  have hkw : IntKind.i64.wrap (k : Int) = (k : Int) := by rw [IntKind.wrap_i64]; omega
  have hku : IntKind.u64.wrap (k : Int) = (k : Int) := IntWalk.u64_in _ (by omega)
  have hmax : ¬ (9223372036854775807 : Int) < (k : Int) := by omega
  have Hmul := Lib.hid (mul_one_is k w (by omega))
  have hmake := make_row k w (by omega)
  have HB : Hid (Below w.heap.size w (w.alloc (.cells (cellsZ (asZ (List.replicate k 0))).toArray 3))) := Lib.hid ((Below.refl _ w).alloc (Nat.le_refl _) _)
  have HR : Hid (RowAt (w.alloc (.cells (cellsZ (asZ (List.replicate k 0))).toArray 3)) w.heap.size (List.replicate k 0)) := Lib.hid (heap_alloc_new w _)
  clear hx
  go_enter Tryz.func181, Tryz.ntmps181
  go_wp2_with fail
  refine Hmul.out.mono ?_
  rintro e w1 ⟨rfl, rfl⟩
  obtain ⟨Z, hZ⟩ : ∃ Z, cellsZ (asZ (List.replicate k 0)) = Z := ⟨_, rfl⟩
  obtain ⟨C1, hC1⟩ : ∃ C1, cellsZ (asZ (List.replicate 1 c)) = C1 := ⟨_, rfl⟩
  have HZl : Hid (Z.length = k) := Lib.hid (by rw [← hZ, cellsZ_length, asZ_length, List.length_replicate])
  have hCl : C1.length = 1 := by rw [← hC1]; rfl
  have HC1 : Hid (∀ j v, C1[j]? = some v → j = 0 ∧ v = .int .i64 (c : Int)) := Lib.hid fun j v hj => by
    rw [← hC1] at hj
    obtain ⟨x, h, rfl⟩ := cellsZ_get hj
    have h0 := (List.getElem?_eq_some_iff.1 h).1
    rw [List.length_replicate] at h0
    obtain rfl : j = 0 := by omega
    exact ⟨rfl, by rw [← Option.some.inj h]⟩
  have Hone : Hid (∀ v ∈ C1, v.oneCell' = true) := Lib.hid (by rw [← hC1]; exact cellsZ_one _)
  have Hsp : Hid (splice Z 0 C1 = cellsZ (asZ (List.replicate 1 c ++ List.replicate (k - 1) 0))) := Lib.hid (by
    have h := splice_alike 0 1 k c (by omega)
    rw [List.replicate_zero, List.nil_append, Nat.sub_zero, Nat.zero_add] at h
    rw [← hZ, ← hC1, splice_cells, h])
  unfold RowAt at HR
  rw [hZ] at HR HX HB hmake
  clear hZ hC1 Hmul
  have hmin : C1.length = Nat.min 1 k := by rw [hCl]; exact (Nat.min_eq_left h1).symm
  have hfit : 0 + C1.length ≤ Z.length := by rw [hCl, HZl.out]; omega
  have hinfo : (Tryz.prog.info? 3).map (·.size) = some 1 := by kernel_rfl
  have Hsrc : Hid (SrcIs (w1.alloc (.cells Z.toArray 3)) ⟨gx, 0, none⟩ C1) := Lib.hid fun j v hj => by
    obtain ⟨rfl, rfl⟩ := HC1.out j v hj
    exact HX.out
  go_wp2_with (refine wpList_copy_splice rfl (.tmp 31) (.tmp 32) 100 100 rfl 3 Tryz.underlying100 hinfo _ _ k k 1 1 rfl rfl w1.heap.size 0 Z 3 HR.out C1 hmin (fun _ => ⟨rfl, _, rfl, Hsrc.out⟩) hfit Hone.out w1.heap.size w1 HB.out (Nat.le_refl _) ?_; intro w2 H2 hb2; have Hb2 := Lib.hid hb2; clear hb2)
  rw [Hsp.out] at H2
  have HR2 : Hid (RowAt w2 w1.heap.size (List.replicate 1 c ++ List.replicate (k - 1) 0)) := Lib.hid H2.out
  clear H2 hmake HB HX HR HZl hCl HC1 Hone Hsp hmin hfit Hsrc
  go_loopg [8] (k - 1) (fun g s8 wx => ∃ n : Nat, n + g = k ∧ 1 ≤ n ∧ s8 = .int .i64 (n : Int) ∧ Aside (RowAt wx w1.heap.size (List.replicate n c ++ List.replicate (k - n) 0)) ∧ Below w1.heap.size w1 wx)
  case atStart => exact ⟨1, by omega, by omega, rfl, HR2.out, Hb2.out⟩
  case round =>
    obtain ⟨n, hng, hn1, rfl, HA, hb⟩ := hrel
    have Hb := Lib.hid hb
    clear hb HR2 Hb2
    cases gk with
    | zero =>
      obtain rfl : n = k := by omega
      have hnn : ¬ (n : Int) < (n : Int) := by omega
      have HF : Hid (RowAt wr w1.heap.size (List.replicate n c)) := Lib.hid (by
        have := HA.out
        rwa [Nat.sub_self, List.replicate_zero, List.append_nil] at this)
      go_wp2_with fail
      go_ret
      exact ⟨w1.heap.size, rfl, HF.out, Nat.le_refl _, Hb.out⟩
    | succ g =>
      have hnk : (n : Int) < (k : Int) := by omega
      have hnk2 : (n : Int) ≤ (k : Int) := by omega
      have hkn : ¬ k = n := by omega
      obtain ⟨m, hm⟩ : ∃ m, Nat.min n (k - n) = m := ⟨_, rfl⟩
      have hm1 : 1 ≤ m ∧ n + m ≤ k ∧ m ≤ n := by
        have : m = min n (k - n) := hm.symm
        omega
      obtain ⟨Z, hZ⟩ : ∃ Z, cellsZ (asZ (List.replicate n c ++ List.replicate (k - n) 0)) = Z := ⟨_, rfl⟩
      obtain ⟨C1, hC1⟩ : ∃ C1, cellsZ (asZ (List.replicate m c)) = C1 := ⟨_, rfl⟩
      have hZl : Z.length = k := by rw [← hZ, cellsZ_length, asZ_length, List.length_append, List.length_replicate, List.length_replicate]; omega
      have hCl : C1.length = m := by rw [← hC1, cellsZ_length, asZ_length, List.length_replicate]
      have HR : Hid (wr.drew.heap[w1.heap.size]? = some (.cells Z.toArray 3 (0, 0))) := Lib.hid (by rw [← hZ]; exact HA.out)
      have Hsrc : Hid (SrcIs wr.drew ⟨w1.heap.size, 0, none⟩ C1) := Lib.hid fun j v hj => by
        rw [← hC1] at hj
        obtain ⟨x, h, rfl⟩ := cellsZ_get hj
        have h0 := (List.getElem?_eq_some_iff.1 h).1
        rw [List.length_replicate] at h0
        have hx := (List.getElem?_eq_some_iff.1 h).2
        rw [List.getElem_replicate] at hx
        subst hx
        have e : (⟨w1.heap.size, 0, none⟩ : Addr).add j = ⟨w1.heap.size, j, none⟩ := by rw [Addr.add_lit, Nat.zero_add]
        rw [e]
        refine RowAt.cell (w := wr.drew) (l := List.replicate n c ++ List.replicate (k - n) 0) HA.out ?_
        rw [List.getElem?_append_left (by rw [List.length_replicate]; omega), List.getElem?_replicate, if_pos (by omega)]
      have Hone : Hid (∀ v ∈ C1, v.oneCell' = true) := Lib.hid (by rw [← hC1]; exact cellsZ_one _)
      have Hsp : Hid (splice Z n C1 = cellsZ (asZ (List.replicate (n + m) c ++ List.replicate (k - (n + m)) 0))) := Lib.hid (by rw [← hZ, ← hC1, splice_cells, splice_alike n m k c hm1.2.1])
      have hmin : C1.length = Nat.min n (k - n) := by rw [hCl, hm]
      have hfit : n + C1.length ≤ Z.length := by rw [hCl, hZl]; omega
      have hinfo : (Tryz.prog.info? 3).map (·.size) = some 1 := by kernel_rfl
      have Hsz : Hid (w1.heap.size ≤ w1.heap.size) := Lib.hid (Nat.le_refl _)
      have HCl := Lib.hid hCl
      obtain ⟨d, hdk⟩ : ∃ d, k - n = d := ⟨_, rfl⟩
      rw [hdk] at hmin
      have hdz : k - n = d := hdk
      clear hZ hC1 hm hZl hCl HA
      obtain ⟨W5, hW5⟩ : ∃ W5, wr.drew.setRow w1.heap.size (Z.toArray.toList.take n ++ C1 ++ Z.toArray.toList.drop (n + C1.length)).toArray = W5 := ⟨_, rfl⟩
      have hcopy : (Builtin.copy_ #[100, 100] 3 #[.slice (some ⟨w1.heap.size, n, none⟩) d d, .slice (some ⟨w1.heap.size, 0, none⟩) n k]).run Tryz.prog wr.drew = .ok (.int .i64 (m : Int)) W5 := by
        have h := run_copy_row (P := Tryz.prog) wr.drew 100 100 3 3 w1.heap.size n d d ⟨w1.heap.size, 0, none⟩ n k Z.toArray 3 C1 Tryz.underlying100 hinfo HR.out hmin Hsrc.out (by simpa using hfit) Hone.out
        rw [hW5, HCl.out] at h
        exact h
      have H5 : Hid (RowAt W5 w1.heap.size (List.replicate (n + m) c ++ List.replicate (k - (n + m)) 0)) := Lib.hid (by
        unfold RowAt
        rw [← hW5, ← Hsp.out]
        rw [setRow_heap _ _ _ _ _ _ HR.out]
        unfold splice
        simp)
      have Hb5 : Hid (Below w1.heap.size w1 W5) := Lib.hid (by rw [← hW5]; exact below_setRow Hb.out.drew Hsz.out _)
      clear hW5 hmin hfit hinfo Hsrc HR Hone Hsp HCl hdk
      go_wp2_with fail
      go_region
      all_goals
        go_wp2_with fail
        go_roundg (k - (n + m))
        case measure => omega
        case rel => exact ⟨n + m, by omega, by omega, by go_num, H5.out, Hb5.out⟩
set_option maxHeartbeats 1000000 in
theorem alike_is (c k : Nat) (w : World) (h1 : 1 ≤ k) (h2 : k ≤ 320) :
    Calls Tryz.prog 169 #[.int .i64 (c : Int), .int .i64 (k : Int)] w fun e w' => ∃ g, e = .returned (.slice (some ⟨g, 0, none⟩) k k) ∧ RowAt w' g (List.replicate k c) ∧ w.heap.size ≤ g ∧ Below w.heap.size w w' := by
  have HR := Lib.hid (repeat_is w.heap.size c k (w.alloc (.cells #[.int .i64 (c : Int)] 3)) h1 h2 (by rw [World.cell?_alloc_new]; rfl))
  go_enter Tryz.func169, Tryz.ntmps169
  go_wp2_with fail
  refine HR.out.mono ?_
  rintro e w1 ⟨g, rfl, hr, hg, hb⟩
  have H1 := Lib.hid hr
  have Hg : Hid (w.heap.size ≤ g) := Lib.hid (by simp at hg; omega)
  have Hb : Hid (Below w.heap.size w w1) := Lib.hid (((Below.refl _ w).alloc (Nat.le_refl _) _).trans (hb.mono (by simp)))
  clear hr hg hb
  go_wp2_with fail
  go_ret
  exact ⟨g, rfl, H1.out, Hg.out, Hb.out⟩
end
end Go.Proofs.YtiiiokikmjgliaaGreatDoor
/-
  The contracts of slices.Grow of nothing, and of slices.Concat.
-/
namespace Go.Proofs.YtiiiokikmjgliaaGreatDoor
section
open Go.RowKit
set_option maxRecDepth 100000
set_option maxHeartbeats 1000000 in
theorem grow_none (k : Nat) (w : World) (h1 : 1 ≤ k) (h2 : k ≤ 1000) :
    Calls Tryz.prog 180 #[.slice none 0 0, .int .i64 (k : Int)] w fun e w' => ∃ v, e = .returned v ∧ Own64 w' w.heap.size v [] ∧ Below w.heap.size w w' := by
  obtain ⟨i0, hi, hz0, hz1, hz2⟩ := info_parts info64
  have hr : ∀ ty, (Builtin.append_ #[100, 3] ty #[.slice none 0 0, .int .i64 (k : Int)]).run Tryz.prog w = _ := fun ty =>
    Lib.run_append_grow_zeros (P := Tryz.prog) w 100 3 ty 3 i0 (.int .i64 0) .i64 .i64 Tryz.underlying100 Tryz.underlying3 hi hz0 none 0 0 [] (run_firstCells_none w.drew i0.size 0 0 0) k (by omega) (by omega) (by omega) (by omega) (by rw [hz2]; omega) (by rw [Nat.zero_add, nextslicecap_zero (by omega), hz2]; omega)
  have hge := grownCap_ge w (0 + k) 0 3
  have hle := grownCap_le_maxLen w (0 + k) 0 3 (by unfold maxLen; omega)
  have hz1c : (Value.int IntKind.i64 0).cells.size = 1 := rfl
  obtain ⟨G, hG⟩ : ∃ G, grownCap w (0 + k) 0 3 = G := ⟨_, rfl⟩
  rw [hG] at hge hle
  simp only [hG] at hr
  obtain ⟨cur, hcur⟩ : ∃ cur, (([] : List Value).toArray ++ Builtin.zeroCells (Value.int IntKind.i64 0).cells k ++ Builtin.zeroCells (Value.int IntKind.i64 0).cells (G - (0 + k))) = cur := ⟨_, rfl⟩
  have hsz : cur.size = G := by
    rw [← hcur, Array.size_append, Array.size_append, size_zeroCells, size_zeroCells, hz1c]
    simp
    omega
  simp only [hcur] at hr
  have HO : Hid (Own64 (w.drew.alloc (.cells cur 3)) w.heap.size (.slice (some ⟨w.heap.size, 0, none⟩) 0 G) []) := Lib.hid (Own64.made w.drew G cur (Nat.le_refl _) hle hsz)
  have HB : Hid (Below w.heap.size w (w.drew.alloc (.cells cur 3))) := Lib.hid ((Below.refl _ w).drew.alloc (Nat.le_refl _) _)
  have hG63 : G ≤ 9223372036854775807 := by unfold maxLen at hle; omega
  obtain ⟨W1, hW1⟩ : ∃ W1, w.drew.alloc (.cells cur 3) = W1 := ⟨_, rfl⟩
  rw [hW1] at HO HB
  simp only [hW1] at hr
  clear hcur hsz hG hle hi hz0 hz1 hz2 hW1
  go_enter Tryz.func180, Tryz.ntmps180
  go_wp2_with (at_builtin; refine Lib.wpList_append_run _ rfl _ _ _ _ rfl _ _ rfl rfl _ _ (hr _) ?_)
  all_goals (go_ret; exact ⟨_, rfl, HO.out, HB.out⟩)
def flatR (rows : List (Nat × List Nat)) : List Nat := rows.flatMap (·.2)
theorem flatR_more {rows : List (Nat × List Nat)} {j g : Nat} {l : List Nat} (h : rows[j]? = some (g, l)) : flatR (rows.take (j + 1)) = flatR (rows.take j) ++ l := by
  unfold flatR
  rw [List.take_add_one, h, List.flatMap_append]
  simp
theorem flatR_le {rows : List (Nat × List Nat)} (j : Nat) : (flatR (rows.take j)).length ≤ (flatR rows).length := by
  conv => rhs; rw [← List.take_append_drop j rows]
  unfold flatR
  rw [List.flatMap_append, List.length_append]
  omega
def RowsAt (w : World) (gs : Nat) (rows : List (Nat × List Nat)) : Prop := ∀ j g l, rows[j]? = some (g, l) → w.cell? ⟨gs, j, none⟩ = some (.slice (some ⟨g, 0, none⟩) l.length l.length) ∧ RowAt w g l
theorem RowsAt.later {w w' : World} {gs : Nat} {rows : List (Nat × List Nat)} (h : RowsAt w gs rows) (hb : Below w.heap.size w w') : RowsAt w' gs rows := fun j g l hj => ⟨cell_later (h j g l hj).1 hb, (h j g l hj).2.later hb⟩
set_option maxHeartbeats 2000000 in
theorem concat_is (gs n : Nat) (rows : List (Nat × List Nat)) (w : World) (hn : n = rows.length) (hn2 : n ≤ 100) (hr : RowsAt w gs rows) (h1 : 1 ≤ (flatR rows).length) (h2 : (flatR rows).length ≤ 1000) :
    Calls Tryz.prog 148 #[.slice (some ⟨gs, 0, none⟩) n n] w fun e w' => ∃ v, e = .returned v ∧ Own64 w' w.heap.size v (asZ (flatR rows)) ∧ Below w.heap.size w w' := by
  have HR := Lib.hid hr
  have hn0 : (0 : Int) ≤ (n : Int) := by omega
  have Hn := Lib.hid hn
  clear hr hn
  go_enter Tryz.func148, Tryz.ntmps148
  go_wp2_with fail
  go_loopg [3, 11] n (fun g s3 s11 wx => ∃ j : Nat, j + g = n ∧ s11 = .int .i64 (j : Int) ∧ s3 = .int .i64 ((flatR (rows.take j)).length : Int) ∧ w = wx)
  case atStart => exact ⟨0, by omega, rfl, rfl, rfl⟩
  case round =>
    obtain ⟨j, hjg, rfl, rfl, rfl⟩ := hrel
    have hle := flatR_le (rows := rows) j
    cases gk with
    | succ gg =>
      have hjn : (j : Int) < (n : Int) := by omega
      obtain ⟨x, hx⟩ : ∃ x, rows[j]? = some x := ⟨_, List.getElem?_eq_getElem (by have := Hn.out; omega)⟩
      obtain ⟨g, l⟩ := x
      have c0 := (HR.out j g l hx).1
      have hm := flatR_more hx
      have hle2 := flatR_le (rows := rows) (j + 1)
      have hlen := congrArg List.length hm
      rw [List.length_append] at hlen
      obtain ⟨a, ha⟩ : ∃ a, (flatR (rows.take j)).length = a := ⟨_, rfl⟩
      obtain ⟨b, hb⟩ : ∃ b, (flatR (rows.take (j + 1))).length = b := ⟨_, rfl⟩
      obtain ⟨y, hy⟩ : ∃ y, l.length = y := ⟨_, rfl⟩
      rw [ha] at hle
      rw [hb] at hle2
      rw [ha, hb, hy] at hlen
      rw [hy] at c0
      rw [ha]
      have Hb := Lib.hid hb
      have hneg : ¬ (a : Int) + (y : Int) < 0 := by omega
      have ha1 : a ≤ 1000 := by omega
      have hy1 : y ≤ 1000 := by omega
      have Hlz : Hid ((b : Int) = (a : Int) + (y : Int)) := Lib.hid (by omega)
      clear hm ha hb hy hx hlen hle hle2 h1 h2
      go_wp2_with fail
      go_roundg gg
      case measure => omega
      case rel => exact ⟨j + 1, by omega, by go_num, by rw [Hb.out, Hlz.out], rfl⟩
    | zero =>
      obtain rfl : j = n := by omega
      have htk : rows.take j = rows := List.take_of_length_le (by have := Hn.out; omega)
      rw [htk]
      have Hg := Lib.hid (grow_none (flatR rows).length w h1 h2)
      have hge : ¬ (j : Int) < (j : Int) := by omega
      clear htk hle
      go_wp2_with fail
      refine Hg.out.mono ?_
      rintro e w1 ⟨v, rfl, ho, hb⟩
      have HO := Lib.hid ho
      have HB := Lib.hid hb
      have HR1 := Lib.hid (HR.out.later hb)
      clear ho hb Hg
      go_wp2_with fail
      go_loopg [6, 27] j (fun g s6 s27 wx => ∃ i : Nat, i + g = j ∧ s27 = .int .i64 (i : Int) ∧ Aside (Own64 wx w.heap.size s6 (asZ (flatR (rows.take i))) ∧ Below w.heap.size w wx))
      case atStart => exact ⟨0, by omega, rfl, HO.out, HB.out⟩
      case round =>
        obtain ⟨i, hig, rfl, HI⟩ := hrel
        cases gk with
        | succ gg =>
          have hin : (i : Int) < (j : Int) := by omega
          obtain ⟨x, hx⟩ : ∃ x, rows[i]? = some x := ⟨_, List.getElem?_eq_getElem (by have := Hn.out; omega)⟩
          obtain ⟨g, l⟩ := x
          have hri := HR.out.later HI.out.2 i g l hx
          have c0 := hri.1
          have Hrow := Lib.hid hri.2
          have Hm := Lib.hid (flatR_more hx)
          have hle2 := flatR_le (rows := rows) (i + 1)
          rw [Hm.out, List.length_append] at hle2
          have hlz : (asZ l).length = l.length := asZ_length l
          obtain ⟨y, hy⟩ : ∃ y, l.length = y := ⟨_, rfl⟩
          have hla : (asZ (flatR (rows.take i))).length + (asZ l).length ≤ 17592186044416 := by rw [asZ_length, asZ_length]; omega
          have Hnews : Hid (∀ (t : Nat) (h : t < (asZ l).length), wr.cell? ((⟨g, 0, none⟩ : Addr).add t) = some (.int .i64 ((asZ l)[t]))) := Lib.hid fun t ht => by
            rw [Addr.add_lit, Nat.zero_add, Hrow.out.cell (List.getElem?_eq_getElem (by rwa [asZ_length] at ht))]
            simp [asZ]
          have HI2 := Lib.hid HI.out
          rw [hy] at c0 hlz
          have Hlz := Lib.hid hlz
          clear hri hle2 hy hx hlz
          go_wp2_with (at_builtin; refine wpList_append64_any rfl (.tmp 31) (.tmp 32) rfl w.heap.size _ _ rfl HI2.out.1 ⟨g, 0, none⟩ y (asZ l) (by rw [Hlz.out]; rfl) Hnews.out hla w HI2.out.2 HI2.out.2.size ?_; intro v3 w3 Ho3 Hb3 _)
          go_roundg gg
          case measure => omega
          case rel => exact ⟨i + 1, by omega, by go_num, by rw [Hm.out, asZ_append]; exact Ho3.out, Hb3.out⟩
        | zero =>
          obtain rfl : i = j := by omega
          have htk : rows.take i = rows := List.take_of_length_le (by have := Hn.out; omega)
          have HF := Lib.hid HI.out
          rw [htk] at HF
          have hge2 : ¬ (i : Int) < (i : Int) := by omega
          clear htk
          go_wp2_with fail
          go_ret
          exact ⟨_, rfl, HF.out.1, HF.out.2⟩
end
end Go.Proofs.YtiiiokikmjgliaaGreatDoor
/-
  The contract of package inflate's treesOf.
-/
namespace Go.Proofs.YtiiiokikmjgliaaGreatDoor
section
open Go.RowKit
set_option maxRecDepth 100000
def PairP (w : World) (b : Nat) (p q : Option Addr) : Prop := w.heap[b]? = some (.cells #[.pointer p, .pointer q] 138 (0, 0))
section
variable {w w' : World} {b : Nat} {p q : Option Addr}
theorem PairP.first (h : PairP w b p q) : w.cell? ⟨b, 0, none⟩ = some (.pointer p) := by rw [cell_of_row _ _ _ _ _ _ h]; rfl
theorem PairP.second (h : PairP w b p q) : w.cell? ⟨b, 1, none⟩ = some (.pointer q) := by rw [cell_of_row _ _ _ _ _ _ h]; rfl
theorem PairP.free (h : PairP w b p q) (j : Nat) : w.frozen? ⟨b, j, none⟩ = false := frozen_of_row _ _ _ _ _ h
theorem PairP.lt (h : PairP w b p q) : b < w.heap.size := by
  rcases Nat.lt_or_ge b w.heap.size with h' | h'
  · exact h'
  · unfold PairP at h; rw [Array.getElem?_eq_none h'] at h; cases h
theorem PairP.later (h : PairP w b p q) (hb : Below w.heap.size w w') : PairP w' b p q := (hb.block b h.lt).trans h
theorem PairP.put0 (h : PairP w b p q) (p' : Option Addr) : PairP (w.setCell ⟨b, 0, none⟩ (.pointer p')) b p' q := heap_setCell_same _ _ 0 _ _ (.pointer p') h
theorem PairP.put1 (h : PairP w b p q) (q' : Option Addr) : PairP (w.setCell ⟨b, 1, none⟩ (.pointer q')) b p q' := heap_setCell_same _ _ 1 _ _ (.pointer q') h
theorem PairP.other (h : PairP w b p q) {a : Addr} (v : Value) (hne : b ≠ a.block) : PairP (w.setCell a v) b p q := (heap_setCell_other _ _ _ _ hne).trans h
end
set_option maxHeartbeats 2000000 in
theorem treesOf_is (p1 p2 : Option Addr) (n1 n2 c1 c2 : Nat) (lit dist : List Nat) (w : World) (hn1 : n1 = lit.length) (hn2 : n2 = dist.length) (hp1 : Nums w p1 (intsOf lit)) (hp2 : Nums w p2 (intsOf dist)) (hr1 : refusedZ (intsOf lit) = 0) (hr2 : refusedZ (intsOf dist) = 0) :
    Calls Tryz.prog 170 #[.slice p1 n1 c1, .slice p2 n2 c2] w fun e w' => ∃ b c X1 X2, e = .returned (.agg #[.pointer (some ⟨b, 0, none⟩), .pointer (some ⟨c, 0, none⟩)]) ∧ TreeAt w' b (intsOf lit) X1 ∧ TreeAt w' c (intsOf dist) X2 ∧ (∀ k ∈ X1, w.heap.size ≤ k) ∧ (∀ k ∈ X2, w.heap.size ≤ k) ∧ Below w.heap.size w w' := by
  have hl : ∀ ns : List Nat, (intsOf ns).length = ns.length := fun ns => by unfold intsOf; rw [List.length_map]
  have HN1 := Lib.hid (fun W (hb : Below w.heap.size w W) => tNew_good p1 c1 n1 (intsOf lit) W (by rw [hl]; exact hn1) (hp1.later hb) hr1)
  have HN2 := Lib.hid (fun W (hb : Below w.heap.size w W) => tNew_good p2 c2 n2 (intsOf dist) W (by rw [hl]; exact hn2) (hp2.later hb) hr2)
  clear hp1 hp2 hr1 hr2 hn1 hn2 hl
  have HB0 : Hid (Below w.heap.size w ((w.alloc (.cells #[.pointer none, .pointer none] 138)).alloc (.cells #[.pointer none, .pointer none] 138))) := Lib.hid (((Below.refl _ w).alloc (Nat.le_refl _) _).alloc (by simp) _)
  go_enter Tryz.func170, Tryz.ntmps170
  go_wp2_with fail
  refine (HN1.out _ HB0.out).mono ?_
  rintro e w1 ⟨b, X1, rfl, ht, hX, hb⟩
  have HT1 := Lib.hid ht
  have HX1 : Hid (∀ k ∈ X1, w.heap.size + 2 ≤ k) := Lib.hid fun k hk => by have := hX k hk; simp at this; omega
  have HB1 := Lib.hid (HB0.out.trans (hb.mono HB0.out.size))
  have hA : PairP ((w.alloc (.cells #[.pointer none, .pointer none] 138)).alloc (.cells #[.pointer none, .pointer none] 138)) (w.heap.size + 1) none none := by
    have := heap_alloc_new (w.alloc (.cells #[.pointer none, .pointer none] 138)) (.cells #[.pointer none, .pointer none] 138)
    rw [show (w.alloc (.cells #[.pointer none, .pointer none] 138)).heap.size = w.heap.size + 1 by simp] at this
    exact this
  have hR : PairP ((w.alloc (.cells #[.pointer none, .pointer none] 138)).alloc (.cells #[.pointer none, .pointer none] 138)) w.heap.size none none :=
    (Below.heap_alloc _ _ _ (by simp)).trans (heap_alloc_new w _)
  have HA1 := Lib.hid (hA.later hb)
  have HR1 := Lib.hid (hR.later hb)
  have f0 := HA1.out.free 0
  have a0 := HA1.out.first
  clear ht hX hb hA hR
  go_wp2_with fail
  have HA2 := Lib.hid (HA1.out.put0 (some ⟨b, 0, none⟩))
  have HR2 := Lib.hid (HR1.out.other (a := ⟨w.heap.size + 1, 0, none⟩) (.pointer (some ⟨b, 0, none⟩)) (by simp))
  have HB2 : Hid (Below w.heap.size w (w1.setCell ⟨w.heap.size + 1, 0, none⟩ (.pointer (some ⟨b, 0, none⟩)))) := Lib.hid (HB1.out.setCell (by simp) _)
  have HT2 := Lib.hid (HT1.out.move (w' := w1.setCell ⟨w.heap.size + 1, 0, none⟩ (.pointer (some ⟨b, 0, none⟩))) (by simp [World.setCell]) fun k hk => heap_setCell_other _ ⟨w.heap.size + 1, 0, none⟩ k _ (by have := HX1.out k hk; simp; omega))
  clear f0 a0
  obtain ⟨W2, hW2⟩ : ∃ W2, w1.setCell ⟨w.heap.size + 1, 0, none⟩ (.pointer (some ⟨b, 0, none⟩)) = W2 := ⟨_, rfl⟩
  rw [hW2] at HA2 HR2 HB2 HT2
  rw [hW2]
  clear hW2
  refine (HN2.out _ HB2.out).mono ?_
  rintro e w2 ⟨c, X2, rfl, ht, hX, hb⟩
  have HT3 := Lib.hid (HT2.out.later hb)
  have HU3 := Lib.hid ht
  have HX2 : Hid (∀ k ∈ X2, w.heap.size + 2 ≤ k) := Lib.hid fun k hk => by
    have h1 := hX k hk
    have h2 := HA2.out.lt
    omega
  have HB3 := Lib.hid (HB2.out.trans (hb.mono HB2.out.size))
  have HA3 := Lib.hid (HA2.out.later hb)
  have HR3 := Lib.hid (HR2.out.later hb)
  have f1 := HA3.out.free 1
  have a1 := HA3.out.second
  have HA4 := Lib.hid (HA3.out.put1 (some ⟨c, 0, none⟩))
  have a40 := HA4.out.first
  have a41 := HA4.out.second
  have HR4 := Lib.hid (HR3.out.other (a := ⟨w.heap.size + 1, 1, none⟩) (.pointer (some ⟨c, 0, none⟩)) (by simp))
  have r40 := HR4.out.first
  have r41 := HR4.out.second
  have g40 := HR4.out.free 0
  have g41 := HR4.out.free 1
  have HR5 := Lib.hid (HR4.out.put0 (some ⟨b, 0, none⟩))
  have r51 := HR5.out.second
  have g51 := HR5.out.free 1
  have HR6 := Lib.hid (HR5.out.put1 (some ⟨c, 0, none⟩))
  have k0 := HR6.out.first
  have k1 := HR6.out.second
  have HB6 : Hid (Below w.heap.size w (((w2.setCell ⟨w.heap.size + 1, 1, none⟩ (.pointer (some ⟨c, 0, none⟩))).setCell ⟨w.heap.size, 0, none⟩ (.pointer (some ⟨b, 0, none⟩))).setCell ⟨w.heap.size, 1, none⟩ (.pointer (some ⟨c, 0, none⟩)))) := Lib.hid (((HB3.out.setCell (by simp) _).setCell (by simp) _).setCell (by simp) _)
  have HM : Hid (∀ k, w.heap.size + 2 ≤ k → (((w2.setCell ⟨w.heap.size + 1, 1, none⟩ (.pointer (some ⟨c, 0, none⟩))).setCell ⟨w.heap.size, 0, none⟩ (.pointer (some ⟨b, 0, none⟩))).setCell ⟨w.heap.size, 1, none⟩ (.pointer (some ⟨c, 0, none⟩))).heap[k]? = w2.heap[k]?) := Lib.hid fun k hk => by
    rw [heap_setCell_other _ ⟨w.heap.size, 1, none⟩ k _ (by simp; omega), heap_setCell_other _ ⟨w.heap.size, 0, none⟩ k _ (by simp; omega), heap_setCell_other _ ⟨w.heap.size + 1, 1, none⟩ k _ (by simp; omega)]
  clear ht hX hb
  go_wp2_with fail
  refine bodyPost_ret (v := .agg #[.pointer (some ⟨b, 0, none⟩), .pointer (some ⟨c, 0, none⟩)]) (by simp [results, Tryz.results170, go_sem, k0, k1]) rfl ?_
  exact ⟨b, c, X1, X2, rfl, HT3.out.move (by simp [World.setCell]) fun k hk => HM.out k (HX1.out k hk), HU3.out.move (by simp [World.setCell]) fun k hk => HM.out k (HX2.out k hk), fun k hk => by have := HX1.out k hk; omega, fun k hk => by have := HX2.out k hk; omega, HB6.out⟩
end
end Go.Proofs.YtiiiokikmjgliaaGreatDoor
/-
  The contract of package inflate's fixedTrees.
-/
namespace Go.Proofs.YtiiiokikmjgliaaGreatDoor
section
open Go.RowKit
set_option maxRecDepth 100000
theorem fixed_good : refusedZ (intsOf fixedLit) = 0 ∧ refusedZ (intsOf fixedDist) = 0 := by decide +kernel
theorem flat4 (g1 g2 g3 g4 : Nat) : flatR [(g1, List.replicate 144 8), (g2, List.replicate 112 9), (g3, List.replicate 24 7), (g4, List.replicate 8 8)] = fixedLit := by
  unfold flatR fixedLit
  simp only [List.flatMap_cons, List.flatMap_nil, List.append_nil]
theorem rows4 (w : World) {g1 g2 g3 g4 : Nat} (r1 : RowAt w g1 (List.replicate 144 8)) (r2 : RowAt w g2 (List.replicate 112 9)) (r3 : RowAt w g3 (List.replicate 24 7)) (r4 : RowAt w g4 (List.replicate 8 8)) :
    RowsAt (w.alloc (.cells #[.slice (some ⟨g1, 0, none⟩) 144 144, .slice (some ⟨g2, 0, none⟩) 112 112, .slice (some ⟨g3, 0, none⟩) 24 24, .slice (some ⟨g4, 0, none⟩) 8 8] 100)) w.heap.size [(g1, List.replicate 144 8), (g2, List.replicate 112 9), (g3, List.replicate 24 7), (g4, List.replicate 8 8)] := by
  have hb : Below w.heap.size w (w.alloc (.cells #[.slice (some ⟨g1, 0, none⟩) 144 144, .slice (some ⟨g2, 0, none⟩) 112 112, .slice (some ⟨g3, 0, none⟩) 24 24, .slice (some ⟨g4, 0, none⟩) 8 8] 100)) := (Below.refl _ w).alloc (Nat.le_refl _) _
  intro j g l hj
  rw [World.cell?_alloc_new]
  match j, hj with
  | 0, hj => obtain ⟨rfl, rfl⟩ := Prod.mk.inj (Option.some.inj hj); exact ⟨by rw [List.length_replicate]; rfl, r1.later hb⟩
  | 1, hj => obtain ⟨rfl, rfl⟩ := Prod.mk.inj (Option.some.inj hj); exact ⟨by rw [List.length_replicate]; rfl, r2.later hb⟩
  | 2, hj => obtain ⟨rfl, rfl⟩ := Prod.mk.inj (Option.some.inj hj); exact ⟨by rw [List.length_replicate]; rfl, r3.later hb⟩
  | 3, hj => obtain ⟨rfl, rfl⟩ := Prod.mk.inj (Option.some.inj hj); exact ⟨by rw [List.length_replicate]; rfl, r4.later hb⟩
section
variable {w w' : World} {T rb : Nat} {s : ByteArray} {pos : Nat} {o : List UInt8} {M : Nat} {v : Value} {p q : Option Addr} {X : List Nat}
theorem Touches.beyond {F F' : List Nat} (h : Touches F F' w w') {a : Addr} (ha : w.heap.size ≤ a.block) (u : Value) : Touches F F' w (w'.setCell a u) :=
  ⟨h.1, h.2.1, h.2.2.1, by have := h.size; simp [World.setCell]; exact this, fun k hk hF => (heap_setCell_other _ a k _ (by omega)).trans (h.2.2.2.2.1 k hk hF), h.2.2.2.2.2⟩
theorem TlIs.aside (h : TlIs w T rb s pos o M v p q X) {a : Addr} (ha : a.block ∉ tlF T rb v) (hX : a.block ∉ X) (u : Value) : TlIs (w.setCell a u) T rb s pos o M v p q X := by
  have hk : ∀ k, k ≠ a.block → (w.setCell a u).heap[k]? = w.heap[k]? := fun k e => heap_setCell_other _ a k _ e
  have hsz : w.heap.size ≤ (w.setCell a u).heap.size := by simp [World.setCell]
  exact ⟨(hk T fun e => ha (e ▸ tlF_self _ _ _)).trans h.cell, h.rd.move hsz fun k e => hk k fun e2 => ha (by rw [← e2, show k = rb by simpa using e]; exact tlF_rd _ _ _),
    h.row.move fun k e => hk k fun e2 => ha (by rw [← e2]; exact tlF_own e), h.fix.move hsz fun k e => hk k fun e2 => hX (by rw [← e2]; exact e), h.d1, h.d2, h.dX, h.hpos, h.hM⟩
theorem TreeAt.aside {b : Nat} {ls : List Int} {Y : List Nat} (h : TreeAt w b ls Y) {a : Addr} (ha : a.block ∉ Y) (u : Value) : TreeAt (w.setCell a u) b ls Y :=
  h.move (by simp [World.setCell]) fun k hk => heap_setCell_other _ a k _ fun e => ha (e ▸ hk)
theorem TlIs.fixed (h : TlIs w T rb s pos o M v p q X) {b c : Nat} {X1 X2 : List Nat} (h1 : TreeAt w b (intsOf fixedLit) X1) (h2 : TreeAt w c (intsOf fixedDist) X2) (g1 : ∀ k ∈ X1, k ∉ tlF T rb v) (g2 : ∀ k ∈ X2, k ∉ tlF T rb v) :
    TlIs ((w.setCell ⟨T, 3, none⟩ (.pointer (some ⟨b, 0, none⟩))).setCell ⟨T, 4, none⟩ (.pointer (some ⟨c, 0, none⟩))) T rb s pos o M v (some ⟨b, 0, none⟩) (some ⟨c, 0, none⟩) (X1 ++ X2) ∧
      Touches (tlF T rb v) (tlF T rb v) w ((w.setCell ⟨T, 3, none⟩ (.pointer (some ⟨b, 0, none⟩))).setCell ⟨T, 4, none⟩ (.pointer (some ⟨c, 0, none⟩))) := by
  have hk : ∀ k, k ≠ T → ((w.setCell ⟨T, 3, none⟩ (.pointer (some ⟨b, 0, none⟩))).setCell ⟨T, 4, none⟩ (.pointer (some ⟨c, 0, none⟩))).heap[k]? = w.heap[k]? := fun k e =>
    (heap_setCell_other _ ⟨T, 4, none⟩ k _ e).trans (heap_setCell_other _ ⟨T, 3, none⟩ k _ e)
  have hsz : w.heap.size ≤ ((w.setCell ⟨T, 3, none⟩ (.pointer (some ⟨b, 0, none⟩))).setCell ⟨T, 4, none⟩ (.pointer (some ⟨c, 0, none⟩))).heap.size := by simp [World.setCell]
  have hT : ∀ {Y : List Nat}, (∀ k ∈ Y, k ∉ tlF T rb v) → ∀ k ∈ Y, k ≠ T := fun g k e e2 => g k e (e2 ▸ tlF_self _ _ _)
  refine ⟨⟨h.cell.fixed _ _, h.rd.move hsz fun k e => hk k (by rw [show k = rb by simpa using e]; exact h.d1.symm), h.row.move fun k e => hk k (h.d2 k e).1, .inr ⟨b, c, X1, X2, rfl, rfl, h1.move hsz fun k e => hk k (hT g1 k e), h2.move hsz fun k e => hk k (hT g2 k e), rfl⟩, h.d1, h.d2, fun k e => ?_, h.hpos, h.hM⟩,
    ((Touches.refl _ _).setCell (a := ⟨T, 3, none⟩) (tlF_self _ _ _) _).setCell (a := ⟨T, 4, none⟩) (tlF_self _ _ _) _⟩
  have hn : k ∉ tlF T rb v := by
    rcases List.mem_append.1 e with e | e
    · exact g1 k e
    · exact g2 k e
  exact ⟨fun e => hn (e ▸ tlF_self _ _ _), fun e => hn (e ▸ tlF_rd _ _ _), fun e => hn (tlF_own e)⟩
end
set_option maxHeartbeats 4000000 in
theorem fixedTrees_is (T rb : Nat) (s : ByteArray) (pos : Nat) (o : List UInt8) (M : Nat) (v : Value) (p q : Option Addr) (X : List Nat) (w : World) (h : TlIs w T rb s pos o M v p q X) :
    Calls Tryz.prog 145 #[.pointer (some ⟨T, 0, none⟩)] w fun en w' => ∃ b c p' q' X', en = .returned (.agg #[.pointer (some ⟨b, 0, none⟩), .pointer (some ⟨c, 0, none⟩)]) ∧ TlIs w' T rb s pos o M v p' q' X' ∧ TreeBy w' b fixedLit (tlF T rb v) ∧ TreeBy w' c fixedDist (tlF T rb v) ∧ Touches (tlF T rb v) (tlF T rb v) w w' := by
  have hRn : w.heap.size ∉ tlF T rb v := fun hm => Nat.lt_irrefl _ (h.lt _ hm)
  have hRX : w.heap.size ∉ X := fun hm => Nat.lt_irrefl _ (h.fix.lt _ hm)
  have hfix := h.fix
  have HRn := Lib.hid hRn
  have HRX := Lib.hid hRX
  have Hlt := Lib.hid h.lt
  have H := Lib.hid h
  have c3 : ∀ u, (w.alloc u).cell? ⟨T, 3, none⟩ = some (.pointer p) := fun u => (h.alloc u).cell.syms
  have c4 : ∀ u, (w.alloc u).cell? ⟨T, 4, none⟩ = some (.pointer q) := fun u => (h.alloc u).cell.dists
  clear h hRn hRX
  rcases hfix with ⟨rfl, rfl, rfl⟩ | ⟨b, c, X1, X2, rfl, rfl, h1, h2, rfl⟩
  · have HB0 : Hid (Below w.heap.size w (w.alloc (.cells #[.pointer none, .pointer none] 138))) := Lib.hid ((Below.refl _ w).alloc (Nat.le_refl _) _)
    have RC : Hid (PairP (w.alloc (.cells #[.pointer none, .pointer none] 138)) w.heap.size none none) := Lib.hid (heap_alloc_new w _)
    have HA1 := Lib.hid (fun W => alike_is 8 144 W (by omega) (by omega))
    have HA2 := Lib.hid (fun W => alike_is 9 112 W (by omega) (by omega))
    have HA3 := Lib.hid (fun W => alike_is 7 24 W (by omega) (by omega))
    have HA4 := Lib.hid (fun W => alike_is 8 8 W (by omega) (by omega))
    have HA5 := Lib.hid (fun W => alike_is 5 32 W (by omega) (by omega))
    go_enter Tryz.func145, Tryz.ntmps145
    go_wp2_with fail
    refine (HA1.out _).mono ?_
    rintro e w1 ⟨g1, rfl, hr, _, hb⟩
    have HB1 := Lib.hid (HB0.out.trans (hb.mono HB0.out.size))
    have R1 := Lib.hid hr
    have RC := Lib.hid (RC.out.later hb)
    clear hr hb HA1
    go_wp2_with fail
    refine (HA2.out _).mono ?_
    rintro e w2 ⟨g2, rfl, hr, _, hb⟩
    have HB2 := Lib.hid (HB1.out.trans (hb.mono HB1.out.size))
    have R1 := Lib.hid (R1.out.later hb)
    have R2 := Lib.hid hr
    have RC := Lib.hid (RC.out.later hb)
    clear hr hb HA2
    go_wp2_with fail
    refine (HA3.out _).mono ?_
    rintro e w3 ⟨g3, rfl, hr, _, hb⟩
    have HB3 := Lib.hid (HB2.out.trans (hb.mono HB2.out.size))
    have R1 := Lib.hid (R1.out.later hb)
    have R2 := Lib.hid (R2.out.later hb)
    have R3 := Lib.hid hr
    have RC := Lib.hid (RC.out.later hb)
    clear hr hb HA3
    go_wp2_with fail
    refine (HA4.out _).mono ?_
    rintro e w4 ⟨g4, rfl, hr, _, hb⟩
    have HB4 := Lib.hid (HB3.out.trans (hb.mono HB3.out.size))
    have R1 := Lib.hid (R1.out.later hb)
    have R2 := Lib.hid (R2.out.later hb)
    have R3 := Lib.hid (R3.out.later hb)
    have R4 := Lib.hid hr
    have RC := Lib.hid (RC.out.later hb)
    clear hr hb HA4
    have HRows := Lib.hid (rows4 w4 R1.out R2.out R3.out R4.out)
    have HC := Lib.hid (concat_is w4.heap.size 4 [(g1, List.replicate 144 8), (g2, List.replicate 112 9), (g3, List.replicate 24 7), (g4, List.replicate 8 8)] _ rfl (by omega) HRows.out (by rw [flat4]; decide +kernel) (by rw [flat4]; decide +kernel))
    rw [flat4] at HC
    have HB5 : Hid (Below w.heap.size w (w4.alloc (.cells #[.slice (some ⟨g1, 0, none⟩) 144 144, .slice (some ⟨g2, 0, none⟩) 112 112, .slice (some ⟨g3, 0, none⟩) 24 24, .slice (some ⟨g4, 0, none⟩) 8 8] 100))) := Lib.hid (HB4.out.alloc HB4.out.size _)
    have RC := Lib.hid (RC.out.later ((Below.refl _ w4).alloc (Nat.le_refl _) (.cells #[.slice (some ⟨g1, 0, none⟩) 144 144, .slice (some ⟨g2, 0, none⟩) 112 112, .slice (some ⟨g3, 0, none⟩) 24 24, .slice (some ⟨g4, 0, none⟩) 8 8] 100)))
    clear R1 R2 R3 R4 HRows
    go_wp2_with fail
    refine HC.out.mono ?_
    rintro e w6 ⟨v6, rfl, ho, hb⟩
    have HB6 := Lib.hid (HB5.out.trans (hb.mono HB5.out.size))
    obtain ⟨g6, cap6, rfl, hg6, hc6⟩ := ho.at
    have HN6 : Hid (Nums w6 (some ⟨g6, 0, none⟩) (intsOf fixedLit)) := Lib.hid (.inr ⟨g6, 0, rfl, fun i hi => by
      rw [Nat.zero_add, List.getElem?_eq_getElem hi]
      exact hc6 i hi⟩)
    have RC := Lib.hid (RC.out.later hb)
    have hln : (asZ fixedLit).length = 288 := by decide +kernel
    rw [hln]
    clear ho hb hg6 hc6 hln HC
    go_wp2_with fail
    refine (HA5.out _).mono ?_
    rintro e w7 ⟨g7, rfl, hr, _, hb⟩
    have HB7 := Lib.hid (HB6.out.trans (hb.mono HB6.out.size))
    have HN7 := Lib.hid (HN6.out.later hb)
    have HD7 : Hid (Nums w7 (some ⟨g7, 0, none⟩) (intsOf fixedDist)) := Lib.hid hr.nums
    have RC := Lib.hid (RC.out.later hb)
    clear hr hb HA5
    have HTo := Lib.hid (treesOf_is (some ⟨g6, 0, none⟩) (some ⟨g7, 0, none⟩) 288 32 cap6 32 fixedLit fixedDist w7 (by decide +kernel) (by decide +kernel) HN7.out HD7.out fixed_good.1 fixed_good.2)
    go_wp2_with fail
    refine HTo.out.mono ?_
    rintro e w8 ⟨b, c, X1, X2, rfl, t1, t2, x1, x2, hb⟩
    have HB8 := Lib.hid (HB7.out.trans (hb.mono HB7.out.size))
    have hsz1 := RC.out.lt
    have RC := Lib.hid (RC.out.later hb)
    have X1n : Hid (∀ k ∈ X1, k ∉ tlF T rb v ∧ k ≠ w.heap.size) := Lib.hid fun k hk => by
      have h1 := x1 k hk
      exact ⟨fun hm => by have := Hlt.out k hm; omega, by omega⟩
    have X2n : Hid (∀ k ∈ X2, k ∉ tlF T rb v ∧ k ≠ w.heap.size) := Lib.hid fun k hk => by
      have h1 := x2 k hk
      exact ⟨fun hm => by have := Hlt.out k hm; omega, by omega⟩
    have H8 := Lib.hid (H.out.later HB8.out)
    have H9 := Lib.hid (H8.out.fixed t1 t2 (fun k hk => (X1n.out k hk).1) fun k hk => (X2n.out k hk).1)
    have hTne : w.heap.size ≠ T := fun e => HRn.out (e ▸ tlF_self _ _ _)
    have T1 := Lib.hid ((t1.aside (a := ⟨T, 3, none⟩) (fun hm => (X1n.out _ hm).1 (tlF_self _ _ _)) (.pointer (some ⟨b, 0, none⟩))).aside (a := ⟨T, 4, none⟩) (fun hm => (X1n.out _ hm).1 (tlF_self _ _ _)) (.pointer (some ⟨c, 0, none⟩)))
    have T2 := Lib.hid ((t2.aside (a := ⟨T, 3, none⟩) (fun hm => (X2n.out _ hm).1 (tlF_self _ _ _)) (.pointer (some ⟨b, 0, none⟩))).aside (a := ⟨T, 4, none⟩) (fun hm => (X2n.out _ hm).1 (tlF_self _ _ _)) (.pointer (some ⟨c, 0, none⟩)))
    have f3 := H8.out.cell.free 3
    have f4 := H8.out.cell.free 4
    have s3 := H8.out.cell.syms
    have s4 := H8.out.cell.dists
    have s93 := H9.out.1.cell.syms
    have s94 := H9.out.1.cell.dists
    have RC9 := Lib.hid ((RC.out.other (a := ⟨T, 3, none⟩) (.pointer (some ⟨b, 0, none⟩)) hTne).other (a := ⟨T, 4, none⟩) (.pointer (some ⟨c, 0, none⟩)) hTne)
    have r0 := RC9.out.first
    have r1 := RC9.out.second
    have g0 := RC9.out.free 0
    have g1' := RC9.out.free 1
    have RC10 := Lib.hid (RC9.out.put0 (some ⟨b, 0, none⟩))
    have r11 := RC10.out.second
    have g11 := RC10.out.free 1
    have RC11 := Lib.hid (RC10.out.put1 (some ⟨c, 0, none⟩))
    have k0 := RC11.out.first
    have k1 := RC11.out.second
    have HIe := Lib.hid ((H9.out.1.aside (a := ⟨w.heap.size, 0, none⟩) HRn.out (fun hm => by
      rcases List.mem_append.1 hm with hm | hm
      · exact (X1n.out _ hm).2 rfl
      · exact (X2n.out _ hm).2 rfl) (.pointer (some ⟨b, 0, none⟩))).aside (a := ⟨w.heap.size, 1, none⟩) HRn.out (fun hm => by
      rcases List.mem_append.1 hm with hm | hm
      · exact (X1n.out _ hm).2 rfl
      · exact (X2n.out _ hm).2 rfl) (.pointer (some ⟨c, 0, none⟩)))
    have HTe := Lib.hid ((((Touches.of_below (F := tlF T rb v) HB8.out).trans H9.out.2).beyond (a := ⟨w.heap.size, 0, none⟩) (Nat.le_refl _) (.pointer (some ⟨b, 0, none⟩))).beyond (a := ⟨w.heap.size, 1, none⟩) (Nat.le_refl _) (.pointer (some ⟨c, 0, none⟩)))
    have T1e := Lib.hid ((T1.out.aside (a := ⟨w.heap.size, 0, none⟩) (fun hm => (X1n.out _ hm).2 rfl) (.pointer (some ⟨b, 0, none⟩))).aside (a := ⟨w.heap.size, 1, none⟩) (fun hm => (X1n.out _ hm).2 rfl) (.pointer (some ⟨c, 0, none⟩)))
    have T2e := Lib.hid ((T2.out.aside (a := ⟨w.heap.size, 0, none⟩) (fun hm => (X2n.out _ hm).2 rfl) (.pointer (some ⟨b, 0, none⟩))).aside (a := ⟨w.heap.size, 1, none⟩) (fun hm => (X2n.out _ hm).2 rfl) (.pointer (some ⟨c, 0, none⟩)))
    clear t1 t2 x1 x2 hb hsz1 c3 c4
    go_wp2_with fail
    refine bodyPost_ret (v := .agg #[.pointer (some ⟨b, 0, none⟩), .pointer (some ⟨c, 0, none⟩)]) (by simp [results, Tryz.results145, go_sem, k0, k1]) rfl ?_
    exact ⟨b, c, _, _, _, rfl, HIe.out, ⟨X1, T1e.out, fun k hk => (X1n.out k hk).1⟩, ⟨X2, T2e.out, fun k hk => (X2n.out k hk).1⟩, HTe.out⟩
  · have HIe := Lib.hid (H.out.alloc (.cells #[.pointer (some ⟨b, 0, none⟩), .pointer (some ⟨c, 0, none⟩)] 138))
    have HTe : Hid (Touches (tlF T rb v) (tlF T rb v) w (w.alloc (.cells #[.pointer (some ⟨b, 0, none⟩), .pointer (some ⟨c, 0, none⟩)] 138))) := Lib.hid (Touches.of_below ((below_same w).alloc (Nat.le_refl _) _))
    have HR : PairP (w.alloc (.cells #[.pointer (some ⟨b, 0, none⟩), .pointer (some ⟨c, 0, none⟩)] 138)) w.heap.size (some ⟨b, 0, none⟩) (some ⟨c, 0, none⟩) := heap_alloc_new w _
    have k0 := HR.first
    have k1 := HR.second
    have HB1 : Hid (TreeBy w b fixedLit (tlF T rb v)) := Lib.hid ⟨X1, h1, fun k hk => tlF_not (H.out.dX k (List.mem_append_left _ hk)).1 (H.out.dX k (List.mem_append_left _ hk)).2.1 (H.out.dX k (List.mem_append_left _ hk)).2.2⟩
    have HB2 : Hid (TreeBy w c fixedDist (tlF T rb v)) := Lib.hid ⟨X2, h2, fun k hk => tlF_not (H.out.dX k (List.mem_append_right _ hk)).1 (H.out.dX k (List.mem_append_right _ hk)).2.1 (H.out.dX k (List.mem_append_right _ hk)).2.2⟩
    clear h1 h2
    go_enter Tryz.func145, Tryz.ntmps145
    go_wp2_with fail
    refine bodyPost_ret (v := .agg #[.pointer (some ⟨b, 0, none⟩), .pointer (some ⟨c, 0, none⟩)]) (by simp [results, Tryz.results145, go_sem, k0, k1]) rfl ?_
    exact ⟨b, c, _, _, _, rfl, HIe.out, HB1.out.touch HTe.out, HB2.out.touch HTe.out, HTe.out⟩
end
end Go.Proofs.YtiiiokikmjgliaaGreatDoor
