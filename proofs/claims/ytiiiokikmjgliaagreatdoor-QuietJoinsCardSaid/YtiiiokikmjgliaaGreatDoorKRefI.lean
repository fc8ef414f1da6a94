/-
  InfRef, InfRef2, InfRef3, InfRef4, InfRef5, InfRef6: texts merged.
-/
import Derived.Test.YtiiiokikmjgliaaGreatDoorKPlain
import Derived.Test.YtiiiokikmjgliaaGreatDoorKHeld
import Derived.Test.YtiiiokikmjgliaaGreatDoorKCodeR
import Derived.Test.YtiiiokikmjgliaaGreatDoorKRows
import Derived.Deep.DeepCutAuto
import Derived.Deep.CutRange
import Derived.Deep.RegionLaw
import Derived.Deep.RegionHeld3
import Derived.Deep.MidRow
import Derived.Lib.AppendStr
/-
  The contracts of the document's small functions on deflated bytes: Extra, Power, Length, Distance; bits, symbol, fail.
-/
namespace Go.Proofs.YtiiiokikmjgliaaGreatDoor
section
open Go.RowKit
set_option maxHeartbeats 1000000 in
theorem rExtra_any (n f g : Nat) (w : World) (hn : n ≤ 1000) (hf : f ≤ 1000) (hg : 0 < g) (hg2 : g ≤ 1000) :
    Calls Tryz.prog 84 #[.int .i64 (n : Int), .int .i64 (f : Int), .int .i64 (g : Int)] w fun e w' => e = .returned (.int .i64 (extraN n f g : Int)) ∧ w = w' := by
  by_cases h : n < f
  · have hr : extraN n f g = 0 := by unfold extraN; rw [if_pos h]
    have hz : (n : Int) < (f : Int) := by omega
    rw [hr]
    clear hr h
    go_enter Tryz.func84, Tryz.ntmps84
    go_wp2_with fail
    go_ret
    exact ⟨rfl, rfl⟩
  · obtain ⟨d, hd⟩ : ∃ d, n - f = d := ⟨_, rfl⟩
    obtain ⟨q, hq⟩ : ∃ q, d / g = q := ⟨_, rfl⟩
    have hr : extraN n f g = q + 1 := by unfold extraN; rw [if_neg h, hd, hq]
    have hz : ¬ (n : Int) < (f : Int) := by omega
    have hdz : (n : Int) - (f : Int) = (d : Int) := by omega
    have hqz : (d : Int) / (g : Int) = (q : Int) := by rw [← hq]; simp
    have hqt : (d : Int).tdiv (g : Int) = (q : Int) := by rw [Int.tdiv_eq_ediv_of_nonneg (by omega)]; exact hqz
    have hql : q ≤ 1000 := by rw [← hq]; have := Nat.div_le_self d g; omega
    have hgz : ((g : Int) == 0) = false := by rw [beq_eq_false_iff_ne]; omega
    have hgz2 : ¬ (g : Int) = 0 := by omega
    rw [hr]
    clear hr h hd hq
    go_enter Tryz.func84, Tryz.ntmps84
    go_wp2_with fail
    go_ret
    exact ⟨ret_int (by simp), rfl⟩
set_option maxHeartbeats 1000000 in
theorem rPow_any (v : Nat) (w : World) (h : v ≤ 16) :
    Calls Tryz.prog 105 #[.int .i64 (v : Int)] w fun e w' => e = .returned (.int .i64 ((2 ^ v : Nat) : Int)) ∧ w = w' := by
  go_enter Tryz.func105, Tryz.ntmps105
  go_wp2_with fail
  go_loopg [3, 4] v (fun g s3 s4 wx => ∃ (j z : Nat), j + g = v ∧ s4 = .int .i64 j ∧ s3 = .int .i64 z ∧ z ≤ 65536 ∧ Aside (z = 2 ^ j) ∧ w = wx)
  case atStart => exact ⟨0, 1, by omega, rfl, rfl, by omega, rfl, rfl⟩
  case round =>
    obtain ⟨j, z, hjg, rfl, rfl, hz, HZ, rfl⟩ := hrel
    cases gk with
    | zero =>
      obtain rfl : j = v := by omega
      go_wp2_with fail
      go_ret
      exact ⟨ret_int (by rw [HZ.out]), rfl⟩
    | succ g =>
      have hjz : (j : Int) < (v : Int) := by omega
      have hz2 : Hid (2 * z ≤ 65536) := Lib.hid (by
        have h1 : (2 : Nat) ^ (j + 1) ≤ 2 ^ 16 := Nat.pow_le_pow_right (by omega) (by omega)
        rw [Nat.pow_succ] at h1
        have := HZ.out
        omega)
      go_wp2_with fail
      go_roundg g
      case measure => omega
      case rel => exact ⟨j + 1, 2 * z, by omega, by go_num, by go_num, hz2.out, by show _ = _; rw [HZ.out, Nat.pow_succ]; omega, rfl⟩
theorem sumL_small : ∀ k : Fin 30, sumL k.val ≤ 1000 := by decide +kernel
theorem distN_small : ∀ k : Fin 31, distN k.val ≤ 40000 := by decide +kernel
theorem sumL_le {k : Nat} (h : k ≤ 29) : sumL k ≤ 1000 := sumL_small ⟨k, by omega⟩
theorem distN_le {k : Nat} (h : k ≤ 30) : distN k ≤ 40000 := distN_small ⟨k, by omega⟩
theorem lengthN_le {k : Nat} (h : k ≤ 28) : lengthN k ≤ 1000 := by
  unfold lengthN
  split
  · omega
  · exact sumL_le (by omega)
set_option maxHeartbeats 1000000 in
theorem rLength_any (k : Nat) (w : World) (h : k ≤ 28) :
    Calls Tryz.prog 83 #[.int .i64 (k : Int)] w fun e w' => e = .returned (.int .i64 (lengthN k : Int)) ∧ w = w' := by
  by_cases h28 : k = 28
  · have hr : lengthN k = 258 := by unfold lengthN; rw [if_pos h28]
    rw [hr]
    subst h28
    go_enter Tryz.func83, Tryz.ntmps83
    go_wp2_with fail
    go_ret
    exact ⟨rfl, rfl⟩
  · have hr : lengthN k = sumL k := by unfold lengthN; rw [if_neg h28]
    have hz : ((k : Int) == 28) = false := by rw [beq_eq_false_iff_ne]; omega
    have Hr := Lib.hid hr
    clear hr h28
    go_enter Tryz.func83, Tryz.ntmps83
    go_wp2_with fail
    go_loopg [3, 4] k (fun g s3 s4 wx => ∃ (j z : Nat), j + g = k ∧ s4 = .int .i64 j ∧ s3 = .int .i64 z ∧ z ≤ 1000 ∧ Aside (z = sumL j) ∧ w = wx)
    case atStart => exact ⟨0, 3, by omega, rfl, rfl, by omega, rfl, rfl⟩
    case round =>
      obtain ⟨j, z, hjg, rfl, rfl, hz1, HZ, rfl⟩ := hrel
      cases gk with
      | zero =>
        obtain rfl : j = k := by omega
        go_wp2_with fail
        go_ret
        exact ⟨ret_int (by rw [HZ.out, Hr.out]), rfl⟩
      | succ g =>
        have hjz : (j : Int) < (k : Int) := by omega
        obtain ⟨x, hx⟩ : ∃ x, extraN j 8 4 = x := ⟨_, rfl⟩
        have hx6 : x ≤ 6 := by rw [← hx]; exact extra_len (by omega)
        have H1 := Lib.hid (rExtra_any j 8 4 w (by omega) (by omega) (by omega) (by omega))
        have H2 := Lib.hid (rPow_any x w (by omega))
        obtain ⟨y, hy⟩ : ∃ y, 2 ^ x = y := ⟨_, rfl⟩
        have hn : sumL (j + 1) = z + y := by rw [sumL, hx, hy, HZ.out]
        have hn2 : sumL (j + 1) ≤ 1000 := sumL_le (by omega)
        rw [hx] at H1
        rw [hy] at H2
        have hzy : z + y ≤ 1000 := by omega
        have Hn := Lib.hid hn
        clear hx hy hn hn2
        go_wp2_with fail
        refine H1.out.mono ?_
        rintro e w1 ⟨rfl, rfl⟩
        go_wp2_with fail
        refine H2.out.mono ?_
        rintro e w1 ⟨rfl, rfl⟩
        go_wp2_with fail
        go_roundg g
        case measure => omega
        case rel => exact ⟨j + 1, z + y, by omega, by go_num, by go_num, hzy, Hn.out.symm, rfl⟩
set_option maxHeartbeats 1000000 in
theorem rDistance_any (k : Nat) (w : World) (h : k ≤ 29) :
    Calls Tryz.prog 85 #[.int .i64 (k : Int)] w fun e w' => e = .returned (.int .i64 (distN k : Int)) ∧ w = w' := by
  go_enter Tryz.func85, Tryz.ntmps85
  go_wp2_with fail
  go_loopg [3, 4] k (fun g s3 s4 wx => ∃ (j z : Nat), j + g = k ∧ s4 = .int .i64 j ∧ s3 = .int .i64 z ∧ z ≤ 40000 ∧ Aside (z = distN j) ∧ w = wx)
  case atStart => exact ⟨0, 1, by omega, rfl, rfl, by omega, rfl, rfl⟩
  case round =>
    obtain ⟨j, z, hjg, rfl, rfl, hz1, HZ, rfl⟩ := hrel
    cases gk with
    | zero =>
      obtain rfl : j = k := by omega
      go_wp2_with fail
      go_ret
      exact ⟨ret_int (by rw [HZ.out]), rfl⟩
    | succ g =>
      have hjz : (j : Int) < (k : Int) := by omega
      obtain ⟨x, hx⟩ : ∃ x, extraN j 4 2 = x := ⟨_, rfl⟩
      have hx6 : x ≤ 13 := by rw [← hx]; exact extra_dist (by omega)
      have H1 := Lib.hid (rExtra_any j 4 2 w (by omega) (by omega) (by omega) (by omega))
      have H2 := Lib.hid (rPow_any x w (by omega))
      obtain ⟨y, hy⟩ : ∃ y, 2 ^ x = y := ⟨_, rfl⟩
      have hn : distN (j + 1) = z + y := by rw [distN, hx, hy, HZ.out]
      have hn2 : distN (j + 1) ≤ 40000 := distN_le (by omega)
      rw [hx] at H1
      rw [hy] at H2
      have hzy : z + y ≤ 40000 := by omega
      have Hn := Lib.hid hn
      clear hx hy hn hn2
      go_wp2_with fail
      refine H1.out.mono ?_
      rintro e w1 ⟨rfl, rfl⟩
      go_wp2_with fail
      refine H2.out.mono ?_
      rintro e w1 ⟨rfl, rfl⟩
      go_wp2_with fail
      go_roundg g
      case measure => omega
      case rel => exact ⟨j + 1, z + y, by omega, by go_num, by go_num, hzy, Hn.out.symm, rfl⟩
end
end Go.Proofs.YtiiiokikmjgliaaGreatDoor
/-
  The document's state in memory; the contracts of its bits, symbol, fail.
-/
namespace Go.Proofs.YtiiiokikmjgliaaGreatDoor
section
open Go.RowKit
theorem intsOf_length (ns : List Nat) : (intsOf ns).length = ns.length := by simp [intsOf]
end
end Go.Proofs.YtiiiokikmjgliaaGreatDoor
/-
  The contract of the document's copied.
-/
namespace Go.Proofs.YtiiiokikmjgliaaGreatDoor
section
open Go.RowKit
theorem Row8.bytes {w : World} {v : Value} {l : List UInt8} (h : Row8 w v l) (h0 : 0 < l.length) : ∃ g cap, v = .slice (some ⟨g, 0, none⟩) l.length cap ∧ g < w.heap.size ∧ ∀ j c, l[j]? = some c → w.cell? ⟨g, j, none⟩ = some (.int .u8 (c.toNat : Int)) := by
  have h' := h
  rcases h.2 with ⟨_, h2⟩ | ⟨g, cap, cur, rfl, _⟩
  · omega
  · refine ⟨g, cap, rfl, (World.ownsRow.lt h' g rfl).2, fun j c hj => ?_⟩
    obtain ⟨h1, h2⟩ := List.getElem?_eq_some_iff.1 hj
    have := World.ownsRow.cells h' (g := g) rfl j _ (cellsB_at h1)
    have e : (⟨g, 0, none⟩ : Addr).add j = ⟨g, j, none⟩ := by unfold Addr.add; split <;> simp_all
    rw [e, h2] at this
    exact this
theorem cells_new1_y (W : World) {g : Nat} (hg : W.heap.size = g) (c : UInt8) (z : Int) (hz : z = (c.toNat : Int)) : ∀ j (h : j < [c].length), (W.alloc (.cells #[.int .u8 z] 5)).cell? ((⟨g, 0, none⟩ : Addr).add j) = some (.int .u8 ([c][j].toNat : Int)) := by
  subst hg; subst hz
  intro j h
  simp at h
  subst h
  rw [show (⟨W.heap.size, 0, none⟩ : Addr).add 0 = ⟨W.heap.size, 0, none⟩ from rfl, World.cell?_alloc_new]
  rfl
theorem distN_pos : ∀ d, 0 < distN d
  | 0 => by decide
  | d + 1 => by rw [distN]; exact Nat.add_pos_left (distN_pos d) _
end
end Go.Proofs.YtiiiokikmjgliaaGreatDoor
/-
  A text is put behind a row that an object owns.
-/
namespace Go.Proofs.YtiiiokikmjgliaaGreatDoor
section
open Go.RowKit
theorem strCells_row (s : ByteArray) : Lib.strCells s = cellsB s.data.toList := rfl
theorem run_append_text (w : World) (ty : TypeId) (v : Value) (l : List UInt8) (hown : Row8 w v l) (s : ByteArray) (hlen : l.length + s.size ≤ 140737488355328) :
    ∃ v' w', (Builtin.append_ #[64, 9] ty #[v, .string s]).run Tryz.prog w = .ok v' w' ∧ Row8 w' v' (l ++ s.data.toList) ∧ w.grownBy w' v.ownBlock ∧ ∀ k, v'.ownBlock = some k → v.ownBlock = some k ∨ w.heap.size ≤ k := by
  obtain ⟨i0, hi, hz0, hz1, hz2⟩ := info_parts info8
  have low : ∀ (B : Nat) (w' : World) (v' : Value), w'.ownsRow B 5 1 v' (l.length + s.size) (cellsB l ++ Lib.strCells s) → Row8 w' v' (l ++ s.data.toList) := fun B w' v' h => by
    rw [strCells_row, ← cellsB_append, show l.length + s.size = (l ++ s.data.toList).length by rw [List.length_append, ← size_data]] at h
    refine ⟨h.1, ?_⟩
    rcases h.2 with h2 | ⟨g, c, cur, hv, hB, hg, hr⟩
    · exact .inl h2
    · exact .inr ⟨g, c, cur, hv, Nat.zero_le _, hg, hr⟩
  have h' := hown
  rcases hown.2 with ⟨rfl, h0⟩ | ⟨g, cap, cur, rfl, _, hg, hnc, hcm, hcs, _⟩
  · obtain rfl : l = [] := List.eq_nil_of_length_eq_zero h0
    obtain ⟨v', w', hr, h2, h3, _⟩ := Lib.run_append_own_string (P := Tryz.prog) w w.heap.size 64 9 ty 5 i0 Tryz.underlying64 Tryz.underlying9 hi hz0 hz1 hz2 (.slice none 0 0) 0 [] (World.ownsRow_nil _ _ _ _) s (by unfold maxLen; simp at hlen; omega) (by simpa using hlen) (Nat.le_refl _)
    exact ⟨v', w', hr, low _ _ _ h2, h3, fun k hk => .inr (World.ownsRow.lt h2 k hk).1⟩
  · obtain ⟨v', w', hr, h2, h3, _⟩ := Lib.run_append_own_string (P := Tryz.prog) w 0 64 9 ty 5 i0 Tryz.underlying64 Tryz.underlying9 hi hz0 hz1 hz2 _ _ _ h' s (by unfold maxLen; omega) hlen (Nat.zero_le _)
    refine ⟨v', w', hr, low _ _ _ h2, h3, ?_⟩
    by_cases hroom : l.length + s.size ≤ cap
    · have hr2 := Lib.run_append_room_string (P := Tryz.prog) w 64 9 ty 5 i0 Tryz.underlying64 Tryz.underlying9 hi hz1 g l.length cap cur hg s hroom (by omega)
      rw [hr] at hr2
      injection hr2 with e1 e2
      intro k hk
      rw [e1] at hk
      exact .inl hk
    · have hr2 := Lib.run_append_grow_string (P := Tryz.prog) w 64 9 ty 5 i0 (.int .u8 0) Tryz.underlying64 Tryz.underlying9 hi hz0 ⟨g, 0, none⟩ l.length cap (cellsB l) (by rw [hz1, cellsB_length, Nat.mul_one]) (h'.cells (g := g) rfl) s (by omega) (by omega) (by rw [hz2]; exact growslice_fits (by omega) (by omega))
      rw [hr] at hr2
      injection hr2 with e1 e2
      intro k hk
      rw [e1] at hk
      have := Option.some.inj hk
      exact .inr (by simp at this; omega)
theorem wpList_append_text {ops : Array Oper} {rest : List Oper} {o : Oper} {a : Act} {w : World} {Q : Exit → Act → World → Prop} (hgd : o.guard = none) (sl x : Operand)
    (ho : o.op = .call { callee := .builtin .append, args := #[sl, x], argTypes := #[64, 9] })
    (v : Value) (l : List UInt8) (hs : a.eval sl = v) (hown : Row8 w v l) (s : ByteArray) (hx : a.eval x = .string s) (hlen : l.length + s.size ≤ 140737488355328)
    (h : ∀ v' w', Hid (Row8 w' v' (l ++ s.data.toList)) → Hid (w.grownBy w' v.ownBlock) → Hid (∀ k, v'.ownBlock = some k → v.ownBlock = some k ∨ w.heap.size ≤ k) → wpList Tryz.prog ops Q rest (a.put o.dst v') w') : wpList Tryz.prog ops Q (o :: rest) a w := by
  refine wpList_plain hgd fun K hK => ?_
  obtain ⟨v', w', hr, h2, h3, h4⟩ := run_append_text w o.type v l hown s hlen
  unfold Oper.wp execOp
  simp only [ho, resolve, invoke, builtin, Sem.run_bind, Sem.run_pure, Result.andThen_ok, List.map_toArray, List.map_cons, List.map_nil, hs, hx, hr]
  exact hK _ _ (h v' w' (Lib.hid h2) (Lib.hid h3) (Lib.hid h4))
end
end Go.Proofs.YtiiiokikmjgliaaGreatDoor
/-
  The contract of the document's stored.
-/
namespace Go.Proofs.YtiiiokikmjgliaaGreatDoor
section
open Go.RowKit
end
end Go.Proofs.YtiiiokikmjgliaaGreatDoor
/-
  The contracts of the document's lengths of fixed codes, of their order, and of what distances may be.
-/
namespace Go.Proofs.YtiiiokikmjgliaaGreatDoor
section
open Go.RowKit
theorem fixed_at : ∀ k : Fin 288, fixedLit[k.val]? = some (if k.val < 144 then 8 else if k.val < 256 then 9 else if k.val < 280 then 7 else 8) := by decide +kernel
theorem fixed_take {k : Nat} (h : k < 288) : fixedLit.take (k + 1) = fixedLit.take k ++ [if k < 144 then 8 else if k < 256 then 9 else if k < 280 then 7 else 8] := by
  rw [List.take_add_one, fixed_at ⟨k, h⟩]; rfl
theorem dist_at : ∀ k : Fin 32, fixedDist[k.val]? = some 5 := by decide +kernel
theorem dist_take {k : Nat} (h : k < 32) : fixedDist.take (k + 1) = fixedDist.take k ++ [5] := by
  rw [List.take_add_one, dist_at ⟨k, h⟩]; rfl
theorem fixedLit_length : fixedLit.length = 288 := by decide +kernel
theorem fixedDist_length : fixedDist.length = 32 := by decide +kernel
theorem BitsAt.nums {w : World} {g : Nat} {row : List Nat} (h : BitsAt w g row) : Nums w (some ⟨g, 0, none⟩) (asZ row) := by
  refine .inr ⟨g, 0, rfl, fun i hi => ?_⟩
  have hi' : i < row.length := by rwa [asZ_length] at hi
  rw [Nat.zero_add, h.2 i hi', asZ_getD row hi']
def Rows2 (w : World) (r1 r2 : List Nat) (en : Ending) (w' : World) : Prop :=
  ∃ g1 c1 g2 c2, en = .returned (.tuple #[.slice (some ⟨g1, 0, none⟩) r1.length c1, .slice (some ⟨g2, 0, none⟩) r2.length c2]) ∧ BitsAt w' g1 r1 ∧ BitsAt w' g2 r2 ∧ Below w.heap.size w w' ∧ w.heap.size ≤ g1 ∧ w.heap.size ≤ g2
theorem Own64.rows2 {w w' : World} {v1 v2 : Value} {r1 r2 : List Nat} {B : Nat} (h1 : Own64 w' w.heap.size v1 (asZ r1)) (h2 : Own64 w' B v2 (asZ r2)) (hB : w.heap.size ≤ B) (hb : Below w.heap.size w w') : Rows2 w r1 r2 (.returned (.tuple #[v1, v2])) w' := by
  obtain ⟨g1, c1, rfl, hB1, hr1⟩ := h1.bits
  obtain ⟨g2, c2, rfl, hB2, hr2⟩ := h2.bits
  exact ⟨g1, c1, g2, c2, rfl, hr1, hr2, hb, hB1, Nat.le_trans hB hB2⟩
set_option maxHeartbeats 1000000 in
theorem rFixed_any (w : World) : Calls Tryz.prog 76 #[] w (Rows2 w fixedLit fixedDist) := by
  go_enter Tryz.func76, Tryz.ntmps76
  go_wp2_with fail
  go_loopg [2, 3, 4] 288 (fun g s2 s3 s4 wx => ∃ k : Nat, k + g = 288 ∧ s3 = .int .i64 k ∧ Aside (Own64 wx w.heap.size s2 (asZ (fixedLit.take k))) ∧ Below w.heap.size w wx)
  case atStart => exact ⟨0, by omega, rfl, Own64.made w 0 #[] (Nat.le_refl _) (by decide) rfl, (Below.refl _ w).alloc (Nat.le_refl _) _⟩
  case round =>
    obtain ⟨k, hkg, rfl, HO, hb⟩ := hrel
    have Hb := Lib.hid hb
    clear hb
    cases gk with
    | zero =>
      obtain rfl : k = 288 := by omega
      rw [List.take_of_length_le (show fixedLit.length ≤ 288 by rw [fixedLit_length]; exact Nat.le_refl _)] at HO
      clear hkg
      obtain ⟨W1, rfl⟩ : ∃ W1, W1 = wr := ⟨_, rfl⟩
      go_wp2_with fail
      go_loopg [5, 6] 32 (fun g s5 s6 wx => ∃ k : Nat, k + g = 32 ∧ s6 = .int .i64 k ∧ Aside (Own64 wx W1.heap.size s5 (asZ (fixedDist.take k))) ∧ Below W1.heap.size W1 wx)
      case atStart => exact ⟨0, by omega, rfl, Own64.made W1 0 #[] (Nat.le_refl _) (by decide) rfl, (Below.refl _ W1).alloc (Nat.le_refl _) _⟩
      case round =>
        obtain ⟨k, hkg, rfl, HO5, hb5⟩ := hrel
        have Hb5 := Lib.hid hb5
        clear hb5
        cases gk with
        | zero =>
          obtain rfl : k = 32 := by omega
          rw [List.take_of_length_le (show fixedDist.length ≤ 32 by rw [fixedDist_length]; exact Nat.le_refl _)] at HO5
          go_wp2_with fail
          refine bodyPost_ret (by simp [results, Tryz.results76, go_sem]; rfl) rfl ?_
          exact Own64.rows2 (HO.out.later Hb5.out) HO5.out Hb.out.size (Hb.out.trans (Hb5.out.mono Hb.out.size))
        | succ g =>
          have hkz : (k : Int) < 32 := by omega
          have Hn := Lib.hid (dist_take (k := k) (by omega))
          have hlen : Hid ((asZ (fixedDist.take k)).length ≤ 32) := Lib.hid (by rw [asZ_length, List.length_take]; omega)
          go_wp2_with (at_builtin; refine wpList_append64 rfl (.tmp 33) (.tmp 34) rfl W1.heap.size _ (asZ (fixedDist.take k)) rfl (HO5.out.alloc _) ⟨wr.heap.size, 0, none⟩ 1 [5] rfl (cells_newZ _ _) (by simp) (by simp; have := hlen.out; omega) W1 (Hb5.out.alloc Hb5.out.size _) (by have := Hb5.out.size; simp; omega) ?_; intro v3 w3 Ho3 Hb3 _)
          go_roundg g
          case measure => omega
          case rel => exact ⟨k + 1, by omega, by go_num, by show Own64 _ _ _ _; rw [Hn.out, asZ_snoc]; exact Ho3.out, Hb3.out⟩
    | succ g =>
      have hkz : (k : Int) < 288 := by omega
      have Hn := Lib.hid (fixed_take (k := k) (by omega))
      have hlen : Hid ((asZ (fixedLit.take k)).length ≤ 288) := Lib.hid (by rw [asZ_length, List.length_take]; omega)
      have hcase : k < 144 ∨ (144 ≤ k ∧ k < 256) ∨ (256 ≤ k ∧ k < 280) ∨ 280 ≤ k := by omega
      rcases hcase with h | ⟨h, h'⟩ | ⟨h, h'⟩ | h
      · have hr : Hid (fixedLit.take (k + 1) = fixedLit.take k ++ [8]) := Lib.hid (by rw [Hn.out, if_pos h])
        have h1 : ¬ (144 : Int) ≤ (k : Int) := by omega
        have h2 : ¬ (256 : Int) ≤ (k : Int) := by omega
        clear h Hn
        go_wp2_with (at_builtin; refine wpList_append64 rfl (.tmp 24) (.tmp 26) rfl w.heap.size _ (asZ (fixedLit.take k)) rfl (HO.out.alloc _) ⟨wr.heap.size, 0, none⟩ 1 [8] rfl (cells_newZ _ _) (by simp) (by simp; have := hlen.out; omega) w (Hb.out.alloc Hb.out.size _) (by have := Hb.out.size; simp; omega) ?_; intro v3 w3 Ho3 Hb3 _)
        go_roundg g
        case measure => omega
        case rel => exact ⟨k + 1, by omega, by go_num, by show Own64 _ _ _ _; rw [hr.out, asZ_snoc]; exact Ho3.out, Hb3.out⟩
      · have hr : Hid (fixedLit.take (k + 1) = fixedLit.take k ++ [9]) := Lib.hid (by rw [Hn.out, if_neg (by omega), if_pos h'])
        have h1 : (144 : Int) ≤ (k : Int) := by omega
        have h2 : ¬ (256 : Int) ≤ (k : Int) := by omega
        have h3 : (k : Int) < 256 := by omega
        clear h h' Hn
        go_wp2_with (at_builtin; refine wpList_append64 rfl (.tmp 24) (.tmp 26) rfl w.heap.size _ (asZ (fixedLit.take k)) rfl (HO.out.alloc _) ⟨wr.heap.size, 0, none⟩ 1 [9] rfl (cells_newZ _ _) (by simp) (by simp; have := hlen.out; omega) w (Hb.out.alloc Hb.out.size _) (by have := Hb.out.size; simp; omega) ?_; intro v3 w3 Ho3 Hb3 _)
        go_roundg g
        case measure => omega
        case rel => exact ⟨k + 1, by omega, by go_num, by show Own64 _ _ _ _; rw [hr.out, asZ_snoc]; exact Ho3.out, Hb3.out⟩
      · have hr : Hid (fixedLit.take (k + 1) = fixedLit.take k ++ [7]) := Lib.hid (by rw [Hn.out, if_neg (by omega), if_neg (by omega), if_pos h'])
        have h1 : (144 : Int) ≤ (k : Int) := by omega
        have h2 : (256 : Int) ≤ (k : Int) := by omega
        have h3 : ¬ (k : Int) < 256 := by omega
        have h4 : (k : Int) < 280 := by omega
        clear h h' Hn
        go_wp2_with (at_builtin; refine wpList_append64 rfl (.tmp 24) (.tmp 26) rfl w.heap.size _ (asZ (fixedLit.take k)) rfl (HO.out.alloc _) ⟨wr.heap.size, 0, none⟩ 1 [7] rfl (cells_newZ _ _) (by simp) (by simp; have := hlen.out; omega) w (Hb.out.alloc Hb.out.size _) (by have := Hb.out.size; simp; omega) ?_; intro v3 w3 Ho3 Hb3 _)
        go_roundg g
        case measure => omega
        case rel => exact ⟨k + 1, by omega, by go_num, by show Own64 _ _ _ _; rw [hr.out, asZ_snoc]; exact Ho3.out, Hb3.out⟩
      · have hr : Hid (fixedLit.take (k + 1) = fixedLit.take k ++ [8]) := Lib.hid (by rw [Hn.out, if_neg (by omega), if_neg (by omega), if_neg (by omega)])
        have h1 : (144 : Int) ≤ (k : Int) := by omega
        have h2 : (256 : Int) ≤ (k : Int) := by omega
        have h3 : ¬ (k : Int) < 256 := by omega
        have h4 : ¬ (k : Int) < 280 := by omega
        clear h Hn
        go_wp2_with (at_builtin; refine wpList_append64 rfl (.tmp 24) (.tmp 26) rfl w.heap.size _ (asZ (fixedLit.take k)) rfl (HO.out.alloc _) ⟨wr.heap.size, 0, none⟩ 1 [8] rfl (cells_newZ _ _) (by simp) (by simp; have := hlen.out; omega) w (Hb.out.alloc Hb.out.size _) (by have := Hb.out.size; simp; omega) ?_; intro v3 w3 Ho3 Hb3 _)
        go_roundg g
        case measure => omega
        case rel => exact ⟨k + 1, by omega, by go_num, by show Own64 _ _ _ _; rw [hr.out, asZ_snoc]; exact Ho3.out, Hb3.out⟩
end
end Go.Proofs.YtiiiokikmjgliaaGreatDoor
