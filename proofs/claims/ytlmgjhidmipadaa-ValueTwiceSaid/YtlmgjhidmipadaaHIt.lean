/-
  VPIter, VPSize, VPDepth: texts merged.
-/
import Derived.RangeFuncNested
import Derived.RangeFuncBound
import Derived.RangeFuncBox
import Derived.RangeFuncCalls
import Derived.RangeFuncLeaves
import Derived.Shelf.Abstract
import Derived.Shelf.RegionOpen
import Derived.WalkKit
import Derived.OwnWalkIn
import Derived.TacticsInMore
import Derived.LoopNIn
import Derived.LoopIn
import Derived.Test.YtlmgjhidmipadaaHZero
import Derived.Test.YtlmgjhidmipadaaHPlain
import Derived.Test.YtlmgjhidmipadaaHBare
import Derived.Test.YtlmgjhidmipadaaVRDepth
/-
  The program's: what a value holds, told in order, whatever the loop's body does.
-/
namespace Go.Proofs.Ytlmgjhidmipadaa
section
open Go.RowKit Go.Shelf
set_option maxRecDepth 100000
attribute [local go_sem] Oper.semAt_some

/-- A place in a list. -/
abbrev Idx (n : Nat) := { k : Nat // k < n }
/-- What a value holds. -/
def heldV (v : Val) : List Val := v.l ++ v.d.map Prod.snd
def heldAt (v : Val) (i : Nat) : Val := (heldV v)[i]?.getD .null
theorem heldV_length (v : Val) : (heldV v).length = v.l.length + v.d.length := by unfold heldV; rw [List.length_append, List.length_map]
theorem heldAt_l {v : Val} {i : Nat} (h : i < v.l.length) : heldAt v i = v.l[i] := by
  unfold heldAt heldV
  rw [List.getElem?_append_left h, List.getElem?_eq_getElem h, Option.getD_some]
theorem heldAt_d {v : Val} {i : Nat} (h : i < v.d.length) : heldAt v (v.l.length + i) = (v.d[i]).2 := by
  unfold heldAt heldV
  rw [List.getElem?_append_right (Nat.le_add_right _ _), Nat.add_sub_cancel_left, List.getElem?_map, List.getElem?_eq_getElem h]
  rfl
theorem held_mem {v : Val} {i : Nat} (h : i < (heldV v).length) : heldAt v i ∈ v.l ∨ ∃ p ∈ v.d, heldAt v i = p.2 := by
  unfold heldAt
  rw [List.getElem?_eq_getElem h, Option.getD_some]
  have h2 := List.getElem_mem h
  unfold heldV at h2 ⊢
  rcases List.mem_append.1 h2 with h3 | h3
  · exact .inl h3
  · obtain ⟨p, hp, e⟩ := List.mem_map.1 h3
    exact .inr ⟨p, hp, e.symm⟩
/-- What it holds, in memory. -/
def HeldR (w : World) (S : Nat → Prop) (x : Hv) (v : Val) (hs : Nat → Hv) : Prop :=
  (x.l.len = v.l.length ∧ x.d.len = v.d.length) ∧ ∃ (lb lo db dof : Nat) (ks : Nat → ByteArray), (x.l.len ≠ 0 → x.l.p = some ⟨lb, lo, none⟩ ∧ S lb) ∧ (x.d.len ≠ 0 → x.d.p = some ⟨db, dof, none⟩ ∧ S db) ∧
    (∀ i, i < v.l.length → HvAt w lb (lo + i * 6) (hs i)) ∧ (∀ i, i < v.d.length → HpAt w db (dof + i * 7) ⟨ks i, hs (v.l.length + i)⟩) ∧ ∀ i, i < (heldV v).length → Rd w S (hs i) (heldAt v i)
theorem held_of {w : World} {S : Nat → Prop} {x : Hv} {v : Val} (h : Rd w S x v) : ∃ hs, HeldR w S x v hs := by
  obtain ⟨-, ⟨h1, -, b, o, ls, h2, h3, h4⟩, ⟨h5, -, b', o', ds, h6, h7, h8⟩⟩ := rd_iff.1 h
  obtain ⟨hs, hhs⟩ : ∃ hs : Nat → Hv, ∀ i, hs i = if i < v.l.length then ls i else (ds (i - v.l.length)).v := ⟨_, fun _ => rfl⟩
  refine ⟨hs, ⟨h1, h5⟩, b, o, b', o', fun i => (ds i).key, h2, h6, ?_, ?_, ?_⟩
  · intro i hi
    rw [hhs, if_pos hi]
    exact h3 i hi
  · intro i hi
    rw [hhs, if_neg (by omega), Nat.add_sub_cancel_left]
    exact h7 i hi
  · intro i hi
    rw [heldV_length] at hi
    by_cases hl : i < v.l.length
    · rw [hhs, if_pos hl, heldAt_l hl]
      exact h4 i hl
    · obtain ⟨j, rfl⟩ : ∃ j, i = v.l.length + j := ⟨i - v.l.length, by omega⟩
      rw [hhs, if_neg hl, Nat.add_sub_cancel_left, heldAt_d (by omega)]
      exact (h8 j (by omega)).2
theorem HeldR.later {w w' : World} {S : Nat → Prop} {x : Hv} {v : Val} {hs : Nat → Hv} (h : HeldR w S x v hs) (hb : ∀ k, S k → w'.heap[k]? = w.heap[k]?) : HeldR w' S x v hs := by
  obtain ⟨h0, lb, lo, db, dof, ks, h1, h2, h3, h4, h5⟩ := h
  exact ⟨h0, lb, lo, db, dof, ks, h1, h2, fun i hi => (h3 i hi).same (hb _ (h1 (by omega)).2), fun i hi => (h4 i hi).same (hb _ (h2 (by omega)).2), fun i hi => (h5 i hi).later hb⟩
/-- What a round hands on: what is read, and the box. -/
def KeepT (T : Nat → Prop) (W W' : World) : Prop := W.heap.size ≤ W'.heap.size ∧ ∀ k, T k → W'.heap[k]? = W.heap[k]?
theorem keepT_t {T : Nat → Prop} {X Y Z : World} (h : KeepT T X Y) (h' : KeepT T Y Z) : KeepT T X Z := ⟨Nat.le_trans h.1 h'.1, fun k hk => (h'.2 k hk).trans (h.2 k hk)⟩
theorem keepT_b {T : Nat → Prop} {w : World} (hT : ∀ k, T k → k < w.heap.size) (W : World) (l : Nat) (o o' : Obj) (hl : w.heap.size ≤ l) (_ : W.heap[l]? = some o) (_ : o.isCells = false) (_ : o.isWalk = false) : KeepT T W (W.putObj l o') :=
  ⟨by simp [World.putObj], fun k hk => World.putObj_heap_other (by have := hT k hk; omega)⟩
/-- A value, as a round is handed it. -/
def encH (hs : Nat → Hv) {n : Nat} (x : Idx n) : Array Value := #[.agg (hs x.val).arr]
theorem grown_one {w : World} (o : Obj) : w.grownBy (w.alloc o) none := World.grownBy_alloc w o none

/-- What the loops keep. -/
def HeldW (n Bn : Nat) (S : Nat → Prop) (x : Hv) (v : Val) (hs : Nat → Hv) (w : World) : Prop := n ≤ w.heap.size ∧ w.heap[Bn]? = some (.cells x.arr 25) ∧ HeldR w S x v hs
theorem HeldW.kept {n Bn : Nat} {S : Nat → Prop} {x : Hv} {v : Val} {hs : Nat → Hv} {w w' : World} (h : HeldW n Bn S x v hs w) (hk : KeepT (fun k => S k ∨ k = Bn) w w') : HeldW n Bn S x v hs w' :=
  ⟨Nat.le_trans h.1 hk.1, (hk.2 _ (.inr rfl)).trans h.2.1, h.2.2.later (fun k hS => hk.2 k (.inl hS))⟩
theorem next_held {n Bn : Nat} {S : Nat → Prop} {x : Hv} {v : Val} {hs : Nat → Hv} {w w' : World} {o : Obj} (hw : w.alloc o = w') (hn : n ≤ w.heap.size) (hS : ∀ k, S k → k < n) (hb : w.heap[Bn]? = some (.cells x.arr 25)) (hr : HeldR w S x v hs) : HeldW n Bn S x v hs w' := by
  subst hw
  have hlt := (Array.getElem?_eq_some_iff.1 hb).1
  exact ⟨by simp; omega, (Below.heap_alloc _ _ _ hlt).trans hb, hr.later (fun k hk => Below.heap_alloc _ _ _ (by have := hS k hk; omega))⟩

set_option maxHeartbeats 4000000 in
theorem within_core (n : Nat) (hn : 1 ≤ n) (l Bn : Nat) (x : Hv) (v : Val) (hs : Nat → Hv) (S : Nat → Prop) (W : World) (J Jx : Nat → World → Prop) (hJ : ∀ i X Y, J i X → X.grownBy Y none → J i Y)
    (hY : ∀ i W1, J i W1 → i < (heldV v).length → YieldAt Fence.wide (n - 1) Try.prog l #[.agg (hs i).arr] W1 fun e W' =>
      (e = .returned (.bool true) ∧ J (i + 1) W' ∧ KeepT (fun k => S k ∨ k = Bn) W1 W') ∨ (e = .returned (.bool false) ∧ Jx i W'))
    (hlen : (heldV v).length ≤ 100000) (hS : ∀ k, S k → k < W.heap.size) (hBn : W.heap[Bn]? = some (.cells x.arr 25)) (hH : HeldR W S x v hs) (h0 : J 0 W) :
    CallsIn Fence.wide n Try.prog 49 #[.func (.yield l) #[] #[], .pointer (some ⟨Bn, 0, none⟩)] W fun e W' => (∃ u, e = .returned u) ∧
      (J (heldV v).length W' ∨ (∃ i, Jx i W')) := by
  have hlv := heldV_length v
  obtain ⟨xk, xn, xg, xs, ⟨lp, ll, lc⟩, ⟨dp, dl, dc⟩⟩ := x
  have hl1 := hH.1.1
  have hd1 := hH.1.2
  dsimp only at hl1 hd1
  have HH := Lib.hid hH
  have HS := Lib.hid hS
  have HJ := Lib.hid hJ
  have HY := Lib.hid hY
  have Hlv := Lib.hid hlv
  have hll : ll ≤ 100000 := by omega
  have hdl : dl ≤ 100000 := by omega
  have Hl1 := Lib.hid hl1
  have Hd1 := Lib.hid hd1
  have hB4 : W.cell? ⟨Bn, 4, none⟩ = some (.slice lp ll lc) := by unfold World.cell?; simp [hBn, Hv.arr]
  clear hH hS hJ hY hlv hl1 hd1 hlen
  refine callsIn_of_wp Try.func49 rfl trivial ?_ rfl
  simp only [Try.ntmps49, List.size_toArray, List.length_cons, List.length_nil, Nat.reduceAdd, Nat.reduceSub, Array.replicate_succ, Array.replicate_zero, List.push_toArray, List.append_toArray, List.nil_append, List.cons_append]
  gi_wp2
  gi_loopw [10] (fun p wr => ∃ i : Nat, p = .int .i64 (i : Int) ∧ i ≤ ll ∧ Aside (W.heap.size ≤ wr.heap.size) ∧
      Aside (wr.heap[Bn]? = some (.cells #[.int .i64 xk, .int .i64 xn, .int .i64 xg, .string xs, .slice lp ll lc, .slice dp dl dc] 25)) ∧ Aside (HeldR wr S ⟨xk, xn, xg, xs, ⟨lp, ll, lc⟩, ⟨dp, dl, dc⟩⟩ v hs) ∧ Aside (J i wr))
    (fun p _ => (ll - (intOf p)).toNat)
  case atStart =>
    exact ⟨0, rfl, Nat.zero_le _, Nat.le_refl _, hBn, HH.out, h0⟩
  case round =>
    obtain ⟨i, rfl, hi, HZ, HBx, HR, HJs⟩ := hrel
    by_cases hil : i < ll
    · have HRh := Lib.hid HR.out
      obtain ⟨⟨h1, -⟩, lb, lo, db, dof, ks, h3, h4, h5, h6, h7⟩ := HR.out
      clear HR
      dsimp only at h1 h3
      obtain ⟨h3a, h3b⟩ := h3 (by omega)
      subst h3a
      have hil' : i < v.l.length := by have := Hl1.out; omega
      have h5i := h5 i hil'
      obtain ⟨y, hy⟩ : ∃ y, hs i = y := ⟨_, rfl⟩
      rw [hy] at h5i
      obtain ⟨yk, yn, yg, ys, ⟨ylp, yll, ylc⟩, ⟨ydp, ydl, ydc⟩⟩ := y
      obtain ⟨e0, e1, e2, e3, e4, e5⟩ := h5i
      dsimp only at e0 e1 e2 e3 e4 e5
      obtain ⟨W1, hW1⟩ : ∃ W1, wr.alloc (.cells #[.int .i64 yk, .int .i64 yn, .int .i64 yg, .string ys, .slice ylp yll ylc, .slice ydp ydl ydc] 25) = W1 := ⟨_, rfl⟩
      have HN := Lib.hid (next_held (o := .cells #[.int .i64 yk, .int .i64 yn, .int .i64 yg, .string ys, .slice ylp yll ylc, .slice ydp ydl ydc] 25) hW1 HZ.out HS.out HBx.out HRh.out)
      have hJ1 : J i W1 := HJ.out i wr W1 HJs.out (by rw [← hW1]; exact grown_one _)
      have hin : i < (heldV v).length := by have := Hlv.out; omega
      obtain ⟨fn, tmps, assign, body, hyd, hR⟩ := HY.out i W1 hJ1 hin
      rw [hy] at hyd
      dsimp only [Hv.arr] at hyd
      have HW1 := Lib.hid hW1
      clear h3 h4 h5 h6 h7 h3b h1 hJ1 hBn hB4 hW1
      gi_wp2_with fail
      rw [HW1.out, hyd]
      gi_wp2
      refine hR.mono ?_
      clear hyd hR e0 e1 e2 e3 e4 e5 HW1 hy
      rintro e W3 (⟨rfl, hJ3, hk3⟩ | ⟨rfl, hJx3⟩)
      · have HN3 := Lib.hid (HN.out.kept hk3)
        have HJ3 := Lib.hid hJ3
        clear hk3 hJ3
        gi_wp2
        go_roundw
        case rel =>
          exact ⟨i + 1, by go_num, by omega, HN3.out.1, HN3.out.2.1, HN3.out.2.2, (show Aside (J (i + 1) W3) from HJ3.out)⟩
        case measure => simp [intOf]; omega
      · gi_wp2
        refine bodyPost_ret (results_none rfl _ _ _) rfl ?_
        exact ⟨⟨_, rfl⟩, .inr ⟨_, hJx3⟩⟩
    · obtain rfl : i = ll := by omega
      have hB5 : wr.cell? ⟨Bn, 5, none⟩ = some (.slice dp dl dc) := by have h := HBx.out; unfold World.cell?; simp [h]
      clear hB4 hBn hil hi
      have HB1 := Lib.hid HBx.out
      have HZ1 := Lib.hid HZ.out
      have HR1 := Lib.hid HR.out
      have HJ1 := Lib.hid HJs.out
      clear HBx HZ HR HJs
      gi_wp2
      gi_loopw [22] (fun p wq => ∃ j : Nat, p = .int .i64 (j : Int) ∧ j ≤ dl ∧ Aside (W.heap.size ≤ wq.heap.size) ∧
          Aside (wq.heap[Bn]? = some (.cells #[.int .i64 xk, .int .i64 xn, .int .i64 xg, .string xs, .slice lp i lc, .slice dp dl dc] 25)) ∧ Aside (HeldR wq S ⟨xk, xn, xg, xs, ⟨lp, i, lc⟩, ⟨dp, dl, dc⟩⟩ v hs) ∧ Aside (J (i + j) wq))
        (fun p _ => (dl - (intOf p)).toNat)
      case atStart =>
        exact ⟨0, rfl, Nat.zero_le _, HZ1.out, HB1.out, HR1.out, HJ1.out⟩
      case round =>
        clear HB1 HZ1 HR1 HJ1 hB5
        obtain ⟨j, rfl, hj, HZ, HBx, HR, HJs⟩ := hrel
        by_cases hjl : j < dl
        · have HRh := Lib.hid HR.out
          obtain ⟨⟨-, h2⟩, lb, lo, db, dof, ks, h3, h4, h5, h6, h7⟩ := HR.out
          clear HR
          dsimp only at h2 h4
          obtain ⟨h4a, h4b⟩ := h4 (by omega)
          subst h4a
          have hjl' : j < v.d.length := by have := Hd1.out; omega
          have h6j := h6 j hjl'
          obtain ⟨y, hy⟩ : ∃ y, hs (v.l.length + j) = y := ⟨_, rfl⟩
          rw [hy] at h6j
          obtain ⟨key, hkey⟩ : ∃ key, ks j = key := ⟨_, rfl⟩
          rw [hkey] at h6j
          obtain ⟨yk, yn, yg, ys, ⟨ylp, yll, ylc⟩, ⟨ydp, ydl, ydc⟩⟩ := y
          obtain ⟨ek, e0, e1, e2, e3, e4, e5⟩ := h6j
          dsimp only at ek e0 e1 e2 e3 e4 e5
          replace e1 : wr.cell? ⟨db, dof + j * 7 + 2, none⟩ = _ := e1
          replace e2 : wr.cell? ⟨db, dof + j * 7 + 3, none⟩ = _ := e2
          replace e3 : wr.cell? ⟨db, dof + j * 7 + 4, none⟩ = _ := e3
          replace e4 : wr.cell? ⟨db, dof + j * 7 + 5, none⟩ = _ := e4
          replace e5 : wr.cell? ⟨db, dof + j * 7 + 6, none⟩ = _ := e5
          obtain ⟨W1, hW1⟩ : ∃ W1, wr.alloc (.cells #[.string key, .int .i64 yk, .int .i64 yn, .int .i64 yg, .string ys, .slice ylp yll ylc, .slice ydp ydl ydc] 50) = W1 := ⟨_, rfl⟩
          have HN := Lib.hid (next_held (o := .cells #[.string key, .int .i64 yk, .int .i64 yn, .int .i64 yg, .string ys, .slice ylp yll ylc, .slice ydp ydl ydc] 50) hW1 HZ.out HS.out HBx.out HRh.out)
          have hJ1 : J (i + j) W1 := HJ.out _ wr W1 HJs.out (by rw [← hW1]; exact grown_one _)
          have hin : i + j < (heldV v).length := by have := Hlv.out; have := Hl1.out; omega
          obtain ⟨fn, tmps, assign, body, hyd, hR⟩ := HY.out (i + j) W1 hJ1 hin
          rw [Hl1.out, hy] at hyd
          dsimp only [Hv.arr] at hyd
          have HW1 := Lib.hid hW1
          clear h3 h4 h5 h6 h7 h4b h2 hJ1 hW1 hkey
          gi_wp2_with fail
          rw [HW1.out, hyd]
          gi_wp2
          refine hR.mono ?_
          clear hyd hR ek e0 e1 e2 e3 e4 e5 HW1 hy
          rintro e W3 (⟨rfl, hJ3, hk3⟩ | ⟨rfl, hJx3⟩)
          · have HN3 := Lib.hid (HN.out.kept hk3)
            have HJ3 := Lib.hid hJ3
            clear hk3 hJ3
            gi_wp2
            go_roundw
            case rel =>
              exact ⟨j + 1, by go_num, by omega, HN3.out.1, HN3.out.2.1, HN3.out.2.2, (show Aside (J (i + j + 1) W3) from HJ3.out)⟩
            case measure => simp [intOf]; omega
          · gi_wp2
            refine bodyPost_ret (results_none rfl _ _ _) rfl ?_
            exact ⟨⟨_, rfl⟩, .inr ⟨_, hJx3⟩⟩
        · obtain rfl : j = dl := by omega
          gi_wp2
          go_end0
          exact ⟨⟨_, rfl⟩, .inl (by rw [Hlv.out, ← Hl1.out, ← Hd1.out]; exact HJs.out)⟩
theorem within_in (n : Nat) (hn : 1 ≤ n) (l Bn : Nat) (x : Hv) (v : Val) (hs : Nat → Hv) (S : Nat → Prop) (W : World) (J Jx : List (Idx (heldV v).length) → World → Prop) (hJ : AbidesFrom W.heap.size J)
    (hY : ∀ pre i W1, J pre W1 → pre.length < (heldV v).length → YieldAt Fence.wide (n - 1) Try.prog l (encH hs i) W1 fun e W' =>
      (e = .returned (.bool true) ∧ J (pre ++ [i]) W' ∧ KeepT (fun k => S k ∨ k = Bn) W1 W') ∨ (e = .returned (.bool false) ∧ Jx (pre ++ [i]) W'))
    (hlen : (heldV v).length ≤ 100000) (hS : ∀ k, S k → k < W.heap.size) (hBn : W.heap[Bn]? = some (.cells x.arr 25)) (hH : HeldR W S x v hs) (h0 : J [] W) :
    CallsIn Fence.wide n Try.prog 49 #[.func (.yield l) #[] #[], .pointer (some ⟨Bn, 0, none⟩)] W fun e W' => (∃ u, e = .returned u) ∧
      ((∃ ys : List (Idx (heldV v).length), ys.map Subtype.val = List.range (heldV v).length ∧ J ys W') ∨ (∃ pre, True ∧ Jx pre W')) := by
  refine (within_core n hn l Bn x v hs S W (fun i W => ∃ ys : List (Idx (heldV v).length), ys.map Subtype.val = List.range i ∧ J ys W) (fun _ W => ∃ pre, True ∧ Jx pre W)
    (fun i X Y ⟨ys, h1, h2⟩ hg => ⟨ys, h1, hJ ys X Y none h2 hg (fun r e => by cases e)⟩) ?_ hlen hS hBn hH ⟨[], rfl, h0⟩).mono fun e W' h => ⟨h.1, h.2.imp id fun ⟨_, h⟩ => h⟩
  rintro i W1 ⟨ys, h1, h2⟩ hi
  have hl : ys.length = i := by have h := congrArg List.length h1; rwa [List.length_map, List.length_range] at h
  refine (hY ys ⟨i, hi⟩ W1 h2 (by omega)).mono ?_
  rintro e W' (⟨h3, h4, h5⟩ | ⟨h3, h4⟩)
  · exact .inl ⟨h3, ⟨_, by rw [List.map_append, h1, List.range_succ]; rfl, h4⟩, h5⟩
  · exact .inr ⟨h3, _, trivial, h4⟩
set_option maxHeartbeats 1000000 in
theorem within_maker (n : Nat) (x : Hv) (w : World) :
    CallsIn Fence.wide n Try.prog 35 #[.agg x.arr] w fun e w' => e = .returned (.func (.func 49) #[] #[.pointer (some ⟨w.heap.size, 0, none⟩)]) ∧ w' = w.alloc (.cells x.arr 25) := by
  obtain ⟨xk, xn, xg, xs, ⟨lp, ll, lc⟩, ⟨dp, dl, dc⟩⟩ := x
  show CallsIn Fence.wide n Try.prog 35 #[.agg #[.int .i64 xk, .int .i64 xn, .int .i64 xg, .string xs, .slice lp ll lc, .slice dp dl dc]] w fun e w' => e = .returned (.func (.func 49) #[] #[.pointer (some ⟨w.heap.size, 0, none⟩)]) ∧ w' = w.alloc (.cells #[.int .i64 xk, .int .i64 xn, .int .i64 xg, .string xs, .slice lp ll lc, .slice dp dl dc] 25)
  refine callsIn_of_wp Try.func35 rfl trivial ?_ rfl
  simp only [Try.ntmps35, List.size_toArray, List.length_cons, List.length_nil, Nat.reduceAdd, Nat.reduceSub, Array.replicate_succ, Array.replicate_zero, List.push_toArray, List.append_toArray, List.nil_append, List.cons_append]
  gi_wp2
  go_ret
  exact ⟨rfl, rfl⟩
/-- What within hands back tells the values that are held, in order. -/
theorem within_stops (n : Nat) (hn : 1 ≤ n) (Bn : Nat) (x : Hv) (v : Val) (hs : Nat → Hv) (S : Nat → Prop) (w : World) (hlen : (heldV v).length ≤ 100000) (hS : ∀ k, S k → k < w.heap.size) (hBn : w.heap[Bn]? = some (.cells x.arr 25)) (hH : HeldR w S x v hs) :
    SeqStopsK Fence.wide n Try.prog 49 #[.pointer (some ⟨Bn, 0, none⟩)] (encH hs (n := (heldV v).length)) (KeepT (fun k => S k ∨ k = Bn))
      (fun ys : List (Idx (heldV v).length) => ys.map Subtype.val = List.range (heldV v).length) (fun _ => True) (heldV v).length w := fun l J Jx W hW hJ _ hY h0 =>
  within_in n hn l Bn x v hs S W J Jx hJ hY hlen (fun k hk => Nat.lt_of_lt_of_le (hS k hk) hW.size) ((hW.block Bn (Array.getElem?_eq_some_iff.1 hBn).1).trans hBn) (hH.later (fun k hk => hW.block k (hS k hk))) h0
end
end Go.Proofs.Ytlmgjhidmipadaa
/-
  The program's: how many values a value is.
-/
namespace Go.Proofs.Ytlmgjhidmipadaa
section
open Go.RowKit Go.Shelf
set_option maxRecDepth 100000
attribute [local go_sem] Oper.semAt_some

theorem sizeL_sum (l : List Val) : sizeL l = (l.map sizeV).sum := by
  induction l with
  | nil => rfl
  | cons v t ih => rw [sizeL, ih]; simp
theorem sizeD_sum (d : Prs) : sizeD d = (d.map fun p => sizeV p.2).sum := by
  induction d with
  | nil => rfl
  | cons p t ih => obtain ⟨k, v⟩ := p; rw [sizeD, ih]; simp
theorem held_sum (v : Val) : sizeV v = 1 + ((heldV v).map sizeV).sum := by
  rw [sizeV_eq, sizeL_sum, sizeD_sum]
  unfold heldV
  rw [List.map_append, List.sum_append, List.map_map]
  show _ = 1 + (_ + (List.map (fun p => sizeV p.2) v.d).sum)
  omega
/-- A list by its places. -/
theorem held_map {β : Type} (f : Val → β) (v : Val) {ys : List (Idx (heldV v).length)} (h : ys.map Subtype.val = List.range (heldV v).length) : ys.map (fun i => f (heldAt v i.val)) = (heldV v).map f := by
  have e : ys.map (fun i => f (heldAt v i.val)) = (ys.map Subtype.val).map fun i => f (heldAt v i) := by rw [List.map_map]; rfl
  rw [e, h]
  refine List.ext_getElem (by simp) fun i h1 h2 => ?_
  rw [List.length_map] at h2
  rw [List.getElem_map, List.getElem_map, List.getElem_range]
  unfold heldAt
  rw [List.getElem?_eq_getElem h2, Option.getD_some]
theorem held_fit {v : Val} (hf : Fit v 4000) : (heldV v).length ≤ 4000 ∧ ∀ i, i < (heldV v).length → Fit (heldAt v i) 4000 ∧ sizeV (heldAt v i) ≤ 4000 := by
  refine ⟨?_, fun i hi => ?_⟩
  · have h1 := hf.1
    have h2 : ∀ l : List Val, l.length ≤ (l.map sizeV).sum := fun l => by
      induction l with
      | nil => exact Nat.le_refl _
      | cons v t ih => rw [List.map_cons, List.sum_cons, List.length_cons]; have := sizeV_pos v; omega
    have h3 := h2 (heldV v)
    rw [held_sum] at h1
    omega
  · rcases held_mem hi with h1 | ⟨p, hp, e⟩
    · exact ⟨hf.l h1, (hf.l h1).1⟩
    · rw [e]; exact ⟨(hf.d hp).1, (hf.d hp).1.1⟩
theorem held_ind {P : Val → Prop} (h : ∀ v, (∀ i, i < (heldV v).length → P (heldAt v i)) → P v) (v : Val) : P v := by
  induction v using Val.ind with
  | h v hl hd =>
    refine h v fun i hi => ?_
    rcases held_mem hi with h1 | ⟨p, hp, e⟩
    · exact hl _ h1
    · rw [e]; exact hd p hp
/-- The sum of what has come. -/
def sumP (v : Val) (pre : List (Idx (heldV v).length)) : Nat := 1 + (pre.map fun i => sizeV (heldAt v i.val)).sum
theorem sumP_snoc (v : Val) (pre : List (Idx (heldV v).length)) (x : Idx (heldV v).length) : sumP v (pre ++ [x]) = sumP v pre + sizeV (heldAt v x.val) := by unfold sumP; simp; omega
theorem sumP_le {v : Val} (hf : Fit v 4000) : ∀ pre : List (Idx (heldV v).length), sumP v pre ≤ 1 + pre.length * 4000
  | [] => by simp [sumP]
  | x :: t => by
    have h := sumP_le hf t
    have h2 := ((held_fit hf).2 x.val x.2).2
    unfold sumP at h ⊢
    rw [List.map_cons, List.sum_cons, List.length_cons]
    omega

theorem ownFrom_size {β : Type} (B m : Nat) : OwnFrom B (fun (_ : β) W => m ≤ W.heap.size) := fun _ _ _ _ hs hg _ => Nat.le_trans hs hg.size
/-- What holds in the rounds: a number in a box. -/
def NumI {β : Type} (w : World) (f : β → Nat) (pre : β) (W : World) : Prop := (Boxed W (w.heap.size + 1) 3 (.int .i64 (f pre : Nat)) ∧ w.heap.size + 3 ≤ W.heap.size) ∧ Below w.heap.size w W
theorem numI_own {β : Type} (w : World) (f : β → Nat) (B : Nat) (hB : w.heap.size ≤ B) : OwnFrom B (NumI w f) :=
  OwnFrom.and (OwnFrom.and (Own.from (boxed_own (w.heap.size + 1) 3 (fun pre : β => .int .i64 (f pre : Nat))) _) (ownFrom_size _ _)) (ownFrom_below (Nat.le_refl _) hB)
theorem keepT_set {T : Nat → Prop} (W : World) (b : Nat) (v : Value) (h : ∀ k, T k → k ≠ b) : KeepT T W (W.setCell ⟨b, 0, none⟩ v) := ⟨by simp [World.setCell], fun k hk => Below.heap_setCell _ _ _ _ (h k hk)⟩
theorem keepT_below {T : Nat → Prop} {W W' : World} (h : Below W.heap.size W W') (hT : ∀ k, T k → k < W.heap.size) : KeepT T W W' := ⟨h.size, fun k hk => h.block k (hT k hk)⟩
theorem keepsFrom_below {B : Nat} {W W' : World} (h : Below W.heap.size W W') : KeepsFrom B W W' := ⟨h.size, fun k _ _ hk _ => (h.block k (Array.getElem?_eq_some_iff.1 hk).1).trans hk⟩
theorem num_round {β : Type} {w W w' : World} {f : β → Nat} {pre pre' : β} {T : Nat → Prop} {B : Nat} (h : NumI w f pre W) (hT : ∀ k, T k → k < W.heap.size) (hbB : w.heap.size + 1 < B) (hb : Below W.heap.size W.drew w') (hne : ∀ k, T k → k ≠ w.heap.size + 1) :
    KeepsFrom B W (w'.setCell ⟨w.heap.size + 1, 0, none⟩ (.int .i64 (f pre' : Nat))) ∧ KeepT T W (w'.setCell ⟨w.heap.size + 1, 0, none⟩ (.int .i64 (f pre' : Nat))) ∧ NumI w f pre' (w'.setCell ⟨w.heap.size + 1, 0, none⟩ (.int .i64 (f pre' : Nat))) := by
  have hb2 : Below W.heap.size W w' := ⟨hb.os, hb.tape, hb.output, hb.size, hb.block⟩
  have hb3 := h.2.trans (hb2.mono h.2.size)
  have hsz : (w'.setCell ⟨w.heap.size + 1, 0, none⟩ (.int .i64 (f pre' : Nat))).heap.size = w'.heap.size := by simp [World.setCell]
  have hk : ∀ k, k < W.heap.size → k ≠ w.heap.size + 1 → (w'.setCell ⟨w.heap.size + 1, 0, none⟩ (.int .i64 (f pre' : Nat))).heap[k]? = W.heap[k]? := fun k hk hk2 => (Below.heap_setCell _ _ _ _ hk2).trans (hb2.block k hk)
  have hs := hb2.size
  refine ⟨⟨by rw [hsz]; exact hs, fun k o hB ho _ => (hk k (Array.getElem?_eq_some_iff.1 ho).1 (by omega)).trans ho⟩, ⟨by rw [hsz]; exact hs, fun k hk1 => hk k (hT k hk1) (hne k hk1)⟩, ⟨?_, by rw [hsz]; have := h.1.2; omega⟩, hb3.setCell (p := ⟨w.heap.size + 1, 0, none⟩) (Nat.le_succ _) _⟩
  exact Boxed.set (v := .int .i64 (f pre : Nat)) _ ((hb2.block _ (by have := h.1.2; omega)).trans h.1.1)
/-- An element's block. -/
def ElA (N : Nat) (f : Addr → Act) (y : Hv) (a' : Act) (W : World) : Prop := ∃ b, N ≤ b ∧ W.heap[b]? = some (.cells y.arr 25) ∧ a' = f ⟨b, 0, none⟩
theorem elA_own (N B : Nat) (f : Addr → Act) (y : Hv) (a' : Act) : OwnFrom B (fun (_ : Unit) W => ElA N f y a' W) := fun _ X Y row ⟨b, h1, h2, h3⟩ hg hr =>
  ⟨b, h1, (hg.block b (Array.getElem?_eq_some_iff.1 h2).1 (fun e => by obtain ⟨o, ho, hc⟩ := (hr b e.symm).2; rw [h2] at ho; cases ho; cases hc)).trans h2, h3⟩

theorem six_cells {W : World} {b : Nat} {v0 v1 v2 v3 v4 v5 : Value} {ty : TypeId} (h : W.heap[b]? = some (.cells #[v0, v1, v2, v3, v4, v5] ty)) : W.cell? ⟨b, 0, none⟩ = some v0 ∧ W.cell? ⟨b, 1, none⟩ = some v1 ∧ W.cell? ⟨b, 2, none⟩ = some v2 ∧
    W.cell? ⟨b, 3, none⟩ = some v3 ∧ W.cell? ⟨b, 4, none⟩ = some v4 ∧ W.cell? ⟨b, 5, none⟩ = some v5 := by
  unfold World.cell?
  simp [h]
theorem box_behind {w W W' : World} {v : Value} (hlt : w.heap.size + 3 ≤ W.heap.size) (c : W.cell? ⟨w.heap.size + 1, 0, none⟩ = some v) (f : W.frozen? ⟨w.heap.size + 1, 0, none⟩ = false) (hb : Below W.heap.size W.drew W') :
    W'.cell? ⟨w.heap.size + 1, 0, none⟩ = some v ∧ W'.frozen? ⟨w.heap.size + 1, 0, none⟩ = false := by
  have h : W'.heap[w.heap.size + 1]? = W.heap[w.heap.size + 1]? := hb.block (w.heap.size + 1) (by omega)
  unfold World.cell? World.frozen? at *
  simp only [h]
  exact ⟨c, f⟩
def PSizeC (v : Val) : Prop := ∀ (x : Hv) (w : World) (S : Nat → Prop), Rd w S x v → (∀ k, S k → k < w.heap.size) → Fit v 4000 →
  Calls Try.prog 14 #[.agg x.arr] w fun e w' => e = .returned (.int .i64 (sizeV v : Nat)) ∧ Below w.heap.size w w'

set_option maxHeartbeats 4000000 in
theorem psize_any (v : Val) : PSizeC v := by
  induction v using held_ind with
  | h v ih =>
    intro x w S hR hS hf
    obtain ⟨hs, hH⟩ := held_of hR
    obtain ⟨hlen, hfits⟩ := held_fit hf
    have Hih := Lib.hid (show ∀ i (hi : i < (heldV v).length), ∀ (W W1 : World), HeldR W S x v hs → (∀ k, S k → k < W.heap.size) → W1.heap = W.heap → Calls Try.prog 14 #[.agg (hs i).arr] W1 fun e w' => e = .returned (.int .i64 (sizeV (heldAt v i) : Nat)) ∧ Below W.heap.size W1 w' from fun i hi W W1 hW hSW e => by
      obtain ⟨_, _, _, _, _, _, _, _, _, _, h7⟩ := hW
      have h := ih i hi (hs i) W1 S ((h7 i hi).later (fun k _ => by rw [e])) (fun k hk => by rw [e]; exact hSW k hk) (hfits i hi).1
      rw [← e]
      exact h)
    have HF := Lib.hid hf
    have HFits := Lib.hid hfits
    have HS := Lib.hid hS
    have hold := held_sum v
    have Hold := Lib.hid hold
    clear ih hfits hS hf hold hR
    obtain ⟨xk, xn, xg, xs, ⟨lp, ll, lc⟩, ⟨dp, dl, dc⟩⟩ := x
    show Calls Try.prog 14 #[.agg #[.int .i64 xk, .int .i64 xn, .int .i64 xg, .string xs, .slice lp ll lc, .slice dp dl dc]] w _
    refine (callsIn_wide (n := 3)).1 ?_
    refine callsIn_of_wp_marks Try.func14 rfl trivial ?_ rfl
    simp only [Try.ntmps14, List.size_toArray, List.length_cons, List.length_nil, Nat.reduceAdd, Nat.reduceSub, Array.replicate_succ, Array.replicate_zero, List.push_toArray, List.append_toArray, List.nil_append, List.cons_append]
    gi_wp2_with fail
    refine ⟨trivial, ?_⟩
    refine (within_maker _ ⟨xk, xn, xg, xs, ⟨lp, ll, lc⟩, ⟨dp, dl, dc⟩⟩ _).mono ?_
    rintro e w' ⟨rfl, rfl⟩
    gi_wp2_with fail
    have c1 := Boxed.new (w.alloc (.cells #[.int .i64 xk, .int .i64 xn, .int .i64 xg, .string xs, .slice lp ll lc, .slice dp dl dc] 25)) 3 (.int .i64 1)
    simp only [World.size_alloc] at c1
    obtain ⟨W0, hW0⟩ : ∃ W0, ((w.alloc (.cells #[.int .i64 xk, .int .i64 xn, .int .i64 xg, .string xs, .slice lp ll lc, .slice dp dl dc] 25)).alloc (.cells #[.int .i64 1] 3)).alloc (.cells (Hv.arr ⟨xk, xn, xg, xs, ⟨lp, ll, lc⟩, ⟨dp, dl, dc⟩⟩) 25) = W0 := ⟨_, rfl⟩
    have hb0 : Below w.heap.size w W0 := by rw [← hW0]; exact (((Below.refl _ w).alloc (Nat.le_refl _) _).alloc (by simp) _).alloc (by simp; omega) _
    have hsz : W0.heap.size = w.heap.size + 3 := by rw [← hW0]; simp
    have hI0 : NumI w (sumP v) [] W0 := ⟨⟨by rw [← hW0]; exact c1.alloc _, by omega⟩, hb0⟩
    have hbx : W0.heap[w.heap.size + 2]? = some (.cells (Hv.arr ⟨xk, xn, xg, xs, ⟨lp, ll, lc⟩, ⟨dp, dl, dc⟩⟩) 25) := by
      rw [← hW0]
      have h := World.alloc_heap_new ((w.alloc (.cells #[.int .i64 xk, .int .i64 xn, .int .i64 xg, .string xs, .slice lp ll lc, .slice dp dl dc] 25)).alloc (.cells #[.int .i64 1] 3)) (.cells (Hv.arr ⟨xk, xn, xg, xs, ⟨lp, ll, lc⟩, ⟨dp, dl, dc⟩⟩) 25)
      simpa using h
    rw [hW0]
    have hT : ∀ k, (S k ∨ k = w.heap.size + 2) → k < W0.heap.size := fun k hk => by rcases hk with hk | rfl; have := HS.out k hk; omega; omega
    clear hW0 c1
    refine wpIn_rangeFunc_ownH rfl (by omega) (gf := 49) (lb := #[.pointer (some ⟨w.heap.size + 2, 0, none⟩)]) rfl trivial (enters_of Try.func49 (by kernel_rfl) rfl)
      (within_stops _ (by omega) (w.heap.size + 2) ⟨xk, xn, xg, xs, ⟨lp, ll, lc⟩, ⟨dp, dl, dc⟩⟩ v hs S W0 (by omega) (fun k hk => hT k (.inl hk)) hbx (hH.later (fun k hk => hb0.block k (HS.out k hk)))) keepT_t (keepT_b hT) (Below.refl _ _) (fun _ => rfl)
      (NumI w (sumP v)) (fun _ _ _ => False) (numI_own w (sumP v) _ hb0.size) (fun _ _ _ _ _ h _ _ => h) hI0
      (fun x a' W => ElA (w.heap.size + 3) (fun p => { tmps := #[.agg #[.int .i64 xk, .int .i64 xn, .int .i64 xg, .string xs, .slice lp ll lc, .slice dp dl dc], .pointer (some ⟨w.heap.size, 0, none⟩), .int .i64 0, .pointer (some ⟨w.heap.size + 1, 0, none⟩), .pointer (some p), .agg #[.int .i64 xk, .int .i64 xn, .int .i64 xg, .string xs, .slice lp ll lc, .slice dp dl dc], .func (.func 49) #[] #[.pointer (some ⟨w.heap.size + 2, 0, none⟩)], .agg (hs x.val).arr, undef, undef, undef, undef, undef], defers := [] }) (hs x.val) a' W)
      (fun x a' => elA_own _ _ _ _ a') ?assign ?body ?done ?stop
    case assign =>
      intro l pre i W K hI hK
      have hlt := hI.1.2
      have HK := Lib.hid hK
      have HI := Lib.hid hI
      clear hK hI
      obtain ⟨y, hy⟩ : ∃ y, hs i.val = y := ⟨_, rfl⟩
      rw [hy] at HK
      dsimp only [encH]
      rw [hy]
      obtain ⟨yk, yn, yg, ys, ⟨ylp, yll, ylc⟩, ⟨ydp, ydl, ydc⟩⟩ := y
      dsimp only [Hv.arr]
      gi_wp2
      exact HK.out _ _ ((KeepsOthers.alloc _ _).from _) ⟨by simp, fun k hk => Below.heap_alloc _ _ _ (by have := hT k hk; omega)⟩ ⟨⟨HI.out.1.1.alloc _, by simp; omega⟩, HI.out.2.alloc HI.out.2.size _⟩ ⟨W.heap.size, hlt, World.alloc_heap_new W _, rfl⟩
    case body =>
      rintro l pre i a' W _ _ hI ⟨b, hNb, hbk, rfl⟩ hlt
      have hmx : Try.prog.follows .mixedOrders = true := by kernel_rfl
      obtain ⟨y, hy⟩ : ∃ y, hs i.val = y := ⟨_, rfl⟩
      have Hc := Lib.hid (fun W1 => Hih.out i.val i.2 W W1 (hH.later (fun k hk => hI.2.block k (HS.out k hk))) (old_later HS.out hI.2))
      rw [hy] at hbk Hc
      rw [hy]
      obtain ⟨yk, yn, yg, ys, ⟨ylp, yll, ylc⟩, ⟨ydp, ydl, ydc⟩⟩ := y
      dsimp only [Hv.arr] at hbk Hc ⊢
      have hle := sumP_le HF.out pre
      have hle' : sumP v pre ≤ 16004001 := by omega
      have hsv := (HFits.out i.val i.2).2
      have Hsn := Lib.hid (sumP_snoc v pre i)
      obtain ⟨sv, hsv'⟩ : ∃ sv, sizeV (heldAt v i.val) = sv := ⟨_, rfl⟩
      rw [hsv'] at hsv Hc Hsn
      have HI := Lib.hid hI
      obtain ⟨⟨hbx1, hlt1⟩, hbel⟩ := hI
      have c1 := hbx1.cell
      have f1 := hbx1.frozen
      obtain ⟨k0, k1, k2, k3, k4, k5⟩ := six_cells hbk
      clear hbx1 hbel hle hsv' hy hbk
      gi_wp2
      gi_region_with_o (refine ⟨trivial, ?_⟩; refine (CallsIn.inRound l (callsIn_wide.2 (Hc.out W.drew rfl))).mono ?_; rintro e w' ⟨rfl, hbw⟩; obtain ⟨c2, f2⟩ := box_behind hlt1 c1 f1 hbw)
      all_goals
        have hv : IntKind.i64.wrap ((sumP v pre : Int) + (sv : Int)) = ((sumP v (pre ++ [i]) : Nat) : Int) := by rw [Hsn.out, IntKind.wrap_i64]; omega
        rw [hv]
        gi_wp2
        exact num_round HI.out (fun k hk => by have := hT k hk; omega) (by omega) hbw (fun k hk => by rcases hk with hk | rfl; have := HS.out k hk; omega; omega)
    case done =>
      rintro D ys W hD hys ⟨⟨hb1, hlt1⟩, hbel⟩ hK
      have e := held_map sizeV v hys
      have hres : sumP v ys = sizeV v := by unfold sumP; rw [e, ← Hold.out]
      rw [hres] at hb1
      have c1 := hb1.cell
      have Hbel := Lib.hid hbel
      clear hb1 hbel
      gi_wp2
      refine ⟨by simp, .inl ⟨_, _, rfl, run_takeDeferred hK, ?_⟩⟩
      exact ⟨_, results_tmp rfl _ _ _, rfl, Hbel.out.trans (belowK_b (w := w) (Nat.le_refl _) _ D _ _ (by omega) hK rfl rfl)⟩
    case stop =>
      rintro D c pre W _ _ h _
      exact h.elim
end
end Go.Proofs.Ytlmgjhidmipadaa
/-
  The program's: how deep a value is.
-/
namespace Go.Proofs.Ytlmgjhidmipadaa
section
open Go.RowKit Go.Shelf
set_option maxRecDepth 100000
attribute [local go_sem] Oper.semAt_some

def maxS (l : List Nat) : Nat := l.foldr max 0
theorem maxS_append (a b : List Nat) : maxS (a ++ b) = max (maxS a) (maxS b) := by
  induction a with
  | nil => simp [maxS]
  | cons x t ih => unfold maxS at ih ⊢; rw [List.cons_append, List.foldr_cons, List.foldr_cons, ih]; omega
theorem maxS_le {m : Nat} : ∀ {l : List Nat}, (∀ x ∈ l, x ≤ m) → maxS l ≤ m
  | [], _ => Nat.zero_le _
  | x :: t, h => by
    have h1 := h x (List.mem_cons_self ..)
    have h2 := maxS_le (l := t) (fun y hy => h y (List.mem_cons_of_mem _ hy))
    unfold maxS at h2 ⊢
    rw [List.foldr_cons]
    omega
theorem depthL_max (l : List Val) : depthL l = maxS (l.map depthV) := by
  induction l with
  | nil => rfl
  | cons v t ih => rw [depthL, ih]; rfl
theorem depthD_max (d : Prs) : depthD d = maxS (d.map fun p => depthV p.2) := by
  induction d with
  | nil => rfl
  | cons p t ih => obtain ⟨k, v⟩ := p; rw [depthD, ih]; rfl
theorem held_max (v : Val) : maxS ((heldV v).map depthV) = max (depthL v.l) (depthD v.d) := by
  unfold heldV
  rw [List.map_append, maxS_append, List.map_map, depthL_max, depthD_max]
  rfl
/-- The greatest of what has come. -/
def maxP (v : Val) (pre : List (Idx (heldV v).length)) : Nat := maxS (pre.map fun i => depthV (heldAt v i.val))
theorem maxP_snoc (v : Val) (pre : List (Idx (heldV v).length)) (x : Idx (heldV v).length) : maxP v (pre ++ [x]) = max (maxP v pre) (depthV (heldAt v x.val)) := by unfold maxP; rw [List.map_append, maxS_append]; simp [maxS]
theorem maxP_le {v : Val} (hf : Fit v 4000) (pre : List (Idx (heldV v).length)) : maxP v pre ≤ 4000 := by
  refine maxS_le fun x hx => ?_
  obtain ⟨i, _, rfl⟩ := List.mem_map.1 hx
  exact Nat.le_trans (depth_le _) ((held_fit hf).2 i.val i.2).2
def PDepthC (v : Val) : Prop := ∀ (x : Hv) (w : World) (S : Nat → Prop), Rd w S x v → (∀ k, S k → k < w.heap.size) → Fit v 4000 →
  Calls Try.prog 12 #[.agg x.arr] w fun e w' => e = .returned (.int .i64 (depthV v : Nat)) ∧ Below w.heap.size w w'

set_option maxHeartbeats 1000000 in
theorem pdepth_any (v : Val) : PDepthC v := by
  induction v using held_ind with
  | h v ih =>
    intro x w S hR hS hf
    obtain ⟨hs, hH⟩ := held_of hR
    obtain ⟨hlen, hfits⟩ := held_fit hf
    have Hih := Lib.hid (show ∀ i (hi : i < (heldV v).length), ∀ (W W1 : World), HeldR W S x v hs → (∀ k, S k → k < W.heap.size) → W1.heap = W.heap → Calls Try.prog 12 #[.agg (hs i).arr] W1 fun e w' => e = .returned (.int .i64 (depthV (heldAt v i) : Nat)) ∧ Below W.heap.size W1 w' from fun i hi W W1 hW hSW e => by
      obtain ⟨_, _, _, _, _, _, _, _, _, _, h7⟩ := hW
      have h := ih i hi (hs i) W1 S ((h7 i hi).later (fun k _ => by rw [e])) (fun k hk => by rw [e]; exact hSW k hk) (hfits i hi).1
      rw [← e]
      exact h)
    have HF := Lib.hid hf
    have HFits := Lib.hid hfits
    have HS := Lib.hid hS
    have hold : depthV v = if holderV v.kind = true then maxS ((heldV v).map depthV) + 1 else 0 := by rw [depthV_eq, held_max]
    have hk := (rd_iff.1 hR).1.1
    rw [← hk] at hold
    have Hold := Lib.hid hold
    clear ih hfits hS hf hold hR hk
    obtain ⟨xk, xn, xg, xs, ⟨lp, ll, lc⟩, ⟨dp, dl, dc⟩⟩ := x
    show Calls Try.prog 12 #[.agg #[.int .i64 xk, .int .i64 xn, .int .i64 xg, .string xs, .slice lp ll lc, .slice dp dl dc]] w _
    refine (callsIn_wide (n := 3)).1 ?_
    refine callsIn_of_wp_marks Try.func12 rfl trivial ?_ rfl
    simp only [Try.ntmps12, List.size_toArray, List.length_cons, List.length_nil, Nat.reduceAdd, Nat.reduceSub, Array.replicate_succ, Array.replicate_zero, List.push_toArray, List.append_toArray, List.nil_append, List.cons_append]
    gi_wp2_with fail
    refine ⟨trivial, ?_⟩
    refine (callsIn_wide.2 (isHolder_any xk _)).mono ?_
    rintro e w' ⟨rfl, rfl⟩
    obtain ⟨t, ht⟩ : ∃ t, holderV xk = t := ⟨_, rfl⟩
    rw [ht] at Hold ⊢
    cases t
    · gi_wp2
      exact ⟨_, results_tmp rfl _ _ _, by rw [Hold.out]; rfl, (Below.refl _ w).alloc (Nat.le_refl _) _⟩
    gi_wp2_with fail
    refine ⟨trivial, ?_⟩
    refine (within_maker _ ⟨xk, xn, xg, xs, ⟨lp, ll, lc⟩, ⟨dp, dl, dc⟩⟩ _).mono ?_
    rintro e w' ⟨rfl, rfl⟩
    gi_wp2_with fail
    have c1 := Boxed.new (w.alloc (.cells #[.int .i64 xk, .int .i64 xn, .int .i64 xg, .string xs, .slice lp ll lc, .slice dp dl dc] 25)) 3 (.int .i64 0)
    simp only [World.size_alloc] at c1
    obtain ⟨W0, hW0⟩ : ∃ W0, ((w.alloc (.cells #[.int .i64 xk, .int .i64 xn, .int .i64 xg, .string xs, .slice lp ll lc, .slice dp dl dc] 25)).alloc (.cells #[.int .i64 0] 3)).alloc (.cells (Hv.arr ⟨xk, xn, xg, xs, ⟨lp, ll, lc⟩, ⟨dp, dl, dc⟩⟩) 25) = W0 := ⟨_, rfl⟩
    have hb0 : Below w.heap.size w W0 := by rw [← hW0]; exact (((Below.refl _ w).alloc (Nat.le_refl _) _).alloc (by simp) _).alloc (by simp; omega) _
    have hsz : W0.heap.size = w.heap.size + 3 := by rw [← hW0]; simp
    have hI0 : NumI w (maxP v) [] W0 := ⟨⟨by rw [← hW0]; exact c1.alloc _, by omega⟩, hb0⟩
    have hbx : W0.heap[w.heap.size + 2]? = some (.cells (Hv.arr ⟨xk, xn, xg, xs, ⟨lp, ll, lc⟩, ⟨dp, dl, dc⟩⟩) 25) := by
      rw [← hW0]
      have h := World.alloc_heap_new ((w.alloc (.cells #[.int .i64 xk, .int .i64 xn, .int .i64 xg, .string xs, .slice lp ll lc, .slice dp dl dc] 25)).alloc (.cells #[.int .i64 0] 3)) (.cells (Hv.arr ⟨xk, xn, xg, xs, ⟨lp, ll, lc⟩, ⟨dp, dl, dc⟩⟩) 25)
      simpa using h
    rw [hW0]
    have hT : ∀ k, (S k ∨ k = w.heap.size + 2) → k < W0.heap.size := fun k hk => by rcases hk with hk | rfl; have := HS.out k hk; omega; omega
    clear hW0 c1
    refine wpIn_rangeFunc_ownH rfl (by omega) (gf := 49) (lb := #[.pointer (some ⟨w.heap.size + 2, 0, none⟩)]) rfl trivial (enters_of Try.func49 (by kernel_rfl) rfl)
      (within_stops _ (by omega) (w.heap.size + 2) ⟨xk, xn, xg, xs, ⟨lp, ll, lc⟩, ⟨dp, dl, dc⟩⟩ v hs S W0 (by omega) (fun k hk => hT k (.inl hk)) hbx (hH.later (fun k hk => hb0.block k (HS.out k hk)))) keepT_t (keepT_b hT) (Below.refl _ _) (fun _ => rfl)
      (NumI w (maxP v)) (fun _ _ _ => False) (numI_own w (maxP v) _ hb0.size) (fun _ _ _ _ _ h _ _ => h) hI0
      (fun x a' W => ElA (w.heap.size + 3) (fun p => { tmps := #[.agg #[.int .i64 xk, .int .i64 xn, .int .i64 xg, .string xs, .slice lp ll lc, .slice dp dl dc], .pointer (some ⟨w.heap.size, 0, none⟩), .int .i64 0, .pointer (some ⟨w.heap.size + 1, 0, none⟩), .pointer (some p), .pointer (some ⟨w.heap.size, 0, none⟩), .int .i64 xk, .bool true, .bool false, .agg #[.int .i64 xk, .int .i64 xn, .int .i64 xg, .string xs, .slice lp ll lc, .slice dp dl dc], .func (.func 49) #[] #[.pointer (some ⟨w.heap.size + 2, 0, none⟩)], .agg (hs x.val).arr, undef, undef, undef, undef, undef, undef], defers := [] }) (hs x.val) a' W)
      (fun x a' => elA_own _ _ _ _ a') ?assign ?body ?done ?stop
    case assign =>
      intro l pre i W K hI hK
      have hlt := hI.1.2
      have HK := Lib.hid hK
      have HI := Lib.hid hI
      clear hK hI
      obtain ⟨y, hy⟩ : ∃ y, hs i.val = y := ⟨_, rfl⟩
      rw [hy] at HK
      dsimp only [encH]
      rw [hy]
      obtain ⟨yk, yn, yg, ys, ⟨ylp, yll, ylc⟩, ⟨ydp, ydl, ydc⟩⟩ := y
      dsimp only [Hv.arr]
      gi_wp2
      exact HK.out _ _ ((KeepsOthers.alloc _ _).from _) ⟨by simp, fun k hk => Below.heap_alloc _ _ _ (by have := hT k hk; omega)⟩ ⟨⟨HI.out.1.1.alloc _, by simp; omega⟩, HI.out.2.alloc HI.out.2.size _⟩ ⟨W.heap.size, hlt, World.alloc_heap_new W _, rfl⟩
    case body =>
      rintro l pre i a' W _ _ hI ⟨b, hNb, hbk, rfl⟩ hlt
      have hmx : Try.prog.follows .mixedOrders = true := by kernel_rfl
      obtain ⟨y, hy⟩ : ∃ y, hs i.val = y := ⟨_, rfl⟩
      have Hc := Lib.hid (fun W1 => Hih.out i.val i.2 W W1 (hH.later (fun k hk => hI.2.block k (HS.out k hk))) (old_later HS.out hI.2))
      rw [hy] at hbk Hc
      rw [hy]
      obtain ⟨yk, yn, yg, ys, ⟨ylp, yll, ylc⟩, ⟨ydp, ydl, ydc⟩⟩ := y
      dsimp only [Hv.arr] at hbk Hc ⊢
      have hle' := maxP_le HF.out pre
      have hsv := Nat.le_trans (depth_le _) (HFits.out i.val i.2).2
      have Hsn := Lib.hid (maxP_snoc v pre i)
      obtain ⟨sv, hsv'⟩ : ∃ sv, depthV (heldAt v i.val) = sv := ⟨_, rfl⟩
      rw [hsv'] at hsv Hc Hsn
      have HI := Lib.hid hI
      obtain ⟨⟨hbx1, hlt1⟩, hbel⟩ := hI
      have c1 := hbx1.cell
      have f1 := hbx1.frozen
      obtain ⟨k0, k1, k2, k3, k4, k5⟩ := six_cells hbk
      clear hbx1 hbel hsv' hy hbk
      gi_wp2
      gi_region_with_o (refine ⟨trivial, ?_⟩; refine (CallsIn.inRound l (callsIn_wide.2 (Hc.out W.drew rfl))).mono ?_; rintro e w' ⟨rfl, hbw⟩; obtain ⟨c2, f2⟩ := box_behind hlt1 c1 f1 hbw)
      all_goals
        have hv : (if maxP v pre < sv then (sv : Int) else (maxP v pre : Int)) = ((maxP v (pre ++ [i]) : Nat) : Int) := by rw [Hsn.out]; split <;> omega
        rw [hv]
        gi_wp2
        exact num_round HI.out (fun k hk => by have := hT k hk; omega) (by omega) hbw (fun k hk => by rcases hk with hk | rfl; have := HS.out k hk; omega; omega)
    case done =>
      rintro D ys W hD hys ⟨⟨hb1, hlt1⟩, hbel⟩ hK
      have e : maxP v ys = maxS ((heldV v).map depthV) := by unfold maxP; rw [held_map depthV v hys]
      have hle' := maxP_le HF.out ys
      obtain ⟨m, hm⟩ : ∃ m, maxP v ys = m := ⟨_, rfl⟩
      rw [hm] at hb1 hle' e
      have Hres : Hid (depthV v = 1 + m) := Lib.hid (by rw [Hold.out, if_pos trivial, ← e]; omega)
      have c1 := hb1.cell
      have Hbel := Lib.hid hbel
      clear hb1 hbel e hm
      gi_wp2
      refine ⟨by simp, .inl ⟨_, _, rfl, run_takeDeferred hK, ?_⟩⟩
      exact ⟨_, results_tmp rfl _ _ _, by rw [Hres.out]; go_num, Hbel.out.trans (belowK_b (w := w) (Nat.le_refl _) _ D _ _ (by omega) hK rfl rfl)⟩
    case stop =>
      rintro D c pre W _ _ h _
      exact h.elim
end
end Go.Proofs.Ytlmgjhidmipadaa
