/-
  CodeArr, CodeCount, CodeDeal, CodeTurn, TreeAt, CodeRead, CodeCheck: texts merged.
-/
import Derived.Test.YtiiiokikmjgliaaGreatDoorKPlain
import Derived.Test.YtiiiokikmjgliaaGreatDoorRows
import Derived.Test.YtiiiokikmjgliaaGreatDoorKRows
import Derived.WalkKit
import Derived.WalkSpells
import Derived.WalkLawsBesides
import Derived.WalkSmall
import Derived.OwnWalk
import Derived.Lib.Hide
import Derived.Deep.LoopGhost
import Derived.BigQuiet
import Derived.Deep.QuietTactic
import Derived.Deep.RegionWith
import Derived.Deep.RegionHeld3
import Derived.IntWalk
import Derived.Test.YtiiiokikmjgliaaGreatDoorKCodeR
import Derived.Deep.OwnRows
import Derived.Laws.BitsAllLaws
import Derived.Deep.Draws
import Derived.Test.YtiiiokikmjgliaaGreatDoorKHeld
import Derived.WalkMore
import Derived.ChangeKeysEq
import Derived.Laws.StructEq
/-
  The contracts of codes' arrays of numbers for each length: room, starts.
-/
namespace Go.Proofs.YtiiiokikmjgliaaGreatDoor
section
open Go.RowKit
def arr16 (f : Nat → Nat) : Array Value := ((List.range 16).map fun i => Value.int .i64 (f i : Int)).toArray
theorem arr16_size (f : Nat → Nat) : (arr16 f).size = 16 := by simp [arr16]
theorem arr16_at {f : Nat → Nat} {i : Nat} (h : i < 16) : (arr16 f)[i]? = some (.int .i64 (f i : Int)) := by simp [arr16, h]
theorem arr16_one (f : Nat → Nat) : (arr16 f).all (·.oneCell') = true := by
  rw [Array.all_eq_true_iff_forall_mem]
  intro v hv
  simp only [arr16, List.mem_toArray, List.mem_map] at hv
  obtain ⟨i, _, rfl⟩ := hv
  rfl
theorem arr16_ext {f g : Nat → Nat} (h : ∀ i, i < 16 → f i = g i) : arr16 f = arr16 g := by
  unfold arr16
  congr 1
  apply List.map_congr_left
  intro i hi
  rw [h i (List.mem_range.1 hi)]
theorem arr16_set {f : Nat → Nat} {i v : Nat} : (arr16 f).setIfInBounds i (.int .i64 (v : Int)) = arr16 fun k => if k = i then v else f k := by
  apply Array.ext
  · simp [arr16]
  · intro j h1 h2
    simp only [Array.size_setIfInBounds, arr16_size] at h1
    rw [Array.getElem_setIfInBounds (by simpa [arr16_size] using h1)]
    by_cases e : i = j
    · subst e; simp [arr16]
    · rw [if_neg e]; simp [arr16, Ne.symm e]
theorem arr16_zero : arr16 (fun _ => 0) = #[.int .i64 0, .int .i64 0, .int .i64 0, .int .i64 0, .int .i64 0, .int .i64 0, .int .i64 0, .int .i64 0, .int .i64 0, .int .i64 0, .int .i64 0, .int .i64 0, .int .i64 0, .int .i64 0, .int .i64 0, .int .i64 0] := rfl
theorem info_per : (Tryz.prog.info? 195).map (·.size) = some 16 := by kernel_rfl
def ArrAt (w : World) (b : Nat) (f : Nat → Nat) : Prop := w.heap[b]? = some (.cells (arr16 f) 195 (0, 0))
theorem ArrAt.cell {w : World} {b : Nat} {f : Nat → Nat} (h : ArrAt w b f) {i : Nat} (hi : i < 16) : w.cell? ⟨b, i, none⟩ = some (.int .i64 (f i : Int)) := by
  rw [cell_of_row _ _ _ _ _ _ h]; exact arr16_at hi
theorem ArrAt.free {w : World} {b : Nat} {f : Nat → Nat} (h : ArrAt w b f) (j : Nat) : w.frozen? ⟨b, j, none⟩ = false := frozen_of_row _ _ _ _ _ h
theorem ArrAt.put {w : World} {b : Nat} {f : Nat → Nat} (h : ArrAt w b f) (i v : Nat) : ArrAt (w.setCell ⟨b, i, none⟩ (.int .i64 (v : Int))) b (fun k => if k = i then v else f k) := by
  unfold ArrAt
  rw [heap_setCell_same _ _ _ _ _ _ h, arr16_set]
theorem ArrAt.lt {w : World} {b : Nat} {f : Nat → Nat} (h : ArrAt w b f) : b < w.heap.size := by
  rcases Nat.lt_or_ge b w.heap.size with h' | h'
  · exact h'
  · unfold ArrAt at h; rw [Array.getElem?_eq_none h'] at h; simp at h
theorem ArrAt.later {w w' : World} {b : Nat} {f : Nat → Nat} (h : ArrAt w b f) (hb : Below w.heap.size w w') : ArrAt w' b f := (hb.block b h.lt).trans h
theorem ArrAt.other {w : World} {b : Nat} {f : Nat → Nat} (h : ArrAt w b f) {a : Addr} (v : Value) (hne : b ≠ a.block) : ArrAt (w.setCell a v) b f := (heap_setCell_other _ _ _ _ hne).trans h
theorem ArrAt.ext {w : World} {b : Nat} {f g : Nat → Nat} (h : ArrAt w b f) (hfg : ∀ i, i < 16 → f i = g i) : ArrAt w b g := by
  unfold ArrAt at h ⊢
  rwa [← arr16_ext hfg]
def cntN (ns : List Nat) (i : Nat) : Nat := if i = 0 then 0 else ns.count i
set_option maxHeartbeats 1000000 in
theorem room_any (ns : List Nat) (w : World) (hn : ns.length ≤ 320) :
    Calls Tryz.prog 188 #[.agg (arr16 (cntN ns))] w fun e w' => e = .returned (.int .i64 (32768 - (endC ns 15 : Nat) : Int)) ∧ Below w.heap.size w w' := by
  have HA : Hid (ArrAt (w.alloc (.cells (arr16 (cntN ns)) 195)) w.heap.size (cntN ns)) := Lib.hid (heap_alloc_new w _)
  go_enter Tryz.func188, Tryz.ntmps188
  go_wp2_with fail
  go_loopg [3, 8] 15 (fun g s3 s8 wx => ∃ (k : Nat) (z : Int), k + g = 15 ∧ s8 = .int .i64 (k : Int) ∧ s3 = .int .i64 z ∧ -20971520 ≤ z ∧ z ≤ 32768 ∧ Aside (z = ((2 ^ k : Nat) : Int) - (endC ns k : Nat)) ∧ w.alloc (.cells (arr16 (cntN ns)) 195) = wx)
  case atStart => exact ⟨0, 1, rfl, rfl, rfl, by omega, by omega, rfl, rfl⟩
  case round =>
    obtain ⟨k, z, hkg, rfl, rfl, hz1, hz2, HZ, rfl⟩ := hrel
    cases gk with
    | zero =>
      obtain rfl : k = 15 := by omega
      have Hr : Hid ((32768 - (endC ns 15 : Nat) : Int) = z) := Lib.hid (by rw [HZ.out]; rfl)
      go_wp2_with fail
      go_ret
      exact ⟨ret_int (by rw [Hr.out]), (Below.refl _ w).alloc (Nat.le_refl _) _⟩
    | succ g =>
      have hk : (k : Int) < 15 := by omega
      have hc := HA.out.cell (i := 1 + k) (by omega)
      obtain ⟨c, hcv⟩ : ∃ c, cntN ns (1 + k) = c := ⟨_, rfl⟩
      rw [hcv] at hc
      have hc2 : ns.count (k + 1) = c := by rw [← hcv]; unfold cntN; rw [if_neg (by omega), Nat.add_comm]
      have hcl : c ≤ 320 := by have := List.count_le_length (a := k + 1) (l := ns); omega
      have hend : endC ns (k + 1) = 2 * endC ns k + c := by rw [endC, hc2]
      have hb := endC_bound hn (k := k + 1) (by omega)
      have hp : (2 : Nat) ^ (k + 1) ≤ 2 ^ 15 := Nat.pow_le_pow_right (by omega) (by omega)
      have hp2 : (2 : Nat) ^ (k + 1) = 2 * 2 ^ k := by rw [Nat.pow_succ]; omega
      have Hz2 : Hid (2 * z - (c : Int) = ((2 ^ (k + 1) : Nat) : Int) - (endC ns (k + 1) : Nat)) := Lib.hid (by have := HZ.out; omega)
      have hz3 : -20971520 ≤ 2 * z - (c : Int) ∧ 2 * z - (c : Int) ≤ 32768 := by have := Hz2.out; omega
      obtain ⟨hz3, hz4⟩ := hz3
      clear hcv hc2 hend hb hp hp2
      go_wp2_with fail
      go_roundg g
      case measure => omega
      case rel => exact ⟨k + 1, 2 * z - c, by omega, by go_num, by go_num, hz3, hz4, Hz2.out, rfl⟩
def begun (ns : List Nat) (m k : Nat) (i : Nat) : Nat := if i ≤ k then startN ns m i else 0
theorem begun_one (ns : List Nat) (m : Nat) : begun ns m 1 = fun _ => 0 := by
  funext i
  unfold begun
  split
  · rcases i with _ | _ | i
    · rfl
    · rfl
    · omega
  · rfl
theorem begun_put {ns : List Nat} {m k v : Nat} (h : v = startN ns m (k + 1)) : (fun i => if i = k + 1 then v else begun ns m k i) = begun ns m (k + 1) := by
  funext i
  unfold begun
  by_cases e : i = k + 1
  · subst e; rw [if_pos rfl, if_pos (Nat.le_refl _), h]
  · rw [if_neg e]
    have : (i ≤ k + 1) = (i ≤ k) := by apply propext; omega
    simp only [this]
theorem ArrAt.load {ops : Array Oper} {rest : List Oper} {o : Oper} {a : Act} {w : World} {Q : Exit → Act → World → Prop} (hgd : o.guard = none) (x : Operand) (ho : o.op = .load 195 x)
    (b : Nat) (f : Nat → Nat) (hx : a.eval x = .pointer (some ⟨b, 0, none⟩)) (hg : ArrAt w b f) (h : wpList Tryz.prog ops Q rest (a.put o.dst (.agg (arr16 f))) w) : wpList Tryz.prog ops Q (o :: rest) a w :=
  wpList_load_row hgd _ x ho b hx _ _ _ _ hg Tryz.underlying195 rfl (by rw [arr16_size]; exact info_per) h
theorem setRow_below {B : Nat} {a w : World} (h : Below B a w) {g : Nat} (hB : B ≤ g) (cs : Array Value) : Below B a (w.setRow g cs) :=
  h.trans ⟨rfl, rfl, rfl, by simp, fun k hk => setRow_other _ _ _ _ (by omega)⟩
theorem ArrAt.store {ops : Array Oper} {rest : List Oper} {o : Oper} {a : Act} {w : World} {Q : Exit → Act → World → Prop} (hgd : o.guard = none) (hdst : o.dst = none) (x y : Operand) (ho : o.op = .store 195 x y)
    (b : Nat) (f g : Nat → Nat) (hx : a.eval x = .pointer (some ⟨b, 0, none⟩)) (hy : a.eval y = .agg (arr16 f)) (hg : ArrAt w b g) (B : Nat) (w0 : World) (hb : Below B w0 w) (hB : B ≤ b)
    (h : ∀ w', Hid (ArrAt w' b f) → Hid (Below B w0 w') → Hid (∀ k, k ≠ b → w'.heap[k]? = w.heap[k]?) → wpList Tryz.prog ops Q rest a w') : wpList Tryz.prog ops Q (o :: rest) a w := by
  refine wpList_plain hgd fun K hK => ?_
  refine wp_store_row _ x y ho b (arr16 f) hx hy _ (arr16 g) hg (by rw [arr16_size]; exact info_per) (by rw [arr16_size, arr16_size]) (arr16_one f) (hK _ _ ?_)
  have hr := h _ (Lib.hid (setRow_heap _ _ _ _ _ _ hg)) (Lib.hid (setRow_below hb hB _)) (Lib.hid fun k hk => setRow_other _ _ _ _ hk)
  rw [hdst]
  exact hr
theorem results_arr {fn : Func} {p : Tmp} (h : fn.results = #[.cell p 195]) (tmps : Array Value) (w : World) (b : Nat) (f : Nat → Nat) (hp : tmps.getD p undef = .pointer (some ⟨b, 0, none⟩)) (hg : ArrAt w b f) :
    (results fn tmps).run Tryz.prog w = .ok (.agg (arr16 f)) w :=
  results_cell_row h tmps w b _ _ _ _ hp hg Tryz.underlying195 rfl (by rw [arr16_size]; exact info_per)
set_option maxHeartbeats 1000000 in
theorem starts_any (ns : List Nat) (m : Nat) (w : World) (hn : ns.length ≤ 320) (hm : m = 1 ∨ m = 2) :
    Calls Tryz.prog 178 #[.agg (arr16 (cntN ns)), .int .i64 (m : Int)] w fun e w' => e = .returned (.agg (arr16 (startN ns m))) ∧ Below w.heap.size w w' := by
  have HA : Hid (ArrAt (w.alloc (.cells (arr16 (cntN ns)) 195)) w.heap.size (cntN ns)) := Lib.hid (heap_alloc_new w _)
  have hm2 : (m : Int) ≤ 2 := by omega
  go_enter Tryz.func178, Tryz.ntmps178
  go_wp2_with fail
  go_loopg [6] 14 (fun g s6 wx => ∃ k : Nat, k + g = 15 ∧ 0 < k ∧ s6 = .int .i64 (k : Int) ∧ Aside (ArrAt wx w.heap.size (cntN ns) ∧ ArrAt wx (w.heap.size + 1) (fun _ => 0) ∧ ArrAt wx (w.heap.size + 1 + 1) (begun ns m k)) ∧ Below w.heap.size w wx)
  case atStart =>
    refine ⟨1, rfl, by omega, rfl, ⟨?_, ?_, ?_⟩, (((Below.refl _ w).alloc (Nat.le_refl _) _).alloc (by simp) _).alloc (by simp; omega) _⟩
    · exact (HA.out.later ((Below.refl _ _).alloc (Nat.le_refl _) _)).later ((Below.refl _ _).alloc (Nat.le_refl _) _)
    · unfold ArrAt; rw [arr16_zero]; have := heap_alloc2_old (w.alloc (.cells (arr16 (cntN ns)) 195)); simpa using this _ _
    · rw [begun_one]; unfold ArrAt; rw [arr16_zero]; have := heap_alloc2_new (w.alloc (.cells (arr16 (cntN ns)) 195)); simpa using this _ _
  case round =>
    obtain ⟨k, hkg, hk0, rfl, HI, hb⟩ := hrel
    have Hb := Lib.hid hb
    clear hb
    cases gk with
    | zero =>
      obtain rfl : k = 15 := by omega
      go_wp2_with (with_reducible first
        | refine ArrAt.load rfl (.tmp 5) rfl (w.heap.size + 1 + 1) _ rfl HI.out.2.2 ?_
        | (refine ArrAt.store rfl rfl (.tmp 4) (.tmp 23) rfl (w.heap.size + 1) _ _ rfl rfl HI.out.2.1 w.heap.size w Hb.out (by omega) ?_; intro w2 H2 Hb2 _))
      refine bodyPost_ret (results_arr rfl _ _ (w.heap.size + 1) _ rfl (H2.out.ext (g := startN ns m) fun i hi => ?_)) rfl ⟨rfl, Hb2.out⟩
      unfold begun
      rw [if_pos (by omega)]
    | succ g =>
      have hk : (k : Int) < 15 := by omega
      obtain ⟨x, hx⟩ : ∃ x, startN ns m k = x := ⟨_, rfl⟩
      obtain ⟨c, hc⟩ : ∃ c, ns.count k = c := ⟨_, rfl⟩
      have hcl : c ≤ 320 := by have := List.count_le_length (a := k) (l := ns); omega
      have hxl : x ≤ 20971520 := by rw [← hx]; exact startN_bound hn hm (by omega)
      have c0 := HI.out.1.cell (i := k) (by omega)
      have c2 := HI.out.2.2.cell (i := k) (by omega)
      have f2 := HI.out.2.2.free (k + 1)
      have c3 := HI.out.2.2.cell (i := k + 1) (by omega)
      rw [show begun ns m k (k + 1) = 0 by unfold begun; rw [if_neg (by omega)]] at c3
      rw [show cntN ns k = c by unfold cntN; rw [if_neg (by omega), hc]] at c0
      rw [show begun ns m k k = x by unfold begun; rw [if_pos (Nat.le_refl _), hx]] at c2
      have hv : startN ns m (k + 1) = m * (x + c) := by
        obtain ⟨j, rfl⟩ : ∃ j, k = j + 1 := ⟨k - 1, by omega⟩
        rw [startN, hx, hc]
      have hmul : (m : Int) * ((x : Int) + (c : Int)) = ((m * (x + c) : Nat) : Int) := by simp
      obtain ⟨v, hvv⟩ : ∃ v, m * (x + c) = v := ⟨_, rfl⟩
      rw [hvv] at hv hmul
      have hvl : v ≤ 41943680 := by rw [← hvv]; rcases hm with rfl | rfl <;> omega
      have Hput : Hid ((fun i => if i = k + 1 then v else begun ns m k i) = begun ns m (k + 1)) := Lib.hid (begun_put hv.symm)
      have hw1 : IntKind.i64.wrap ((k : Int) + 1) = (k : Int) + 1 := IntWalk.i64_in _ (by omega)
      have hw2 : IntKind.i64.wrap ((x : Int) + (c : Int)) = (x : Int) + (c : Int) := IntWalk.i64_in _ (by omega)
      have hw3 : IntKind.i64.wrap (v : Int) = (v : Int) := IntWalk.i64_in _ (by omega)
      have hk1 : (0 : Int) ≤ (k : Int) + 1 := by omega
      have hk2 : (k : Int) + 1 < 16 := by omega
      have hk3 : (k : Int) < 16 := by omega
      have hk4 : ((k : Int) + 1).toNat = k + 1 := by omega
      clear hx hc hvv hv
      go_wp2_with fail
      go_region
      clear hw1 hw2 hw3
      go_wp2_with fail
      go_roundg g
      case measure => omega
      case rel =>
        refine ⟨k + 1, by omega, by omega, by go_num, ⟨?_, ?_, ?_⟩, (Hb.out.setCell (by simp; omega) _).drew⟩
        · exact HI.out.1.other _ (by simp; omega)
        · exact HI.out.2.1.other _ (by simp)
        · rw [← Hput.out]; exact HI.out.2.2.put (k + 1) v
end
end Go.Proofs.YtiiiokikmjgliaaGreatDoor
/-
  The contract of codes' count.
-/
namespace Go.Proofs.YtiiiokikmjgliaaGreatDoor
section
open Go.RowKit
theorem refusedZ_long {ls : List Int} (h : 320 < ls.length) : refusedZ ls = 2 := by
  unfold refusedZ checkZ; rw [if_pos h]; rfl
theorem refusedZ_bad {ls : List Int} {j : Nat} {v : Int} (h : ls.length ≤ 320) (hj : j < ls.length) (hv : ls[j]?.getD 0 = v) (hb : v < 0 ∨ 15 < v) : refusedZ ls = 3 := by
  unfold refusedZ; rw [check_bad h hj hv hb]; rfl
theorem refusedZ_good {ls : List Int} (h : ls.length ≤ 320) (hall : ∀ l ∈ ls, 0 ≤ l ∧ l ≤ 15) : refusedZ ls = if 32768 < endC (natsOf ls) 15 then 7 else 0 := by
  rw [endC_kraft hall]
  unfold refusedZ
  rw [check_good h hall]
  by_cases h1 : kraft ls = 0
  · have h2 : ¬ 32768 < kraft ls := by omega
    simp [h1]
  · rw [if_neg h1]
    by_cases h2 : 32768 < kraft ls
    · rw [if_pos h2, if_pos h2]; rfl
    · rw [if_neg h2, if_neg h2]
      by_cases h3 : kraft ls < 32768
      · rw [if_pos h3]; rfl
      · rw [if_neg h3]; rfl
theorem cntN_none : cntN [] = fun _ => 0 := by
  funext i; unfold cntN; split <;> rfl
theorem cntN_skip {ns : List Nat} {j : Nat} (h : ns[j]? = some 0) : cntN (ns.take (j + 1)) = cntN (ns.take j) := by
  funext i
  unfold cntN
  by_cases e : i = 0
  · rw [if_pos e, if_pos e]
  · rw [if_neg e, if_neg e, take_count h, if_neg (by omega)]; rfl
theorem cntN_more {ns : List Nat} {j n c : Nat} (h : ns[j]? = some (n + 1)) (hc : cntN (ns.take j) (n + 1) = c) : (fun k => if k = n + 1 then c + 1 else cntN (ns.take j) k) = cntN (ns.take (j + 1)) := by
  funext i
  unfold cntN at hc ⊢
  rw [if_neg (by omega)] at hc
  by_cases e : i = 0
  · subst e; simp
  · rw [if_neg e, if_neg e, take_count h]
    by_cases e2 : i = n + 1
    · subst e2; rw [if_pos rfl, if_pos rfl, hc]
    · rw [if_neg e2, if_neg (by omega)]; rfl
theorem cntN_le (ns : List Nat) (i : Nat) : cntN ns i ≤ ns.length := by
  unfold cntN
  split
  · exact Nat.zero_le _
  · exact List.count_le_length
theorem ArrAt.store0 {ops : Array Oper} {rest : List Oper} {o : Oper} {a : Act} {w : World} {Q : Exit → Act → World → Prop} (hgd : o.guard = none) (hdst : o.dst = none) (x y : Operand) (ho : o.op = .store 195 x y)
    (b : Nat) (g : Nat → Nat) (hx : a.eval x = .pointer (some ⟨b, 0, none⟩)) (hy : a.eval y = .agg #[.int .i64 0, .int .i64 0, .int .i64 0, .int .i64 0, .int .i64 0, .int .i64 0, .int .i64 0, .int .i64 0, .int .i64 0, .int .i64 0, .int .i64 0, .int .i64 0, .int .i64 0, .int .i64 0, .int .i64 0, .int .i64 0]) (hg : ArrAt w b g) (B : Nat) (w0 : World) (hb : Below B w0 w) (hB : B ≤ b)
    (h : ∀ w', Hid (ArrAt w' b fun _ => 0) → Hid (Below B w0 w') → Hid (∀ k, k ≠ b → w'.heap[k]? = w.heap[k]?) → wpList Tryz.prog ops Q rest a w') : wpList Tryz.prog ops Q (o :: rest) a w :=
  ArrAt.store hgd hdst x y ho b _ g hx (by rw [arr16_zero]; exact hy) hg B w0 hb hB h
def Counts (w : World) (ls : List Int) (e : Int) (en : Ending) (w' : World) : Prop :=
  en = .returned (.tuple #[.agg (arr16 (if e = 0 then cntN (natsOf ls) else fun _ => 0)), .int .i64 e]) ∧ Below w.heap.size w w'
theorem results_count (tmps : Array Value) (w : World) (b : Nat) (f : Nat → Nat) (e : Int) (hp : tmps.getD 2 undef = .pointer (some ⟨b, 0, none⟩)) (he : tmps.getD 3 undef = .int .i64 e) (hg : ArrAt w b f) :
    (results Tryz.f175 tmps).run Tryz.prog w = .ok (.tuple #[.agg (arr16 f), .int .i64 e]) w := by
  have hl : (loadVar 195 ⟨b, 0, none⟩).run Tryz.prog w = .ok (.agg (arr16 f)) w := run_loadVar_row w b _ _ _ _ _ hg Tryz.underlying195 rfl (by rw [arr16_size]; exact info_per)
  have hp' : tmps[2]?.getD undef = .pointer (some ⟨b, 0, none⟩) := by simpa using hp
  have he' : tmps[3]?.getD undef = .int .i64 e := by simpa using he
  simp [results, Tryz.results175, hp', he', asAddr, hl]
set_option maxHeartbeats 2000000 in
theorem count_any (p : Option Addr) (cap : Nat) (ls : List Int) (w : World) (hz : ls.length ≤ 1000) (hp : Nums w p ls) :
    Calls Tryz.prog 175 #[.slice p ls.length cap] w (Counts w ls (refusedZ ls)) := by
  have Hp := Lib.hid hp
  have hB : Below w.heap.size w ((w.alloc (.cells (arr16 fun _ => 0) 195)).alloc (.cells (arr16 fun _ => 0) 195)) := ((Below.refl _ w).alloc (Nat.le_refl _) _).alloc (by simp) _
  have HB := Lib.hid hB
  have HA0 : Hid (ArrAt ((w.alloc (.cells (arr16 fun _ => 0) 195)).alloc (.cells (arr16 fun _ => 0) 195)) w.heap.size fun _ => 0) := Lib.hid (heap_alloc2_old w _ _)
  have HA1 : Hid (ArrAt ((w.alloc (.cells (arr16 fun _ => 0) 195)).alloc (.cells (arr16 fun _ => 0) 195)) (w.heap.size + 1) fun _ => 0) := Lib.hid (heap_alloc2_new w _ _)
  rw [arr16_zero] at HB HA0 HA1
  clear hp hB
  by_cases hbig : (320 : Int) < (ls.length : Int)
  · have Hr := Lib.hid (refusedZ_long (ls := ls) (by omega))
    go_enter Tryz.func175, Tryz.ntmps175
    go_wp2_with (with_reducible first
        | refine ArrAt.load rfl (.tmp 4) rfl (w.heap.size + 1) _ rfl HA1.out ?_
        | (refine ArrAt.store0 rfl rfl (.tmp 2) (.tmp 10) rfl w.heap.size _ rfl rfl HA0.out w.heap.size w HB.out (Nat.le_refl _) ?_; intro w2 H2 Hb2 _))
    refine bodyPost_ret (results_count _ _ w.heap.size _ 2 rfl rfl H2.out) rfl ?_
    rw [Hr.out]
    exact ⟨rfl, Hb2.out⟩
  · have hl : ls.length ≤ 320 := by omega
    go_enter Tryz.func175, Tryz.ntmps175
    go_wp2_with fail
    go_loopg [13] ls.length (fun g s13 wx => ∃ j : Nat, j + g = ls.length ∧ s13 = .int .i64 (j : Int) ∧ Aside ((∀ l ∈ ls.take j, 0 ≤ l ∧ l ≤ 15) ∧ ArrAt wx w.heap.size (fun _ => 0) ∧ ArrAt wx (w.heap.size + 1) (cntN ((natsOf ls).take j))) ∧ Below w.heap.size w wx)
    case atStart => exact ⟨0, by omega, rfl, ⟨fun l hl => by simp at hl, HA0.out, by rw [List.take_zero, cntN_none]; exact HA1.out⟩, HB.out⟩
    case round =>
      obtain ⟨j, hjg, rfl, HI, hb⟩ := hrel
      have Hb := Lib.hid hb
      clear hb
      cases gk with
      | zero =>
        obtain rfl : j = ls.length := by omega
        have hall : ∀ l ∈ ls, 0 ≤ l ∧ l ≤ 15 := by have := HI.out.1; rwa [List.take_length] at this
        have hres := refusedZ_good hl hall
        have hnl : (natsOf ls).length = ls.length := natsOf_length ls
        have HA4 : Hid (ArrAt wr (w.heap.size + 1) (cntN (natsOf ls))) := Lib.hid (by have := HI.out.2.2; rwa [← hnl, List.take_length] at this)
        have HN : Hid ((natsOf ls).length ≤ 320) := Lib.hid (by omega)
        obtain ⟨x, hx⟩ : ∃ x, endC (natsOf ls) 15 = x := ⟨_, rfl⟩
        have Hroom := Lib.hid (fun W => room_any (natsOf ls) W HN.out)
        rw [hx] at hres Hroom
        clear hx hall hnl hjg
        by_cases hov : 32768 < x
        · have Hr : Hid (refusedZ ls = 7) := Lib.hid (by rw [hres, if_pos hov])
          have hxz : (32768 : Int) - (x : Int) < 0 := by omega
          clear hres
          go_wp2_with (with_reducible first
            | refine ArrAt.load rfl (.tmp 4) rfl (w.heap.size + 1) _ rfl HA4.out ?_)
          refine (Hroom.out _).mono ?_
          rintro e w1 ⟨rfl, hb⟩
          have HA0' := Lib.hid (HI.out.2.1.later hb)
          have Hb1 := Lib.hid (Hb.out.trans (hb.mono Hb.out.size))
          clear hb
          go_wp2_with (with_reducible first
            | (refine ArrAt.store0 rfl rfl (.tmp 2) (.tmp 35) rfl w.heap.size _ rfl rfl HA0'.out w.heap.size w Hb1.out (Nat.le_refl _) ?_; intro w2 H2 Hb2 _))
          refine bodyPost_ret (results_count _ _ w.heap.size _ 7 rfl rfl H2.out) rfl ?_
          rw [Hr.out]
          exact ⟨rfl, Hb2.out⟩
        · have Hr : Hid (refusedZ ls = 0) := Lib.hid (by rw [hres, if_neg hov])
          have hxz : ¬ (32768 : Int) - (x : Int) < 0 := by omega
          clear hres
          go_wp2_with (with_reducible first
            | refine ArrAt.load rfl (.tmp 4) rfl (w.heap.size + 1) _ rfl HA4.out ?_)
          refine (Hroom.out _).mono ?_
          rintro e w1 ⟨rfl, hb⟩
          have HA0' := Lib.hid (HI.out.2.1.later hb)
          have HA4' := Lib.hid (HA4.out.later hb)
          have Hb1 := Lib.hid (Hb.out.trans (hb.mono Hb.out.size))
          clear hb
          go_wp2_with (with_reducible first
            | refine ArrAt.load rfl (.tmp 4) rfl (w.heap.size + 1) _ rfl HA4'.out ?_
            | (refine ArrAt.store rfl rfl (.tmp 2) (.tmp 36) rfl w.heap.size _ _ rfl rfl HA0'.out w.heap.size w Hb1.out (Nat.le_refl _) ?_; intro w2 H2 Hb2 _))
          refine bodyPost_ret (results_count _ _ w.heap.size _ 0 rfl rfl H2.out) rfl ?_
          rw [Hr.out]
          exact ⟨rfl, Hb2.out⟩
      | succ g =>
        have hj : j < ls.length := by omega
        have hjz : (j : Int) < (ls.length : Int) := by omega
        obtain ⟨b, off, rfl, hc⟩ := (Hp.out.later Hb.out).at j hj
        obtain ⟨v, hv⟩ : ∃ v, ls[j]?.getD 0 = v := ⟨_, rfl⟩
        rw [hv] at hc
        by_cases hbad : v < 0 ∨ 15 < v
        · have Hr := Lib.hid (refusedZ_bad hl hj hv hbad)
          have hcase : v < 0 ∨ (¬ v < 0 ∧ 15 < v) := by omega
          clear hbad hv
          rcases hcase with h | ⟨h, h'⟩
          all_goals
            go_wp2_with (with_reducible first
              | (refine ArrAt.store0 rfl rfl (.tmp 2) (.tmp 23) rfl w.heap.size _ rfl rfl HI.out.2.1 w.heap.size w Hb.out (Nat.le_refl _) ?_; intro w2 H2 Hb2 _))
            refine bodyPost_ret (results_count _ _ w.heap.size _ 3 rfl rfl H2.out) rfl ?_
            rw [Hr.out]
            exact ⟨rfl, Hb2.out⟩
        · obtain ⟨n, rfl⟩ := Int.eq_ofNat_of_zero_le (show 0 ≤ v by omega)
          have h0 : ¬ (n : Int) < 0 := by omega
          have h15 : ¬ 15 < (n : Int) := by omega
          have Hall : Hid (∀ l ∈ ls.take (j + 1), 0 ≤ l ∧ l ≤ 15) := Lib.hid fun l hl => by
            rw [take_more hj hv] at hl
            rcases List.mem_append.1 hl with hl | hl
            · exact HI.out.1 l hl
            · simp at hl; omega
          have hns : (natsOf ls)[j]? = some n := by
            have := natsOf_at hj
            rw [hv, Int.toNat_natCast, List.getElem?_eq_getElem (by rw [natsOf_length]; exact hj)] at this
            rw [List.getElem?_eq_getElem (by rw [natsOf_length]; exact hj)]
            simpa using this
          clear hbad hv
          cases n with
          | zero =>
            have Hsk := Lib.hid (cntN_skip hns)
            clear hns
            go_wp2_with fail
            go_roundg g
            case measure => omega
            case rel => exact ⟨j + 1, by omega, by go_num, ⟨Hall.out, HI.out.2.1, by rw [Hsk.out]; exact HI.out.2.2⟩, Hb.out⟩
          | succ n =>
            have hpz : (0 : Int) < ((n + 1 : Nat) : Int) := by omega
            have hn16 : ((n + 1 : Nat) : Int) < 16 := by omega
            have hcell := HI.out.2.2.cell (i := n + 1) (by omega)
            have hfz := HI.out.2.2.free (n + 1)
            obtain ⟨c, hcv⟩ : ∃ c, cntN ((natsOf ls).take j) (n + 1) = c := ⟨_, rfl⟩
            have hcl : c ≤ 320 := by
              have := cntN_le ((natsOf ls).take j) (n + 1)
              rw [hcv, List.length_take, natsOf_length] at this; omega
            have Hmore := Lib.hid (cntN_more hns hcv)
            rw [hcv] at hcell
            clear hns hcv
            obtain ⟨m, hm⟩ : ∃ m, n + 1 = m := ⟨_, rfl⟩
            rw [hm] at hpz hn16 hcell hfz hc h0 h15 Hmore
            have hput := HI.out.2.2.put m (c + 1)
            rw [Hmore.out] at hput
            have Hput := Lib.hid hput
            clear hput
            go_wp2_with fail
            go_roundg g
            case measure => omega
            case rel => exact ⟨j + 1, by omega, by go_num, ⟨Hall.out, HI.out.2.1.other _ (by simp), Hput.out⟩, Hb.out.setCell (by simp) _⟩
end
end Go.Proofs.YtiiiokikmjgliaaGreatDoor
/-
  The contract of codes' deal.
-/
namespace Go.Proofs.YtiiiokikmjgliaaGreatDoor
section
open Go.RowKit
set_option maxRecDepth 100000 in
set_option maxHeartbeats 2000000 in
theorem deal_any (p : Option Addr) (cap : Nat) (ls : List Int) (g : Nat → Nat) (w : World) (hl : ls.length ≤ 320) (hall : ∀ l ∈ ls, 0 ≤ l ∧ l ≤ 15) (hg : ∀ l, l ≤ 15 → g l ≤ 20971520) (hp : Nums w p ls) :
    Calls Tryz.prog 177 #[.slice p ls.length cap, .agg (arr16 g)] w fun e w' => ∃ a, e = .returned (.slice (some ⟨a, 0, none⟩) ls.length ls.length) ∧ RowAt w' a (dealN (natsOf ls) g) ∧ w.heap.size ≤ a ∧ Below w.heap.size w w' := by
  have Hp := Lib.hid hp
  have Hall := Lib.hid hall
  have Hg := Lib.hid hg
  have Hmake := Lib.hid (make_row ls.length (w.alloc (.cells (arr16 g) 195)) (by omega))
  have hB : Below w.heap.size w ((w.alloc (.cells (arr16 g) 195)).alloc (.cells (cellsZ (asZ (List.replicate ls.length 0))).toArray 3)) := ((Below.refl _ w).alloc (Nat.le_refl _) _).alloc (by simp) _
  have HB := Lib.hid hB
  have HA0 : Hid (ArrAt ((w.alloc (.cells (arr16 g) 195)).alloc (.cells (cellsZ (asZ (List.replicate ls.length 0))).toArray 3)) w.heap.size g) := Lib.hid (heap_alloc2_old w _ _)
  have HR0 : Hid (RowAt ((w.alloc (.cells (arr16 g) 195)).alloc (.cells (cellsZ (asZ (List.replicate ls.length 0))).toArray 3)) (w.heap.size + 1) (List.replicate ls.length 0)) := Lib.hid (heap_alloc2_new w _ _)
  clear hp hB hall hg
  have hmake := Hmake.out
  go_enter Tryz.func177, Tryz.ntmps177
  go_wp2_with fail
  go_loopg [13] ls.length (fun gg s13 wx => ∃ j : Nat, j + gg = ls.length ∧ s13 = .int .i64 (j : Int) ∧ Aside (ArrAt wx w.heap.size (nextG (natsOf ls) g j) ∧ RowAt wx (w.heap.size + 1) (dealtN (natsOf ls) g j)) ∧ Below w.heap.size w wx)
  case atStart => exact ⟨0, by omega, rfl, ⟨by rw [nextG_zero]; exact HA0.out, by rw [dealtN_none, natsOf_length]; exact HR0.out⟩, HB.out⟩
  case round =>
    obtain ⟨j, hjg, rfl, HI, hb⟩ := hrel
    have Hb := Lib.hid hb
    clear hb
    cases gk with
    | zero =>
      obtain rfl : j = ls.length := by omega
      have HR : Hid (RowAt wr (w.heap.size + 1) (dealN (natsOf ls) g)) := Lib.hid (by have := HI.out.2; rwa [← natsOf_length ls, dealtN_all] at this)
      go_wp2_with fail
      go_ret
      exact ⟨w.heap.size + 1, rfl, HR.out, by omega, Hb.out⟩
    | succ gg =>
      have hj : j < ls.length := by omega
      have hjz : (j : Int) < (ls.length : Int) := by omega
      obtain ⟨b, off, rfl, hc⟩ := (Hp.out.later Hb.out).at j hj
      obtain ⟨v, hv⟩ : ∃ v, ls[j]?.getD 0 = v := ⟨_, rfl⟩
      rw [hv] at hc
      have hv0 : 0 ≤ v ∧ v ≤ 15 := by
        have h1 := hv
        rw [List.getElem?_eq_getElem hj] at h1
        simp only [Option.getD_some] at h1
        have := Hall.out _ (List.getElem_mem hj)
        rwa [h1] at this
      obtain ⟨n, rfl⟩ := Int.eq_ofNat_of_zero_le hv0.1
      have hjn : j < (natsOf ls).length := by rw [natsOf_length]; exact hj
      have hns : (natsOf ls)[j]? = some n := by
        have := natsOf_at hj
        rw [hv, Int.toNat_natCast, List.getElem?_eq_getElem hjn] at this
        rw [List.getElem?_eq_getElem hjn]
        simpa using this
      cases n with
      | zero =>
        have Hsk : Hid (nextG (natsOf ls) g (j + 1) = nextG (natsOf ls) g j ∧ dealtN (natsOf ls) g (j + 1) = dealtN (natsOf ls) g j) := Lib.hid ⟨nextG_skip hns, (dealtN_skip (by rw [hns]; rfl)).symm⟩
        clear hv hv0 hns hjn
        go_wp2_with fail
        go_roundg gg
        case measure => omega
        case rel => exact ⟨j + 1, by omega, by go_num, ⟨by rw [Hsk.out.1]; exact HI.out.1, by rw [Hsk.out.2]; exact HI.out.2⟩, Hb.out⟩
      | succ n =>
        have hpz : (0 : Int) < ((n + 1 : Nat) : Int) := by omega
        have hn16 : ((n + 1 : Nat) : Int) < 16 := by omega
        have c1 := HI.out.1.cell (i := n + 1) (by omega)
        have f1 := HI.out.1.free (n + 1)
        have hgl := Hg.out (n + 1) (by omega)
        obtain ⟨x, hx⟩ : ∃ x, nextG (natsOf ls) g j (n + 1) = x := ⟨_, rfl⟩
        have hxl : x ≤ 20972000 := by
          rw [← hx]
          unfold nextG
          rw [if_neg (by omega)]
          have := List.count_le_length (a := n + 1) (l := (natsOf ls).take j)
          rw [List.length_take] at this; omega
        have hd : dealAt (natsOf ls) g j = x := by rw [← nextG_at hns, hx]
        have c2 := HI.out.2.cell (j := j) (x := (dealtN (natsOf ls) g j)[j]?.getD 0) (by
          rw [List.getElem?_eq_getElem (by rw [dealtN_length]; exact hjn)]; rfl)
        have f2 := HI.out.2.free j
        have Hset : Hid ((dealtN (natsOf ls) g j).set j x = dealtN (natsOf ls) g (j + 1)) := Lib.hid (by rw [← hd, dealtN_set])
        have Hmore : Hid ((fun k => if k = n + 1 then x + 1 else nextG (natsOf ls) g j k) = nextG (natsOf ls) g (j + 1)) := Lib.hid (by rw [nextG_more hns, hx])
        rw [hx] at c1
        obtain ⟨y, hy⟩ : ∃ y, (dealtN (natsOf ls) g j)[j]?.getD 0 = y := ⟨_, rfl⟩
        rw [hy] at c2
        clear hv hv0 hns hjn hx hd hgl hy
        obtain ⟨m, hm⟩ : ∃ m, n + 1 = m := ⟨_, rfl⟩
        rw [hm] at hpz hn16 c1 f1 hc Hmore
        go_wp2_with fail
        go_roundg gg
        case measure => omega
        case rel =>
          refine ⟨j + 1, by omega, by go_num, ⟨?_, ?_⟩, (Hb.out.setCell (by simp) _).setCell (by simp) _⟩
          · rw [← Hmore.out]
            exact (HI.out.1.other (a := ⟨w.heap.size + 1, j, none⟩) _ (by simp)).put m (x + 1)
          · rw [← Hset.out]
            exact (HI.out.2.put j x).other _ (by simp)
end
end Go.Proofs.YtiiiokikmjgliaaGreatDoor
/-
  The contracts of codes' turn and the library's Reverse16.
-/
namespace Go.Proofs.YtiiiokikmjgliaaGreatDoor
section
open Go.RowKit
def rev8 : ByteArray := ⟨#[0, 128, 64, 192, 32, 160, 96, 224, 16, 144, 80, 208, 48, 176, 112, 240, 8, 136, 72, 200, 40, 168, 104, 232, 24, 152, 88, 216, 56, 184, 120, 248, 4, 132, 68, 196, 36, 164, 100, 228, 20, 148, 84, 212, 52, 180, 116, 244, 12, 140, 76, 204, 44, 172, 108, 236, 28, 156, 92, 220, 60, 188, 124, 252, 2, 130, 66, 194, 34, 162, 98, 226, 18, 146, 82, 210, 50, 178, 114, 242, 10, 138, 74, 202, 42, 170, 106, 234, 26, 154, 90, 218, 58, 186, 122, 250, 6, 134, 70, 198, 38, 166, 102, 230, 22, 150, 86, 214, 54, 182, 118, 246, 14, 142, 78, 206, 46, 174, 110, 238, 30, 158, 94, 222, 62, 190, 126, 254, 1, 129, 65, 193, 33, 161, 97, 225, 17, 145, 81, 209, 49, 177, 113, 241, 9, 137, 73, 201, 41, 169, 105, 233, 25, 153, 89, 217, 57, 185, 121, 249, 5, 133, 69, 197, 37, 165, 101, 229, 21, 149, 85, 213, 53, 181, 117, 245, 13, 141, 77, 205, 45, 173, 109, 237, 29, 157, 93, 221, 61, 189, 125, 253, 3, 131, 67, 195, 35, 163, 99, 227, 19, 147, 83, 211, 51, 179, 115, 243, 11, 139, 75, 203, 43, 171, 107, 235, 27, 155, 91, 219, 59, 187, 123, 251, 7, 135, 71, 199, 39, 167, 103, 231, 23, 151, 87, 215, 55, 183, 119, 247, 15, 143, 79, 207, 47, 175, 111, 239, 31, 159, 95, 223, 63, 191, 127, 255]⟩
theorem rev8_all : ∀ i : Fin 256, (rev8.data.toList[i.val]?.map UInt8.toNat) = some (revN 8 i.val) := by decide +kernel
theorem rev8_size : rev8.size = 256 := by decide +kernel
theorem rev8_at {i : Nat} (h : i < 256) (h' : i < rev8.size) : rev8[i].toNat = revN 8 i := by
  have h1 := rev8_all ⟨i, h⟩
  have h2 : rev8.data.toList[i]? = some rev8[i] := by
    rw [Array.getElem?_toList]
    exact Array.getElem?_eq_getElem h'
  simp only [h2, Option.map_some] at h1
  exact Option.some.inj h1
theorem or_halves (a b : Nat) (ha : a < 256) (hb : b < 256) : bits .or .u16 (a : Int) ((256 * b : Nat) : Int) = ((a + 256 * b : Nat) : Int) := by
  rw [u16_or_nat a (256 * b) (by omega) (by omega), Nat.or_comm, show 256 = 2 ^ 8 from rfl, ← Nat.two_pow_add_eq_or_of_lt (by omega) b, Nat.add_comm]
set_option maxRecDepth 100000 in
set_option maxHeartbeats 2000000 in
theorem rev16_any (x : Nat) (w : World) (hx : x < 65536) :
    Calls Tryz.prog 189 #[.int .u16 (x : Int)] w fun e w' => e = .returned (.int .u16 (revN 16 x : Int)) ∧ ∃ q, w.drewN q = w' := by
  obtain ⟨hi, hhi⟩ : ∃ hi, x / 256 = hi := ⟨_, rfl⟩
  obtain ⟨lo, hlo⟩ : ∃ lo, x % 256 = lo := ⟨_, rfl⟩
  have d1 : (x : Int) / 256 = (hi : Int) := by omega
  have d2 : hi < 256 := by omega
  have d3 : lo < 256 := by omega
  have d4 : bits .and .u16 (x : Int) 255 = (lo : Int) := by
    have := u16_and_nat x 255 hx (by omega)
    rw [show (255 : Nat) = 2 ^ 8 - 1 from rfl, Nat.and_two_pow_sub_one_eq_mod, show (2 : Nat) ^ 8 = 256 from rfl, hlo] at this
    exact this
  have Hr : Hid (revN 16 x = revN 8 hi + 256 * revN 8 lo) := Lib.hid (by rw [revN_halves, hhi, ← hlo, revN_mod])
  have r1 : revN 8 hi < 256 := revN_lt 8 hi
  have r2 : revN 8 lo < 256 := revN_lt 8 lo
  have d5 : (hi : Int) < 256 := by omega
  have d6 : (0 : Int) ≤ (hi : Int) := by omega
  have d7 : (lo : Int) < 256 := by omega
  have d8 : (0 : Int) ≤ (lo : Int) := by omega
  clear hhi hlo
  go_enter Tryz.func189, Tryz.ntmps189
  go_wp2_with fail
  go_quiet (fail)
  go_wp2_with fail
  go_ret
  have e : bits .or .u16 (IntKind.u16.wrap (rev8[hi]'(by rw [rev8_size]; exact d2)).toNat) (IntKind.u16.wrap (IntKind.u16.wrap (rev8[lo]'(by rw [rev8_size]; exact d3)).toNat * 256)) = ((revN 16 x : Nat) : Int) := by
    rw [rev8_at d2, rev8_at d3, IntKind.wrap_u16, IntKind.wrap_u16, IntKind.wrap_u16, show ((revN 8 hi : Nat) : Int) % 65536 = ((revN 8 hi : Nat) : Int) by omega, show ((revN 8 lo : Nat) : Int) % 65536 * 256 % 65536 = ((256 * revN 8 lo : Nat) : Int) by omega, or_halves _ _ r1 r2, Hr.out]
  exact ⟨congrArg (fun z => Ending.returned (.int .u16 z)) e, _, rfl⟩
set_option maxHeartbeats 1000000 in
theorem turn_any (x k : Nat) (w : World) (hk : k ≤ 15) (hx : x < 2 ^ k) :
    Calls Tryz.prog 179 #[.int .i64 (x : Int), .int .i64 (k : Int)] w fun e w' => e = .returned (.int .i64 (revN k x : Int)) ∧ ∃ q, w.drewN q = w' := by
  have hp : (2 : Nat) ^ k ≤ 2 ^ 15 := Nat.pow_le_pow_right (by omega) hk
  have hx2 : x < 65536 := by omega
  have h16 := revN_lt 16 x
  have H := Lib.hid (fun W => rev16_any x W hx2)
  have Hcut := Lib.hid (revN_cut (w := k) (x := x) (by omega) hx)
  have hrl := revN_lt k x
  obtain ⟨y, hy⟩ : ∃ y, revN 16 x = y := ⟨_, rfl⟩
  obtain ⟨z, hz⟩ : ∃ z, revN k x = z := ⟨_, rfl⟩
  obtain ⟨d, hd⟩ : ∃ d, 16 - k = d := ⟨_, rfl⟩
  rw [hy] at H h16
  rw [hz] at hrl ⊢
  rw [hy, hz, hd] at Hcut
  have h1 : (16 : Int) - (k : Int) = (d : Int) := by omega
  have h2 : IntKind.i64.wrap ((16 : Int) - (k : Int)) = (d : Int) := by rw [IntWalk.i64_in _ (by omega)]; exact h1
  have h3 : (y : Int) / 2 ^ d = (z : Int) := by
    rw [show (2 : Int) ^ d = ((2 ^ d : Nat) : Int) by simp, ← Hcut.out]; simp
  have hzl : z < 65536 := by omega
  clear hy hz hp hrl
  go_enter Tryz.func179, Tryz.ntmps179
  go_wp2_with fail
  refine (H.out _).mono ?_
  rintro e w1 ⟨rfl, q, rfl⟩
  go_wp2_with fail
  go_ret
  exact ⟨rfl, q, rfl⟩
end
end Go.Proofs.YtiiiokikmjgliaaGreatDoor
/-
  A tree of codes in memory.
-/
namespace Go.Proofs.YtiiiokikmjgliaaGreatDoor
section
open Go.RowKit
def treeRow (vl : Value) (gt ct go co n : Nat) (f : Nat → Nat) (L : Nat) : Array Value :=
  #[vl, .slice (some ⟨gt, 0, none⟩) n ct, .int .i64 (f 0 : Int), .int .i64 (f 1 : Int), .int .i64 (f 2 : Int), .int .i64 (f 3 : Int), .int .i64 (f 4 : Int), .int .i64 (f 5 : Int), .int .i64 (f 6 : Int), .int .i64 (f 7 : Int), .int .i64 (f 8 : Int), .int .i64 (f 9 : Int), .int .i64 (f 10 : Int), .int .i64 (f 11 : Int), .int .i64 (f 12 : Int), .int .i64 (f 13 : Int), .int .i64 (f 14 : Int), .int .i64 (f 15 : Int), .int .i64 (L : Int), .slice (some ⟨go, 0, none⟩) n co]
theorem treeRow_count (vl : Value) (gt ct go co n : Nat) (f : Nat → Nat) (L : Nat) {i : Nat} (h : i < 16) : (treeRow vl gt ct go co n f L)[2 + i]? = some (.int .i64 (f i : Int)) := by
  have : i = 0 ∨ i = 1 ∨ i = 2 ∨ i = 3 ∨ i = 4 ∨ i = 5 ∨ i = 6 ∨ i = 7 ∨ i = 8 ∨ i = 9 ∨ i = 10 ∨ i = 11 ∨ i = 12 ∨ i = 13 ∨ i = 14 ∨ i = 15 := by omega
  rcases this with rfl | rfl | rfl | rfl | rfl | rfl | rfl | rfl | rfl | rfl | rfl | rfl | rfl | rfl | rfl | rfl <;> rfl
def TreeCell (w : World) (b : Nat) (vl : Value) (gt ct go co n : Nat) (f : Nat → Nat) (L : Nat) : Prop := w.heap[b]? = some (.cells (treeRow vl gt ct go co n f L) 201 (0, 0))
theorem TreeCell.lengths {w : World} {b : Nat} {vl : Value} {gt ct go co n : Nat} {f : Nat → Nat} {L : Nat} (h : TreeCell w b vl gt ct go co n f L) : w.cell? ⟨b, 0, none⟩ = some vl := by rw [cell_of_row _ _ _ _ _ _ h]; rfl
theorem TreeCell.turned {w : World} {b : Nat} {vl : Value} {gt ct go co n : Nat} {f : Nat → Nat} {L : Nat} (h : TreeCell w b vl gt ct go co n f L) : w.cell? ⟨b, 1, none⟩ = some (.slice (some ⟨gt, 0, none⟩) n ct) := by rw [cell_of_row _ _ _ _ _ _ h]; rfl
theorem TreeCell.count {w : World} {b : Nat} {vl : Value} {gt ct go co n : Nat} {f : Nat → Nat} {L : Nat} (h : TreeCell w b vl gt ct go co n f L) {i : Nat} (hi : i < 16) : w.cell? ⟨b, 2 + i, none⟩ = some (.int .i64 (f i : Int)) := by rw [cell_of_row _ _ _ _ _ _ h]; exact treeRow_count _ _ _ _ _ _ _ _ hi
theorem TreeCell.longest {w : World} {b : Nat} {vl : Value} {gt ct go co n : Nat} {f : Nat → Nat} {L : Nat} (h : TreeCell w b vl gt ct go co n f L) : w.cell? ⟨b, 18, none⟩ = some (.int .i64 (L : Int)) := by rw [cell_of_row _ _ _ _ _ _ h]; rfl
theorem TreeCell.ordered {w : World} {b : Nat} {vl : Value} {gt ct go co n : Nat} {f : Nat → Nat} {L : Nat} (h : TreeCell w b vl gt ct go co n f L) : w.cell? ⟨b, 19, none⟩ = some (.slice (some ⟨go, 0, none⟩) n co) := by rw [cell_of_row _ _ _ _ _ _ h]; rfl
theorem TreeCell.free {w : World} {b : Nat} {vl : Value} {gt ct go co n : Nat} {f : Nat → Nat} {L : Nat} (h : TreeCell w b vl gt ct go co n f L) (j : Nat) : w.frozen? ⟨b, j, none⟩ = false := frozen_of_row _ _ _ _ _ h
theorem TreeCell.lt {w : World} {b : Nat} {vl : Value} {gt ct go co n : Nat} {f : Nat → Nat} {L : Nat} (h : TreeCell w b vl gt ct go co n f L) : b < w.heap.size := by
  rcases Nat.lt_or_ge b w.heap.size with h' | h'
  · exact h'
  · unfold TreeCell at h; rw [Array.getElem?_eq_none h'] at h; cases h
theorem TreeCell.more {w : World} {b : Nat} {vl : Value} {gt ct go co n : Nat} {f : Nat → Nat} {L : Nat} (h : TreeCell w b vl gt ct go co n f L) (L' : Nat) : TreeCell (w.setCell ⟨b, 18, none⟩ (.int .i64 (L' : Int))) b vl gt ct go co n f L' := by
  have := heap_setCell_same _ _ 18 _ _ (.int .i64 (L' : Int)) h
  exact this
def Row64 (w : World) (v : Value) (l : List Int) : Prop := w.ownsRow 0 3 1 v l.length (cellsZ l)
theorem Row64.move {w w' : World} {v : Value} {l : List Int} (h : Row64 w v l) (hk : ∀ k, v.ownBlock = some k → w'.heap[k]? = w.heap[k]?) : Row64 w' v l := owns_move h hk
theorem Row64.lt {w : World} {v : Value} {l : List Int} (h : Row64 w v l) : ∀ k, v.ownBlock = some k → k < w.heap.size := fun k e => (World.ownsRow.lt h k e).2
theorem Row64.form {w : World} {v : Value} {l : List Int} (h : Row64 w v l) : ∃ a cap, v = .slice a l.length cap ∧ Nums w a l := by
  have h' := h
  rcases h.2 with ⟨rfl, h0⟩ | ⟨g, cap, cur, rfl, _⟩
  · exact ⟨none, 0, by rw [h0], .inl (List.eq_nil_of_length_eq_zero h0)⟩
  · refine ⟨some ⟨g, 0, none⟩, cap, rfl, .inr ⟨g, 0, rfl, fun i hi => ?_⟩⟩
    have hcell := World.ownsRow.cells h' (g := g) rfl i (.int .i64 (l[i]?.getD 0)) (by
      rw [cellsZ_at hi, List.getElem?_eq_getElem hi]; rfl)
    have e : (⟨g, 0, none⟩ : Addr).add i = ⟨g, 0 + i, none⟩ := by unfold Addr.add; split <;> simp_all
    rw [e] at hcell
    exact hcell
def TreeIs (w : World) (b : Nat) (ls : List Int) (vl : Value) (gt ct go co L : Nat) (ords : List Nat) : Prop :=
  TreeCell w b vl gt ct go co ls.length (cntN (natsOf ls)) L ∧ Row64 w vl ls ∧ RowAt w gt (turnN (natsOf ls) ls.length) ∧ RowAt w go ords
def treeF (b gt go : Nat) (vl : Value) : List Nat := b :: gt :: go :: vl.ownBlock.toList
theorem treeF_mem {b gt go k : Nat} {vl : Value} (h : k ∈ treeF b gt go vl) : k = b ∨ k = gt ∨ k = go ∨ vl.ownBlock = some k := by simpa [treeF] using h
theorem TreeIs.lt {w : World} {b : Nat} {ls : List Int} {vl : Value} {gt ct go co L : Nat} {ords : List Nat} (h : TreeIs w b ls vl gt ct go co L ords) : ∀ k ∈ treeF b gt go vl, k < w.heap.size := fun k hk => by
  rcases treeF_mem hk with rfl | rfl | rfl | hk
  · exact h.1.lt
  · exact h.2.2.1.lt
  · exact h.2.2.2.lt
  · exact h.2.1.lt k hk
theorem TreeIs.move {w w' : World} {b : Nat} {ls : List Int} {vl : Value} {gt ct go co L : Nat} {ords : List Nat} (h : TreeIs w b ls vl gt ct go co L ords) (hk : ∀ k ∈ treeF b gt go vl, w'.heap[k]? = w.heap[k]?) : TreeIs w' b ls vl gt ct go co L ords :=
  ⟨(hk b (by simp [treeF])).trans h.1, h.2.1.move fun k e => hk k (by simp [treeF, e]), (hk gt (by simp [treeF])).trans h.2.2.1, (hk go (by simp [treeF])).trans h.2.2.2⟩
def TreeAt (w : World) (b : Nat) (ls : List Int) (F : List Nat) : Prop :=
  ∃ vl gt ct go co L ords, F = treeF b gt go vl ∧ TreeIs w b ls vl gt ct go co L ords ∧ Ordered (natsOf ls) ls.length ords ∧ longZ ls = (L : Int)
theorem TreeAt.lt {w : World} {b : Nat} {ls : List Int} {F : List Nat} (h : TreeAt w b ls F) : ∀ k ∈ F, k < w.heap.size := by
  obtain ⟨vl, gt, ct, go, co, L, ords, rfl, h, _⟩ := h
  exact h.lt
theorem TreeAt.move {w w' : World} {b : Nat} {ls : List Int} {F : List Nat} (h : TreeAt w b ls F) (_ : w.heap.size ≤ w'.heap.size) (hk : ∀ k ∈ F, w'.heap[k]? = w.heap[k]?) : TreeAt w' b ls F := by
  obtain ⟨vl, gt, ct, go, co, L, ords, rfl, h, h2⟩ := h
  exact ⟨vl, gt, ct, go, co, L, ords, rfl, h.move hk, h2⟩
theorem TreeAt.later {w w' : World} {b : Nat} {ls : List Int} {F : List Nat} (h : TreeAt w b ls F) (hb : Below w.heap.size w w') : TreeAt w' b ls F := h.move hb.size fun k hk => hb.block k (h.lt k hk)
end
end Go.Proofs.YtiiiokikmjgliaaGreatDoor
/-
  The contract of a tree's Read.
-/
namespace Go.Proofs.YtiiiokikmjgliaaGreatDoor
section
open Go.RowKit
theorem foldl_max {ls : List Int} {m : Int} (hm : 0 ≤ m ∧ m ≤ 15) (h : ∀ l ∈ ls, 0 ≤ l ∧ l ≤ 15) : 0 ≤ ls.foldl max m ∧ ls.foldl max m ≤ 15 := by
  induction ls generalizing m with
  | nil => exact hm
  | cons l ls ih =>
    have := h l (by simp)
    exact ih (by omega) fun x hx => h x (by simp [hx])
theorem longZ_nat {ls : List Int} (h : ∀ l ∈ ls, 0 ≤ l ∧ l ≤ 15) : ∃ L : Nat, longZ ls = (L : Int) ∧ L ≤ 15 := by
  have := foldl_max (m := 0) (by omega) h
  exact ⟨(longZ ls).toNat, by unfold longZ; omega, by unfold longZ; omega⟩
theorem drop_bit {l : List Nat} {k b : Nat} (h : l[k]? = some b) : l.drop k = b :: l.drop (k + 1) := by
  obtain ⟨h1, h2⟩ := List.getElem?_eq_some_iff.1 h
  rw [List.drop_eq_getElem_cons h1, h2]
set_option maxHeartbeats 2000000 in
theorem tRead_is (t : Nat) (ls : List Int) (T : List Nat) (b : Nat) (s : ByteArray) (pos : Nat) (F : List Nat) (w : World) (hr : refusedZ ls = 0) (ht : TreeAt w t ls T) (h : ReaderAt w b s pos F) (hp : pos ≤ 8 * s.size) (hs : s.size ≤ 10000) (hd : ∀ k ∈ T, k ∉ F) {L : Nat} (hL : longZ ls = (L : Int))
    {sy e : Int} {m : Nat} (he : readC ls (codesN (natsOf ls)) L 0 0 ((bitsOf s.data.toList).drop pos) = (sy, m, e)) :
    Calls Tryz.prog 167 #[.pointer (some ⟨t, 0, none⟩), .pointer (some ⟨b, 0, none⟩)] w fun en w' => en = .returned (.tuple #[.int .i64 sy, .int .i64 e]) ∧ ∃ F', ReaderAt w' b s (pos + m) F' ∧ Touches F F' w w' := by
  obtain ⟨hlen, hall, hkr⟩ := refusedZ_zero hr
  obtain ⟨vl, gt, ct, go, co, L', ords, rfl, hT, hO, hLo⟩ := ht
  obtain rfl : L' = L := by omega
  have hL15 : L' ≤ 15 := by
    obtain ⟨x, h1, h2⟩ := longZ_nat hall
    omega
  have Hall := Lib.hid hall
  have Hlen := Lib.hid hlen
  have Hkr := Lib.hid hkr
  have HO := Lib.hid hO
  have HT := Lib.hid hT
  have HR := Lib.hid h
  have HD := Lib.hid hd
  have HE := Lib.hid he
  clear hall hlen hkr hr hT hO hLo hL h hd he
  obtain ⟨bs, hbs⟩ : ∃ bs, bitsOf s.data.toList = bs := ⟨_, rfl⟩
  have hbl : bs.length = 8 * s.size := by rw [← hbs, bitsOf_length, size_data]
  have Hb2 : Hid (∀ x ∈ bs, x < 2) := Lib.hid (by rw [← hbs]; exact bitsOf_two _)
  rw [hbs] at HE
  have Hbs := Lib.hid hbs
  clear hbs
  go_enter Tryz.func167, Tryz.ntmps167
  go_wp2_with fail
  go_step3
  go_wp2_with fail
  go_step3
  go_wp2_with fail
  go_loopg [6, 7, 8] L' (fun g s6 s7 s8 wx => ∃ (n num ah code : Nat) (F' : List Nat), n + g = L' ∧ s8 = .int .i64 ((n : Int) + 1) ∧ s6 = .int .i64 (num : Int) ∧ s7 = .int .i64 (ah : Int) ∧ num ≤ 32768 ∧ ah ≤ 320 ∧ pos + n ≤ bs.length ∧
    Aside (code < 2 ^ n ∧ code = endC (natsOf ls) n + num ∧ ah = startN (natsOf ls) 1 (n + 1) ∧ (sy, m, e) = onC n (readC ls (codesN (natsOf ls)) g n code (bs.drop (pos + n)))) ∧
    Aside (ReaderAt wx b s (pos + n) F' ∧ Touches F F' w wx ∧ TreeIs wx t ls vl gt ct go co L' ords ∧ ∀ k ∈ treeF t gt go vl, k ∉ F'))
  case atStart =>
    refine ⟨0, 0, 0, 0, F, by omega, rfl, rfl, rfl, by omega, by omega, by omega, ⟨by decide, rfl, rfl, ?_⟩, HR.out, Touches.refl _ _, HT.out, HD.out⟩
    rw [onC_zero]; exact HE.out.symm
  case round =>
    obtain ⟨n, num, ah, code, F', hng, rfl, rfl, rfl, hnum, hah, hpn, HC, HW⟩ := hrel
    have c18 := HW.out.2.2.1.1.longest
    cases gk with
    | zero =>
      have hnz : ¬ (n : Int) + 1 ≤ (L' : Int) := by omega
      have Hr : Hid ((sy, m, e) = (0, n, 4)) := Lib.hid (by rw [HC.out.2.2.2, readC_end]; unfold onC; simp)
      go_wp2_with fail
      go_ret2
      obtain ⟨rfl, hr2⟩ := Prod.mk.inj Hr.out
      obtain ⟨rfl, rfl⟩ := Prod.mk.inj hr2
      exact ⟨rfl, F', HW.out.1, HW.out.2.1⟩
    | succ g =>
      have hnz : (n : Int) + 1 ≤ (L' : Int) := by omega
      have hget : ∀ (b' : Int) (tq : Nat) (e' : Int), getB s.data.toList (pos + n) 1 = (b', tq, e') → Calls Tryz.prog 142 #[.pointer (some ⟨b, 0, none⟩), .int .i64 1] wr fun en w' => en = .returned (.tuple #[.int .i64 b', .int .i64 e']) ∧ ∃ F', ReaderAt w' b s tq F' ∧ Touches _ F' wr w' := fun b' tq e' hg =>
        rGet_is b s (pos + n) F' 1 wr HW.out.1 (by omega) (by omega) (by omega) (by omega) hg
      by_cases hend : pos + n < bs.length
      · obtain ⟨x, hx⟩ : ∃ x, bs[pos + n]? = some x := ⟨_, List.getElem?_eq_getElem hend⟩
        have hx2 : x < 2 := Hb2.out x (List.mem_of_getElem? hx)
        have hdrop := drop_bit hx
        have hg1 : getB s.data.toList (pos + n) 1 = ((x : Int), pos + n + 1, 0) := by
          have := getB_ok (l := s.data.toList) (pos := pos + n) (v := 1) (by omega) (by rw [← size_data]; omega)
          rw [Hbs.out, hdrop] at this
          simpa [numB] using this
        have Hg := Lib.hid (hget _ _ _ hg1)
        clear hget hg1
        obtain ⟨c, hc⟩ : ∃ c, (natsOf ls).count (n + 1) = c := ⟨_, rfl⟩
        have hcl : c ≤ 320 := by
          have := List.count_le_length (a := n + 1) (l := natsOf ls)
          rw [natsOf_length] at this
          have := Hlen.out
          omega
        have hcnt : cntN (natsOf ls) (n + 1) = c := by unfold cntN; rw [if_neg (by omega), hc]
        have hcode : 2 * code + x = 2 * endC (natsOf ls) n + (2 * num + x) := by have := HC.out.2.1; omega
        have hxz : 2 * (num : Int) + (x : Int) = ((2 * num + x : Nat) : Int) := by omega
        obtain ⟨num', hnum'⟩ : ∃ num', 2 * num + x = num' := ⟨_, rfl⟩
        obtain ⟨code', hcode'⟩ : ∃ code', 2 * code + x = code' := ⟨_, rfl⟩
        rw [hnum'] at hxz hcode
        rw [hcode'] at hcode
        have hnum4 : num' ≤ 65537 := by omega
        have q1 : ((n : Int) + 1).toNat = n + 1 := by omega
        have q2 : (n : Int) + 1 < 16 := by omega
        by_cases hit : num' < c
        · have hitz : ¬ (c : Int) ≤ (num' : Int) := by omega
          obtain ⟨i, hf, ho⟩ := read_hit Hall.out hcode (by rw [hc]; exact hit) HO.out
          rw [← HC.out.2.2.1] at ho
          have hlen2 : ah + num' < ls.length := by
            have := (List.getElem?_eq_some_iff.1 ho).1
            rw [HO.out.1, natsOf_length] at this; exact this
          have Hr : Hid ((sy, m, e) = ((i : Int), n + 1, 0)) := Lib.hid (by
            rw [HC.out.2.2.2, hdrop, readC_hit (by rw [hcode', hf]; omega), hcode', hf]
            unfold onC
            simp; omega)
          have Ho := Lib.hid ho
          have q3 : ((ah : Int) + (num' : Int)).toNat = ah + num' := by omega
          have q4 : (ah : Int) + (num' : Int) < (ls.length : Int) := by omega
          clear hcode hcode' hnum' hc hdrop hx hf ho
          go_wp2_with fail
          refine Hg.out.mono ?_
          rintro en w1 ⟨rfl, F1, hr, ht⟩
          have HW1 : Hid (ReaderAt w1 b s (pos + n + 1) F1 ∧ Touches F F1 w w1 ∧ TreeIs w1 t ls vl gt ct go co L' ords) := Lib.hid
            ⟨hr, HW.out.2.1.trans ht, HW.out.2.2.1.move fun k hk => (ht.out (HW.out.2.2.1.lt k hk) (HW.out.2.2.2 k hk)).1⟩
          clear hr ht
          have k1 := HW1.out.2.2.1.count (i := n + 1) (by omega)
          rw [hcnt] at k1
          have k2 := HW1.out.2.2.1.ordered
          have k3 := HW1.out.2.2.2.2.2.cell Ho.out
          clear hcnt c18
          go_wp2_with fail
          rw [Exit.noGoto_ret]
          go_ret2
          obtain ⟨rfl, hr2⟩ := Prod.mk.inj Hr.out
          obtain ⟨rfl, rfl⟩ := Prod.mk.inj hr2
          exact ⟨rfl, F1, HW1.out.1, HW1.out.2.1⟩
        · have hitz : (c : Int) ≤ (num' : Int) := by omega
          have hmiss := read_miss (ls := ls) hcode (by rw [hc]; omega)
          have hend2 : endC (natsOf ls) (n + 1) = 2 * endC (natsOf ls) n + c := by rw [endC, hc]
          have hst2 : startN (natsOf ls) 1 (n + 1 + 1) = ah + c := by rw [startN_more, hc, HC.out.2.2.1]
          have hah2 : ah + c ≤ 320 := by
            have := startN_le (natsOf ls) (n + 1 + 1)
            rw [hst2, natsOf_length] at this
            have := Hlen.out; omega
          have hcl2 : code' < 2 ^ (n + 1) := by have := HC.out.1; rw [Nat.pow_succ]; omega
          have hp15 : (2 : Nat) ^ (n + 1) ≤ 2 ^ 15 := Nat.pow_le_pow_right (by omega) (by omega)
          have hnum5 : num' - c ≤ 32768 := by omega
          have hsub : (num' : Int) - (c : Int) = ((num' - c : Nat) : Int) := by omega
          have HC2 : Hid (code' < 2 ^ (n + 1) ∧ code' = endC (natsOf ls) (n + 1) + (num' - c) ∧ ah + c = startN (natsOf ls) 1 (n + 1 + 1) ∧ (sy, m, e) = onC (n + 1) (readC ls (codesN (natsOf ls)) g (n + 1) code' (bs.drop (pos + (n + 1))))) := Lib.hid
            ⟨hcl2, by omega, hst2.symm, by rw [HC.out.2.2.2, hdrop, readC_miss (by rw [hcode', hmiss]; omega), onC_onC, hcode']; rfl⟩
          have hcc : pos + (n + 1) ≤ bs.length := by omega
          clear hcode hcode' hnum' hc hdrop hx hmiss hend2 hst2 hcl2 hp15
          obtain ⟨num2, hn2⟩ : ∃ num2, num' - c = num2 := ⟨_, rfl⟩
          rw [hn2] at hsub hnum5 HC2
          clear hn2
          go_wp2_with fail
          refine Hg.out.mono ?_
          rintro en w1 ⟨rfl, F1, hr, ht⟩
          have HW1 : Hid (ReaderAt w1 b s (pos + n + 1) F1 ∧ Touches F F1 w w1 ∧ TreeIs w1 t ls vl gt ct go co L' ords ∧ ∀ k ∈ treeF t gt go vl, k ∉ F1) := Lib.hid
            ⟨hr, HW.out.2.1.trans ht, HW.out.2.2.1.move fun k hk => (ht.out (HW.out.2.2.1.lt k hk) (HW.out.2.2.2 k hk)).1, fun k hk => (ht.out (HW.out.2.2.1.lt k hk) (HW.out.2.2.2 k hk)).2⟩
          clear hr ht
          have k1 := HW1.out.2.2.1.1.count (i := n + 1) (by omega)
          rw [hcnt] at k1
          clear hcnt c18
          go_wp2_with fail
          go_roundg g
          case measure => omega
          case rel => exact ⟨n + 1, num2, ah + c, code', F1, by omega, by go_num, by go_num, by go_num, hnum5, hah2, hcc, HC2.out, HW1.out⟩
      · have hend0 : bs.drop (pos + n) = [] := List.drop_of_length_le (by omega)
        have hg1 : getB s.data.toList (pos + n) 1 = (0, pos + n, 5) := getB_short (v := 1) (by omega) (by rw [← size_data]; omega)
        have Hg := Lib.hid (hget _ _ _ hg1)
        have Hr : Hid ((sy, m, e) = (0, n, 5)) := Lib.hid (by rw [HC.out.2.2.2, hend0, readC_short]; unfold onC; simp)
        clear hget hg1 hend0
        go_wp2_with fail
        refine Hg.out.mono ?_
        rintro en w1 ⟨rfl, F1, hr, ht⟩
        have HW1 : Hid (ReaderAt w1 b s (pos + n) F1 ∧ Touches F F1 w w1) := Lib.hid ⟨hr, HW.out.2.1.trans ht⟩
        clear hr ht
        go_wp2_with fail
        rw [Exit.noGoto_ret]
        go_ret2
        obtain ⟨rfl, hr2⟩ := Prod.mk.inj Hr.out
        obtain ⟨rfl, rfl⟩ := Prod.mk.inj hr2
        exact ⟨rfl, F1, HW1.out⟩
end
end Go.Proofs.YtiiiokikmjgliaaGreatDoor
/-
  The contracts of codes' Check and Codes.
-/
namespace Go.Proofs.YtiiiokikmjgliaaGreatDoor
section
open Go.RowKit
set_option maxRecDepth 100000
theorem checkZ_refused {ls : List Int} (h : refusedZ ls ≠ 0) : checkZ ls = refusedZ ls := by
  unfold refusedZ at h ⊢
  split
  · rename_i hc; rw [if_pos hc] at h; exact absurd rfl h
  · rfl
theorem checkZ_told {ls : List Int} (h : refusedZ ls = 0) : checkZ ls = if endC (natsOf ls) 15 = 0 then 12 else if endC (natsOf ls) 15 < 32768 then 5 else 0 := by
  obtain ⟨h1, h2, h3⟩ := refusedZ_zero h
  rw [check_good h1 h2, endC_kraft h2]
  by_cases h4 : kraft ls = 0
  · rw [if_pos h4, if_pos h4]
  · rw [if_neg h4, if_neg h4, if_neg (by omega)]
theorem no_counts {ls : List Int} (h : ∀ l ∈ ls, 0 ≤ l ∧ l ≤ 15) : ((List.range 16).all fun i => cntN (natsOf ls) i == (0 : Nat)) = decide (endC (natsOf ls) 15 = 0) := by
  rw [Bool.eq_iff_iff, List.all_eq_true, decide_eq_true_eq, endC_kraft h, kraft_zero h]
  constructor
  · intro h1 v hv
    rcases Nat.lt_or_ge v 16 with h16 | h16
    · have := h1 v (List.mem_range.2 h16)
      unfold cntN at this
      rw [if_neg (by omega)] at this
      simpa using this
    · rw [List.count_eq_zero]
      intro hm
      have := natsOf_le h v hm
      omega
  · intro h1 i hi
    unfold cntN
    by_cases e : i = 0
    · rw [if_pos e]; rfl
    · rw [if_neg e, h1 i (by omega)]; rfl
theorem cells_int : Tryz.prog.cellsOf 3 = 1 := by kernel_rfl
theorem eqItems_arr (w : World) (d : Nat) (f g : Nat → Nat) : ∀ is : List Nat, (∀ i ∈ is, i < 16) →
    (Op.eqItems (d + 1) 3 1 (arr16 f) (arr16 g) is).run Tryz.prog w = .ok (is.all fun i => f i == g i) w
  | [], _ => by simp [Op.eqItems]
  | i :: is, h => by
    have hi := h i (by simp)
    have ih := eqItems_arr w d f g is fun j hj => h j (by simp [hj])
    have hk : Tryz.prog.plainKey 3 = true := by kernel_rfl
    have pf := run_part_plain (P := Tryz.prog) w hk (xs := arr16 f) (off := i * 1) (by rw [Nat.mul_one]; exact arr16_at hi)
    have pg := run_part_plain (P := Tryz.prog) w hk (xs := arr16 g) (off := i * 1) (by rw [Nat.mul_one]; exact arr16_at hi)
    have pe := run_equalIn_int (P := Tryz.prog) w d 3 .i64 .i64 (f i : Int) (g i : Int) Tryz.underlying3
    simp only [Op.eqItems, Sem.run_bind, pf, pg, pe, Result.andThen_ok, List.all_cons]
    by_cases e : f i = g i
    · have e1 : ((f i : Int) == (g i : Int)) = true := by rw [e]; simp
      have e2 : (f i == g i) = true := by rw [e]; simp
      rw [e1, e2]
      simpa using ih
    · have e1 : ((f i : Int) == (g i : Int)) = false := by rw [beq_eq_false_iff_ne]; omega
      have e2 : (f i == g i) = false := by simpa using e
      rw [e1, e2]
      simp
theorem eql_arr (w : World) (f g : Nat → Nat) {b : Bool} (hb : ((List.range 16).all fun i => f i == g i) = b) :
    (binOp .eql 195 (.agg (arr16 f)) (.agg (arr16 g))).run Tryz.prog w = .ok (.bool b) w := by
  obtain ⟨i0, hi, _⟩ := info_parts info64
  have h1 := run_equalIn_array (P := Tryz.prog) w 9999 (arr16 f) (arr16 g) Tryz.underlying195 hi
  rw [cells_int, eqItems_arr w 9998 f g _ (fun i hi => List.mem_range.1 hi), hb] at h1
  rw [run_eql_struct, show (10000 : Nat) = 9999 + 1 from rfl, h1]
  rfl
theorem eql_guard : Tryz.prog.eqGuardType Tryz.prog.depth 195 = false := by kernel_rfl
set_option maxHeartbeats 1000000 in
theorem cCheck_is (p : Option Addr) (cap : Nat) (ls : List Int) (w : World) (hz : ls.length ≤ 1000) (_hi : Ints ls) (hp : Nums w p ls) {e : Int} (he : checkZ ls = e) :
    Calls Tryz.prog 185 #[.slice p ls.length cap] w fun en w' => en = .returned (.int .i64 e) ∧ Below w.heap.size w w' := by
  have Hc := Lib.hid (count_any p cap ls w hz hp)
  have He := Lib.hid he
  clear he hp
  obtain ⟨r, hr⟩ : ∃ r, refusedZ ls = r := ⟨_, rfl⟩
  rw [hr] at Hc
  by_cases h0 : r = 0
  · subst h0
    obtain ⟨hl, hall, hk⟩ := refusedZ_zero hr
    have Hn : Hid ((natsOf ls).length ≤ 320) := Lib.hid (by rw [natsOf_length]; exact hl)
    have Hroom := Lib.hid (fun W => room_any (natsOf ls) W Hn.out)
    have hee := checkZ_told hr
    obtain ⟨x, hx⟩ : ∃ x, endC (natsOf ls) 15 = x := ⟨_, rfl⟩
    have hno := no_counts hall
    rw [hx] at hee Hroom hno
    have hxk : x ≤ 32768 := by rw [← hx, endC_kraft hall]; exact hk
    rw [He.out] at hee
    obtain ⟨f, hf⟩ : ∃ f, cntN (natsOf ls) = f := ⟨_, rfl⟩
    have hcnt : ∀ en w', Counts w ls 0 en w' → en = .returned (.tuple #[.agg (arr16 f), .int .i64 0]) ∧ Below w.heap.size w w' := fun en w' h => by
      have := h
      unfold Counts at this
      rw [if_pos rfl, hf] at this
      exact this
    have Hcnt := Lib.hid hcnt
    rw [hf] at hno Hroom
    have hq : ∀ W, (binOp .eql 195 (.agg (arr16 f)) (.agg #[.int .i64 0, .int .i64 0, .int .i64 0, .int .i64 0, .int .i64 0, .int .i64 0, .int .i64 0, .int .i64 0, .int .i64 0, .int .i64 0, .int .i64 0, .int .i64 0, .int .i64 0, .int .i64 0, .int .i64 0, .int .i64 0])).run Tryz.prog W = .ok (.bool (decide (x = 0))) W := fun W => by
      have := eql_arr W f (fun _ => 0) hno
      rwa [arr16_zero] at this
    have hg := eql_guard
    clear hcnt hall hk hl hx hr hf hno He
    by_cases hx0 : x = 0
    · have hd : decide (x = 0) = true := decide_eq_true hx0
      rw [hd] at hq
      obtain rfl : e = 12 := by rw [hee, if_pos hx0]
      clear hee hx0 hd
      go_enter Tryz.func185, Tryz.ntmps185
      go_wp2_with fail
      refine Hc.out.mono ?_
      intro en w1 hcn
      obtain ⟨rfl, hb⟩ := Hcnt.out _ _ hcn
      have Hb := Lib.hid hb
      clear hb hcn
      have HA : Hid (ArrAt (w1.alloc (.cells (arr16 fun _ => 0) 195)) w1.heap.size fun _ => 0) := Lib.hid (heap_alloc_new w1 _)
      rw [arr16_zero] at HA
      go_wp2_with (with_reducible first
        | (refine ArrAt.store rfl rfl (.tmp 3) (.tmp 8) rfl w1.heap.size _ _ rfl rfl HA.out w.heap.size w (Hb.out.alloc Hb.out.size _) Hb.out.size ?_; intro w2 H2 Hb2 _)
        | (refine ArrAt.load rfl (.tmp 3) rfl w1.heap.size _ rfl H2.out ?_))
      go_ret
      exact ⟨rfl, Hb2.out⟩
    · have hd : decide (x = 0) = false := decide_eq_false hx0
      rw [hd] at hq
      have hq2 := Lib.hid hq
      rw [if_neg hx0] at hee
      clear hx0 hd
      have hcase : (0 < (32768 : Int) - (x : Int) ∧ e = 5) ∨ (¬ 0 < (32768 : Int) - (x : Int) ∧ e = 0) := by
        by_cases h5 : x < 32768
        · left; rw [if_pos h5] at hee; exact ⟨by omega, hee⟩
        · right; rw [if_neg h5] at hee; exact ⟨by omega, hee⟩
      clear hee
      obtain ⟨z, hzz⟩ : ∃ z, (32768 : Int) - (x : Int) = z := ⟨_, rfl⟩
      have hzl : z ≤ 32768 := by omega
      have hzl2 : 0 ≤ z := by omega
      rw [hzz] at Hroom hcase
      clear hzz
      rcases hcase with ⟨hz5, rfl⟩ | ⟨hz5, rfl⟩
      all_goals
        go_enter Tryz.func185, Tryz.ntmps185
        go_wp2_with fail
        refine Hc.out.mono ?_
        intro en w1 hcn
        obtain ⟨rfl, hb⟩ := Hcnt.out _ _ hcn
        have Hb := Lib.hid hb
        clear hb hcn
        have HA : Hid (ArrAt (w1.alloc (.cells (arr16 fun _ => 0) 195)) w1.heap.size fun _ => 0) := Lib.hid (heap_alloc_new w1 _)
        rw [arr16_zero] at HA
        go_wp2_with (with_reducible first
          | (refine ArrAt.store rfl rfl (.tmp 3) (.tmp 8) rfl w1.heap.size _ _ rfl rfl HA.out w.heap.size w (Hb.out.alloc Hb.out.size _) Hb.out.size ?_; intro w2 H2 Hb2 _)
          | (refine ArrAt.load rfl (.tmp 3) rfl w1.heap.size _ rfl H2.out ?_))
        refine (Hroom.out _).mono ?_
        rintro en w3 ⟨rfl, hb⟩
        have Hb3 := Lib.hid (Hb2.out.trans (hb.mono Hb2.out.size))
        clear hb
        go_wp2_with fail
        go_ret
        exact ⟨rfl, Hb3.out⟩
  · have hre : e = r := by rw [← He.out, checkZ_refused (by rw [hr]; exact h0), hr]
    have h0z : (r != 0) = true := by simpa using h0
    subst hre
    clear hr h0 He
    go_enter Tryz.func185, Tryz.ntmps185
    go_wp2_with fail
    refine Hc.out.mono ?_
    rintro en w1 ⟨rfl, hb⟩
    have Hb := Lib.hid hb
    clear hb
    have HA : Hid (ArrAt (w1.alloc (.cells (arr16 fun _ => 0) 195)) w1.heap.size fun _ => 0) := Lib.hid (heap_alloc_new w1 _)
    rw [arr16_zero] at HA
    obtain ⟨f, hf⟩ : ∃ f, (if e = 0 then cntN (natsOf ls) else fun _ => 0) = f := ⟨_, rfl⟩
    rw [hf]
    clear hf
    go_wp2_with (with_reducible first
      | (refine ArrAt.store rfl rfl (.tmp 3) (.tmp 8) rfl w1.heap.size _ _ rfl rfl HA.out w.heap.size w (Hb.out.alloc Hb.out.size _) Hb.out.size ?_; intro w2 H2 Hb2 _))
    go_ret
    exact ⟨rfl, Hb2.out⟩
end
end Go.Proofs.YtiiiokikmjgliaaGreatDoor
