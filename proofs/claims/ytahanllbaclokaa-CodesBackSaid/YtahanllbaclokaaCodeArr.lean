/-
  The contracts of codes' arrays of numbers for each length: room, starts.
-/
import Derived.Test.YtahanllbaclokaaCodePlain4
import Derived.Test.YtahanllbaclokaaRows
import Derived.Test.YtahanllbaclokaaNums
import Derived.WalkKit
import Derived.WalkSpells
import Derived.WalkLawsBesides
import Derived.WalkSmall
import Derived.OwnWalk
import Derived.Lib.Hide
import Derived.Deep.LoopGhost
import Derived.BigQuiet
import Derived.Deep.QuietTactic
import Derived.Deep.RegionWith
import Derived.Deep.RegionHeld3
import Derived.IntWalk
namespace Go.Proofs.Ytahanllbaclokaa
open Go.RowKit

/-- A number for each length. -/
def arr16 (f : Nat → Nat) : Array Value := ((List.range 16).map fun i => Value.int .i64 (f i : Int)).toArray
theorem arr16_size (f : Nat → Nat) : (arr16 f).size = 16 := by simp [arr16]
theorem arr16_at {f : Nat → Nat} {i : Nat} (h : i < 16) : (arr16 f)[i]? = some (.int .i64 (f i : Int)) := by simp [arr16, h]
theorem arr16_one (f : Nat → Nat) : (arr16 f).all (·.oneCell') = true := by
  rw [Array.all_eq_true_iff_forall_mem]
  intro v hv
  simp only [arr16, List.mem_toArray, List.mem_map] at hv
  obtain ⟨i, _, rfl⟩ := hv
  rfl
theorem arr16_ext {f g : Nat → Nat} (h : ∀ i, i < 16 → f i = g i) : arr16 f = arr16 g := by
  unfold arr16
  congr 1
  apply List.map_congr_left
  intro i hi
  rw [h i (List.mem_range.1 hi)]
theorem arr16_set {f : Nat → Nat} {i v : Nat} : (arr16 f).setIfInBounds i (.int .i64 (v : Int)) = arr16 fun k => if k = i then v else f k := by
  apply Array.ext
  · simp [arr16]
  · intro j h1 h2
    simp only [Array.size_setIfInBounds, arr16_size] at h1
    rw [Array.getElem_setIfInBounds (by simpa [arr16_size] using h1)]
    by_cases e : i = j
    · subst e; simp [arr16]
    · rw [if_neg e]; simp [arr16, Ne.symm e]
theorem arr16_zero : arr16 (fun _ => 0) = #[.int .i64 0, .int .i64 0, .int .i64 0, .int .i64 0, .int .i64 0, .int .i64 0, .int .i64 0, .int .i64 0, .int .i64 0, .int .i64 0, .int .i64 0, .int .i64 0, .int .i64 0, .int .i64 0, .int .i64 0, .int .i64 0] := rfl
theorem info_per : (Try.prog.info? 57).map (·.size) = some 16 := by kernel_rfl
/-- Such an array lies in a block of its own. -/
def ArrAt (w : World) (b : Nat) (f : Nat → Nat) : Prop := w.heap[b]? = some (.cells (arr16 f) 57 (0, 0))
theorem ArrAt.cell {w : World} {b : Nat} {f : Nat → Nat} (h : ArrAt w b f) {i : Nat} (hi : i < 16) : w.cell? ⟨b, i, none⟩ = some (.int .i64 (f i : Int)) := by
  rw [cell_of_row _ _ _ _ _ _ h]; exact arr16_at hi
theorem ArrAt.free {w : World} {b : Nat} {f : Nat → Nat} (h : ArrAt w b f) (j : Nat) : w.frozen? ⟨b, j, none⟩ = false := frozen_of_row _ _ _ _ _ h
theorem ArrAt.put {w : World} {b : Nat} {f : Nat → Nat} (h : ArrAt w b f) (i v : Nat) : ArrAt (w.setCell ⟨b, i, none⟩ (.int .i64 (v : Int))) b (fun k => if k = i then v else f k) := by
  unfold ArrAt
  rw [heap_setCell_same _ _ _ _ _ _ h, arr16_set]
theorem ArrAt.lt {w : World} {b : Nat} {f : Nat → Nat} (h : ArrAt w b f) : b < w.heap.size := by
  rcases Nat.lt_or_ge b w.heap.size with h' | h'
  · exact h'
  · unfold ArrAt at h; rw [Array.getElem?_eq_none h'] at h; simp at h
theorem ArrAt.later {w w' : World} {b : Nat} {f : Nat → Nat} (h : ArrAt w b f) (hb : Below w.heap.size w w') : ArrAt w' b f := (hb.block b h.lt).trans h
theorem ArrAt.other {w : World} {b : Nat} {f : Nat → Nat} (h : ArrAt w b f) {a : Addr} (v : Value) (hne : b ≠ a.block) : ArrAt (w.setCell a v) b f := (heap_setCell_other _ _ _ _ hne).trans h
theorem ArrAt.ext {w : World} {b : Nat} {f g : Nat → Nat} (h : ArrAt w b f) (hfg : ∀ i, i < 16 → f i = g i) : ArrAt w b g := by
  unfold ArrAt at h ⊢
  rwa [← arr16_ext hfg]
/-- How many codes there are of each length. -/
def cntN (ns : List Nat) (i : Nat) : Nat := if i = 0 then 0 else ns.count i

set_option maxHeartbeats 1000000 in
theorem room_any (ns : List Nat) (w : World) (hn : ns.length ≤ 320) :
    Calls Try.prog 31 #[.agg (arr16 (cntN ns))] w fun e w' => e = .returned (.int .i64 (32768 - (endC ns 15 : Nat) : Int)) ∧ Below w.heap.size w w' := by
  have HA : Hid (ArrAt (w.alloc (.cells (arr16 (cntN ns)) 57)) w.heap.size (cntN ns)) := Lib.hid (heap_alloc_new w _)
  go_enter Try.func31, Try.ntmps31
  go_wp2_with fail
  go_loopg [3, 8] 15 (fun g s3 s8 wx => ∃ (k : Nat) (z : Int), k + g = 15 ∧ s8 = .int .i64 (k : Int) ∧ s3 = .int .i64 z ∧ -20971520 ≤ z ∧ z ≤ 32768 ∧ Aside (z = ((2 ^ k : Nat) : Int) - (endC ns k : Nat)) ∧ w.alloc (.cells (arr16 (cntN ns)) 57) = wx)
  case atStart => exact ⟨0, 1, rfl, rfl, rfl, by omega, by omega, rfl, rfl⟩
  case round =>
    obtain ⟨k, z, hkg, rfl, rfl, hz1, hz2, HZ, rfl⟩ := hrel
    cases gk with
    | zero =>
      obtain rfl : k = 15 := by omega
      have Hr : Hid ((32768 - (endC ns 15 : Nat) : Int) = z) := Lib.hid (by rw [HZ.out]; rfl)
      go_wp2_with fail
      go_ret
      exact ⟨ret_int (by rw [Hr.out]), (Below.refl _ w).alloc (Nat.le_refl _) _⟩
    | succ g =>
      have hk : (k : Int) < 15 := by omega
      have hc := HA.out.cell (i := 1 + k) (by omega)
      obtain ⟨c, hcv⟩ : ∃ c, cntN ns (1 + k) = c := ⟨_, rfl⟩
      rw [hcv] at hc
      have hc2 : ns.count (k + 1) = c := by rw [← hcv]; unfold cntN; rw [if_neg (by omega), Nat.add_comm]
      have hcl : c ≤ 320 := by have := List.count_le_length (a := k + 1) (l := ns); omega
      have hend : endC ns (k + 1) = 2 * endC ns k + c := by rw [endC, hc2]
      have hb := endC_bound hn (k := k + 1) (by omega)
      have hp : (2 : Nat) ^ (k + 1) ≤ 2 ^ 15 := Nat.pow_le_pow_right (by omega) (by omega)
      have hp2 : (2 : Nat) ^ (k + 1) = 2 * 2 ^ k := by rw [Nat.pow_succ]; omega
      have Hz2 : Hid (2 * z - (c : Int) = ((2 ^ (k + 1) : Nat) : Int) - (endC ns (k + 1) : Nat)) := Lib.hid (by have := HZ.out; omega)
      have hz3 : -20971520 ≤ 2 * z - (c : Int) ∧ 2 * z - (c : Int) ≤ 32768 := by have := Hz2.out; omega
      obtain ⟨hz3, hz4⟩ := hz3
      clear hcv hc2 hend hb hp hp2
      go_wp2_with fail
      go_roundg g
      case measure => omega
      case rel => exact ⟨k + 1, 2 * z - c, by omega, by go_num, by go_num, hz3, hz4, Hz2.out, rfl⟩


/-- The numbers with which the first lengths begin. -/
def begun (ns : List Nat) (m k : Nat) (i : Nat) : Nat := if i ≤ k then startN ns m i else 0
theorem begun_one (ns : List Nat) (m : Nat) : begun ns m 1 = fun _ => 0 := by
  funext i
  unfold begun
  split
  · rcases i with _ | _ | i
    · rfl
    · rfl
    · omega
  · rfl
theorem begun_put {ns : List Nat} {m k v : Nat} (h : v = startN ns m (k + 1)) : (fun i => if i = k + 1 then v else begun ns m k i) = begun ns m (k + 1) := by
  funext i
  unfold begun
  by_cases e : i = k + 1
  · subst e; rw [if_pos rfl, if_pos (Nat.le_refl _), h]
  · rw [if_neg e]
    have : (i ≤ k + 1) = (i ≤ k) := by apply propext; omega
    simp only [this]
theorem ArrAt.load {ops : Array Oper} {rest : List Oper} {o : Oper} {a : Act} {w : World} {Q : Exit → Act → World → Prop} (hgd : o.guard = none) (x : Operand) (ho : o.op = .load 57 x)
    (b : Nat) (f : Nat → Nat) (hx : a.eval x = .pointer (some ⟨b, 0, none⟩)) (hg : ArrAt w b f) (h : wpList Try.prog ops Q rest (a.put o.dst (.agg (arr16 f))) w) : wpList Try.prog ops Q (o :: rest) a w :=
  wpList_load_row hgd _ x ho b hx _ _ _ _ hg Try.underlying57 rfl (by rw [arr16_size]; exact info_per) h
theorem setRow_below {B : Nat} {a w : World} (h : Below B a w) {g : Nat} (hB : B ≤ g) (cs : Array Value) : Below B a (w.setRow g cs) :=
  h.trans ⟨rfl, rfl, rfl, by simp, fun k hk => setRow_other _ _ _ _ (by omega)⟩
theorem ArrAt.store {ops : Array Oper} {rest : List Oper} {o : Oper} {a : Act} {w : World} {Q : Exit → Act → World → Prop} (hgd : o.guard = none) (hdst : o.dst = none) (x y : Operand) (ho : o.op = .store 57 x y)
    (b : Nat) (f g : Nat → Nat) (hx : a.eval x = .pointer (some ⟨b, 0, none⟩)) (hy : a.eval y = .agg (arr16 f)) (hg : ArrAt w b g) (B : Nat) (w0 : World) (hb : Below B w0 w) (hB : B ≤ b)
    (h : ∀ w', Hid (ArrAt w' b f) → Hid (Below B w0 w') → Hid (∀ k, k ≠ b → w'.heap[k]? = w.heap[k]?) → wpList Try.prog ops Q rest a w') : wpList Try.prog ops Q (o :: rest) a w := by
  refine wpList_plain hgd fun K hK => ?_
  refine wp_store_row _ x y ho b (arr16 f) hx hy _ (arr16 g) hg (by rw [arr16_size]; exact info_per) (by rw [arr16_size, arr16_size]) (arr16_one f) (hK _ _ ?_)
  have hr := h _ (Lib.hid (setRow_heap _ _ _ _ _ _ hg)) (Lib.hid (setRow_below hb hB _)) (Lib.hid fun k hk => setRow_other _ _ _ _ hk)
  rw [hdst]
  exact hr
theorem results_arr {fn : Func} {p : Tmp} (h : fn.results = #[.cell p 57]) (tmps : Array Value) (w : World) (b : Nat) (f : Nat → Nat) (hp : tmps.getD p undef = .pointer (some ⟨b, 0, none⟩)) (hg : ArrAt w b f) :
    (results fn tmps).run Try.prog w = .ok (.agg (arr16 f)) w :=
  results_cell_row h tmps w b _ _ _ _ hp hg Try.underlying57 rfl (by rw [arr16_size]; exact info_per)

set_option maxHeartbeats 1000000 in
theorem starts_any (ns : List Nat) (m : Nat) (w : World) (hn : ns.length ≤ 320) (hm : m = 1 ∨ m = 2) :
    Calls Try.prog 27 #[.agg (arr16 (cntN ns)), .int .i64 (m : Int)] w fun e w' => e = .returned (.agg (arr16 (startN ns m))) ∧ Below w.heap.size w w' := by
  have HA : Hid (ArrAt (w.alloc (.cells (arr16 (cntN ns)) 57)) w.heap.size (cntN ns)) := Lib.hid (heap_alloc_new w _)
  have hm2 : (m : Int) ≤ 2 := by omega
  go_enter Try.func27, Try.ntmps27
  go_wp2_with fail
  go_loopg [6] 14 (fun g s6 wx => ∃ k : Nat, k + g = 15 ∧ 0 < k ∧ s6 = .int .i64 (k : Int) ∧ Aside (ArrAt wx w.heap.size (cntN ns) ∧ ArrAt wx (w.heap.size + 1) (fun _ => 0) ∧ ArrAt wx (w.heap.size + 1 + 1) (begun ns m k)) ∧ Below w.heap.size w wx)
  case atStart =>
    refine ⟨1, rfl, by omega, rfl, ⟨?_, ?_, ?_⟩, (((Below.refl _ w).alloc (Nat.le_refl _) _).alloc (by simp) _).alloc (by simp; omega) _⟩
    · exact (HA.out.later ((Below.refl _ _).alloc (Nat.le_refl _) _)).later ((Below.refl _ _).alloc (Nat.le_refl _) _)
    · unfold ArrAt; rw [arr16_zero]; have := heap_alloc2_old (w.alloc (.cells (arr16 (cntN ns)) 57)); simpa using this _ _
    · rw [begun_one]; unfold ArrAt; rw [arr16_zero]; have := heap_alloc2_new (w.alloc (.cells (arr16 (cntN ns)) 57)); simpa using this _ _
  case round =>
    obtain ⟨k, hkg, hk0, rfl, HI, hb⟩ := hrel
    have Hb := Lib.hid hb
    clear hb
    cases gk with
    | zero =>
      obtain rfl : k = 15 := by omega
      go_wp2_with (with_reducible first
        | refine ArrAt.load rfl (.tmp 5) rfl (w.heap.size + 1 + 1) _ rfl HI.out.2.2 ?_
        | (refine ArrAt.store rfl rfl (.tmp 4) (.tmp 23) rfl (w.heap.size + 1) _ _ rfl rfl HI.out.2.1 w.heap.size w Hb.out (by omega) ?_; intro w2 H2 Hb2 _))
      refine bodyPost_ret (results_arr rfl _ _ (w.heap.size + 1) _ rfl (H2.out.ext (g := startN ns m) fun i hi => ?_)) rfl ⟨rfl, Hb2.out⟩
      unfold begun
      rw [if_pos (by omega)]
    | succ g =>
      have hk : (k : Int) < 15 := by omega
      obtain ⟨x, hx⟩ : ∃ x, startN ns m k = x := ⟨_, rfl⟩
      obtain ⟨c, hc⟩ : ∃ c, ns.count k = c := ⟨_, rfl⟩
      have hcl : c ≤ 320 := by have := List.count_le_length (a := k) (l := ns); omega
      have hxl : x ≤ 20971520 := by rw [← hx]; exact startN_bound hn hm (by omega)
      have c0 := HI.out.1.cell (i := k) (by omega)
      have c2 := HI.out.2.2.cell (i := k) (by omega)
      have f2 := HI.out.2.2.free (k + 1)
      have c3 := HI.out.2.2.cell (i := k + 1) (by omega)
      rw [show begun ns m k (k + 1) = 0 by unfold begun; rw [if_neg (by omega)]] at c3
      rw [show cntN ns k = c by unfold cntN; rw [if_neg (by omega), hc]] at c0
      rw [show begun ns m k k = x by unfold begun; rw [if_pos (Nat.le_refl _), hx]] at c2
      have hv : startN ns m (k + 1) = m * (x + c) := by
        obtain ⟨j, rfl⟩ : ∃ j, k = j + 1 := ⟨k - 1, by omega⟩
        rw [startN, hx, hc]
      have hmul : (m : Int) * ((x : Int) + (c : Int)) = ((m * (x + c) : Nat) : Int) := by simp
      obtain ⟨v, hvv⟩ : ∃ v, m * (x + c) = v := ⟨_, rfl⟩
      rw [hvv] at hv hmul
      have hvl : v ≤ 41943680 := by rw [← hvv]; rcases hm with rfl | rfl <;> omega
      have Hput : Hid ((fun i => if i = k + 1 then v else begun ns m k i) = begun ns m (k + 1)) := Lib.hid (begun_put hv.symm)
      have hw1 : IntKind.i64.wrap ((k : Int) + 1) = (k : Int) + 1 := IntWalk.i64_in _ (by omega)
      have hw2 : IntKind.i64.wrap ((x : Int) + (c : Int)) = (x : Int) + (c : Int) := IntWalk.i64_in _ (by omega)
      have hw3 : IntKind.i64.wrap (v : Int) = (v : Int) := IntWalk.i64_in _ (by omega)
      have hk1 : (0 : Int) ≤ (k : Int) + 1 := by omega
      have hk2 : (k : Int) + 1 < 16 := by omega
      have hk3 : (k : Int) < 16 := by omega
      have hk4 : ((k : Int) + 1).toNat = k + 1 := by omega
      clear hx hc hvv hv
      go_wp2_with fail
      go_region
      clear hw1 hw2 hw3
      go_wp2_with fail
      go_roundg g
      case measure => omega
      case rel =>
        refine ⟨k + 1, by omega, by omega, by go_num, ⟨?_, ?_, ?_⟩, (Hb.out.setCell (by simp; omega) _).drew⟩
        · exact HI.out.1.other _ (by simp; omega)
        · exact HI.out.2.1.other _ (by simp)
        · rw [← Hput.out]; exact HI.out.2.2.put (k + 1) v

end Go.Proofs.Ytahanllbaclokaa
