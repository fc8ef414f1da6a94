/-
  The contracts of package crc's arrays of steps: of, ofByte, twice.
-/
import Derived.Test.YtllimejpmihpfaaDoorCPass
import Derived.OwnWalk
import Derived.BigQuiet
import Derived.Deep.QuietTactic
namespace Go.Proofs.YtllimejpmihpfaaDoor
open Go.RowKit

theorem pow_mod32 {i : Nat} (hi : i < 32) : (2 : Int) ^ i % 4294967296 = ((2 ^ i : Nat) : Int) := by
  have h : (2 : Nat) ^ i < 4294967296 := Nat.pow_lt_pow_right (a := 2) (n := 32) (by omega) hi
  have e : ((2 ^ i : Nat) : Int) = (2 : Int) ^ i := by simp
  rw [← e]
  generalize (2 : Nat) ^ i = z at h
  omega
theorem and_bit (n i : Nat) : n &&& 2 ^ i = if n.testBit i then 2 ^ i else 0 := by
  apply Nat.eq_of_testBit_eq
  intro j
  rw [Nat.testBit_and, Nat.testBit_two_pow]
  by_cases h : i = j
  · subst h; cases hb : n.testBit i <;> simp
  · cases hb : n.testBit i <;> simp [h]
theorem pow_lt32 {i : Nat} (hi : i < 32) : 2 ^ i < 4294967296 := Nat.pow_lt_pow_right (a := 2) (by omega) hi
theorem bit_on {n i : Nat} (hn : n < 4294967296) (hi : i < 32) (h : n.testBit i = true) : (bits .and .u32 (n : Int) ((2 : Int) ^ i % 4294967296) != 0) = true := by
  rw [pow_mod32 hi, u32_and_nat n (2 ^ i) hn (pow_lt32 hi), and_bit, h, if_pos rfl]
  have : 0 < 2 ^ i := Nat.pow_pos (by omega)
  rw [bne_iff_ne]
  generalize (2 : Nat) ^ i = z at this
  omega
theorem bit_off {n i : Nat} (hn : n < 4294967296) (hi : i < 32) (h : n.testBit i = false) : (bits .and .u32 (n : Int) ((2 : Int) ^ i % 4294967296) != 0) = false := by
  rw [pow_mod32 hi, u32_and_nat n (2 ^ i) hn (pow_lt32 hi), and_bit, h]
  simp

set_option maxHeartbeats 1000000 in
theorem of_any (b k n : Nat) (w : World) (hn : n < 4294967296) (hr : ∀ i, i < 32 → w.cell? ⟨b, i, none⟩ = some (.int .u32 (HN k (2 ^ i) : Int))) :
    Calls Tryd.prog 19 #[.pointer (some ⟨b, 0, none⟩), .int .u32 (n : Int)] w fun e w' => e = .returned (.int .u32 (HN k n : Int)) ∧ w = w' := by
  have Hr := Lib.hid hr
  clear hr
  go_enter Tryd.func19, Tryd.ntmps19
  go_wp2_with fail
  go_loopg [5, 7] 32 (fun g s5 s7 wx => ∃ (i z : Nat), i + g = 32 ∧ s7 = .int .i64 i ∧ s5 = .int .u32 z ∧ z < 4294967296 ∧ Aside (z = HN k (n % 2 ^ i)) ∧ w = wx)
  case atStart => exact ⟨0, 0, rfl, rfl, rfl, by omega, by show 0 = _; rw [Nat.pow_zero, Nat.mod_one, HN_zero], rfl⟩
  case round =>
    obtain ⟨i, z, hig, rfl, rfl, hz, HZ, rfl⟩ := hrel
    cases gk with
    | zero =>
      obtain rfl : i = 32 := by omega
      go_wp2_with fail
      go_ret
      exact ⟨ret_int (by rw [HZ.out, Nat.mod_eq_of_lt hn]), rfl⟩
    | succ g =>
      have hi : (i : Int) < 32 := by omega
      cases hbit : n.testBit i
      · have hx := bit_off hn (by omega) hbit
        have Hbit := Lib.hid hbit
        clear hbit
        go_wp2_with fail
        go_roundg g
        case measure => omega
        case rel => exact ⟨i + 1, z, by omega, by go_num, rfl, hz, by rw [mask_step_off Hbit.out]; exact HZ.out, rfl⟩
      · have hx := bit_on hn (by omega) hbit
        have hc := Hr.out i (by omega)
        have hy2 : HN k (2 ^ i) < 4294967296 := HN_lt k (pow_lt32 (by omega))
        obtain ⟨y, hy⟩ : ∃ y, HN k (2 ^ i) = y := ⟨_, rfl⟩
        rw [hy] at hc hy2
        have Hv : Hid (HN k (n % 2 ^ (i + 1)) = z ^^^ y) := Lib.hid (by rw [mask_step_on hbit, HN_xor, ← hy, HZ.out])
        have hxor := u32_xor_nat z y hz hy2
        have hlt : z ^^^ y < 4294967296 := Nat.xor_lt_two_pow (n := 32) hz hy2
        obtain ⟨v, hv⟩ : ∃ v, z ^^^ y = v := ⟨_, rfl⟩
        rw [hv] at hxor hlt Hv
        clear hy hv hbit
        go_wp2_with fail
        go_roundg g
        case measure => omega
        case rel => exact ⟨i + 1, v, by omega, by go_num, rfl, hlt, Hv.out.symm, rfl⟩

/-- The numbers that so many halvings make of each bit alone. -/
def stepsOf (k : Nat) : Array Value := ((List.range 32).map fun i => Value.int .u32 (HN k (2 ^ i) : Int)).toArray
/-- An array that is filled from its head on. -/
def filled (k i : Nat) : Array Value := ((List.range 32).map fun j => Value.int .u32 (if j < i then (HN k (2 ^ j) : Int) else 0)).toArray

theorem filled_zero (k : Nat) : filled k 0 = #[.int .u32 0, .int .u32 0, .int .u32 0, .int .u32 0, .int .u32 0, .int .u32 0, .int .u32 0, .int .u32 0, .int .u32 0, .int .u32 0, .int .u32 0, .int .u32 0, .int .u32 0, .int .u32 0, .int .u32 0, .int .u32 0, .int .u32 0, .int .u32 0, .int .u32 0, .int .u32 0, .int .u32 0, .int .u32 0, .int .u32 0, .int .u32 0, .int .u32 0, .int .u32 0, .int .u32 0, .int .u32 0, .int .u32 0, .int .u32 0, .int .u32 0, .int .u32 0] := rfl
theorem filled_size (k i : Nat) : (filled k i).size = 32 := by simp [filled]
theorem stepsOf_size (k : Nat) : (stepsOf k).size = 32 := by simp [stepsOf]
theorem filled_at {k i : Nat} (h : i < 32) : (filled k i)[i]? = some (.int .u32 0) := by simp [filled, h]
theorem stepsOf_at {k i : Nat} (h : i < 32) : (stepsOf k)[i]? = some (.int .u32 (HN k (2 ^ i) : Int)) := by simp [stepsOf, h]
theorem filled_set {k i : Nat} : (filled k i).setIfInBounds i (.int .u32 (HN k (2 ^ i) : Int)) = filled k (i + 1) := by
  apply Array.ext
  · simp [filled]
  · intro j h1 h2
    simp only [Array.size_setIfInBounds, filled_size] at h1
    rw [Array.getElem_setIfInBounds (by simpa [filled_size] using h1)]
    by_cases e : i = j
    · subst e; simp [filled]
    · rw [if_neg e]
      have hj : (j < i + 1) = (j < i) := by apply propext; omega
      simp [filled, hj]
theorem filled_all (k : Nat) : filled k 32 = stepsOf k := by
  apply Array.ext
  · simp [filled, stepsOf]
  · intro j h1 h2
    rw [filled_size] at h1
    simp [filled, stepsOf, h1]
theorem stepsOf_one (k : Nat) : (stepsOf k).all (·.oneCell') = true := by
  rw [Array.all_eq_true_iff_forall_mem]
  intro v hv
  simp only [stepsOf, List.mem_toArray, List.mem_map] at hv
  obtain ⟨i, _, rfl⟩ := hv
  rfl
theorem info_steps : (Tryd.prog.info? 45).map (·.size) = some 32 := by kernel_rfl

/-- An array that is filled from its head on lies in a block of its own. -/
def FillAt (w : World) (b k i : Nat) : Prop := w.heap[b]? = some (.cells (filled k i) 45 (0, 0))
theorem FillAt.cell {w : World} {b k i : Nat} (h : FillAt w b k i) (hi : i < 32) : w.cell? ⟨b, i, none⟩ = some (.int .u32 0) := by
  rw [cell_of_row _ _ _ _ _ _ h]; exact filled_at hi
theorem FillAt.free {w : World} {b k i : Nat} (h : FillAt w b k i) (j : Nat) : w.frozen? ⟨b, j, none⟩ = false := frozen_of_row _ _ _ _ _ h
theorem FillAt.next {w : World} {b k i : Nat} (h : FillAt w b k i) : FillAt (w.setCell ⟨b, i, none⟩ (.int .u32 (HN k (2 ^ i) : Int))) b k (i + 1) := by
  unfold FillAt
  rw [heap_setCell_same _ _ _ _ _ _ h, filled_set]
theorem FillAt.lt {w : World} {b k i : Nat} (h : FillAt w b k i) : b < w.heap.size := by
  rcases Nat.lt_or_ge b w.heap.size with h' | h'
  · exact h'
  · unfold FillAt at h; rw [Array.getElem?_eq_none h'] at h; simp at h
theorem FillAt.later {w w' : World} {b k i : Nat} (h : FillAt w b k i) (hb : Below w.heap.size w w') : FillAt w' b k i :=
  (hb.block b h.lt).trans h
theorem FillAt.other {w : World} {b k i : Nat} (h : FillAt w b k i) {a : Addr} (v : Value) (hne : b ≠ a.block) : FillAt (w.setCell a v) b k i := (heap_setCell_other _ _ _ _ hne).trans h
theorem Below.setRow {B : Nat} {a w : World} (h : Below B a w) {g : Nat} (hB : B ≤ g) (cs : Array Value) : Below B a (w.setRow g cs) :=
  h.trans ⟨rfl, rfl, rfl, by simp, fun k hk => setRow_other _ _ _ _ (by omega)⟩

/-- The whole array is read. -/
theorem wpList_load_steps {ops : Array Oper} {rest : List Oper} {o : Oper} {a : Act} {w : World} {Q : Exit → Act → World → Prop} (hgd : o.guard = none) (x : Operand) (ho : o.op = .load 45 x)
    (b k : Nat) (hx : a.eval x = .pointer (some ⟨b, 0, none⟩)) (hg : FillAt w b k 32) (h : wpList Tryd.prog ops Q rest (a.put o.dst (.agg (stepsOf k))) w) : wpList Tryd.prog ops Q (o :: rest) a w := by
  unfold FillAt at hg
  rw [filled_all] at hg
  exact wpList_load_row hgd _ x ho b hx _ _ _ _ hg Tryd.underlying45 rfl (by rw [stepsOf_size]; exact info_steps) h
/-- The whole array is written. -/
theorem wpList_store_steps {ops : Array Oper} {rest : List Oper} {o : Oper} {a : Act} {w : World} {Q : Exit → Act → World → Prop} (hgd : o.guard = none) (hdst : o.dst = none) (x y : Operand) (ho : o.op = .store 45 x y)
    (b k i j : Nat) (hx : a.eval x = .pointer (some ⟨b, 0, none⟩)) (hy : a.eval y = .agg (stepsOf k)) (hg : FillAt w b i j) (B : Nat) (w0 : World) (hb : Below B w0 w) (hB : B ≤ b)
    (h : ∀ w', Hid (FillAt w' b k 32) → Hid (Below B w0 w') → wpList Tryd.prog ops Q rest a w') : wpList Tryd.prog ops Q (o :: rest) a w := by
  refine wpList_plain hgd fun K hK => ?_
  refine wp_store_row _ x y ho b (stepsOf k) hx hy _ (filled i j) hg (by rw [stepsOf_size]; exact info_steps) (by rw [stepsOf_size, filled_size]) (stepsOf_one k) (hK _ _ ?_)
  have hf : FillAt (w.setRow b (stepsOf k)) b k 32 := by
    unfold FillAt
    rw [filled_all]
    exact setRow_heap _ _ _ _ _ _ hg
  have hr := h _ hf (Lib.hid (Below.setRow hb hB _))
  rw [hdst]
  exact hr
/-- The result in a block of its own. -/
theorem results_steps {fn : Func} {p : Tmp} (h : fn.results = #[.cell p 45]) (tmps : Array Value) (w : World) (b k : Nat) (hp : tmps.getD p undef = .pointer (some ⟨b, 0, none⟩)) (hg : FillAt w b k 32) :
    (results fn tmps).run Tryd.prog w = .ok (.agg (stepsOf k)) w := by
  unfold FillAt at hg
  rw [filled_all] at hg
  exact results_cell_row h tmps w b _ _ _ _ hp hg Tryd.underlying45 rfl (by rw [stepsOf_size]; exact info_steps)

set_option maxHeartbeats 1000000 in
theorem ofByte_any (w : World) (hl : Laid w) :
    Calls Tryd.prog 18 #[] w fun e w' => e = .returned (.agg (stepsOf 8)) ∧ Below w.heap.size w w' := by
  have Hl := Lib.hid hl
  clear hl
  go_enter Tryd.func18, Tryd.ntmps18
  go_wp2_with fail
  go_loopg [3] 32 (fun g s3 wx => ∃ i : Nat, i + g = 32 ∧ s3 = .int .i64 i ∧ Aside (FillAt wx w.heap.size 8 0 ∧ FillAt wx (w.heap.size + 1) 8 i) ∧ Below w.heap.size w wx)
  case atStart =>
    refine ⟨0, rfl, rfl, ⟨?_, ?_⟩, ((Below.refl _ w).alloc (Nat.le_refl _) _).alloc (by simp) _⟩
    · unfold FillAt; rw [filled_zero]; exact heap_alloc2_old w _ _
    · unfold FillAt; rw [filled_zero]; exact heap_alloc2_new w _ _
  case round =>
    obtain ⟨i, hig, rfl, HF, hb⟩ := hrel
    have Hb := Lib.hid hb
    clear hb
    cases gk with
    | zero =>
      obtain rfl : i = 32 := by omega
      go_wp2_with (with_reducible first
        | refine wpList_load_steps rfl (.tmp 1) rfl (w.heap.size + 1) 8 rfl HF.out.2 ?_
        | (refine wpList_store_steps rfl rfl (.tmp 0) (.tmp 12) rfl w.heap.size 8 8 0 rfl rfl HF.out.1 w.heap.size w Hb.out (Nat.le_refl _) ?_; intro w2 H2 Hb2))
      exact bodyPost_ret (results_steps rfl _ _ w.heap.size 8 rfl H2.out) rfl ⟨rfl, Hb2.out⟩
    | succ g =>
      have hi : (i : Int) < 32 := by omega
      have hpow := pow_mod32 (show i < 32 by omega)
      obtain ⟨p, hp⟩ : ∃ p, 2 ^ i = p := ⟨_, rfl⟩
      have hpl : p < 4294967296 := by rw [← hp]; exact pow_lt32 (by omega)
      rw [hp] at hpow
      have Hp := Lib.hid hp
      have hc := HF.out.2.cell (by omega)
      have hz := HF.out.2.free i
      clear hp
      go_wp2_with fail
      refine (pass_any p _ hpl (Hl.out.later Hb.out)).mono ?_
      rintro e w1 ⟨rfl, rfl⟩
      go_wp2_with fail
      go_roundg g
      case measure => omega
      case rel => exact ⟨i + 1, by omega, by go_num, ⟨HF.out.1.other _ (by simp), by rw [← Hp.out]; exact HF.out.2.next⟩, Hb.out.setCell (by simp) _⟩

theorem FillAt.step {w : World} {b k i : Nat} (h : FillAt w b k 32) (hi : i < 32) : w.cell? ⟨b, i, none⟩ = some (.int .u32 (HN k (2 ^ i) : Int)) := by
  unfold FillAt at h
  rw [filled_all] at h
  rw [cell_of_row _ _ _ _ _ _ h]; exact stepsOf_at hi
set_option maxHeartbeats 1000000 in
theorem twice_any (b k : Nat) (w : World) (hr : FillAt w b k 32) :
    Calls Tryd.prog 20 #[.pointer (some ⟨b, 0, none⟩)] w fun e w' => e = .returned (.agg (stepsOf (k + k))) ∧ Below w.heap.size w w' := by
  have Hr := Lib.hid hr
  clear hr
  go_enter Tryd.func20, Tryd.ntmps20
  go_wp2_with fail
  go_loopg [7] 32 (fun g s7 wx => ∃ i : Nat, i + g = 32 ∧ s7 = .int .i64 i ∧ Aside (FillAt wx w.heap.size (k + k) 0 ∧ FillAt wx (w.heap.size + 1) (k + k) i ∧ FillAt wx b k 32) ∧ Below w.heap.size w wx)
  case atStart =>
    have hb : Below w.heap.size w ((w.alloc (.cells (filled (k + k) 0) 45)).alloc (.cells (filled (k + k) 0) 45)) := ((Below.refl _ w).alloc (Nat.le_refl _) _).alloc (by simp) _
    refine ⟨0, rfl, rfl, ⟨?_, ?_, ?_⟩, hb⟩
    · unfold FillAt; rw [filled_zero]; exact heap_alloc2_old w _ _
    · unfold FillAt; rw [filled_zero]; exact heap_alloc2_new w _ _
    · exact Hr.out.later hb
  case round =>
    obtain ⟨i, hig, rfl, HF, hb⟩ := hrel
    have Hb := Lib.hid hb
    clear hb
    cases gk with
    | zero =>
      obtain rfl : i = 32 := by omega
      go_wp2_with (with_reducible first
        | refine wpList_load_steps rfl (.tmp 3) rfl (w.heap.size + 1) (k + k) rfl HF.out.2.1 ?_
        | (refine wpList_store_steps rfl rfl (.tmp 2) (.tmp 19) rfl w.heap.size (k + k) (k + k) 0 rfl rfl HF.out.1 w.heap.size w Hb.out (Nat.le_refl _) ?_; intro w2 H2 Hb2))
      exact bodyPost_ret (results_steps rfl _ _ w.heap.size (k + k) rfl H2.out) rfl ⟨rfl, Hb2.out⟩
    | succ g =>
      have hi : (i : Int) < 32 := by omega
      obtain ⟨p, hp⟩ : ∃ p, HN k (2 ^ i) = p := ⟨_, rfl⟩
      have hpl : p < 4294967296 := by rw [← hp]; exact HN_lt k (pow_lt32 (by omega))
      have hs := HF.out.2.2.step (show i < 32 by omega)
      rw [hp] at hs
      have Hp : Hid (HN (k + k) (2 ^ i) = HN k p) := Lib.hid (by rw [HN_add, hp])
      have hc := HF.out.2.1.cell (by omega)
      have hz := HF.out.2.1.free i
      clear hp
      go_wp2_with fail
      go_quiet (fail)
      go_wp2_with fail
      refine (of_any b k p _ hpl (fun j hj => (show FillAt (wr.drewN nq) b k 32 from HF.out.2.2).step hj)).mono ?_
      rintro e w1 ⟨rfl, rfl⟩
      go_wp2_with fail
      go_roundg g
      case measure => omega
      case rel =>
        have h0 : FillAt (wr.drewN nq) w.heap.size (k + k) 0 := HF.out.1
        have h1 : FillAt (wr.drewN nq) (w.heap.size + 1) (k + k) i := HF.out.2.1
        have h2 : FillAt (wr.drewN nq) b k 32 := HF.out.2.2
        have hlt : b < w.heap.size := Hr.out.lt
        exact ⟨i + 1, by omega, by go_num, ⟨h0.other _ (by simp), by rw [← Hp.out]; exact h1.next, h2.other _ (by simp; omega)⟩, (below_drewN Hb.out _).setCell (by simp) _⟩

end Go.Proofs.YtllimejpmihpfaaDoor

