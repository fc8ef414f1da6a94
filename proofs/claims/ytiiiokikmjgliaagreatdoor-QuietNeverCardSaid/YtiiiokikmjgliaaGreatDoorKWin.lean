/-
  SqMap, SqWin, SqThree, SqPass: texts merged.
-/
import Derived.Test.YtiiiokikmjgliaaGreatDoorKPlain
import Derived.Test.YtiiiokikmjgliaaGreatDoorRows
import Derived.Test.YtiiiokikmjgliaaGreatDoorKRows
import Derived.Maps.OwnSet
import Derived.DeepKeys4
import Derived.WideKeyArr
import Derived.WideKeyPair
import Derived.Test.YtiiiokikmjgliaaGreatDoorKCodeR
import Derived.Deep.RegionHeld3
import Derived.BigQuiet
import Derived.Deep.QuietTactic
import Derived.Deep.RegionWith
import Derived.Deep.LoopGhost
import Derived.Deep.RegionLaw
/-
  The map of package squeeze: where three bytes stood last.
-/
namespace Go.Proofs.YtiiiokikmjgliaaGreatDoor
section
open Go.RowKit Go.Maps Go.WideMaps
set_option maxRecDepth 100000
theorem under_three : Tryz.prog.underlying 206 = some (.array 3 5) := by kernel_rfl
theorem under_u8 : Tryz.prog.underlying 5 = some (.int .u8) := by kernel_rfl
theorem under_int : Tryz.prog.underlying 3 = some (.int .i64) := by kernel_rfl
theorem under_map : Tryz.prog.underlying 150 = some (.map 206 3) := by kernel_rfl
theorem zero_int (w : World) : (zeroValue 3).run Tryz.prog w = .ok (.int .i64 0) w := by kernel_rfl
theorem arr_three : ArrKey Tryz.prog 206 5 3 := ⟨under_three, by kernel_rfl, by kernel_rfl, by kernel_rfl⟩
def t3V (t : T3) : Value := .agg #[.int .u8 (t.1.toNat : Int), .int .u8 (t.2.1.toNat : Int), .int .u8 (t.2.2.toNat : Int)]
theorem t3V_inj {t u : T3} (h : t3V t = t3V u) : t = u := by
  obtain ⟨a, b, c⟩ := t
  obtain ⟨a', b', c'⟩ := u
  unfold t3V at h
  simp at h
  obtain ⟨h1, h2, h3⟩ := h
  rw [show a = a' from UInt8.toNat_inj.1 (by omega), show b = b' from UInt8.toNat_inj.1 (by omega), show c = c' from UInt8.toNat_inj.1 (by omega)]
theorem key_three {P : Program} {k e : TypeId} {q : IntKind} (A : ArrKey P k e 3) (he : P.underlying e = some (.int q)) (hsz : ∃ m, P.types.size = m + 1) {a b c : Int} (wa : (Lit.int q a).wf = true) (wb : (Lit.int q b).wf = true) (wc : (Lit.int q c).wf = true) :
    keyOf P k (.agg #[.int q a, .int q b, .int q c]) = some (.string (keyBytes [.int q a, .int q b, .int q c])) := by
  have hkt := A.keyType hsz
  obtain ⟨m, hm⟩ := hsz
  unfold keyOf
  simp only [A.hu]
  rw [if_pos (by simp [hkt, Value.formed, A.hu, A.size]), hm]
  unfold Program.keyLits
  simp only [A.hu, Value.cells]
  rw [if_pos (by rw [A.size]; rfl), show List.range 3 = [0, 1, 2] from rfl, List.mapM_cons, List.mapM_cons, List.mapM_cons, List.mapM_nil]
  simp [A.one, Program.keyLits, he, wa, wb, wc]
theorem u8_wf (c : UInt8) : (Lit.int .u8 (c.toNat : Int)).wf = true := by
  have := c.toNat_lt
  have h1 : IntKind.u8.min = 0 := rfl
  have h2 : IntKind.u8.max = 255 := rfl
  simp [Lit.wf, h1, h2]
  omega
theorem types_some : ∃ m, Tryz.prog.types.size = m + 1 := ⟨Tryz.prog.types.size - 1, by kernel_rfl⟩
theorem law_three : Keyed Tryz.prog 206 := Keyed.of_law arr_three.law
theorem t3V_key (t : T3) : ∃ kl, keyOf Tryz.prog 206 (t3V t) = some kl := ⟨_, key_three arr_three under_u8 types_some (u8_wf _) (u8_wf _) (u8_wf _)⟩
noncomputable def keyT (t : T3) : Lit := (t3V_key t).choose
theorem keyT_is (t : T3) : keyOf Tryz.prog 206 (t3V t) = some (keyT t) := (t3V_key t).choose_spec
theorem keyT_ne {t u : T3} (h : u ≠ t) : keyT u ≠ keyT t := fun e => h (t3V_inj (law_three.inj (keyT_is u) (e ▸ keyT_is t)))
def TellsF (D : DataW Unit) (f : T3 → Option Nat) : Prop := ∀ t, Maps.has D (keyT t) = (f t).isSome ∧ D.atKey (keyT t) (.lit (.int .i64 0)) = .lit (.int .i64 ((f t).getD 0 : Nat))
def MapIs (w : World) (m cnt : Nat) (f : T3 → Option Nat) : Prop := ∃ D : DataW Unit, w.ownsMap Tryz.prog 206 (plainElem Tryz.prog 3) m cnt D ∧ TellsF D f
theorem tells_none : TellsF (.map []) fun _ => none := fun _ => ⟨rfl, rfl⟩
def updF (f : T3 → Option Nat) (t : T3) (v : Option Nat) : T3 → Option Nat := fun u => if u = t then v else f u
theorem updF_same (f : T3 → Option Nat) (t : T3) (v : Option Nat) : updF f t v t = v := if_pos rfl
theorem updF_other {f : T3 → Option Nat} {t u : T3} (v : Option Nat) (h : u ≠ t) : updF f t v u = f u := if_neg h
theorem TellsF.put {D : DataW Unit} {f : T3 → Option Nat} (h : TellsF D f) (hD : IsMap D) (t : T3) (p : Nat) : TellsF (D.put (keyT t) (.lit (.int .i64 (p : Int)))) (updF f t (some p)) := fun u => by
  by_cases hu : u = t
  · subst hu
    rw [updF_same, has_put_same hD (law_three.key (keyT_is u)), atKey_put_same hD (law_three.key (keyT_is u))]
    exact ⟨rfl, rfl⟩
  · rw [updF_other _ hu, has_put_other (keyT_ne hu), atKey_put_other (keyT_ne hu)]
    exact h u
theorem TellsF.del {D : DataW Unit} {f : T3 → Option Nat} (h : TellsF D f) (t : T3) : TellsF (D.del (keyT t)) (updF f t none) := fun u => by
  by_cases hu : u = t
  · subst hu
    rw [updF_same, has_del_same, atKey_del_same]
    exact ⟨rfl, rfl⟩
  · rw [updF_other _ hu, has_del_other (keyT_ne hu), atKey_del_other (keyT_ne hu)]
    exact h u
theorem forgetF_hit {l : List UInt8} {a : Nat} {f : T3 → Option Nat} {t : T3} (h1 : 32768 ≤ a) (h2 : threeAt l (a - 32768) = some t) (h3 : f t = some (a - 32768)) : forgetF l a f = updF f t none := by
  funext u
  unfold forgetF updF
  by_cases hu : u = t
  · subst hu
    rw [if_pos ⟨h1, h2, h3⟩, if_pos rfl]
  · rw [if_neg hu, if_neg (by rintro ⟨_, e, _⟩; rw [h2] at e; exact hu (Option.some.inj e).symm)]
theorem forgetF_miss {l : List UInt8} {a : Nat} {f : T3 → Option Nat} {t : T3} (h2 : threeAt l (a - 32768) = some t) (h3 : f t ≠ some (a - 32768)) : forgetF l a f = f := by
  funext u
  unfold forgetF
  rw [if_neg]
  rintro ⟨_, e, e2⟩
  rw [h2] at e
  obtain rfl := Option.some.inj e
  exact h3 e2
theorem forgetF_early {l : List UInt8} {a : Nat} {f : T3 → Option Nat} (h : a < 32768) : forgetF l a f = f := by
  funext u
  unfold forgetF
  rw [if_neg (by omega)]
theorem keepF_is {l : List UInt8} {a : Nat} {f : T3 → Option Nat} {t : T3} (h : threeAt l a = some t) : keepF l a f = updF f t (some a) := by
  funext u
  unfold keepF updF
  by_cases hu : u = t
  · subst hu; rw [if_pos h, if_pos rfl]
  · rw [if_neg hu, if_neg (by rw [h]; intro e; exact hu (Option.some.inj e).symm)]
theorem keepF_none {l : List UInt8} {a : Nat} {f : T3 → Option Nat} (h : threeAt l a = none) : keepF l a f = f := by
  funext u
  unfold keepF
  rw [if_neg (by rw [h]; intro e; cases e)]
end
end Go.Proofs.YtiiiokikmjgliaaGreatDoor
/-
  A window of a text in memory.
-/
namespace Go.Proofs.YtiiiokikmjgliaaGreatDoor
section
open Go.RowKit
set_option maxRecDepth 100000
theorem MapIs.move {w w' : World} {m cnt : Nat} {f : T3 → Option Nat} (h : MapIs w m cnt f) (hk : w'.heap[m]? = w.heap[m]?) : MapIs w' m cnt f := by
  obtain ⟨D, ⟨es, clock, hb, r⟩, t⟩ := h
  exact ⟨D, ⟨es, clock, hk.trans hb, r⟩, t⟩
theorem MapIs.lt {w : World} {m cnt : Nat} {f : T3 → Option Nat} (h : MapIs w m cnt f) : m < w.heap.size := by
  obtain ⟨D, h, _⟩ := h
  exact h.lt
def IntsAt (w : World) (g : Nat) (A : List Int) : Prop := w.heap[g]? = some (.cells (cellsZ A).toArray 3 (0, 0))
theorem IntsAt.cell {w : World} {g : Nat} {A : List Int} (h : IntsAt w g A) {j : Nat} {v : Int} (hj : A[j]? = some v) : w.cell? ⟨g, j, none⟩ = some (.int .i64 v) := by
  obtain ⟨h1, h2⟩ := List.getElem?_eq_some_iff.1 hj
  rw [cell_of_row _ _ _ _ _ _ h, List.getElem?_toArray, cellsZ_at h1, h2]
theorem IntsAt.free {w : World} {g : Nat} {A : List Int} (h : IntsAt w g A) (j : Nat) : w.frozen? ⟨g, j, none⟩ = false := frozen_of_row _ _ _ _ _ h
theorem IntsAt.put {w : World} {g : Nat} {A : List Int} (h : IntsAt w g A) (j : Nat) (v : Int) : IntsAt (w.setCell ⟨g, j, none⟩ (.int .i64 v)) g (A.set j v) := by
  unfold IntsAt
  rw [heap_setCell_same _ _ _ _ _ _ h, List.setIfInBounds_toArray]
  unfold cellsZ
  rw [List.map_set]
theorem IntsAt.lt {w : World} {g : Nat} {A : List Int} (h : IntsAt w g A) : g < w.heap.size := by
  rcases Nat.lt_or_ge g w.heap.size with h' | h'
  · exact h'
  · unfold IntsAt at h; rw [Array.getElem?_eq_none h'] at h; simp at h
def WinCell (w : World) (W : Nat) (s : ByteArray) (a m g n : Nat) : Prop := w.heap[W]? = some (.cells #[.string s, .int .i64 (a : Int), .map (some m), .slice (some ⟨g, 0, none⟩) n n] 152 (0, 0))
theorem WinCell.text {w : World} {W : Nat} {s : ByteArray} {a m g n : Nat} (h : WinCell w W s a m g n) : w.cell? ⟨W, 0, none⟩ = some (.string s) := by rw [cell_of_row _ _ _ _ _ _ h]; rfl
theorem WinCell.at' {w : World} {W : Nat} {s : ByteArray} {a m g n : Nat} (h : WinCell w W s a m g n) : w.cell? ⟨W, 1, none⟩ = some (.int .i64 (a : Int)) := by rw [cell_of_row _ _ _ _ _ _ h]; rfl
theorem WinCell.last {w : World} {W : Nat} {s : ByteArray} {a m g n : Nat} (h : WinCell w W s a m g n) : w.cell? ⟨W, 2, none⟩ = some (.map (some m)) := by rw [cell_of_row _ _ _ _ _ _ h]; rfl
theorem WinCell.ahead {w : World} {W : Nat} {s : ByteArray} {a m g n : Nat} (h : WinCell w W s a m g n) : w.cell? ⟨W, 3, none⟩ = some (.slice (some ⟨g, 0, none⟩) n n) := by rw [cell_of_row _ _ _ _ _ _ h]; rfl
theorem WinCell.free {w : World} {W : Nat} {s : ByteArray} {a m g n : Nat} (h : WinCell w W s a m g n) (j : Nat) : w.frozen? ⟨W, j, none⟩ = false := frozen_of_row _ _ _ _ _ h
theorem WinCell.lt {w : World} {W : Nat} {s : ByteArray} {a m g n : Nat} (h : WinCell w W s a m g n) : W < w.heap.size := by
  rcases Nat.lt_or_ge W w.heap.size with h' | h'
  · exact h'
  · unfold WinCell at h; rw [Array.getElem?_eq_none h'] at h; cases h
theorem WinCell.putAt {w : World} {W : Nat} {s : ByteArray} {a m g n : Nat} (h : WinCell w W s a m g n) (b : Nat) : WinCell (w.setCell ⟨W, 1, none⟩ (.int .i64 (b : Int))) W s b m g n := heap_setCell_same _ _ 1 _ _ _ h
structure WinIs (w : World) (W : Nat) (s : ByteArray) (a m g cnt : Nat) (f : T3 → Option Nat) (A : List Int) : Prop where
  cell : WinCell w W s a m g A.length
  map : MapIs w m cnt f
  row : IntsAt w g A
  d1 : W ≠ m
  d2 : W ≠ g
  d3 : m ≠ g
def winF (W m g : Nat) : List Nat := [W, m, g]
section
variable {w w' : World} {W : Nat} {s : ByteArray} {a m g cnt : Nat} {f : T3 → Option Nat} {A : List Int}
theorem WinIs.move (h : WinIs w W s a m g cnt f A) (hk : ∀ k ∈ winF W m g, w'.heap[k]? = w.heap[k]?) : WinIs w' W s a m g cnt f A :=
  ⟨(hk W (by simp [winF])).trans h.cell, h.map.move (hk m (by simp [winF])), (hk g (by simp [winF])).trans h.row, h.d1, h.d2, h.d3⟩
theorem WinIs.lt (h : WinIs w W s a m g cnt f A) : ∀ k ∈ winF W m g, k < w.heap.size := fun k hk => by
  simp only [winF, List.mem_cons, List.not_mem_nil, or_false] at hk
  rcases hk with rfl | rfl | rfl
  · exact h.cell.lt
  · exact h.map.lt
  · exact h.row.lt
theorem WinIs.later (h : WinIs w W s a m g cnt f A) (hb : Below w.heap.size w w') : WinIs w' W s a m g cnt f A := h.move fun k hk => hb.block k (h.lt k hk)
end
def WinAt (w : World) (W : Nat) (s : ByteArray) (a m g : Nat) : Prop := ∃ cnt f A, WinIs w W s a m g cnt f A ∧ cnt ≤ a ∧ LastIs s.data.toList a f ∧ AheadIs s.data.toList a A ∧ A.length = min s.size 32768
theorem WinAt.lt {w : World} {W : Nat} {s : ByteArray} {a m g : Nat} (h : WinAt w W s a m g) : ∀ k ∈ winF W m g, k < w.heap.size := by
  obtain ⟨cnt, f, A, h, _⟩ := h
  exact h.lt
theorem WinAt.move {w w' : World} {W : Nat} {s : ByteArray} {a m g : Nat} (h : WinAt w W s a m g) (hk : ∀ k ∈ winF W m g, w'.heap[k]? = w.heap[k]?) : WinAt w' W s a m g := by
  obtain ⟨cnt, f, A, h, r⟩ := h
  exact ⟨cnt, f, A, h.move hk, r⟩
theorem WinAt.later {w w' : World} {W : Nat} {s : ByteArray} {a m g : Nat} (h : WinAt w W s a m g) (hb : Below w.heap.size w w') : WinAt w' W s a m g := h.move fun k hk => hb.block k (h.lt k hk)
theorem text_get {s : ByteArray} {i : Nat} (h : i < s.size) : s.data.toList[i]? = some (s[i]'h) := by
  rw [Array.getElem?_toList]
  exact Array.getElem?_eq_getElem h
theorem text_three {s : ByteArray} {p : Nat} (h : p + 3 ≤ s.size) : threeAt s.data.toList p = some (s[p]'(by omega), s[p + 1]'(by omega), s[p + 2]'(by omega)) := by
  unfold threeAt
  rw [text_get (by omega), text_get (by omega), text_get (by omega)]
theorem text_three_none {s : ByteArray} {p : Nat} (h : s.size < p + 3) : threeAt s.data.toList p = none := by
  cases ht : threeAt s.data.toList p with
  | none => rfl
  | some t =>
    have := threeAt_lt ht
    rw [← size_data] at this
    omega
end
end Go.Proofs.YtiiiokikmjgliaaGreatDoor
/-
  The contracts of a window's small methods: threeFrom, lastOf, first, holds, alike.
-/
namespace Go.Proofs.YtiiiokikmjgliaaGreatDoor
section
open Go.RowKit
set_option maxRecDepth 100000
section
variable (W : Nat) (s : ByteArray) (a m g n : Nat) (w : World)
set_option maxHeartbeats 1000000 in
theorem threeFrom_is (p : Nat) (h : WinCell w W s a m g n) (hp : p + 3 ≤ s.size) (hs : s.size ≤ 100000) {t : T3} (ht : threeAt s.data.toList p = some t) :
    Calls Tryz.prog 183 #[.pointer (some ⟨W, 0, none⟩), .int .i64 (p : Int)] w fun e w' => e = .returned (t3V t) ∧ Below w.heap.size w w' := by
  rw [text_three hp] at ht
  have ht2 := (Option.some.inj ht).symm
  clear ht
  have c0 := h.text
  have i0 : p < s.size := by omega
  obtain ⟨q, hq⟩ : ∃ q, q = p + 1 := ⟨_, rfl⟩
  obtain ⟨r, hr⟩ : ∃ r, r = p + 2 := ⟨_, rfl⟩
  have i1 : q < s.size := by omega
  have i2 : r < s.size := by omega
  have ht3 : t = (s[p]'i0, s[q]'i1, s[r]'i2) := by subst hq hr; exact ht2
  have z1 : (p : Int) + 1 = (q : Int) := by omega
  have z2 : (p : Int) + 2 = (r : Int) := by omega
  clear hq hr ht2
  subst ht3
  have cw : ∀ o, (w.alloc o).cell? ⟨W, 0, none⟩ = some (.string s) := fun o => cell_later c0 ((below_same w).alloc (Nat.le_refl _) o)
  go_enter Tryz.func183, Tryz.ntmps183
  go_wp2_with fail
  go_region
  all_goals
    obtain ⟨x, hx⟩ : ∃ x, s[p] = x := ⟨_, rfl⟩
    obtain ⟨y, hy⟩ : ∃ y, s[q] = y := ⟨_, rfl⟩
    obtain ⟨z, hz⟩ : ∃ z, s[r] = z := ⟨_, rfl⟩
    simp only [hx, hy, hz]
    have HX := Lib.hid hx
    have HY := Lib.hid hy
    have HZ := Lib.hid hz
    clear hx hy hz
    have kk : ∀ j : Nat, (w.alloc (.cells #[.int .u8 (x.toNat : Int), .int .u8 (y.toNat : Int), .int .u8 (z.toNat : Int)] 206)).cell? ⟨w.heap.size, j, none⟩ = #[Value.int .u8 (x.toNat : Int), .int .u8 (y.toNat : Int), .int .u8 (z.toNat : Int)][j]? := fun j => World.cell?_alloc_new _ _ _ _
    have k0 := kk 0
    have k1 := kk 1
    have k2 := kk 2
    simp only [List.getElem?_toArray] at k0 k1 k2
    go_wp2_with fail
    exact bodyPost_ret (v := t3V (x, y, z)) (by simp [results, Tryz.results183, go_sem, k0, k1, k2, t3V]) rfl ⟨by rw [HX.out, HY.out, HZ.out], ((below_same w).alloc (Nat.le_refl _) _).drew⟩
variable {cnt : Nat} {f : T3 → Option Nat} {A : List Int}
theorem MapIs.look {w : World} {m cnt : Nat} {f : T3 → Option Nat} (h : MapIs w m cnt f) (t : T3) :
    (Instr.lookup 150 (.map (some m)) (t3V t) true).run Tryz.prog w = .ok (.tuple #[.int .i64 ((f t).getD 0 : Nat), .bool (f t).isSome]) w := by
  obtain ⟨D, h, ht⟩ := h
  obtain ⟨v, ps, hr, hv⟩ := h.look_ok law_three under_map (zero_int w) (zd := .lit (.int .i64 0)) (plainElem_int under_int (by decide)) (keyT_is t)
  obtain ⟨c, rfl, hc, _⟩ := plainElem_int_inv under_int hv
  have h1 := congrArg Prod.fst hc
  simp only [(ht t).2] at h1
  rw [hr, (ht t).1]
  simp at h1
  rw [h1]
theorem lastOf_is (t : T3) (h : WinIs w W s a m g cnt f A) :
    Calls Tryz.prog 182 #[.pointer (some ⟨W, 0, none⟩), t3V t] w fun e w' => e = .returned (.int .i64 (placeZ (f t))) ∧ Below w.heap.size w w' := by
  obtain ⟨x, y, z⟩ := t
  have hb : Below w.heap.size w (w.alloc (.cells #[.int .u8 (x.toNat : Int), .int .u8 (y.toNat : Int), .int .u8 (z.toNat : Int)] 206)) := (below_same w).alloc (Nat.le_refl _) _
  have HB := Lib.hid hb
  have h1 := h.later hb
  have c2 := h1.cell.last
  have hr := MapIs.look (w := (w.alloc (.cells #[.int .u8 (x.toNat : Int), .int .u8 (y.toNat : Int), .int .u8 (z.toNat : Int)] 206)).drew) h1.map (x, y, z)
  have hdef : t3V (x, y, z) = .agg #[.int .u8 (x.toNat : Int), .int .u8 (y.toNat : Int), .int .u8 (z.toNat : Int)] := rfl
  rw [hdef] at hr ⊢
  have kk : ∀ j : Nat, (w.alloc (.cells #[.int .u8 (x.toNat : Int), .int .u8 (y.toNat : Int), .int .u8 (z.toNat : Int)] 206)).cell? ⟨w.heap.size, j, none⟩ = #[Value.int .u8 (x.toNat : Int), .int .u8 (y.toNat : Int), .int .u8 (z.toNat : Int)][j]? := fun j => World.cell?_alloc_new _ _ _ _
  have k0 := kk 0
  have k1 := kk 1
  have k2 := kk 2
  simp only [List.getElem?_toArray] at k0 k1 k2
  clear h h1 hb hdef
  cases hf : f (x, y, z) with
  | none =>
    rw [hf] at hr
    simp only [Option.getD_none, Option.isSome_none] at hr
    go_enter Tryz.func182, Tryz.ntmps182
    go_wp2_with fail
    go_region
    all_goals
      go_wp2_with fail
      go_ret
      exact ⟨rfl, HB.out.drew⟩
  | some p =>
    rw [hf] at hr
    simp only [Option.getD_some, Option.isSome_some] at hr
    go_enter Tryz.func182, Tryz.ntmps182
    go_wp2_with fail
    go_region
    all_goals
      go_wp2_with fail
      go_ret
      exact ⟨rfl, HB.out.drew⟩
set_option maxHeartbeats 1000000 in
theorem first_is (h : WinIs w W s a m g cnt f A) (hs : s.size ≤ 100000) (ha : a < s.size) {v : Int} (hv : v = match threeAt s.data.toList a with | some t => placeZ (f t) | none => -1) :
    Calls Tryz.prog 151 #[.pointer (some ⟨W, 0, none⟩)] w fun e w' => e = .returned (.int .i64 v) ∧ Below w.heap.size w w' := by
  have c0 := h.cell.text
  have c1 := h.cell.at'
  have H := Lib.hid h
  clear h
  by_cases h3 : a + 3 ≤ s.size
  · rw [text_three h3] at hv
    have hz : ¬ (s.size : Int) - (a : Int) < 3 := by omega
    have HT := Lib.hid (threeFrom_is W s a m g A.length w.drew a H.out.cell h3 hs (text_three h3))
    have HLs := Lib.hid (fun W' t (hw : Below w.heap.size w W') => lastOf_is W s a m g W' (cnt := cnt) (f := f) (A := A) t (H.out.later hw))
    obtain ⟨t, ht⟩ : ∃ t, (s[a]'(by omega), s[a + 1]'(by omega), s[a + 2]'(by omega)) = t := ⟨_, rfl⟩
    rw [ht] at hv HT
    subst hv
    clear ht
    go_enter Tryz.func151, Tryz.ntmps151
    go_wp2_with fail
    go_region
    all_goals
      go_wp2_with fail
      refine HT.out.mono ?_
      rintro e w1 ⟨rfl, hb⟩
      have Hb1 : Hid (Below w.heap.size w w1) := Lib.hid ((below_same w).drew.trans hb)
      clear hb
      go_wp2_with fail
      refine (HLs.out _ _ Hb1.out).mono ?_
      rintro e w2 ⟨rfl, hb⟩
      have Hb2 := Lib.hid (Hb1.out.trans (hb.mono Hb1.out.size))
      clear hb
      go_wp2_with fail
      go_ret
      exact ⟨rfl, Hb2.out⟩
  · rw [text_three_none (by omega)] at hv
    subst hv
    have hz : (s.size : Int) - (a : Int) < 3 := by omega
    go_enter Tryz.func151, Tryz.ntmps151
    go_wp2_with fail
    go_region
    all_goals
      go_wp2_with fail
      go_ret
      exact ⟨rfl, (below_same w).drew⟩
theorem wholds_is (h : WinCell w W s a m g n) (v : Int) (hv : -1 ≤ v) (hv2 : v ≤ 100000) (ha : a ≤ 100000) :
    Calls Tryz.prog 152 #[.pointer (some ⟨W, 0, none⟩), .int .i64 v] w fun e w' => e = .returned (.bool (decide (v ≠ -1 ∧ (a : Int) - v ≤ 32768))) ∧ Below w.heap.size w w' := by
  have c1 := h.at'
  clear h
  by_cases h1 : v = -1
  · subst h1
    go_enter Tryz.func152, Tryz.ntmps152
    go_wp2_with fail
    go_ret
    exact ⟨rfl, below_same _⟩
  · have hne : (v != -1) = true := by simpa using h1
    by_cases h2 : (a : Int) - v ≤ 32768
    · rw [show decide (v ≠ -1 ∧ (a : Int) - v ≤ 32768) = true by simp [h1, h2]]
      clear h1
      go_enter Tryz.func152, Tryz.ntmps152
      go_wp2_with fail
      go_ret
      exact ⟨rfl, below_same _⟩
    · rw [show decide (v ≠ -1 ∧ (a : Int) - v ≤ 32768) = false by simp [h2]]
      have h3 : ¬ (a : Int) - v ≤ 32768 := h2
      clear h1
      go_enter Tryz.func152, Tryz.ntmps152
      go_wp2_with fail
      go_ret
      exact ⟨rfl, below_same _⟩
theorem byte_test {s : ByteArray} {i j : Nat} (hi : i < s.size) (hj : j < s.size) : (((s[i]'hi).toNat : Int) == ((s[j]'hj).toNat : Int)) = decide (s.data.toList[i]? = s.data.toList[j]?) := by
  rw [text_get hi, text_get hj]
  by_cases h : s[i]'hi = s[j]'hj
  · rw [h]; simp
  · have h2 : ¬ (s[i]'hi).toNat = (s[j]'hj).toNat := fun e => h (UInt8.toNat_inj.1 e)
    have h3 : ¬ ((s[i]'hi).toNat : Int) = ((s[j]'hj).toNat : Int) := by omega
    simp [h, h3]
set_option maxHeartbeats 1000000 in
theorem walike_is (q k m' : Nat) (h : WinCell w W s a m g n) (hs : s.size ≤ 100000) (hk : k ≤ runN s.data.toList q a m') (hq : q < a) (hm : a + m' ≤ s.size) :
    Calls Tryz.prog 153 #[.pointer (some ⟨W, 0, none⟩), .int .i64 (q : Int), .int .i64 (k : Int), .int .i64 (m' : Int)] w fun e w' => e = .returned (.int .i64 (runN s.data.toList q a m' : Int)) ∧ Below w.heap.size w w' := by
  have H := Lib.hid h
  have hle := runN_le s.data.toList m' q a
  obtain ⟨r, hr⟩ : ∃ r, runN s.data.toList q a m' = r := ⟨_, rfl⟩
  have HS := Lib.hid (runN_stop s.data.toList m' q a)
  have HE := Lib.hid (runN_like s.data.toList m' q a)
  rw [hr] at hk hle HS HE ⊢
  clear h hr
  go_enter Tryz.func153, Tryz.ntmps153
  go_wp2_with fail
  go_loopg [2] (r - k) (fun gg s2 wx => ∃ i : Nat, s2 = .int .i64 (i : Int) ∧ i + gg = r ∧ Below w.heap.size w wx)
  case atStart => exact ⟨k, rfl, by omega, below_same _⟩
  case round =>
    obtain ⟨i, rfl, hig, hb⟩ := hrel
    have Hb := Lib.hid hb
    have c0 := (cell_later H.out.text hb)
    have c1 := (cell_later H.out.at' hb)
    clear hb
    cases gk with
    | succ gg =>
      have hir : (i : Int) < (m' : Int) := by omega
      obtain ⟨x, hx⟩ : ∃ x, q + i = x := ⟨_, rfl⟩
      obtain ⟨y, hy⟩ : ∃ y, a + i = y := ⟨_, rfl⟩
      have hxs : x < s.size := by omega
      have hys : y < s.size := by omega
      have hbt := byte_test hxs hys
      have he := HE.out i (by omega)
      rw [hx, hy] at he
      rw [he] at hbt
      simp only [decide_true] at hbt
      have hxz : (q : Int) + (i : Int) = (x : Int) := by omega
      have hyz : (a : Int) + (i : Int) = (y : Int) := by omega
      clear he hx hy
      go_wp2_with fail
      go_quiet (fail)
      have Hb2 : Hid (Below w.heap.size w (wr.drewN nq)) := Lib.hid (below_drewN Hb.out nq)
      go_wp2_with fail
      go_roundg gg
      case measure => omega
      case rel => exact ⟨i + 1, by go_num, by omega, Hb2.out⟩
    | zero =>
      obtain rfl : i = r := by omega
      by_cases him : i < m'
      · have hir : (i : Int) < (m' : Int) := by omega
        obtain ⟨x, hx⟩ : ∃ x, q + i = x := ⟨_, rfl⟩
        obtain ⟨y, hy⟩ : ∃ y, a + i = y := ⟨_, rfl⟩
        have hxs : x < s.size := by omega
        have hys : y < s.size := by omega
        have hbt := byte_test hxs hys
        have he := HS.out him
        rw [hx, hy] at he
        rw [decide_eq_false he] at hbt
        have hxz : (q : Int) + (i : Int) = (x : Int) := by omega
        have hyz : (a : Int) + (i : Int) = (y : Int) := by omega
        clear he hx hy him
        go_wp2_with fail
        go_quiet (fail)
        have Hb2 : Hid (Below w.heap.size w (wr.drewN nq)) := Lib.hid (below_drewN Hb.out nq)
        go_wp2_with fail
        go_ret
        exact ⟨rfl, Hb2.out⟩
      · obtain rfl : i = m' := by omega
        have hir : decide ((i : Int) < (i : Int)) = false := by simp
        clear him
        go_wp2_with fail
        go_quiet (fail)
        have Hb2 : Hid (Below w.heap.size w (wr.drewN nq)) := Lib.hid (below_drewN Hb.out nq)
        go_wp2_with fail
        go_ret
        exact ⟨rfl, Hb2.out⟩
end
end
end Go.Proofs.YtiiiokikmjgliaaGreatDoor
/-
  The contracts of a window's forget, keep, pass.
-/
namespace Go.Proofs.YtiiiokikmjgliaaGreatDoor
section
open Go.RowKit
set_option maxRecDepth 100000
theorem MapIs.look1 {w : World} {m cnt : Nat} {f : T3 → Option Nat} (h : MapIs w m cnt f) (t : T3) :
    (Instr.lookup 150 (.map (some m)) (t3V t) false).run Tryz.prog w = .ok (.int .i64 ((f t).getD 0 : Nat)) w := by
  obtain ⟨D, h, ht⟩ := h
  obtain ⟨c, hr, hc, _⟩ := h.lookup_int law_three under_map under_int (zero_int w) (keyT_is t)
  simp only [(ht t).2] at hc
  simp at hc
  rw [hr, hc]
theorem MapIs.store {w : World} {m cnt : Nat} {f : T3 → Option Nat} (h : MapIs w m cnt f) (hc : cnt ≤ 100000) (t : T3) (p : Nat) (hp : p ≤ 100000) :
    ∃ w', (Instr.mapUpdate 150 (.map (some m)) (t3V t) (.int .i64 (p : Int))).run Tryz.prog w = .ok () w' ∧ MapIs w' m (cnt + 1) (updF f t (some p)) ∧ w.grownBy w' (some m) := by
  obtain ⟨D, h, ht⟩ := h
  obtain ⟨w', h1, h2, h3⟩ := h.update law_three under_map (by unfold maxLen; omega) (keyT_is t) (plainElem_int under_int (a := (p : Int)) (by simp [Lit.wf, show IntKind.i64.min = -9223372036854775808 from rfl, show IntKind.i64.max = 9223372036854775807 from rfl]; omega))
  exact ⟨w', h1, ⟨_, h2, ht.put h.isMap t p⟩, h3⟩
theorem MapIs.drop {w : World} {m cnt : Nat} {f : T3 → Option Nat} (h : MapIs w m cnt f) (t : T3) (ty : TypeId) :
    ∃ w', (Builtin.delete_ #[150, 206] ty #[.map (some m), t3V t]).run Tryz.prog w = .ok (.tuple #[]) w' ∧ MapIs w' m cnt (updF f t none) ∧ w.grownBy w' (some m) := by
  obtain ⟨D, h, ht⟩ := h
  obtain ⟨w', h1, h2, h3⟩ := h.drop law_three under_map (keyT_is t) ty
  exact ⟨w', h1, ⟨_, h2, ht.del t⟩, h3.grown⟩
theorem WinIs.drew {w : World} {W : Nat} {s : ByteArray} {a m g cnt : Nat} {f : T3 → Option Nat} {A : List Int} (h : WinIs w W s a m g cnt f A) : WinIs w.drew W s a m g cnt f A := h.later (below_same w).drew
theorem WinIs.turned {w w' : World} {W : Nat} {s : ByteArray} {a m g cnt cnt' : Nat} {f f' : T3 → Option Nat} {A : List Int} (h : WinIs w W s a m g cnt f A) (hm : MapIs w' m cnt' f') (hg : w.grownBy w' (some m)) : WinIs w' W s a m g cnt' f' A :=
  ⟨(hg.block W h.cell.lt (by simpa using h.d1)).trans h.cell, hm, (hg.block g h.row.lt (by simpa using h.d3.symm)).trans h.row, h.d1, h.d2, h.d3⟩
theorem Touches.map {F : List Nat} {w w' w'' : World} {m : Nat} (h : Touches F F w w') (hg : w'.grownBy w'' (some m)) (hm : m ∈ F) : Touches F F w w'' := h.grown hg (fun k e => by obtain rfl := Option.some.inj e; exact hm) fun k hk => .inl hk
theorem WinIs.put {w : World} {W : Nat} {s : ByteArray} {a m g cnt : Nat} {f : T3 → Option Nat} {A : List Int} (h : WinIs w W s a m g cnt f A) (i : Nat) (v : Int) : WinIs (w.setCell ⟨g, i, none⟩ (.int .i64 v)) W s a m g cnt f (A.set i v) :=
  ⟨by rw [List.length_set]; exact (heap_setCell_other _ ⟨g, i, none⟩ W _ h.d2).trans h.cell, h.map.move (heap_setCell_other _ ⟨g, i, none⟩ m _ h.d3), h.row.put i v, h.d1, h.d2, h.d3⟩
theorem WinIs.more {w : World} {W : Nat} {s : ByteArray} {a m g cnt : Nat} {f : T3 → Option Nat} {A : List Int} (h : WinIs w W s a m g cnt f A) : WinIs w W s a m g (cnt + 1) f A := by
  obtain ⟨D, h1, h2⟩ := h.map
  exact ⟨h.cell, ⟨D, h1.mono (Nat.le_succ _), h2⟩, h.row, h.d1, h.d2, h.d3⟩
section
variable (W : Nat) (s : ByteArray) (a m g cnt : Nat) (f : T3 → Option Nat) (A : List Int) (w : World)
set_option maxHeartbeats 1000000 in
theorem forget_is (h : WinIs w W s a m g cnt f A) (hl : LastIs s.data.toList a f) (hs : s.size ≤ 100000) (ha : a < s.size) :
    Calls Tryz.prog 155 #[.pointer (some ⟨W, 0, none⟩), .int .i64 ((a : Int) - 32768)] w fun e w' => e = .returned (.tuple #[]) ∧ WinIs w' W s a m g cnt (forgetF s.data.toList a f) A ∧ Touches (winF W m g) (winF W m g) w w' := by
  by_cases h0 : a < 32768
  · rw [forgetF_early h0]
    have hz : (a : Int) - 32768 < 0 := by omega
    have H := Lib.hid h
    clear h
    go_enter Tryz.func155, Tryz.ntmps155
    go_wp2_with fail
    exact bodyPost_ret (v := .tuple #[]) (by simp [results, go_sem]) rfl ⟨rfl, H.out, Touches.refl _ _⟩
  · obtain ⟨p, hp⟩ : ∃ p, a - 32768 = p := ⟨_, rfl⟩
    have hpz : (a : Int) - 32768 = (p : Int) := by omega
    have hp3 : p + 3 ≤ s.size := by omega
    rw [hpz]
    obtain ⟨t, ht⟩ : ∃ t, threeAt s.data.toList p = some t := ⟨_, text_three hp3⟩
    have hta : threeAt s.data.toList (a - 32768) = some t := by rw [hp]; exact ht
    have HT := Lib.hid (threeFrom_is W s a m g A.length w p h.cell hp3 hs ht)
    have H := Lib.hid h
    have Hmiss := Lib.hid (fun e => forgetF_miss (a := a) (f := f) hta e)
    have Hhit := Lib.hid (fun e => forgetF_hit (a := a) (f := f) (by omega) hta e)
    rw [hp] at Hmiss Hhit
    have Ht := Lib.hid ht
    clear h ht hta hpz
    obtain ⟨x, y, z⟩ := t
    have hdef : t3V (x, y, z) = .agg #[.int .u8 (x.toNat : Int), .int .u8 (y.toNat : Int), .int .u8 (z.toNat : Int)] := rfl
    rw [hdef] at HT
    obtain ⟨q, hq, hpq⟩ := hl.found (show p < a by omega) (by omega) Ht.out
    clear hp h0
    by_cases hf : q = p
    · subst hf
      rw [Hhit.out hq]
      go_enter Tryz.func155, Tryz.ntmps155
      go_wp2_with fail
      refine HT.out.mono ?_
      rintro e w1 ⟨rfl, hb⟩
      have hb2 : Below w.heap.size w (w1.alloc (.cells #[.int .u8 (x.toNat : Int), .int .u8 (y.toNat : Int), .int .u8 (z.toNat : Int)] 206)) := hb.alloc hb.size _
      have HB2 := Lib.hid hb2
      have H2 := Lib.hid (H.out.later hb2)
      have hr := MapIs.look1 (w := (w1.alloc (.cells #[.int .u8 (x.toNat : Int), .int .u8 (y.toNat : Int), .int .u8 (z.toNat : Int)] 206)).drew) H2.out.map (x, y, z)
      rw [hdef, hq] at hr
      simp only [Option.getD_some] at hr
      have kk : ∀ j : Nat, (w1.alloc (.cells #[.int .u8 (x.toNat : Int), .int .u8 (y.toNat : Int), .int .u8 (z.toNat : Int)] 206)).cell? ⟨w1.heap.size, j, none⟩ = #[Value.int .u8 (x.toNat : Int), .int .u8 (y.toNat : Int), .int .u8 (z.toNat : Int)][j]? := fun j => World.cell?_alloc_new _ _ _ _
      have k0 := kk 0
      have k1 := kk 1
      have k2 := kk 2
      simp only [List.getElem?_toArray] at k0 k1 k2
      have c2 := H2.out.cell.last
      obtain ⟨w3, hd, hm3, hg3⟩ := MapIs.drop (w := (w1.alloc (.cells #[.int .u8 (x.toNat : Int), .int .u8 (y.toNat : Int), .int .u8 (z.toNat : Int)] 206)).drew.drew) H2.out.map (x, y, z) 0
      rw [hdef] at hd
      clear hb hb2 kk
      go_wp2_with fail
      go_region
      all_goals
        go_wp2_with fail
        go_region
        all_goals
          have HW3 := Lib.hid (H2.out.drew.drew.turned hm3 hg3)
          have HT3 := Lib.hid (((Touches.of_below (F := winF W m g) HB2.out).drew.drew).map hg3 (by simp [winF]))
          go_wp2_with fail
          exact bodyPost_end (v := .tuple #[]) (by simp [results, go_sem]) rfl ⟨rfl, HW3.out, HT3.out⟩
    · rw [Hmiss.out (by rw [hq]; intro e; exact hf (Option.some.inj e))]
      have hqz : ((q : Int) == (p : Int)) = false := by rw [beq_eq_false_iff_ne]; omega
      go_enter Tryz.func155, Tryz.ntmps155
      go_wp2_with fail
      refine HT.out.mono ?_
      rintro e w1 ⟨rfl, hb⟩
      have hb2 : Below w.heap.size w (w1.alloc (.cells #[.int .u8 (x.toNat : Int), .int .u8 (y.toNat : Int), .int .u8 (z.toNat : Int)] 206)) := hb.alloc hb.size _
      have HB2 := Lib.hid hb2
      have H2 := Lib.hid (H.out.later hb2)
      have hr := MapIs.look1 (w := (w1.alloc (.cells #[.int .u8 (x.toNat : Int), .int .u8 (y.toNat : Int), .int .u8 (z.toNat : Int)] 206)).drew) H2.out.map (x, y, z)
      rw [hdef, hq] at hr
      simp only [Option.getD_some] at hr
      have kk : ∀ j : Nat, (w1.alloc (.cells #[.int .u8 (x.toNat : Int), .int .u8 (y.toNat : Int), .int .u8 (z.toNat : Int)] 206)).cell? ⟨w1.heap.size, j, none⟩ = #[Value.int .u8 (x.toNat : Int), .int .u8 (y.toNat : Int), .int .u8 (z.toNat : Int)][j]? := fun j => World.cell?_alloc_new _ _ _ _
      have k0 := kk 0
      have k1 := kk 1
      have k2 := kk 2
      simp only [List.getElem?_toArray] at k0 k1 k2
      have c2 := H2.out.cell.last
      clear hb hb2 kk
      go_wp2_with fail
      go_region
      all_goals
        go_wp2_with fail
        exact bodyPost_end (v := .tuple #[]) (by simp [results, go_sem]) rfl ⟨rfl, H2.out.drew, (Touches.of_below HB2.out).drew⟩
theorem keep_hold {X w' : World} {W : Nat} {s : ByteArray} {a m g cnt N i B : Nat} {f : T3 → Option Nat} {A : List Int} {x y z : Value} (hW : WinIs X W s a m g cnt f A) (hN : A.length = N)
    (k0 : X.cell? ⟨B, 0, none⟩ = some x) (k1 : X.cell? ⟨B, 1, none⟩ = some y) (k2 : X.cell? ⟨B, 2, none⟩ = some z) (hb : Below X.heap.size X w') :
    w'.cell? ⟨W, 3, none⟩ = some (.slice (some ⟨g, 0, none⟩) N N) ∧ w'.cell? ⟨B, 0, none⟩ = some x ∧ w'.cell? ⟨B, 1, none⟩ = some y ∧ w'.cell? ⟨B, 2, none⟩ = some z ∧ w'.frozen? ⟨g, i, none⟩ = false := by
  have h := hW.later hb
  exact ⟨by rw [← hN]; exact h.cell.ahead, cell_later k0 hb, cell_later k1 hb, cell_later k2 hb, h.row.free i⟩
theorem cell_beside {w : World} {a b : Addr} {v : Value} (h : w.cell? a = some v) (hne : a.block ≠ b.block) (u : Value) : (w.setCell b u).cell? a = some v := (World.cell?_of_block (w := w) (heap_setCell_other _ b a.block u hne)).trans h
theorem keep_still {X : World} {W N g i B : Nat} {x y z : Value} (h : X.cell? ⟨W, 3, none⟩ = some (.slice (some ⟨g, 0, none⟩) N N) ∧ X.cell? ⟨B, 0, none⟩ = some x ∧ X.cell? ⟨B, 1, none⟩ = some y ∧ X.cell? ⟨B, 2, none⟩ = some z ∧ X.frozen? ⟨g, i, none⟩ = false) (hW : W ≠ g) (hB : B ≠ g) (u : Value) :
    (X.setCell ⟨g, i, none⟩ u).cell? ⟨W, 3, none⟩ = some (.slice (some ⟨g, 0, none⟩) N N) ∧ (X.setCell ⟨g, i, none⟩ u).cell? ⟨B, 0, none⟩ = some x ∧ (X.setCell ⟨g, i, none⟩ u).cell? ⟨B, 1, none⟩ = some y ∧ (X.setCell ⟨g, i, none⟩ u).cell? ⟨B, 2, none⟩ = some z ∧ (X.setCell ⟨g, i, none⟩ u).frozen? ⟨g, i, none⟩ = false :=
  ⟨cell_beside h.1 hW u, cell_beside h.2.1 hB u, cell_beside h.2.2.1 hB u, cell_beside h.2.2.2.1 hB u, by rw [World.frozen?_setCell]; exact h.2.2.2.2⟩
def keepA (l : List UInt8) (a : Nat) (f : T3 → Option Nat) (A : List Int) : List Int := match threeAt l a with
  | some t => A.set (a % A.length) (placeZ (f t))
  | none => A
set_option maxHeartbeats 2000000 in
theorem keep_is (h : WinIs w W s a m g cnt f A) (hs : s.size ≤ 100000) (ha : a < s.size) (hA : A.length = min s.size 32768) (hc : cnt ≤ a) :
    Calls Tryz.prog 156 #[.pointer (some ⟨W, 0, none⟩), .int .i64 (a : Int)] w fun e w' => e = .returned (.tuple #[]) ∧ WinIs w' W s a m g (cnt + 1) (keepF s.data.toList a f) (keepA s.data.toList a f A) ∧ Touches (winF W m g) (winF W m g) w w' := by
  have c0 := h.cell.text
  by_cases h3 : a + 3 ≤ s.size
  · have hz : ¬ (s.size : Int) - (a : Int) < 3 := by omega
    obtain ⟨t, ht⟩ : ∃ t, threeAt s.data.toList a = some t := ⟨_, text_three h3⟩
    have hkA : keepA s.data.toList a f A = A.set (a % A.length) (placeZ (f t)) := by unfold keepA; rw [ht]
    rw [keepF_is ht, hkA]
    have HT := Lib.hid (threeFrom_is W s a m g A.length w a h.cell h3 hs ht)
    have hN0 : ¬ A.length = 0 := by omega
    obtain ⟨N, hN⟩ : ∃ N, A.length = N := ⟨_, rfl⟩
    obtain ⟨i, hi⟩ : ∃ i, a % N = i := ⟨_, rfl⟩
    have hiN : i < N := by rw [← hi]; exact Nat.mod_lt _ (by omega)
    have hm1 : (a : Int) % (N : Int) = (i : Int) := by omega
    have hm2 : (a : Int).tmod (N : Int) = (i : Int) := by rw [Int.tmod_eq_emod_of_nonneg (by omega)]; exact hm1
    have hiN2 : (i : Int) < (N : Int) := by omega
    have HN := Lib.hid hN
    rw [hN] at hN0 ⊢
    rw [hi]
    have H := Lib.hid h
    clear h ht hkA hA hN hi
    obtain ⟨x, y, z⟩ := t
    have hdef : t3V (x, y, z) = .agg #[.int .u8 (x.toNat : Int), .int .u8 (y.toNat : Int), .int .u8 (z.toNat : Int)] := rfl
    rw [hdef] at HT
    go_enter Tryz.func156, Tryz.ntmps156
    go_wp2_with fail
    refine HT.out.mono ?_
    rintro e w1 ⟨rfl, hb⟩
    have hb2 : Below w.heap.size w (w1.alloc (.cells #[.int .u8 (x.toNat : Int), .int .u8 (y.toNat : Int), .int .u8 (z.toNat : Int)] 206)) := hb.alloc hb.size _
    have HB2 := Lib.hid hb2
    have H2 := Lib.hid (H.out.later hb2)
    have kk : ∀ j : Nat, (w1.alloc (.cells #[.int .u8 (x.toNat : Int), .int .u8 (y.toNat : Int), .int .u8 (z.toNat : Int)] 206)).cell? ⟨w1.heap.size, j, none⟩ = #[Value.int .u8 (x.toNat : Int), .int .u8 (y.toNat : Int), .int .u8 (z.toNat : Int)][j]? := fun j => World.cell?_alloc_new _ _ _ _
    have k0 := kk 0
    have k1 := kk 1
    have k2 := kk 2
    simp only [List.getElem?_toArray] at k0 k1 k2
    have c2 := H2.out.cell.last
    have c3 := H2.out.cell.ahead
    rw [HN.out] at c3
    obtain ⟨v0, hv0⟩ : ∃ v0, A[i]? = some v0 := ⟨_, List.getElem?_eq_getElem (by have := HN.out; omega)⟩
    have HKp := Lib.hid (fun w' (hb : Below (w1.alloc (.cells #[.int .u8 (x.toNat : Int), .int .u8 (y.toNat : Int), .int .u8 (z.toNat : Int)] 206)).heap.size (w1.alloc (.cells #[.int .u8 (x.toNat : Int), .int .u8 (y.toNat : Int), .int .u8 (z.toNat : Int)] 206)) w') => keep_hold (i := i) (w' := w') H2.out HN.out k0 k1 k2 hb)
    have hWg : W ≠ g := H2.out.d2
    have hBg : w1.heap.size ≠ g := by have h1 := H.out.row.lt; have h2 := hb.size; omega
    have HLo := Lib.hid (lastOf_is W s a m g _ (cnt := cnt) (f := f) (A := A) (x, y, z) H2.out.drew)
    rw [hdef] at HLo
    have kg := H2.out.row.cell hv0
    have kf := H2.out.row.free i
    have Hv0 := Lib.hid hv0
    clear hb hb2 kk hv0
    obtain ⟨XW, hXW⟩ : ∃ XW, w1.alloc (.cells #[.int .u8 (x.toNat : Int), .int .u8 (y.toNat : Int), .int .u8 (z.toNat : Int)] 206) = XW := ⟨_, rfl⟩
    rw [hXW] at HB2 H2 k0 k1 k2 c2 c3 HKp HLo kg kf
    have HXs : Hid (w1.heap.size < XW.heap.size) := Lib.hid (by rw [← hXW]; simp)
    go_wp2_with fail
    clear hXW
    go_region_held3 (fun w' => w'.cell? ⟨W, 3, none⟩ = some (.slice (some ⟨g, 0, none⟩) N N) ∧ w'.cell? ⟨w1.heap.size, 0, none⟩ = some (.int .u8 (x.toNat : Int)) ∧ w'.cell? ⟨w1.heap.size, 1, none⟩ = some (.int .u8 (y.toNat : Int)) ∧ w'.cell? ⟨w1.heap.size, 2, none⟩ = some (.int .u8 (z.toNat : Int)) ∧ w'.frozen? ⟨g, i, none⟩ = false)
      (first | exact keep_still (HKp.out _ Hb.out) hWg hBg _ | exact HKp.out _ Hb.out | (simp [go_sem]; done) | go_keep)
      (first | (go_simp; go_at_call 182; refine HLo.out.mono ?_; rintro e w3 ⟨rfl, hb⟩; have Hb := Lib.hid ((below_same XW).drew.trans hb); clear hb; have kz := (H2.out.later Hb.out).row.cell Hv0.out))
    all_goals
      have H4 := Lib.hid ((H2.out.later Hb.out).put i (placeZ (f (x, y, z))))
      have hkp := keep_still (HKp.out _ Hb.out) hWg hBg (.int .i64 (placeZ (f (x, y, z))))
      have HB4 : Hid (Touches (winF W m g) (winF W m g) w (w3.setCell ⟨g, i, none⟩ (.int .i64 (placeZ (f (x, y, z)))))) := Lib.hid (((Touches.of_below (F := winF W m g) HB2.out).trans (Touches.of_below Hb.out)).setCell (a := ⟨g, i, none⟩) (by simp [winF]) _)
      obtain ⟨_, j0, j1, j2, _⟩ := hkp
      have j4 := H4.out.cell.last
      clear kz k0 k1 k2 c2 c3 kg kf
      obtain ⟨W4, hW4⟩ : ∃ W4, w3.setCell ⟨g, i, none⟩ (.int .i64 (placeZ (f (x, y, z)))) = W4 := ⟨_, rfl⟩
      rw [hW4] at H4 j0 j1 j2 j4 HB4
      obtain ⟨w5, hst, hm5, hg5⟩ := MapIs.store (w := W4.drew) H4.out.map (by omega) (x, y, z) a (by omega)
      rw [hdef] at hst
      have HW5 := Lib.hid (H4.out.drew.turned hm5 hg5)
      have HT5 := Lib.hid (HB4.out.drew.map hg5 (by simp [winF]))
      clear hm5 hg5
      go_wp2_with fail
      go_region
      all_goals
        go_wp2_with fail
        exact bodyPost_end (v := .tuple #[]) (by simp [results, go_sem]) rfl ⟨rfl, HW5.out, HT5.out⟩
  · have hn := text_three_none (s := s) (p := a) (by omega)
    have hkA : keepA s.data.toList a f A = A := by unfold keepA; rw [hn]
    rw [keepF_none hn, hkA]
    have hz : (s.size : Int) - (a : Int) < 3 := by omega
    have H := Lib.hid h
    clear h hn hkA
    go_enter Tryz.func156, Tryz.ntmps156
    go_wp2_with fail
    exact bodyPost_ret (v := .tuple #[]) (by simp [results, go_sem]) rfl ⟨rfl, H.out.more, Touches.refl _ _⟩
end
theorem AheadIs.keep {l : List UInt8} {a : Nat} {f : T3 → Option Nat} {A : List Int} (h : AheadIs l a A) (hl : LastNear l a f) (hA : A.length = min l.length 32768) : AheadIs l (a + 1) (keepA l a f A) ∧ (keepA l a f A).length = A.length := by
  unfold keepA
  cases ht : threeAt l a with
  | none => exact ⟨h.skip ht, rfl⟩
  | some t => exact ⟨h.put hA ht (hl.prev t), by simp⟩
theorem WinIs.passed {w : World} {W : Nat} {s : ByteArray} {a m g cnt : Nat} {f : T3 → Option Nat} {A : List Int} (h : WinIs w W s a m g (cnt + 1) (keepF s.data.toList a (forgetF s.data.toList a f)) (keepA s.data.toList a (forgetF s.data.toList a f) A)) (hc : cnt ≤ a) (hl : LastIs s.data.toList a f) (hah : AheadIs s.data.toList a A) (hA : A.length = min s.size 32768) :
    WinAt (w.setCell ⟨W, 1, none⟩ (.int .i64 ((a + 1 : Nat) : Int))) W s (a + 1) m g := by
  obtain ⟨h1, h2⟩ := hah.keep hl.forget (by rw [← size_data]; exact hA)
  refine ⟨cnt + 1, _, _, ⟨h.cell.putAt (a + 1), h.map.move (heap_setCell_other _ ⟨W, 1, none⟩ m _ h.d1.symm), (heap_setCell_other _ ⟨W, 1, none⟩ g _ h.d2.symm).trans h.row, h.d1, h.d2, h.d3⟩, by omega, hl.forget.keep, h1, by rw [h2]; exact hA⟩
set_option maxHeartbeats 2000000 in
theorem pass_is (W : Nat) (s : ByteArray) (a m g k : Nat) (w : World) (h : WinAt w W s a m g) (hs : s.size ≤ 100000) (hk : a + k ≤ s.size) :
    Calls Tryz.prog 137 #[.pointer (some ⟨W, 0, none⟩), .int .i64 (k : Int)] w fun e w' => e = .returned (.tuple #[]) ∧ WinAt w' W s (a + k) m g ∧ Touches (winF W m g) (winF W m g) w w' := by
  have H := Lib.hid h
  clear h
  go_enter Tryz.func137, Tryz.ntmps137
  go_wp2_with fail
  go_loopg [5] k (fun gg s5 wx => ∃ i : Nat, s5 = .int .i64 (i : Int) ∧ i + gg = k ∧ Aside (WinAt wx W s (a + i) m g ∧ Touches (winF W m g) (winF W m g) w wx))
  case atStart => exact ⟨0, rfl, by omega, H.out, Touches.refl _ _⟩
  case round =>
    obtain ⟨i, rfl, hig, HI⟩ := hrel
    cases gk with
    | zero =>
      obtain rfl : i = k := by omega
      have hz : ¬ (i : Int) < (i : Int) := by omega
      go_wp2_with fail
      exact bodyPost_end (v := .tuple #[]) (by simp [results, go_sem]) rfl ⟨rfl, HI.out⟩
    | succ gg =>
      have hz : (i : Int) < (k : Int) := by omega
      obtain ⟨⟨cnt, f, A, hw, hc, hl, hah, hA⟩, ht⟩ := HI.out
      obtain ⟨b, hb⟩ : ∃ b, a + i = b := ⟨_, rfl⟩
      have hbs : b < s.size := by omega
      rw [hb] at hw hc hl hah
      have HB := Lib.hid hb
      have HFo := Lib.hid (forget_is W s b m g cnt f A wr hw hl hs hbs)
      have HL := Lib.hid (And.intro hl (And.intro hah (And.intro hA hc)))
      have HT := Lib.hid ht
      have c1 := hw.cell.at'
      clear hb hw hl hah hA hc ht HI
      go_wp2_with fail
      refine HFo.out.mono ?_
      rintro e w1 ⟨rfl, hw, ht⟩
      have HKe := Lib.hid (keep_is W s b m g cnt (forgetF s.data.toList b f) A w1 hw hs hbs HL.out.2.2.1 HL.out.2.2.2)
      have HT1 := Lib.hid (HT.out.trans ht)
      have d1 := hw.cell.at'
      clear hw ht c1 HFo
      go_wp2_with fail
      refine HKe.out.mono ?_
      rintro e w2 ⟨rfl, hw, ht⟩
      have HT2 := Lib.hid ((HT1.out.trans ht).setCell (a := ⟨W, 1, none⟩) (by simp [winF]) (.int .i64 ((b + 1 : Nat) : Int)))
      have HW2 := Lib.hid (hw.passed HL.out.2.2.2 HL.out.1 HL.out.2.1 HL.out.2.2.1)
      have e1 := hw.cell.at'
      have e2 := hw.cell.free 1
      clear hw ht d1 HKe
      have hbz : ((b + 1 : Nat) : Int) = (b : Int) + 1 := by omega
      rw [hbz] at HT2 HW2
      have he : a + (i + 1) = b + 1 := by have := HB.out; omega
      have HE := Lib.hid he
      clear hbz he
      go_wp2_with fail
      go_roundg gg
      case measure => omega
      case rel => exact ⟨i + 1, by go_num, by omega, by rw [HE.out]; exact HW2.out, HT2.out⟩
end
end Go.Proofs.YtiiiokikmjgliaaGreatDoor
