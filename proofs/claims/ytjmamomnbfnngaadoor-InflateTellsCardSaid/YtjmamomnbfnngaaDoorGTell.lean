/-
  InfTab, InfTell, InfNum: texts merged.
-/
import Derived.Test.YtjmamomnbfnngaaDoorGPlain
import Derived.Test.YtjmamomnbfnngaaDoorRows
import Derived.Test.YtjmamomnbfnngaaDoorGRows
import Derived.Lib.LaidTab
import Derived.LaidLaws
import Derived.OpenShut
import Derived.Stop.LaidErr
import Derived.Below
import Derived.Test.YtjmamomnbfnngaaDoorGCode
import Derived.Deep.RegionHeld3
import Derived.BigQuiet
import Derived.Deep.QuietTactic
import Derived.Deep.RegionWith
/-
  The tables of package inflate, as the program reads them: plain facts on memory.
-/
namespace Go.Proofs.YtjmamomnbfnngaaDoor
section
open Go.RowKit

/-- A table of pairs, as a row lists it. -/
def pairData (ps : List (Int × Int)) : DataW Unit := .agg (ps.map fun x => .agg [.lit (.int .i64 x.1), .lit (.int .i64 x.2)])
theorem two_of {α : Type} {l : List α} (h : l.length = 2) : ∃ a b, l = [a, b] := by
  match l, h with
  | [a, b], _ => exact ⟨a, b, rfl⟩
def fieldsOf (q : Option TypeDesc) : List (TypeId × Nat) := match q with
  | some (.struct fs) => fs.toList.map fun f => (f.type, f.offset)
  | _ => []
theorem two_fields {q : Option TypeDesc} {a b : TypeId} {i j : Nat} (h : fieldsOf q = [(a, i), (b, j)]) : ∃ f0 f1 : Field, q = some (.struct #[f0, f1]) ∧ f0.type = a ∧ f0.offset = i ∧ f1.type = b ∧ f1.offset = j := by
  unfold fieldsOf at h
  split at h
  · rename_i fs
    obtain ⟨l⟩ := fs
    rcases l with _ | ⟨f0, _ | ⟨f1, _ | ⟨f2, l⟩⟩⟩ <;> simp at h
    exact ⟨f0, f1, rfl, h.1.1, h.1.2, h.2.1, h.2.2⟩
  · cases h
theorem pair_of_trod {fuel : Nat} {w : World} {base : Nat} {sp : Nat → Bool} {held : Bool} {cs : List Value} {x : Int × Int} {b : DataW Unit × List MemPlace} (hb : b.1 = .agg [.lit (.int .i64 x.1), .lit (.int .i64 x.2)])
    (h : DataW.trod (fun _ => ()) Tryd.prog w base sp held fuel 104 cs = some b) : cs = [.int .i64 x.1, .int .i64 x.2] := by
  have hd : fieldsOf (Tryd.prog.underlying 104) = [(3, 0), (3, 1)] := by kernel_rfl
  have hi : Tryd.prog.underlying 3 = some (.int .i64) := by kernel_rfl
  have hc : Tryd.prog.cellsOf 3 = 1 := by kernel_rfl
  have hc2 : Tryd.prog.cellsOf 104 = 2 := by kernel_rfl
  obtain ⟨f0, f1, hu, t0, o0, t1, o1⟩ := two_fields hd
  obtain ⟨ys, n, _, hx, hl, hyl, hall⟩ := DataW.trod_struct hu h
  rw [hc2] at hl
  have h0 := hall 0 f0 rfl
  have h1 := hall 1 f1 rfl
  rw [t0, o0, hc] at h0
  rw [t1, o1, hc] at h1
  obtain ⟨y0, y1, rfl⟩ := two_of hyl
  obtain ⟨c0, c1, rfl⟩ := two_of hl
  obtain ⟨z0, e0, d0, _⟩ := DataW.trod_int hi h0
  obtain ⟨z1, e1, d1, _⟩ := DataW.trod_int hi h1
  rw [hx] at hb
  subst d0 d1
  simp at hb e0 e1
  rw [e0, e1, hb.1, hb.2]
/-- The cells of a table of pairs. -/
def PairIs (w : World) (g : Nat) (ps : List (Int × Int)) : Prop := ∀ i x, ps[i]? = some x → w.cell? ⟨g, i * 2, none⟩ = some (.int .i64 x.1) ∧ w.cell? ⟨g, i * 2 + 1, none⟩ = some (.int .i64 x.2)
theorem PairIs.later {w w' : World} {g : Nat} {ps : List (Int × Int)} (h : PairIs w g ps) (hb : Below w.heap.size w w') : PairIs w' g ps := fun i x hx => ⟨cell_later (h i x hx).1 hb, cell_later (h i x hx).2 hb⟩
theorem pairs_of_head {W : World} {name : String} {ps : List (Int × Int)} {rest : List (String × DataW Unit)} {g : Nat} {t : TypeId} {n : Nat}
    (hg : Tryd.prog.globalNamed name = some g) (hty : (Tryd.prog.globals[g]?).map (·.type) = some t) (ht : Tryd.prog.underlying t = some (.array n 104))
    (h : laidMet Tryd.prog ((name, pairData ps) :: rest) W) : PairIs W g ps := by
  have hc2 : Tryd.prog.cellsOf 104 = 2 := by kernel_rfl
  obtain ⟨_, ⟨g', t', cs, fuel, p, q, hg', ht', hvar, hd, _, _⟩, _⟩ := h
  obtain rfl := Option.some.inj (hg.symm.trans hg')
  obtain rfl := Option.some.inj (hty.symm.trans ht')
  obtain ⟨xs, m, _, hx, hl, hxl, hall⟩ := DataW.trod_array ht hd
  have hxs : xs.map (·.1) = ps.map fun x => (.agg [.lit (.int .i64 x.1), .lit (.int .i64 x.2)] : DataW Unit) := by
    have := congrArg Prod.fst hx
    simpa [pairData] using this.symm
  have hpl : ps.length = n := by
    have := congrArg List.length hxs
    simp at this
    omega
  intro i x hi
  have hin : i < n := by rw [← hpl]; exact (List.getElem?_eq_some_iff.1 hi).1
  have h1 := hall i hin
  obtain ⟨b, hb⟩ : ∃ b, xs[i]? = some b := ⟨xs[i]'(by omega), List.getElem?_eq_getElem (by omega)⟩
  have hb1 : b.1 = .agg [.lit (.int .i64 x.1), .lit (.int .i64 x.2)] := by
    have := congrArg (·[i]?) hxs
    simpa [hb, hi] using this
  rw [hb, hc2] at h1
  have h2 := pair_of_trod hb1 h1
  have e0 := congrArg (·[0]?) h2
  have e1 := congrArg (·[1]?) h2
  simp only [List.getElem?_take, List.getElem?_drop] at e0 e1
  simp at e0 e1
  refine ⟨?_, ?_⟩
  · rw [World.var?_cell hg hvar]
    simpa using e0
  · rw [World.var?_cell hg hvar]
    simpa using e1

def lensL : List (Int × Int) := [(3, 0), (4, 0), (5, 0), (6, 0), (7, 0), (8, 0), (9, 0), (10, 0), (11, 1), (13, 1), (15, 1), (17, 1), (19, 2), (23, 2), (27, 2), (31, 2), (35, 3), (43, 3), (51, 3), (59, 3), (67, 4), (83, 4), (99, 4), (115, 4), (131, 5), (163, 5), (195, 5), (227, 5), (258, 0)]
def distL : List (Int × Int) := [(1, 0), (2, 0), (3, 0), (4, 0), (5, 1), (7, 1), (9, 2), (13, 2), (17, 3), (25, 3), (33, 4), (49, 4), (65, 5), (97, 5), (129, 6), (193, 6), (257, 7), (385, 7), (513, 8), (769, 8), (1025, 9), (1537, 9), (2049, 10), (3073, 10), (4097, 11), (6145, 11), (8193, 12), (12289, 12), (16385, 13), (24577, 13)]
def timesL : List (Int × Int) := [(3, 2), (3, 3), (11, 7)]
def ordersL : List Int := [16, 17, 18, 0, 8, 7, 9, 6, 10, 5, 11, 4, 12, 3, 13, 2, 14, 1, 15]
theorem lensT_at : ∀ k, k < 29 → lensL[k]? = some ((lengthN k : Int), ((if k = 28 then 0 else extraN k 8 4 : Nat) : Int)) := by decide +kernel
theorem distT_at : ∀ k, k < 30 → distL[k]? = some ((distN k : Int), (extraN k 4 2 : Int)) := by decide +kernel
theorem orderT_at : ∀ k, k < 19 → ordersL.getD k 0 = (orderL[k]?.getD 0 : Nat) ∧ orderL[k]?.getD 0 < 19 := by decide +kernel

/-- What the program reads lies in memory. -/
structure Laid (w : World) : Prop where
  lens : PairIs w 0 lensL
  dist : PairIs w 1 distL
  times : PairIs w 3 timesL
  order : ∀ i, i < 19 → w.cell? ⟨2, i, none⟩ = some (.int .i64 (ordersL.getD i 0))
theorem Laid.later {w w' : World} (h : Laid w) (hb : Below w.heap.size w w') : Laid w' := ⟨h.lens.later hb, h.dist.later hb, h.times.later hb, fun i hi => cell_later (h.order i hi) hb⟩
theorem laid_lens : (Rows.laid_bindery_inflate_lengthsFrom : DataW Unit) = pairData lensL := by kernel_rfl
theorem laid_dist : (Rows.laid_bindery_inflate_distancesFrom : DataW Unit) = pairData distL := by kernel_rfl
theorem laid_times : (Rows.laid_bindery_inflate_timesFrom : DataW Unit) = pairData timesL := by kernel_rfl
theorem laid_order : (Rows.laid_bindery_inflate_signOrder : DataW Unit) = Lib.tabData .i64 ordersL := by kernel_rfl
theorem laid_of {l : List (String × DataW Unit)} {w : World} (hL : laidMet Tryd.prog (("bindery/inflate.lengthsFrom", Rows.laid_bindery_inflate_lengthsFrom) :: ("bindery/inflate.distancesFrom", Rows.laid_bindery_inflate_distancesFrom) :: ("bindery/inflate.timesFrom", Rows.laid_bindery_inflate_timesFrom) :: ("bindery/inflate.signOrder", Rows.laid_bindery_inflate_signOrder) :: l) w) : Laid w := by
  rw [laid_lens, laid_dist, laid_times, laid_order] at hL
  have h1 := hL.tail
  have h2 := h1.tail
  have h3 := h2.tail
  refine ⟨?_, ?_, ?_, ?_⟩
  · exact pairs_of_head (t := 105) (n := 29) (by kernel_rfl) (by kernel_rfl) (by kernel_rfl) hL
  · exact pairs_of_head (t := 106) (n := 30) (by kernel_rfl) (by kernel_rfl) (by kernel_rfl) h1
  · exact pairs_of_head (t := 125) (n := 3) (by kernel_rfl) (by kernel_rfl) (by kernel_rfl) h2
  · have := Lib.tabIs_of_head (g := 2) (t := 110) (e := 3) (n := 19) (by kernel_rfl) (by kernel_rfl) (by kernel_rfl) (by kernel_rfl) (by kernel_rfl) (by kernel_rfl) h3
    intro i hi
    exact Lib.TabIs.cell this (g := 2) (by kernel_rfl) i hi
theorem Laid.len {w : World} (h : Laid w) {k : Nat} (hk : k < 29) : w.cell? ⟨0, k * 2, none⟩ = some (.int .i64 (lengthN k : Int)) ∧ w.cell? ⟨0, k * 2 + 1, none⟩ = some (.int .i64 ((if k = 28 then 0 else extraN k 8 4 : Nat) : Int)) := h.lens k _ (lensT_at k hk)
theorem Laid.far {w : World} (h : Laid w) {k : Nat} (hk : k < 30) : w.cell? ⟨1, k * 2, none⟩ = some (.int .i64 (distN k : Int)) ∧ w.cell? ⟨1, k * 2 + 1, none⟩ = some (.int .i64 (extraN k 4 2 : Int)) := h.dist k _ (distT_at k hk)
theorem Laid.time {w : World} (h : Laid w) {k : Nat} {x : Int × Int} (hk : timesL[k]? = some x) : w.cell? ⟨3, k * 2, none⟩ = some (.int .i64 x.1) ∧ w.cell? ⟨3, k * 2 + 1, none⟩ = some (.int .i64 x.2) := h.times k _ hk
theorem Laid.sign {w : World} (h : Laid w) {k : Nat} (hk : k < 19) : w.cell? ⟨2, k, none⟩ = some (.int .i64 ((orderL[k]?.getD 0 : Nat) : Int)) := by
  rw [h.order k hk, (orderT_at k hk).1]

end
end Go.Proofs.YtjmamomnbfnngaaDoor
/-
  The object that tells deflated bytes: a reader, the bytes told, how many there may be, the fixed codes; what it reads of its row.
-/
namespace Go.Proofs.YtjmamomnbfnngaaDoor
section
open Go.RowKit

/-- The object's cells. -/
def TlCell (w : World) (T rb : Nat) (v : Value) (M : Nat) (p q : Option Addr) : Prop :=
  w.heap[T]? = some (.cells #[.pointer (some ⟨rb, 0, none⟩), v, .int .i64 (M : Int), .pointer p, .pointer q] 40 (0, 0))
section
variable {w : World} {T rb M : Nat} {v : Value} {p q : Option Addr}
theorem TlCell.reader (h : TlCell w T rb v M p q) : w.cell? ⟨T, 0, none⟩ = some (.pointer (some ⟨rb, 0, none⟩)) := by rw [cell_of_row _ _ _ _ _ _ h]; rfl
theorem TlCell.bytes (h : TlCell w T rb v M p q) : w.cell? ⟨T, 1, none⟩ = some v := by rw [cell_of_row _ _ _ _ _ _ h]; rfl
theorem TlCell.most (h : TlCell w T rb v M p q) : w.cell? ⟨T, 2, none⟩ = some (.int .i64 (M : Int)) := by rw [cell_of_row _ _ _ _ _ _ h]; rfl
theorem TlCell.syms (h : TlCell w T rb v M p q) : w.cell? ⟨T, 3, none⟩ = some (.pointer p) := by rw [cell_of_row _ _ _ _ _ _ h]; rfl
theorem TlCell.dists (h : TlCell w T rb v M p q) : w.cell? ⟨T, 4, none⟩ = some (.pointer q) := by rw [cell_of_row _ _ _ _ _ _ h]; rfl
theorem TlCell.free (h : TlCell w T rb v M p q) (j : Nat) : w.frozen? ⟨T, j, none⟩ = false := frozen_of_row _ _ _ _ _ h
theorem TlCell.lt (h : TlCell w T rb v M p q) : T < w.heap.size := by
  rcases Nat.lt_or_ge T w.heap.size with h' | h'
  · exact h'
  · unfold TlCell at h; rw [Array.getElem?_eq_none h'] at h; cases h
theorem TlCell.put (h : TlCell w T rb v M p q) (v' : Value) : TlCell (w.setCell ⟨T, 1, none⟩ v') T rb v' M p q := heap_setCell_same _ _ 1 _ _ v' h
theorem TlCell.fixed (h : TlCell w T rb v M p q) (p' q' : Option Addr) : TlCell ((w.setCell ⟨T, 3, none⟩ (.pointer p')).setCell ⟨T, 4, none⟩ (.pointer q')) T rb v M p' q' := by
  have h1 := heap_setCell_same _ _ 3 _ _ (.pointer p') h
  exact heap_setCell_same _ _ 4 _ _ (.pointer q') h1
end
/-- The fixed codes, if they were made. -/
def FixAt (w : World) (p q : Option Addr) (X : List Nat) : Prop :=
  (p = none ∧ q = none ∧ X = []) ∨ ∃ b c X1 X2, p = some ⟨b, 0, none⟩ ∧ q = some ⟨c, 0, none⟩ ∧ TreeAt w b (intsOf fixedLit) X1 ∧ TreeAt w c (intsOf fixedDist) X2 ∧ X = X1 ++ X2
theorem FixAt.lt {w : World} {p q : Option Addr} {X : List Nat} (h : FixAt w p q X) : ∀ k ∈ X, k < w.heap.size := by
  rcases h with ⟨_, _, rfl⟩ | ⟨b, c, X1, X2, _, _, h1, h2, rfl⟩
  · intro k hk; cases hk
  · intro k hk
    rcases List.mem_append.1 hk with hk | hk
    · exact h1.lt k hk
    · exact h2.lt k hk
theorem FixAt.move {w w' : World} {p q : Option Addr} {X : List Nat} (h : FixAt w p q X) (hz : w.heap.size ≤ w'.heap.size) (hk : ∀ k ∈ X, w'.heap[k]? = w.heap[k]?) : FixAt w' p q X := by
  rcases h with ⟨h1, h2, rfl⟩ | ⟨b, c, X1, X2, e1, e2, h1, h2, rfl⟩
  · exact .inl ⟨h1, h2, rfl⟩
  · exact .inr ⟨b, c, X1, X2, e1, e2, h1.move hz fun k h => hk k (List.mem_append_left _ h), h2.move hz fun k h => hk k (List.mem_append_right _ h), rfl⟩

/-- What turns while bytes are told. -/
def tlF (T rb : Nat) (v : Value) : List Nat := T :: rb :: v.ownBlock.toList
theorem tlF_mem {T rb k : Nat} {v : Value} (h : k ∈ tlF T rb v) : k = T ∨ k = rb ∨ v.ownBlock = some k := by simpa [tlF] using h
theorem tlF_self (T rb : Nat) (v : Value) : T ∈ tlF T rb v := by simp [tlF]
theorem tlF_rd (T rb : Nat) (v : Value) : rb ∈ tlF T rb v := by simp [tlF]
theorem tlF_own {T rb k : Nat} {v : Value} (h : v.ownBlock = some k) : k ∈ tlF T rb v := by simp [tlF, h]
theorem tlF_not {T rb k : Nat} {v : Value} (h1 : k ≠ T) (h2 : k ≠ rb) (h3 : v.ownBlock ≠ some k) : k ∉ tlF T rb v := fun h => by
  rcases tlF_mem h with h | h | h
  · exact h1 h
  · exact h2 h
  · exact h3 h
/-- The object, part by part. -/
structure TlIs (w : World) (T rb : Nat) (s : ByteArray) (pos : Nat) (o : List UInt8) (M : Nat) (v : Value) (p q : Option Addr) (X : List Nat) : Prop where
  cell : TlCell w T rb v M p q
  rd : ReaderAt w rb s pos [rb]
  row : Row8 w v o
  fix : FixAt w p q X
  d1 : T ≠ rb
  d2 : ∀ k, v.ownBlock = some k → k ≠ T ∧ k ≠ rb
  dX : ∀ k ∈ X, k ≠ T ∧ k ≠ rb ∧ v.ownBlock ≠ some k
  hpos : pos ≤ 8 * s.size
  hM : o.length ≤ M
section
variable {w w' : World} {T rb : Nat} {s : ByteArray} {pos to : Nat} {o : List UInt8} {M : Nat} {v : Value} {p q : Option Addr} {X : List Nat}
theorem TlIs.lt (h : TlIs w T rb s pos o M v p q X) : ∀ k ∈ tlF T rb v, k < w.heap.size := fun k hk => by
  rcases tlF_mem hk with rfl | rfl | hk
  · exact h.cell.lt
  · exact h.rd.lt k (by simp)
  · exact h.row.lt k hk
theorem TlIs.later (h : TlIs w T rb s pos o M v p q X) (hb : Below w.heap.size w w') : TlIs w' T rb s pos o M v p q X where
  cell := (hb.block T h.cell.lt).trans h.cell
  rd := h.rd.later hb
  row := h.row.move fun k hk => hb.block k (h.row.lt k hk)
  fix := h.fix.move hb.size fun k hk => hb.block k (h.fix.lt k hk)
  d1 := h.d1
  d2 := h.d2
  dX := h.dX
  hpos := h.hpos
  hM := h.hM
theorem TlIs.drew (h : TlIs w T rb s pos o M v p q X) : TlIs w.drew T rb s pos o M v p q X := h.later (below_same w).drew
theorem Touches.widen {F F' G : List Nat} (h : Touches F F' w w') (hG : ∀ k ∈ F, k ∈ G) : Touches G G w w' :=
  ⟨h.1, h.2.1, h.2.2.1, h.2.2.2.1, fun k hk hF => h.2.2.2.2.1 k hk fun hm => hF (hG k hm), fun _ hk => .inl hk⟩
theorem TlIs.read (h : TlIs w T rb s pos o M v p q X) {F' : List Nat} (hr : ReaderAt w' rb s to F') (ht : Touches [rb] F' w w') (hto : to ≤ 8 * s.size) : TlIs w' T rb s to o M v p q X ∧ Touches (tlF T rb v) (tlF T rb v) w w' := by
  obtain ⟨n, L, rfl, h1, h2, h3⟩ := hr
  have hk : ∀ k, k < w.heap.size → k ≠ rb → w'.heap[k]? = w.heap[k]? := fun k hk hne => (ht.out hk (by simpa using hne)).1
  refine ⟨⟨(hk T h.cell.lt h.d1).trans h.cell, ⟨n, L, rfl, h1, h2, h3⟩, h.row.move fun k e => hk k (h.row.lt k e) (h.d2 k e).2, h.fix.move ht.size fun k e => hk k (h.fix.lt k e) (h.dX k e).2.1, h.d1, h.d2, h.dX, hto, h.hM⟩, ht.widen fun k hk => ?_⟩
  obtain rfl : k = rb := by simpa using hk
  exact tlF_rd _ _ _
end
/-- The object, and its own blocks. -/
def Tl (w : World) (T rb : Nat) (s : ByteArray) (pos : Nat) (o : List UInt8) (M : Nat) (F : List Nat) : Prop := ∃ v p q X, F = tlF T rb v ∧ TlIs w T rb s pos o M v p q X
/-- A tree of codes that lies apart from what turns. -/
def TreeBy (w : World) (t : Nat) (ns : List Nat) (F : List Nat) : Prop := ∃ TF, TreeAt w t (intsOf ns) TF ∧ ∀ k ∈ TF, k ∉ F
theorem TreeBy.touch {w w' : World} {t : Nat} {ns : List Nat} {F F' : List Nat} (h : TreeBy w t ns F) (ht : Touches F F' w w') : TreeBy w' t ns F' := by
  obtain ⟨TF, h1, h2⟩ := h
  exact ⟨TF, h1.move ht.size fun k hk => (ht.out (h1.lt k hk) (h2 k hk)).1, fun k hk => (ht.out (h1.lt k hk) (h2 k hk)).2⟩

theorem bitsP_get {l : List UInt8} {pos n x to : Nat} (hn : n ≤ 16) (h : bitsP n l pos = .ok (x, to)) : getB l pos (n : Int) = ((x : Int), to, 0) ∧ to ≤ 8 * l.length := by
  obtain ⟨h1, rfl, rfl⟩ := bitsP_ok h
  exact ⟨getB_ok hn h1, h1⟩
theorem bitsP_err {l : List UInt8} {pos n : Nat} {e : Int} (hn : n ≤ 16) (h : bitsP n l pos = .error e) : e = 5 ∧ getB l pos (n : Int) = (0, pos, 5) := by
  unfold bitsP at h
  split at h
  · cases h
  · rename_i h1
    cases h
    exact ⟨rfl, getB_short hn (by omega)⟩
section
variable (T rb : Nat) (s : ByteArray) (pos : Nat) (o : List UInt8) (M : Nat) (v : Value) (p q : Option Addr) (X : List Nat) (w : World)
theorem tlGet_ok (n : Nat) (h : TlIs w T rb s pos o M v p q X) (hs : s.size ≤ 10000) (hn : n ≤ 16) {x to : Nat} (hb : bitsP n s.data.toList pos = .ok (x, to)) :
    Calls Tryd.prog 20 #[.pointer (some ⟨rb, 0, none⟩), .int .i64 (n : Int)] w fun en w' => en = .returned (.tuple #[.int .i64 (x : Int), .int .i64 0]) ∧ TlIs w' T rb s to o M v p q X ∧ Touches (tlF T rb v) (tlF T rb v) w w' := by
  obtain ⟨hg, hto⟩ := bitsP_get hn hb
  rw [← size_data] at hto
  refine (rGet_is rb s pos [rb] (n : Int) w h.rd h.hpos (by omega) (by omega) (by omega) hg).mono ?_
  rintro en w' ⟨rfl, F', hr, ht⟩
  exact ⟨rfl, h.read hr ht hto⟩
theorem tlGet_err (n : Nat) (h : TlIs w T rb s pos o M v p q X) (hs : s.size ≤ 10000) (hn : n ≤ 16) {e : Int} (hb : bitsP n s.data.toList pos = .error e) :
    Calls Tryd.prog 20 #[.pointer (some ⟨rb, 0, none⟩), .int .i64 (n : Int)] w fun en w' => en = .returned (.tuple #[.int .i64 0, .int .i64 5]) ∧ Touches (tlF T rb v) (tlF T rb v) w w' := by
  obtain ⟨rfl, hg⟩ := bitsP_err hn hb
  refine (rGet_is rb s pos [rb] (n : Int) w h.rd h.hpos (by omega) (by omega) (by omega) hg).mono ?_
  rintro en w' ⟨rfl, F', hr, ht⟩
  exact ⟨rfl, (h.read hr ht h.hpos).2⟩
theorem natsOf_ints (ns : List Nat) : natsOf (intsOf ns) = ns := by
  unfold natsOf intsOf
  rw [List.map_map]
  have : (Int.toNat ∘ fun n : Nat => (n : Int)) = id := by funext n; simp
  rw [this, List.map_id]
theorem longZ_ints (ns : List Nat) : longZ (intsOf ns) = (longN ns : Int) := by
  unfold longZ intsOf longN
  have : ∀ (l : List Nat) (m : Nat), (l.map fun n : Nat => (n : Int)).foldl max (m : Int) = ((l.foldl max m : Nat) : Int) := by
    intro l
    induction l with
    | nil => intro m; rfl
    | cons a l ih =>
      intro m
      rw [List.map_cons, List.foldl_cons, List.foldl_cons, ← ih]
      congr 1
      omega
  exact this ns 0
/-- A symbol that was read is a natural number. -/
theorem readC_nat (ls : List Int) (cs : List Nat) : ∀ (k n code : Nat) (r : List Nat) (sy : Int) (m : Nat), readC ls cs k n code r = (sy, m, 0) → 0 ≤ sy
  | 0, n, code, r, sy, m, h => by
    have : readC ls cs 0 n code r = (0, 0, 4) := by cases r <;> rfl
    rw [this] at h; cases h
  | k + 1, n, code, [], sy, m, h => by cases h
  | k + 1, n, code, b :: r, sy, m, h => by
    rw [readC] at h
    by_cases hf : 0 ≤ findC ls cs (n + 1) (2 * code + b) 0
    · rw [if_pos hf] at h
      obtain ⟨rfl, _⟩ := Prod.mk.inj h
      exact hf
    · rw [if_neg hf] at h
      obtain ⟨rfl, h2⟩ := Prod.mk.inj h
      obtain ⟨_, h3⟩ := Prod.mk.inj h2
      exact readC_nat ls cs k (n + 1) (2 * code + b) r _ _ (by rw [← h3])
theorem tlSym_ok (t : Nat) (ns : List Nat) (h : TlIs w T rb s pos o M v p q X) (hs : s.size ≤ 10000) (hr : refusedZ (intsOf ns) = 0) (ht : TreeBy w t ns (tlF T rb v)) {x to : Nat} (hb : symP ns s.data.toList pos = .ok (x, to)) :
    Calls Tryd.prog 40 #[.pointer (some ⟨t, 0, none⟩), .pointer (some ⟨rb, 0, none⟩)] w fun en w' => en = .returned (.tuple #[.int .i64 (x : Int), .int .i64 0]) ∧ TlIs w' T rb s to o M v p q X ∧ Touches (tlF T rb v) (tlF T rb v) w w' := by
  have hto := (Lefty.sym ns).le hb (by rw [← size_data]; exact h.hpos)
  rw [← size_data] at hto
  obtain ⟨sy, m, hrd, rfl, rfl⟩ := symP_ok hb
  have hsy := readC_nat _ _ _ _ _ _ _ _ hrd
  obtain ⟨TF, h1, h2⟩ := ht
  have hrd2 : readC (intsOf ns) (codesN (natsOf (intsOf ns))) (longN ns) 0 0 ((bitsOf s.data.toList).drop pos) = (sy, m, 0) := by rw [natsOf_ints]; exact hrd
  refine (tRead_is t (intsOf ns) TF rb s pos [rb] w hr h1 h.rd h.hpos hs (fun k hk e => ?_) (longZ_ints ns) hrd2).mono ?_
  · obtain rfl : k = rb := by simpa using e
    exact h2 k hk (tlF_rd _ _ _)
  · rintro en w' ⟨rfl, F', hr, ht⟩
    exact ⟨by rw [Int.toNat_of_nonneg hsy], h.read hr ht hto.2⟩
theorem tlSym_err (t : Nat) (ns : List Nat) (h : TlIs w T rb s pos o M v p q X) (hs : s.size ≤ 10000) (hr : refusedZ (intsOf ns) = 0) (ht : TreeBy w t ns (tlF T rb v)) {e : Int} (hb : symP ns s.data.toList pos = .error e) :
    Calls Tryd.prog 40 #[.pointer (some ⟨t, 0, none⟩), .pointer (some ⟨rb, 0, none⟩)] w fun en w' => (∃ sy, en = .returned (.tuple #[.int .i64 sy, .int .i64 e])) ∧ Touches (tlF T rb v) (tlF T rb v) w w' := by
  obtain ⟨sy, m, e', hrd⟩ : ∃ sy m e', readC (intsOf ns) (codesN ns) (longN ns) 0 0 ((bitsOf s.data.toList).drop pos) = (sy, m, e') := ⟨_, _, _, rfl⟩
  have he : e' = e := by
    rw [symP_of hrd] at hb
    split at hb
    · cases hb
    · cases hb; rfl
  subst he
  have hrd2 : readC (intsOf ns) (codesN (natsOf (intsOf ns))) (longN ns) 0 0 ((bitsOf s.data.toList).drop pos) = (sy, m, e') := by rw [natsOf_ints]; exact hrd
  obtain ⟨TF, h1, h2⟩ := ht
  refine (tRead_is t (intsOf ns) TF rb s pos [rb] w hr h1 h.rd h.hpos hs (fun k hk e => ?_) (longZ_ints ns) hrd2).mono ?_
  · obtain rfl : k = rb := by simpa using e
    exact h2 k hk (tlF_rd _ _ _)
  · rintro en w' ⟨rfl, F', hr, ht⟩
    obtain ⟨n, L, rfl, _⟩ := hr
    refine ⟨⟨sy, rfl⟩, ht.widen fun k hk => ?_⟩
    obtain rfl : k = rb := by simpa using hk
    exact tlF_rd _ _ _
end

end
end Go.Proofs.YtjmamomnbfnngaaDoor
/-
  The contracts of package inflate's small methods: number, holds.
-/
namespace Go.Proofs.YtjmamomnbfnngaaDoor
section
open Go.RowKit
set_option maxRecDepth 100000
theorem bitsP_small {n : Nat} {l : List UInt8} {pos x to : Nat} (hn : n ≤ 16) (hb : bitsP n l pos = .ok (x, to)) : x < 65536 := by
  obtain ⟨_, rfl, _⟩ := bitsP_ok hb
  have h1 := numB_lt (((bitsOf l).drop pos).take n) fun b hb => bitsOf_two _ b (List.mem_of_mem_drop (List.mem_of_mem_take hb))
  have h2 : (((bitsOf l).drop pos).take n).length ≤ 16 := by rw [List.length_take]; omega
  have h3 : 2 ^ (((bitsOf l).drop pos).take n).length ≤ 2 ^ 16 := Nat.pow_le_pow_right (by omega) h2
  omega
section
variable (T rb : Nat) (s : ByteArray) (pos : Nat) (o : List UInt8) (M : Nat) (v : Value) (p q : Option Addr) (X : List Nat) (w : World)
theorem TlIs.alloc {T rb : Nat} {s : ByteArray} {pos : Nat} {o : List UInt8} {M : Nat} {v : Value} {p q : Option Addr} {X : List Nat} {w : World} (h : TlIs w T rb s pos o M v p q X) (b : Obj) : TlIs (w.alloc b) T rb s pos o M v p q X := h.later ((below_same w).alloc (Nat.le_refl _) b)
theorem Touches.from_alloc {F F' : List Nat} {w w' : World} {b : Obj} (h : Touches F F' (w.alloc b).drew w') : Touches F F' w w' := (Touches.of_below ((below_same w).alloc (Nat.le_refl _) b)).trans h
theorem Touches.from_alloc' {F F' : List Nat} {w w' : World} {b : Obj} (h : Touches F F' (w.alloc b) w') : Touches F F' w w' := (Touches.of_below ((below_same w).alloc (Nat.le_refl _) b)).trans h
theorem ret_two {x y z : Int} (h : x = y) : Ending.returned (.tuple #[.int .i64 x, .int .i64 z]) = .returned (.tuple #[.int .i64 y, .int .i64 z]) := by rw [h]
set_option maxHeartbeats 1000000 in
theorem number_ok (a n : Nat) (h : TlIs w T rb s pos o M v p q X) (hs : s.size ≤ 10000) (hn : n ≤ 16) (ha : a ≤ 100000) {x to : Nat} (hb : bitsP n s.data.toList pos = .ok (x, to)) :
    Calls Tryd.prog 57 #[.pointer (some ⟨T, 0, none⟩), .agg #[.int .i64 (a : Int), .int .i64 (n : Int)]] w fun en w' => en = .returned (.tuple #[.int .i64 ((a + x : Nat) : Int), .int .i64 0]) ∧ TlIs w' T rb s to o M v p q X ∧ Touches (tlF T rb v) (tlF T rb v) w w' := by
  have hx : x < 65536 := bitsP_small hn hb
  have H1 := Lib.hid (h.alloc (.cells #[.int .i64 (a : Int), .int .i64 (n : Int)] 104))
  have Hg := Lib.hid (fun W (hW : TlIs W T rb s pos o M v p q X) => tlGet_ok T rb s pos o M v p q X W n hW hs hn hb)
  have c0 := H1.out.cell.reader
  have Hlt := Lib.hid h.lt
  clear hb h
  go_enter Tryd.func57, Tryd.ntmps57
  go_wp2_with fail
  go_region_with (go_at_call 20; refine (Hg.out _ H1.out.drew).mono ?_; rintro e w1 ⟨rfl, hi, ht⟩)
  all_goals
    have HI := Lib.hid hi
    have HT := Lib.hid (Touches.from_alloc ht)
    have c1 : w1.cell? ⟨w.heap.size, 0, none⟩ = some (.int .i64 (a : Int)) := (ht.cell (a := ⟨w.heap.size, 0, none⟩) (by simp) (fun hm => Nat.lt_irrefl _ (Hlt.out _ hm))).trans (by rw [World.cell?_drew, World.cell?_alloc_new]; rfl)
    clear hi ht
    go_wp2_with fail
    go_ret2
    refine ⟨ret_two (by omega), HI.out, HT.out⟩
set_option maxHeartbeats 1000000 in
theorem number_err (a n : Nat) (h : TlIs w T rb s pos o M v p q X) (hs : s.size ≤ 10000) (hn : n ≤ 16) {e : Int} (hb : bitsP n s.data.toList pos = .error e) :
    Calls Tryd.prog 57 #[.pointer (some ⟨T, 0, none⟩), .agg #[.int .i64 (a : Int), .int .i64 (n : Int)]] w fun en w' => en = .returned (.tuple #[.int .i64 0, .int .i64 5]) ∧ Touches (tlF T rb v) (tlF T rb v) w w' := by
  have H1 := Lib.hid (h.alloc (.cells #[.int .i64 (a : Int), .int .i64 (n : Int)] 104))
  have Hg := Lib.hid (fun W (hW : TlIs W T rb s pos o M v p q X) => tlGet_err T rb s pos o M v p q X W n hW hs hn hb)
  have c0 := H1.out.cell.reader
  clear hb h
  go_enter Tryd.func57, Tryd.ntmps57
  go_wp2_with fail
  go_region_with (go_at_call 20; refine (Hg.out _ H1.out.drew).mono ?_; rintro e w1 ⟨rfl, ht⟩)
  all_goals
    have HT := Lib.hid (Touches.from_alloc ht)
    clear ht
    go_wp2_with fail
    go_ret2
    exact ⟨rfl, HT.out⟩
set_option maxHeartbeats 1000000 in
theorem holds_is (n : Nat) (h : TlIs w T rb s pos o M v p q X) (_hn : n ≤ 1000000) (_hM : M ≤ 1000000) {b : Bool} (hb : decide (o.length + n ≤ M) = b) :
    Calls Tryd.prog 39 #[.pointer (some ⟨T, 0, none⟩), .int .i64 (n : Int)] w fun en w' => en = .returned (.bool b) ∧ TlIs w' T rb s pos o M v p q X ∧ Touches (tlF T rb v) (tlF T rb v) w w' := by
  obtain ⟨ad, cap, rfl⟩ := h.row.form
  have hMo := h.hM
  have H1 := Lib.hid h
  have c1 := h.cell.bytes
  have c2 := h.cell.most
  have hbz : decide ((n : Int) ≤ (M : Int) - (o.length : Int)) = b := by rw [← hb, decide_eq_decide]; omega
  clear h hb
  go_enter Tryd.func39, Tryd.ntmps39
  go_wp2_with fail
  go_region
  all_goals
    go_wp2_with fail
    go_ret
    exact ⟨rfl, H1.out.drew, (Touches.refl _ _).drew⟩
end

end
end Go.Proofs.YtjmamomnbfnngaaDoor
