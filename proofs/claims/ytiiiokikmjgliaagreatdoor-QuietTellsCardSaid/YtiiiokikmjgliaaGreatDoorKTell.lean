/-
  InfTell, InfNum: texts merged.
-/
import Derived.Test.YtiiiokikmjgliaaGreatDoorKBlk
import Derived.Test.YtiiiokikmjgliaaGreatDoorKCode
import Derived.Test.YtiiiokikmjgliaaGreatDoorKPlain
import Derived.Deep.RegionHeld3
import Derived.BigQuiet
import Derived.Deep.QuietTactic
import Derived.Deep.RegionWith
/-
  The object that tells deflated bytes: a reader, the bytes told, how many there may be, the fixed codes; what it reads of its row.
-/
namespace Go.Proofs.YtiiiokikmjgliaaGreatDoor
section
open Go.RowKit
def TlCell (w : World) (T rb : Nat) (v : Value) (M : Nat) (p q : Option Addr) : Prop :=
  w.heap[T]? = some (.cells #[.pointer (some ⟨rb, 0, none⟩), v, .int .i64 (M : Int), .pointer p, .pointer q] 140 (0, 0))
section
variable {w : World} {T rb M : Nat} {v : Value} {p q : Option Addr}
theorem TlCell.reader (h : TlCell w T rb v M p q) : w.cell? ⟨T, 0, none⟩ = some (.pointer (some ⟨rb, 0, none⟩)) := by rw [cell_of_row _ _ _ _ _ _ h]; rfl
theorem TlCell.bytes (h : TlCell w T rb v M p q) : w.cell? ⟨T, 1, none⟩ = some v := by rw [cell_of_row _ _ _ _ _ _ h]; rfl
theorem TlCell.most (h : TlCell w T rb v M p q) : w.cell? ⟨T, 2, none⟩ = some (.int .i64 (M : Int)) := by rw [cell_of_row _ _ _ _ _ _ h]; rfl
theorem TlCell.syms (h : TlCell w T rb v M p q) : w.cell? ⟨T, 3, none⟩ = some (.pointer p) := by rw [cell_of_row _ _ _ _ _ _ h]; rfl
theorem TlCell.dists (h : TlCell w T rb v M p q) : w.cell? ⟨T, 4, none⟩ = some (.pointer q) := by rw [cell_of_row _ _ _ _ _ _ h]; rfl
theorem TlCell.free (h : TlCell w T rb v M p q) (j : Nat) : w.frozen? ⟨T, j, none⟩ = false := frozen_of_row _ _ _ _ _ h
theorem TlCell.lt (h : TlCell w T rb v M p q) : T < w.heap.size := by
  rcases Nat.lt_or_ge T w.heap.size with h' | h'
  · exact h'
  · unfold TlCell at h; rw [Array.getElem?_eq_none h'] at h; cases h
theorem TlCell.put (h : TlCell w T rb v M p q) (v' : Value) : TlCell (w.setCell ⟨T, 1, none⟩ v') T rb v' M p q := heap_setCell_same _ _ 1 _ _ v' h
theorem TlCell.fixed (h : TlCell w T rb v M p q) (p' q' : Option Addr) : TlCell ((w.setCell ⟨T, 3, none⟩ (.pointer p')).setCell ⟨T, 4, none⟩ (.pointer q')) T rb v M p' q' := by
  have h1 := heap_setCell_same _ _ 3 _ _ (.pointer p') h
  exact heap_setCell_same _ _ 4 _ _ (.pointer q') h1
end
def FixAt (w : World) (p q : Option Addr) (X : List Nat) : Prop :=
  (p = none ∧ q = none ∧ X = []) ∨ ∃ b c X1 X2, p = some ⟨b, 0, none⟩ ∧ q = some ⟨c, 0, none⟩ ∧ TreeAt w b (intsOf fixedLit) X1 ∧ TreeAt w c (intsOf fixedDist) X2 ∧ X = X1 ++ X2
theorem FixAt.lt {w : World} {p q : Option Addr} {X : List Nat} (h : FixAt w p q X) : ∀ k ∈ X, k < w.heap.size := by
  rcases h with ⟨_, _, rfl⟩ | ⟨b, c, X1, X2, _, _, h1, h2, rfl⟩
  · intro k hk; cases hk
  · intro k hk
    rcases List.mem_append.1 hk with hk | hk
    · exact h1.lt k hk
    · exact h2.lt k hk
theorem FixAt.move {w w' : World} {p q : Option Addr} {X : List Nat} (h : FixAt w p q X) (hz : w.heap.size ≤ w'.heap.size) (hk : ∀ k ∈ X, w'.heap[k]? = w.heap[k]?) : FixAt w' p q X := by
  rcases h with ⟨h1, h2, rfl⟩ | ⟨b, c, X1, X2, e1, e2, h1, h2, rfl⟩
  · exact .inl ⟨h1, h2, rfl⟩
  · exact .inr ⟨b, c, X1, X2, e1, e2, h1.move hz fun k h => hk k (List.mem_append_left _ h), h2.move hz fun k h => hk k (List.mem_append_right _ h), rfl⟩
def tlF (T rb : Nat) (v : Value) : List Nat := T :: rb :: v.ownBlock.toList
theorem tlF_mem {T rb k : Nat} {v : Value} (h : k ∈ tlF T rb v) : k = T ∨ k = rb ∨ v.ownBlock = some k := by simpa [tlF] using h
theorem tlF_self (T rb : Nat) (v : Value) : T ∈ tlF T rb v := by simp [tlF]
theorem tlF_rd (T rb : Nat) (v : Value) : rb ∈ tlF T rb v := by simp [tlF]
theorem tlF_own {T rb k : Nat} {v : Value} (h : v.ownBlock = some k) : k ∈ tlF T rb v := by simp [tlF, h]
theorem tlF_not {T rb k : Nat} {v : Value} (h1 : k ≠ T) (h2 : k ≠ rb) (h3 : v.ownBlock ≠ some k) : k ∉ tlF T rb v := fun h => by
  rcases tlF_mem h with h | h | h
  · exact h1 h
  · exact h2 h
  · exact h3 h
structure TlIs (w : World) (T rb : Nat) (s : ByteArray) (pos : Nat) (o : List UInt8) (M : Nat) (v : Value) (p q : Option Addr) (X : List Nat) : Prop where
  cell : TlCell w T rb v M p q
  rd : ReaderAt w rb s pos [rb]
  row : Row8 w v o
  fix : FixAt w p q X
  d1 : T ≠ rb
  d2 : ∀ k, v.ownBlock = some k → k ≠ T ∧ k ≠ rb
  dX : ∀ k ∈ X, k ≠ T ∧ k ≠ rb ∧ v.ownBlock ≠ some k
  hpos : pos ≤ 8 * s.size
  hM : o.length ≤ M
section
variable {w w' : World} {T rb : Nat} {s : ByteArray} {pos tq : Nat} {o : List UInt8} {M : Nat} {v : Value} {p q : Option Addr} {X : List Nat}
theorem TlIs.lt (h : TlIs w T rb s pos o M v p q X) : ∀ k ∈ tlF T rb v, k < w.heap.size := fun k hk => by
  rcases tlF_mem hk with rfl | rfl | hk
  · exact h.cell.lt
  · exact h.rd.lt k (by simp)
  · exact h.row.lt k hk
theorem TlIs.later (h : TlIs w T rb s pos o M v p q X) (hb : Below w.heap.size w w') : TlIs w' T rb s pos o M v p q X where
  cell := (hb.block T h.cell.lt).trans h.cell
  rd := h.rd.later hb
  row := h.row.move fun k hk => hb.block k (h.row.lt k hk)
  fix := h.fix.move hb.size fun k hk => hb.block k (h.fix.lt k hk)
  d1 := h.d1
  d2 := h.d2
  dX := h.dX
  hpos := h.hpos
  hM := h.hM
theorem TlIs.drew (h : TlIs w T rb s pos o M v p q X) : TlIs w.drew T rb s pos o M v p q X := h.later (below_same w).drew
theorem Touches.widen {F F' G : List Nat} (h : Touches F F' w w') (hG : ∀ k ∈ F, k ∈ G) : Touches G G w w' :=
  ⟨h.1, h.2.1, h.2.2.1, h.2.2.2.1, fun k hk hF => h.2.2.2.2.1 k hk fun hm => hF (hG k hm), fun _ hk => .inl hk⟩
theorem TlIs.read (h : TlIs w T rb s pos o M v p q X) {F' : List Nat} (hr : ReaderAt w' rb s tq F') (ht : Touches [rb] F' w w') (hto : tq ≤ 8 * s.size) : TlIs w' T rb s tq o M v p q X ∧ Touches (tlF T rb v) (tlF T rb v) w w' := by
  obtain ⟨n, L, rfl, h1, h2, h3⟩ := hr
  have hk : ∀ k, k < w.heap.size → k ≠ rb → w'.heap[k]? = w.heap[k]? := fun k hk hne => (ht.out hk (by simpa using hne)).1
  refine ⟨⟨(hk T h.cell.lt h.d1).trans h.cell, ⟨n, L, rfl, h1, h2, h3⟩, h.row.move fun k e => hk k (h.row.lt k e) (h.d2 k e).2, h.fix.move ht.size fun k e => hk k (h.fix.lt k e) (h.dX k e).2.1, h.d1, h.d2, h.dX, hto, h.hM⟩, ht.widen fun k hk => ?_⟩
  obtain rfl : k = rb := by simpa using hk
  exact tlF_rd _ _ _
end
def Tl (w : World) (T rb : Nat) (s : ByteArray) (pos : Nat) (o : List UInt8) (M : Nat) (F : List Nat) : Prop := ∃ v p q X, F = tlF T rb v ∧ TlIs w T rb s pos o M v p q X
def TreeBy (w : World) (t : Nat) (ns : List Nat) (F : List Nat) : Prop := ∃ TF, TreeAt w t (intsOf ns) TF ∧ ∀ k ∈ TF, k ∉ F
theorem TreeBy.touch {w w' : World} {t : Nat} {ns : List Nat} {F F' : List Nat} (h : TreeBy w t ns F) (ht : Touches F F' w w') : TreeBy w' t ns F' := by
  obtain ⟨TF, h1, h2⟩ := h
  exact ⟨TF, h1.move ht.size fun k hk => (ht.out (h1.lt k hk) (h2 k hk)).1, fun k hk => (ht.out (h1.lt k hk) (h2 k hk)).2⟩
theorem bitsP_get {l : List UInt8} {pos n x tq : Nat} (hn : n ≤ 16) (h : bitsP n l pos = .ok (x, tq)) : getB l pos (n : Int) = ((x : Int), tq, 0) ∧ tq ≤ 8 * l.length := by
  obtain ⟨h1, rfl, rfl⟩ := bitsP_ok h
  exact ⟨getB_ok hn h1, h1⟩
theorem bitsP_err {l : List UInt8} {pos n : Nat} {e : Int} (hn : n ≤ 16) (h : bitsP n l pos = .error e) : e = 5 ∧ getB l pos (n : Int) = (0, pos, 5) := by
  unfold bitsP at h
  split at h
  · cases h
  · rename_i h1
    cases h
    exact ⟨rfl, getB_short hn (by omega)⟩
section
variable (T rb : Nat) (s : ByteArray) (pos : Nat) (o : List UInt8) (M : Nat) (v : Value) (p q : Option Addr) (X : List Nat) (w : World)
theorem tlGet_ok (n : Nat) (h : TlIs w T rb s pos o M v p q X) (hs : s.size ≤ 10000) (hn : n ≤ 16) {x tq : Nat} (hb : bitsP n s.data.toList pos = .ok (x, tq)) :
    Calls Tryz.prog 142 #[.pointer (some ⟨rb, 0, none⟩), .int .i64 (n : Int)] w fun en w' => en = .returned (.tuple #[.int .i64 (x : Int), .int .i64 0]) ∧ TlIs w' T rb s tq o M v p q X ∧ Touches (tlF T rb v) (tlF T rb v) w w' := by
  obtain ⟨hg, hto⟩ := bitsP_get hn hb
  rw [← size_data] at hto
  refine (rGet_is rb s pos [rb] (n : Int) w h.rd h.hpos (by omega) (by omega) (by omega) hg).mono ?_
  rintro en w' ⟨rfl, F', hr, ht⟩
  exact ⟨rfl, h.read hr ht hto⟩
theorem tlGet_err (n : Nat) (h : TlIs w T rb s pos o M v p q X) (hs : s.size ≤ 10000) (hn : n ≤ 16) {e : Int} (hb : bitsP n s.data.toList pos = .error e) :
    Calls Tryz.prog 142 #[.pointer (some ⟨rb, 0, none⟩), .int .i64 (n : Int)] w fun en w' => en = .returned (.tuple #[.int .i64 0, .int .i64 5]) ∧ Touches (tlF T rb v) (tlF T rb v) w w' := by
  obtain ⟨rfl, hg⟩ := bitsP_err hn hb
  refine (rGet_is rb s pos [rb] (n : Int) w h.rd h.hpos (by omega) (by omega) (by omega) hg).mono ?_
  rintro en w' ⟨rfl, F', hr, ht⟩
  exact ⟨rfl, (h.read hr ht h.hpos).2⟩
theorem natsOf_ints (ns : List Nat) : natsOf (intsOf ns) = ns := by
  unfold natsOf intsOf
  rw [List.map_map]
  have : (Int.toNat ∘ fun n : Nat => (n : Int)) = id := by funext n; simp
  rw [this, List.map_id]
theorem longZ_ints (ns : List Nat) : longZ (intsOf ns) = (longN ns : Int) := by
  unfold longZ intsOf longN
  have : ∀ (l : List Nat) (m : Nat), (l.map fun n : Nat => (n : Int)).foldl max (m : Int) = ((l.foldl max m : Nat) : Int) := by
    intro l
    induction l with
    | nil => intro m; rfl
    | cons a l ih =>
      intro m
      rw [List.map_cons, List.foldl_cons, List.foldl_cons, ← ih]
      congr 1
      omega
  exact this ns 0
theorem readC_nat (ls : List Int) (cs : List Nat) : ∀ (k n code : Nat) (r : List Nat) (sy : Int) (m : Nat), readC ls cs k n code r = (sy, m, 0) → 0 ≤ sy
  | 0, n, code, r, sy, m, h => by
    have : readC ls cs 0 n code r = (0, 0, 4) := by cases r <;> rfl
    rw [this] at h; cases h
  | k + 1, n, code, [], sy, m, h => by cases h
  | k + 1, n, code, b :: r, sy, m, h => by
    rw [readC] at h
    by_cases hf : 0 ≤ findC ls cs (n + 1) (2 * code + b) 0
    · rw [if_pos hf] at h
      obtain ⟨rfl, _⟩ := Prod.mk.inj h
      exact hf
    · rw [if_neg hf] at h
      obtain ⟨rfl, h2⟩ := Prod.mk.inj h
      obtain ⟨_, h3⟩ := Prod.mk.inj h2
      exact readC_nat ls cs k (n + 1) (2 * code + b) r _ _ (by rw [← h3])
theorem tlSym_ok (t : Nat) (ns : List Nat) (h : TlIs w T rb s pos o M v p q X) (hs : s.size ≤ 10000) (hr : refusedZ (intsOf ns) = 0) (ht : TreeBy w t ns (tlF T rb v)) {x tq : Nat} (hb : symP ns s.data.toList pos = .ok (x, tq)) :
    Calls Tryz.prog 167 #[.pointer (some ⟨t, 0, none⟩), .pointer (some ⟨rb, 0, none⟩)] w fun en w' => en = .returned (.tuple #[.int .i64 (x : Int), .int .i64 0]) ∧ TlIs w' T rb s tq o M v p q X ∧ Touches (tlF T rb v) (tlF T rb v) w w' := by
  have hto := (Lefty.sym ns).le hb (by rw [← size_data]; exact h.hpos)
  rw [← size_data] at hto
  obtain ⟨sy, m, hrd, rfl, rfl⟩ := symP_ok hb
  have hsy := readC_nat _ _ _ _ _ _ _ _ hrd
  obtain ⟨TF, h1, h2⟩ := ht
  have hrd2 : readC (intsOf ns) (codesN (natsOf (intsOf ns))) (longN ns) 0 0 ((bitsOf s.data.toList).drop pos) = (sy, m, 0) := by rw [natsOf_ints]; exact hrd
  refine (tRead_is t (intsOf ns) TF rb s pos [rb] w hr h1 h.rd h.hpos hs (fun k hk e => ?_) (longZ_ints ns) hrd2).mono ?_
  · obtain rfl : k = rb := by simpa using e
    exact h2 k hk (tlF_rd _ _ _)
  · rintro en w' ⟨rfl, F', hr, ht⟩
    exact ⟨by rw [Int.toNat_of_nonneg hsy], h.read hr ht hto.2⟩
theorem tlSym_err (t : Nat) (ns : List Nat) (h : TlIs w T rb s pos o M v p q X) (hs : s.size ≤ 10000) (hr : refusedZ (intsOf ns) = 0) (ht : TreeBy w t ns (tlF T rb v)) {e : Int} (hb : symP ns s.data.toList pos = .error e) :
    Calls Tryz.prog 167 #[.pointer (some ⟨t, 0, none⟩), .pointer (some ⟨rb, 0, none⟩)] w fun en w' => (∃ sy, en = .returned (.tuple #[.int .i64 sy, .int .i64 e])) ∧ Touches (tlF T rb v) (tlF T rb v) w w' := by
  obtain ⟨sy, m, e', hrd⟩ : ∃ sy m e', readC (intsOf ns) (codesN ns) (longN ns) 0 0 ((bitsOf s.data.toList).drop pos) = (sy, m, e') := ⟨_, _, _, rfl⟩
  have he : e' = e := by
    rw [symP_of hrd] at hb
    split at hb
    · cases hb
    · cases hb; rfl
  subst he
  have hrd2 : readC (intsOf ns) (codesN (natsOf (intsOf ns))) (longN ns) 0 0 ((bitsOf s.data.toList).drop pos) = (sy, m, e') := by rw [natsOf_ints]; exact hrd
  obtain ⟨TF, h1, h2⟩ := ht
  refine (tRead_is t (intsOf ns) TF rb s pos [rb] w hr h1 h.rd h.hpos hs (fun k hk e => ?_) (longZ_ints ns) hrd2).mono ?_
  · obtain rfl : k = rb := by simpa using e
    exact h2 k hk (tlF_rd _ _ _)
  · rintro en w' ⟨rfl, F', hr, ht⟩
    obtain ⟨n, L, rfl, _⟩ := hr
    refine ⟨⟨sy, rfl⟩, ht.widen fun k hk => ?_⟩
    obtain rfl : k = rb := by simpa using hk
    exact tlF_rd _ _ _
end
end
end Go.Proofs.YtiiiokikmjgliaaGreatDoor
/-
  The contracts of package inflate's small methods: number, holds.
-/
namespace Go.Proofs.YtiiiokikmjgliaaGreatDoor
section
open Go.RowKit
set_option maxRecDepth 100000
theorem bitsP_small {n : Nat} {l : List UInt8} {pos x tq : Nat} (hn : n ≤ 16) (hb : bitsP n l pos = .ok (x, tq)) : x < 65536 := by
  obtain ⟨_, rfl, _⟩ := bitsP_ok hb
  have h1 := numB_lt (((bitsOf l).drop pos).take n) fun b hb => bitsOf_two _ b (List.mem_of_mem_drop (List.mem_of_mem_take hb))
  have h2 : (((bitsOf l).drop pos).take n).length ≤ 16 := by rw [List.length_take]; omega
  have h3 : 2 ^ (((bitsOf l).drop pos).take n).length ≤ 2 ^ 16 := Nat.pow_le_pow_right (by omega) h2
  omega
section
variable (T rb : Nat) (s : ByteArray) (pos : Nat) (o : List UInt8) (M : Nat) (v : Value) (p q : Option Addr) (X : List Nat) (w : World)
theorem TlIs.alloc {T rb : Nat} {s : ByteArray} {pos : Nat} {o : List UInt8} {M : Nat} {v : Value} {p q : Option Addr} {X : List Nat} {w : World} (h : TlIs w T rb s pos o M v p q X) (b : Obj) : TlIs (w.alloc b) T rb s pos o M v p q X := h.later ((below_same w).alloc (Nat.le_refl _) b)
theorem Touches.from_alloc {F F' : List Nat} {w w' : World} {b : Obj} (h : Touches F F' (w.alloc b).drew w') : Touches F F' w w' := (Touches.of_below ((below_same w).alloc (Nat.le_refl _) b)).trans h
theorem Touches.from_alloc' {F F' : List Nat} {w w' : World} {b : Obj} (h : Touches F F' (w.alloc b) w') : Touches F F' w w' := (Touches.of_below ((below_same w).alloc (Nat.le_refl _) b)).trans h
theorem ret_two {x y z : Int} (h : x = y) : Ending.returned (.tuple #[.int .i64 x, .int .i64 z]) = .returned (.tuple #[.int .i64 y, .int .i64 z]) := by rw [h]
set_option maxHeartbeats 1000000 in
theorem number_ok (a n : Nat) (h : TlIs w T rb s pos o M v p q X) (hs : s.size ≤ 10000) (hn : n ≤ 16) (ha : a ≤ 100000) {x tq : Nat} (hb : bitsP n s.data.toList pos = .ok (x, tq)) :
    Calls Tryz.prog 184 #[.pointer (some ⟨T, 0, none⟩), .agg #[.int .i64 (a : Int), .int .i64 (n : Int)]] w fun en w' => en = .returned (.tuple #[.int .i64 ((a + x : Nat) : Int), .int .i64 0]) ∧ TlIs w' T rb s tq o M v p q X ∧ Touches (tlF T rb v) (tlF T rb v) w w' := by
  have hx : x < 65536 := bitsP_small hn hb
  have H1 := Lib.hid (h.alloc (.cells #[.int .i64 (a : Int), .int .i64 (n : Int)] 211))
  have Hg := Lib.hid (fun W (hW : TlIs W T rb s pos o M v p q X) => tlGet_ok T rb s pos o M v p q X W n hW hs hn hb)
  have c0 := H1.out.cell.reader
  have Hlt := Lib.hid h.lt
  clear hb h
  go_enter Tryz.func184, Tryz.ntmps184
  go_wp2_with fail
  go_region_with (go_at_call 142; refine (Hg.out _ H1.out.drew).mono ?_; rintro e w1 ⟨rfl, hi, ht⟩)
  all_goals
    have HI := Lib.hid hi
    have HT := Lib.hid (Touches.from_alloc ht)
    have c1 : w1.cell? ⟨w.heap.size, 0, none⟩ = some (.int .i64 (a : Int)) := (ht.cell (a := ⟨w.heap.size, 0, none⟩) (by simp) (fun hm => Nat.lt_irrefl _ (Hlt.out _ hm))).trans (by rw [World.cell?_drew, World.cell?_alloc_new]; rfl)
    clear hi ht
    go_wp2_with fail
    go_ret2
    refine ⟨ret_two (by omega), HI.out, HT.out⟩
set_option maxHeartbeats 1000000 in
theorem number_err (a n : Nat) (h : TlIs w T rb s pos o M v p q X) (hs : s.size ≤ 10000) (hn : n ≤ 16) {e : Int} (hb : bitsP n s.data.toList pos = .error e) :
    Calls Tryz.prog 184 #[.pointer (some ⟨T, 0, none⟩), .agg #[.int .i64 (a : Int), .int .i64 (n : Int)]] w fun en w' => en = .returned (.tuple #[.int .i64 0, .int .i64 5]) ∧ Touches (tlF T rb v) (tlF T rb v) w w' := by
  have H1 := Lib.hid (h.alloc (.cells #[.int .i64 (a : Int), .int .i64 (n : Int)] 211))
  have Hg := Lib.hid (fun W (hW : TlIs W T rb s pos o M v p q X) => tlGet_err T rb s pos o M v p q X W n hW hs hn hb)
  have c0 := H1.out.cell.reader
  clear hb h
  go_enter Tryz.func184, Tryz.ntmps184
  go_wp2_with fail
  go_region_with (go_at_call 142; refine (Hg.out _ H1.out.drew).mono ?_; rintro e w1 ⟨rfl, ht⟩)
  all_goals
    have HT := Lib.hid (Touches.from_alloc ht)
    clear ht
    go_wp2_with fail
    go_ret2
    exact ⟨rfl, HT.out⟩
set_option maxHeartbeats 1000000 in
theorem holds_is (n : Nat) (h : TlIs w T rb s pos o M v p q X) (_hn : n ≤ 1000000) (_hM : M ≤ 1000000) {b : Bool} (hb : decide (o.length + n ≤ M) = b) :
    Calls Tryz.prog 166 #[.pointer (some ⟨T, 0, none⟩), .int .i64 (n : Int)] w fun en w' => en = .returned (.bool b) ∧ TlIs w' T rb s pos o M v p q X ∧ Touches (tlF T rb v) (tlF T rb v) w w' := by
  obtain ⟨ad, cap, rfl⟩ := h.row.form
  have hMo := h.hM
  have H1 := Lib.hid h
  have c1 := h.cell.bytes
  have c2 := h.cell.most
  have hbz : decide ((n : Int) ≤ (M : Int) - (o.length : Int)) = b := by rw [← hb, decide_eq_decide]; omega
  clear h hb
  go_enter Tryz.func166, Tryz.ntmps166
  go_wp2_with fail
  go_region
  all_goals
    go_wp2_with fail
    go_ret
    exact ⟨rfl, H1.out.drew, (Touches.refl _ _).drew⟩
end
end
end Go.Proofs.YtiiiokikmjgliaaGreatDoor
