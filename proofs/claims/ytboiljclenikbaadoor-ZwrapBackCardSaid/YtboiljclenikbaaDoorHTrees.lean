/-
  InfTrees, InfFixed: texts merged.
-/
import Derived.Test.YtboiljclenikbaaDoorCodeNew
import Derived.Test.YtboiljclenikbaaDoorInfTell2
import Derived.Test.YtboiljclenikbaaDoorHMake
/-
  The contract of package inflate's treesOf.
-/
namespace Go.Proofs.YtboiljclenikbaaDoor
section
open Go.RowKit
set_option maxRecDepth 100000
/-- Two pointers in a block. -/
def PairP (w : World) (b : Nat) (p q : Option Addr) : Prop := w.heap[b]? = some (.cells #[.pointer p, .pointer q] 52 (0, 0))
section
variable {w w' : World} {b : Nat} {p q : Option Addr}
theorem PairP.first (h : PairP w b p q) : w.cell? ⟨b, 0, none⟩ = some (.pointer p) := by rw [cell_of_row _ _ _ _ _ _ h]; rfl
theorem PairP.second (h : PairP w b p q) : w.cell? ⟨b, 1, none⟩ = some (.pointer q) := by rw [cell_of_row _ _ _ _ _ _ h]; rfl
theorem PairP.free (h : PairP w b p q) (j : Nat) : w.frozen? ⟨b, j, none⟩ = false := frozen_of_row _ _ _ _ _ h
theorem PairP.lt (h : PairP w b p q) : b < w.heap.size := by
  rcases Nat.lt_or_ge b w.heap.size with h' | h'
  · exact h'
  · unfold PairP at h; rw [Array.getElem?_eq_none h'] at h; cases h
theorem PairP.later (h : PairP w b p q) (hb : Below w.heap.size w w') : PairP w' b p q := (hb.block b h.lt).trans h
theorem PairP.put0 (h : PairP w b p q) (p' : Option Addr) : PairP (w.setCell ⟨b, 0, none⟩ (.pointer p')) b p' q := heap_setCell_same _ _ 0 _ _ (.pointer p') h
theorem PairP.put1 (h : PairP w b p q) (q' : Option Addr) : PairP (w.setCell ⟨b, 1, none⟩ (.pointer q')) b p q' := heap_setCell_same _ _ 1 _ _ (.pointer q') h
theorem PairP.other (h : PairP w b p q) {a : Addr} (v : Value) (hne : b ≠ a.block) : PairP (w.setCell a v) b p q := (heap_setCell_other _ _ _ _ hne).trans h
end
set_option maxHeartbeats 2000000 in
theorem treesOf_is (p1 p2 : Option Addr) (n1 n2 c1 c2 : Nat) (lit dist : List Nat) (w : World) (hn1 : n1 = lit.length) (hn2 : n2 = dist.length) (hp1 : Nums w p1 (intsOf lit)) (hp2 : Nums w p2 (intsOf dist)) (hr1 : refusedZ (intsOf lit) = 0) (hr2 : refusedZ (intsOf dist) = 0) :
    Calls Tryd.prog 72 #[.slice p1 n1 c1, .slice p2 n2 c2] w fun e w' => ∃ b c X1 X2, e = .returned (.agg #[.pointer (some ⟨b, 0, none⟩), .pointer (some ⟨c, 0, none⟩)]) ∧ TreeAt w' b (intsOf lit) X1 ∧ TreeAt w' c (intsOf dist) X2 ∧ (∀ k ∈ X1, w.heap.size ≤ k) ∧ (∀ k ∈ X2, w.heap.size ≤ k) ∧ Below w.heap.size w w' := by
  have hl : ∀ ns : List Nat, (intsOf ns).length = ns.length := fun ns => by unfold intsOf; rw [List.length_map]
  have HN1 := Lib.hid (fun W (hb : Below w.heap.size w W) => tNew_good p1 c1 n1 (intsOf lit) W (by rw [hl]; exact hn1) (hp1.later hb) hr1)
  have HN2 := Lib.hid (fun W (hb : Below w.heap.size w W) => tNew_good p2 c2 n2 (intsOf dist) W (by rw [hl]; exact hn2) (hp2.later hb) hr2)
  clear hp1 hp2 hr1 hr2 hn1 hn2 hl
  have HB0 : Hid (Below w.heap.size w ((w.alloc (.cells #[.pointer none, .pointer none] 52)).alloc (.cells #[.pointer none, .pointer none] 52))) := Lib.hid (((Below.refl _ w).alloc (Nat.le_refl _) _).alloc (by simp) _)
  go_enter Tryd.func72, Tryd.ntmps72
  go_wp2_with fail
  refine (HN1.out _ HB0.out).mono ?_
  rintro e w1 ⟨b, X1, rfl, ht, hX, hb⟩
  have HT1 := Lib.hid ht
  have HX1 : Hid (∀ k ∈ X1, w.heap.size + 2 ≤ k) := Lib.hid fun k hk => by have := hX k hk; simp at this; omega
  have HB1 := Lib.hid (HB0.out.trans (hb.mono HB0.out.size))
  have hA : PairP ((w.alloc (.cells #[.pointer none, .pointer none] 52)).alloc (.cells #[.pointer none, .pointer none] 52)) (w.heap.size + 1) none none := by
    have := heap_alloc_new (w.alloc (.cells #[.pointer none, .pointer none] 52)) (.cells #[.pointer none, .pointer none] 52)
    rw [show (w.alloc (.cells #[.pointer none, .pointer none] 52)).heap.size = w.heap.size + 1 by simp] at this
    exact this
  have hR : PairP ((w.alloc (.cells #[.pointer none, .pointer none] 52)).alloc (.cells #[.pointer none, .pointer none] 52)) w.heap.size none none :=
    (Below.heap_alloc _ _ _ (by simp)).trans (heap_alloc_new w _)
  have HA1 := Lib.hid (hA.later hb)
  have HR1 := Lib.hid (hR.later hb)
  have f0 := HA1.out.free 0
  have a0 := HA1.out.first
  clear ht hX hb hA hR
  go_wp2_with fail
  have HA2 := Lib.hid (HA1.out.put0 (some ⟨b, 0, none⟩))
  have HR2 := Lib.hid (HR1.out.other (a := ⟨w.heap.size + 1, 0, none⟩) (.pointer (some ⟨b, 0, none⟩)) (by simp))
  have HB2 : Hid (Below w.heap.size w (w1.setCell ⟨w.heap.size + 1, 0, none⟩ (.pointer (some ⟨b, 0, none⟩)))) := Lib.hid (HB1.out.setCell (by simp) _)
  have HT2 := Lib.hid (HT1.out.move (w' := w1.setCell ⟨w.heap.size + 1, 0, none⟩ (.pointer (some ⟨b, 0, none⟩))) (by simp [World.setCell]) fun k hk => heap_setCell_other _ ⟨w.heap.size + 1, 0, none⟩ k _ (by have := HX1.out k hk; simp; omega))
  clear f0 a0
  obtain ⟨W2, hW2⟩ : ∃ W2, w1.setCell ⟨w.heap.size + 1, 0, none⟩ (.pointer (some ⟨b, 0, none⟩)) = W2 := ⟨_, rfl⟩
  rw [hW2] at HA2 HR2 HB2 HT2
  rw [hW2]
  clear hW2
  refine (HN2.out _ HB2.out).mono ?_
  rintro e w2 ⟨c, X2, rfl, ht, hX, hb⟩
  have HT3 := Lib.hid (HT2.out.later hb)
  have HU3 := Lib.hid ht
  have HX2 : Hid (∀ k ∈ X2, w.heap.size + 2 ≤ k) := Lib.hid fun k hk => by
    have h1 := hX k hk
    have h2 := HA2.out.lt
    omega
  have HB3 := Lib.hid (HB2.out.trans (hb.mono HB2.out.size))
  have HA3 := Lib.hid (HA2.out.later hb)
  have HR3 := Lib.hid (HR2.out.later hb)
  have f1 := HA3.out.free 1
  have a1 := HA3.out.second
  have HA4 := Lib.hid (HA3.out.put1 (some ⟨c, 0, none⟩))
  have a40 := HA4.out.first
  have a41 := HA4.out.second
  have HR4 := Lib.hid (HR3.out.other (a := ⟨w.heap.size + 1, 1, none⟩) (.pointer (some ⟨c, 0, none⟩)) (by simp))
  have r40 := HR4.out.first
  have r41 := HR4.out.second
  have g40 := HR4.out.free 0
  have g41 := HR4.out.free 1
  have HR5 := Lib.hid (HR4.out.put0 (some ⟨b, 0, none⟩))
  have r51 := HR5.out.second
  have g51 := HR5.out.free 1
  have HR6 := Lib.hid (HR5.out.put1 (some ⟨c, 0, none⟩))
  have k0 := HR6.out.first
  have k1 := HR6.out.second
  have HB6 : Hid (Below w.heap.size w (((w2.setCell ⟨w.heap.size + 1, 1, none⟩ (.pointer (some ⟨c, 0, none⟩))).setCell ⟨w.heap.size, 0, none⟩ (.pointer (some ⟨b, 0, none⟩))).setCell ⟨w.heap.size, 1, none⟩ (.pointer (some ⟨c, 0, none⟩)))) := Lib.hid (((HB3.out.setCell (by simp) _).setCell (by simp) _).setCell (by simp) _)
  have HM : Hid (∀ k, w.heap.size + 2 ≤ k → (((w2.setCell ⟨w.heap.size + 1, 1, none⟩ (.pointer (some ⟨c, 0, none⟩))).setCell ⟨w.heap.size, 0, none⟩ (.pointer (some ⟨b, 0, none⟩))).setCell ⟨w.heap.size, 1, none⟩ (.pointer (some ⟨c, 0, none⟩))).heap[k]? = w2.heap[k]?) := Lib.hid fun k hk => by
    rw [heap_setCell_other _ ⟨w.heap.size, 1, none⟩ k _ (by simp; omega), heap_setCell_other _ ⟨w.heap.size, 0, none⟩ k _ (by simp; omega), heap_setCell_other _ ⟨w.heap.size + 1, 1, none⟩ k _ (by simp; omega)]
  clear ht hX hb
  go_wp2_with fail
  refine bodyPost_ret (v := .agg #[.pointer (some ⟨b, 0, none⟩), .pointer (some ⟨c, 0, none⟩)]) (by simp [results, Tryd.results72, go_sem, k0, k1]) rfl ?_
  exact ⟨b, c, X1, X2, rfl, HT3.out.move (by simp [World.setCell]) fun k hk => HM.out k (HX1.out k hk), HU3.out.move (by simp [World.setCell]) fun k hk => HM.out k (HX2.out k hk), fun k hk => by have := HX1.out k hk; omega, fun k hk => by have := HX2.out k hk; omega, HB6.out⟩

end
end Go.Proofs.YtboiljclenikbaaDoor
/-
  The contract of package inflate's fixedTrees.
-/
namespace Go.Proofs.YtboiljclenikbaaDoor
section
open Go.RowKit
set_option maxRecDepth 100000
theorem asZ_ints (l : List Nat) : asZ l = intsOf l := rfl
theorem fixed_good : refusedZ (intsOf fixedLit) = 0 ∧ refusedZ (intsOf fixedDist) = 0 := by decide +kernel
theorem flat4 (g1 g2 g3 g4 : Nat) : flatR [(g1, List.replicate 144 8), (g2, List.replicate 112 9), (g3, List.replicate 24 7), (g4, List.replicate 8 8)] = fixedLit := by
  unfold flatR fixedLit
  simp only [List.flatMap_cons, List.flatMap_nil, List.append_nil]
theorem rows4 (w : World) {g1 g2 g3 g4 : Nat} (r1 : RowAt w g1 (List.replicate 144 8)) (r2 : RowAt w g2 (List.replicate 112 9)) (r3 : RowAt w g3 (List.replicate 24 7)) (r4 : RowAt w g4 (List.replicate 8 8)) :
    RowsAt (w.alloc (.cells #[.slice (some ⟨g1, 0, none⟩) 144 144, .slice (some ⟨g2, 0, none⟩) 112 112, .slice (some ⟨g3, 0, none⟩) 24 24, .slice (some ⟨g4, 0, none⟩) 8 8] 58)) w.heap.size [(g1, List.replicate 144 8), (g2, List.replicate 112 9), (g3, List.replicate 24 7), (g4, List.replicate 8 8)] := by
  have hb : Below w.heap.size w (w.alloc (.cells #[.slice (some ⟨g1, 0, none⟩) 144 144, .slice (some ⟨g2, 0, none⟩) 112 112, .slice (some ⟨g3, 0, none⟩) 24 24, .slice (some ⟨g4, 0, none⟩) 8 8] 58)) := (Below.refl _ w).alloc (Nat.le_refl _) _
  intro j g l hj
  rw [World.cell?_alloc_new]
  match j, hj with
  | 0, hj => obtain ⟨rfl, rfl⟩ := Prod.mk.inj (Option.some.inj hj); exact ⟨by rw [List.length_replicate]; rfl, r1.later hb⟩
  | 1, hj => obtain ⟨rfl, rfl⟩ := Prod.mk.inj (Option.some.inj hj); exact ⟨by rw [List.length_replicate]; rfl, r2.later hb⟩
  | 2, hj => obtain ⟨rfl, rfl⟩ := Prod.mk.inj (Option.some.inj hj); exact ⟨by rw [List.length_replicate]; rfl, r3.later hb⟩
  | 3, hj => obtain ⟨rfl, rfl⟩ := Prod.mk.inj (Option.some.inj hj); exact ⟨by rw [List.length_replicate]; rfl, r4.later hb⟩
section
variable {w w' : World} {T rb : Nat} {s : ByteArray} {pos : Nat} {o : List UInt8} {M : Nat} {v : Value} {p q : Option Addr} {X : List Nat}
theorem Touches.beyond {F F' : List Nat} (h : Touches F F' w w') {a : Addr} (ha : w.heap.size ≤ a.block) (u : Value) : Touches F F' w (w'.setCell a u) :=
  ⟨h.1, h.2.1, h.2.2.1, by have := h.size; simp [World.setCell]; exact this, fun k hk hF => (heap_setCell_other _ a k _ (by omega)).trans (h.2.2.2.2.1 k hk hF), h.2.2.2.2.2⟩
theorem TlIs.aside (h : TlIs w T rb s pos o M v p q X) {a : Addr} (ha : a.block ∉ tlF T rb v) (hX : a.block ∉ X) (u : Value) : TlIs (w.setCell a u) T rb s pos o M v p q X := by
  have hk : ∀ k, k ≠ a.block → (w.setCell a u).heap[k]? = w.heap[k]? := fun k e => heap_setCell_other _ a k _ e
  have hsz : w.heap.size ≤ (w.setCell a u).heap.size := by simp [World.setCell]
  exact ⟨(hk T fun e => ha (e ▸ tlF_self _ _ _)).trans h.cell, h.rd.move hsz fun k e => hk k fun e2 => ha (by rw [← e2, show k = rb by simpa using e]; exact tlF_rd _ _ _),
    h.row.move fun k e => hk k fun e2 => ha (by rw [← e2]; exact tlF_own e), h.fix.move hsz fun k e => hk k fun e2 => hX (by rw [← e2]; exact e), h.d1, h.d2, h.dX, h.hpos, h.hM⟩
theorem TreeAt.aside {b : Nat} {ls : List Int} {Y : List Nat} (h : TreeAt w b ls Y) {a : Addr} (ha : a.block ∉ Y) (u : Value) : TreeAt (w.setCell a u) b ls Y :=
  h.move (by simp [World.setCell]) fun k hk => heap_setCell_other _ a k _ fun e => ha (e ▸ hk)
theorem TlIs.fixed (h : TlIs w T rb s pos o M v p q X) {b c : Nat} {X1 X2 : List Nat} (h1 : TreeAt w b (intsOf fixedLit) X1) (h2 : TreeAt w c (intsOf fixedDist) X2) (g1 : ∀ k ∈ X1, k ∉ tlF T rb v) (g2 : ∀ k ∈ X2, k ∉ tlF T rb v) :
    TlIs ((w.setCell ⟨T, 3, none⟩ (.pointer (some ⟨b, 0, none⟩))).setCell ⟨T, 4, none⟩ (.pointer (some ⟨c, 0, none⟩))) T rb s pos o M v (some ⟨b, 0, none⟩) (some ⟨c, 0, none⟩) (X1 ++ X2) ∧
      Touches (tlF T rb v) (tlF T rb v) w ((w.setCell ⟨T, 3, none⟩ (.pointer (some ⟨b, 0, none⟩))).setCell ⟨T, 4, none⟩ (.pointer (some ⟨c, 0, none⟩))) := by
  have hk : ∀ k, k ≠ T → ((w.setCell ⟨T, 3, none⟩ (.pointer (some ⟨b, 0, none⟩))).setCell ⟨T, 4, none⟩ (.pointer (some ⟨c, 0, none⟩))).heap[k]? = w.heap[k]? := fun k e =>
    (heap_setCell_other _ ⟨T, 4, none⟩ k _ e).trans (heap_setCell_other _ ⟨T, 3, none⟩ k _ e)
  have hsz : w.heap.size ≤ ((w.setCell ⟨T, 3, none⟩ (.pointer (some ⟨b, 0, none⟩))).setCell ⟨T, 4, none⟩ (.pointer (some ⟨c, 0, none⟩))).heap.size := by simp [World.setCell]
  have hT : ∀ {Y : List Nat}, (∀ k ∈ Y, k ∉ tlF T rb v) → ∀ k ∈ Y, k ≠ T := fun g k e e2 => g k e (e2 ▸ tlF_self _ _ _)
  refine ⟨⟨h.cell.fixed _ _, h.rd.move hsz fun k e => hk k (by rw [show k = rb by simpa using e]; exact h.d1.symm), h.row.move fun k e => hk k (h.d2 k e).1, .inr ⟨b, c, X1, X2, rfl, rfl, h1.move hsz fun k e => hk k (hT g1 k e), h2.move hsz fun k e => hk k (hT g2 k e), rfl⟩, h.d1, h.d2, fun k e => ?_, h.hpos, h.hM⟩,
    ((Touches.refl _ _).setCell (a := ⟨T, 3, none⟩) (tlF_self _ _ _) _).setCell (a := ⟨T, 4, none⟩) (tlF_self _ _ _) _⟩
  have hn : k ∉ tlF T rb v := by
    rcases List.mem_append.1 e with e | e
    · exact g1 k e
    · exact g2 k e
  exact ⟨fun e => hn (e ▸ tlF_self _ _ _), fun e => hn (e ▸ tlF_rd _ _ _), fun e => hn (tlF_own e)⟩
end

set_option maxHeartbeats 4000000 in
theorem fixedTrees_is (T rb : Nat) (s : ByteArray) (pos : Nat) (o : List UInt8) (M : Nat) (v : Value) (p q : Option Addr) (X : List Nat) (w : World) (h : TlIs w T rb s pos o M v p q X) :
    Calls Tryd.prog 47 #[.pointer (some ⟨T, 0, none⟩)] w fun en w' => ∃ b c p' q' X', en = .returned (.agg #[.pointer (some ⟨b, 0, none⟩), .pointer (some ⟨c, 0, none⟩)]) ∧ TlIs w' T rb s pos o M v p' q' X' ∧ TreeBy w' b fixedLit (tlF T rb v) ∧ TreeBy w' c fixedDist (tlF T rb v) ∧ Touches (tlF T rb v) (tlF T rb v) w w' := by
  have hRn : w.heap.size ∉ tlF T rb v := fun hm => Nat.lt_irrefl _ (h.lt _ hm)
  have hRX : w.heap.size ∉ X := fun hm => Nat.lt_irrefl _ (h.fix.lt _ hm)
  have hfix := h.fix
  have HRn := Lib.hid hRn
  have HRX := Lib.hid hRX
  have Hlt := Lib.hid h.lt
  have H := Lib.hid h
  have c3 : ∀ u, (w.alloc u).cell? ⟨T, 3, none⟩ = some (.pointer p) := fun u => (h.alloc u).cell.syms
  have c4 : ∀ u, (w.alloc u).cell? ⟨T, 4, none⟩ = some (.pointer q) := fun u => (h.alloc u).cell.dists
  clear h hRn hRX
  rcases hfix with ⟨rfl, rfl, rfl⟩ | ⟨b, c, X1, X2, rfl, rfl, h1, h2, rfl⟩
  · have HB0 : Hid (Below w.heap.size w (w.alloc (.cells #[.pointer none, .pointer none] 52))) := Lib.hid ((Below.refl _ w).alloc (Nat.le_refl _) _)
    have RC : Hid (PairP (w.alloc (.cells #[.pointer none, .pointer none] 52)) w.heap.size none none) := Lib.hid (heap_alloc_new w _)
    have HA1 := Lib.hid (fun W => alike_is 8 144 W (by omega) (by omega))
    have HA2 := Lib.hid (fun W => alike_is 9 112 W (by omega) (by omega))
    have HA3 := Lib.hid (fun W => alike_is 7 24 W (by omega) (by omega))
    have HA4 := Lib.hid (fun W => alike_is 8 8 W (by omega) (by omega))
    have HA5 := Lib.hid (fun W => alike_is 5 32 W (by omega) (by omega))
    go_enter Tryd.func47, Tryd.ntmps47
    go_wp2_with fail
    refine (HA1.out _).mono ?_
    rintro e w1 ⟨g1, rfl, hr, _, hb⟩
    have HB1 := Lib.hid (HB0.out.trans (hb.mono HB0.out.size))
    have R1 := Lib.hid hr
    have RC := Lib.hid (RC.out.later hb)
    clear hr hb HA1
    go_wp2_with fail
    refine (HA2.out _).mono ?_
    rintro e w2 ⟨g2, rfl, hr, _, hb⟩
    have HB2 := Lib.hid (HB1.out.trans (hb.mono HB1.out.size))
    have R1 := Lib.hid (R1.out.later hb)
    have R2 := Lib.hid hr
    have RC := Lib.hid (RC.out.later hb)
    clear hr hb HA2
    go_wp2_with fail
    refine (HA3.out _).mono ?_
    rintro e w3 ⟨g3, rfl, hr, _, hb⟩
    have HB3 := Lib.hid (HB2.out.trans (hb.mono HB2.out.size))
    have R1 := Lib.hid (R1.out.later hb)
    have R2 := Lib.hid (R2.out.later hb)
    have R3 := Lib.hid hr
    have RC := Lib.hid (RC.out.later hb)
    clear hr hb HA3
    go_wp2_with fail
    refine (HA4.out _).mono ?_
    rintro e w4 ⟨g4, rfl, hr, _, hb⟩
    have HB4 := Lib.hid (HB3.out.trans (hb.mono HB3.out.size))
    have R1 := Lib.hid (R1.out.later hb)
    have R2 := Lib.hid (R2.out.later hb)
    have R3 := Lib.hid (R3.out.later hb)
    have R4 := Lib.hid hr
    have RC := Lib.hid (RC.out.later hb)
    clear hr hb HA4
    have HRows := Lib.hid (rows4 w4 R1.out R2.out R3.out R4.out)
    have HC := Lib.hid (concat_is w4.heap.size 4 [(g1, List.replicate 144 8), (g2, List.replicate 112 9), (g3, List.replicate 24 7), (g4, List.replicate 8 8)] _ rfl (by omega) HRows.out (by rw [flat4]; decide +kernel) (by rw [flat4]; decide +kernel))
    rw [flat4] at HC
    have HB5 : Hid (Below w.heap.size w (w4.alloc (.cells #[.slice (some ⟨g1, 0, none⟩) 144 144, .slice (some ⟨g2, 0, none⟩) 112 112, .slice (some ⟨g3, 0, none⟩) 24 24, .slice (some ⟨g4, 0, none⟩) 8 8] 58))) := Lib.hid (HB4.out.alloc HB4.out.size _)
    have RC := Lib.hid (RC.out.later ((Below.refl _ w4).alloc (Nat.le_refl _) (.cells #[.slice (some ⟨g1, 0, none⟩) 144 144, .slice (some ⟨g2, 0, none⟩) 112 112, .slice (some ⟨g3, 0, none⟩) 24 24, .slice (some ⟨g4, 0, none⟩) 8 8] 58)))
    clear R1 R2 R3 R4 HRows
    go_wp2_with fail
    refine HC.out.mono ?_
    rintro e w6 ⟨v6, rfl, ho, hb⟩
    have HB6 := Lib.hid (HB5.out.trans (hb.mono HB5.out.size))
    obtain ⟨g6, cap6, rfl, hg6, hc6⟩ := ho.at
    have HN6 : Hid (Nums w6 (some ⟨g6, 0, none⟩) (intsOf fixedLit)) := Lib.hid (.inr ⟨g6, 0, rfl, fun i hi => by
      rw [Nat.zero_add, List.getElem?_eq_getElem hi]
      exact hc6 i hi⟩)
    have RC := Lib.hid (RC.out.later hb)
    have hln : (asZ fixedLit).length = 288 := by decide +kernel
    rw [hln]
    clear ho hb hg6 hc6 hln HC
    go_wp2_with fail
    refine (HA5.out _).mono ?_
    rintro e w7 ⟨g7, rfl, hr, _, hb⟩
    have HB7 := Lib.hid (HB6.out.trans (hb.mono HB6.out.size))
    have HN7 := Lib.hid (HN6.out.later hb)
    have HD7 : Hid (Nums w7 (some ⟨g7, 0, none⟩) (intsOf fixedDist)) := Lib.hid hr.nums
    have RC := Lib.hid (RC.out.later hb)
    clear hr hb HA5
    have HTo := Lib.hid (treesOf_is (some ⟨g6, 0, none⟩) (some ⟨g7, 0, none⟩) 288 32 cap6 32 fixedLit fixedDist w7 (by decide +kernel) (by decide +kernel) HN7.out HD7.out fixed_good.1 fixed_good.2)
    go_wp2_with fail
    refine HTo.out.mono ?_
    rintro e w8 ⟨b, c, X1, X2, rfl, t1, t2, x1, x2, hb⟩
    have HB8 := Lib.hid (HB7.out.trans (hb.mono HB7.out.size))
    have hsz1 := RC.out.lt
    have RC := Lib.hid (RC.out.later hb)
    have X1n : Hid (∀ k ∈ X1, k ∉ tlF T rb v ∧ k ≠ w.heap.size) := Lib.hid fun k hk => by
      have h1 := x1 k hk
      exact ⟨fun hm => by have := Hlt.out k hm; omega, by omega⟩
    have X2n : Hid (∀ k ∈ X2, k ∉ tlF T rb v ∧ k ≠ w.heap.size) := Lib.hid fun k hk => by
      have h1 := x2 k hk
      exact ⟨fun hm => by have := Hlt.out k hm; omega, by omega⟩
    have H8 := Lib.hid (H.out.later HB8.out)
    have H9 := Lib.hid (H8.out.fixed t1 t2 (fun k hk => (X1n.out k hk).1) fun k hk => (X2n.out k hk).1)
    have hTne : w.heap.size ≠ T := fun e => HRn.out (e ▸ tlF_self _ _ _)
    have T1 := Lib.hid ((t1.aside (a := ⟨T, 3, none⟩) (fun hm => (X1n.out _ hm).1 (tlF_self _ _ _)) (.pointer (some ⟨b, 0, none⟩))).aside (a := ⟨T, 4, none⟩) (fun hm => (X1n.out _ hm).1 (tlF_self _ _ _)) (.pointer (some ⟨c, 0, none⟩)))
    have T2 := Lib.hid ((t2.aside (a := ⟨T, 3, none⟩) (fun hm => (X2n.out _ hm).1 (tlF_self _ _ _)) (.pointer (some ⟨b, 0, none⟩))).aside (a := ⟨T, 4, none⟩) (fun hm => (X2n.out _ hm).1 (tlF_self _ _ _)) (.pointer (some ⟨c, 0, none⟩)))
    have f3 := H8.out.cell.free 3
    have f4 := H8.out.cell.free 4
    have s3 := H8.out.cell.syms
    have s4 := H8.out.cell.dists
    have s93 := H9.out.1.cell.syms
    have s94 := H9.out.1.cell.dists
    have RC9 := Lib.hid ((RC.out.other (a := ⟨T, 3, none⟩) (.pointer (some ⟨b, 0, none⟩)) hTne).other (a := ⟨T, 4, none⟩) (.pointer (some ⟨c, 0, none⟩)) hTne)
    have r0 := RC9.out.first
    have r1 := RC9.out.second
    have g0 := RC9.out.free 0
    have g1' := RC9.out.free 1
    have RC10 := Lib.hid (RC9.out.put0 (some ⟨b, 0, none⟩))
    have r11 := RC10.out.second
    have g11 := RC10.out.free 1
    have RC11 := Lib.hid (RC10.out.put1 (some ⟨c, 0, none⟩))
    have k0 := RC11.out.first
    have k1 := RC11.out.second
    have HIe := Lib.hid ((H9.out.1.aside (a := ⟨w.heap.size, 0, none⟩) HRn.out (fun hm => by
      rcases List.mem_append.1 hm with hm | hm
      · exact (X1n.out _ hm).2 rfl
      · exact (X2n.out _ hm).2 rfl) (.pointer (some ⟨b, 0, none⟩))).aside (a := ⟨w.heap.size, 1, none⟩) HRn.out (fun hm => by
      rcases List.mem_append.1 hm with hm | hm
      · exact (X1n.out _ hm).2 rfl
      · exact (X2n.out _ hm).2 rfl) (.pointer (some ⟨c, 0, none⟩)))
    have HTe := Lib.hid ((((Touches.of_below (F := tlF T rb v) HB8.out).trans H9.out.2).beyond (a := ⟨w.heap.size, 0, none⟩) (Nat.le_refl _) (.pointer (some ⟨b, 0, none⟩))).beyond (a := ⟨w.heap.size, 1, none⟩) (Nat.le_refl _) (.pointer (some ⟨c, 0, none⟩)))
    have T1e := Lib.hid ((T1.out.aside (a := ⟨w.heap.size, 0, none⟩) (fun hm => (X1n.out _ hm).2 rfl) (.pointer (some ⟨b, 0, none⟩))).aside (a := ⟨w.heap.size, 1, none⟩) (fun hm => (X1n.out _ hm).2 rfl) (.pointer (some ⟨c, 0, none⟩)))
    have T2e := Lib.hid ((T2.out.aside (a := ⟨w.heap.size, 0, none⟩) (fun hm => (X2n.out _ hm).2 rfl) (.pointer (some ⟨b, 0, none⟩))).aside (a := ⟨w.heap.size, 1, none⟩) (fun hm => (X2n.out _ hm).2 rfl) (.pointer (some ⟨c, 0, none⟩)))
    clear t1 t2 x1 x2 hb hsz1 c3 c4
    go_wp2_with fail
    refine bodyPost_ret (v := .agg #[.pointer (some ⟨b, 0, none⟩), .pointer (some ⟨c, 0, none⟩)]) (by simp [results, Tryd.results47, go_sem, k0, k1]) rfl ?_
    exact ⟨b, c, _, _, _, rfl, HIe.out, ⟨X1, T1e.out, fun k hk => (X1n.out k hk).1⟩, ⟨X2, T2e.out, fun k hk => (X2n.out k hk).1⟩, HTe.out⟩
  · have HIe := Lib.hid (H.out.alloc (.cells #[.pointer (some ⟨b, 0, none⟩), .pointer (some ⟨c, 0, none⟩)] 52))
    have HTe : Hid (Touches (tlF T rb v) (tlF T rb v) w (w.alloc (.cells #[.pointer (some ⟨b, 0, none⟩), .pointer (some ⟨c, 0, none⟩)] 52))) := Lib.hid (Touches.of_below ((below_same w).alloc (Nat.le_refl _) _))
    have HR : PairP (w.alloc (.cells #[.pointer (some ⟨b, 0, none⟩), .pointer (some ⟨c, 0, none⟩)] 52)) w.heap.size (some ⟨b, 0, none⟩) (some ⟨c, 0, none⟩) := heap_alloc_new w _
    have k0 := HR.first
    have k1 := HR.second
    have HB1 : Hid (TreeBy w b fixedLit (tlF T rb v)) := Lib.hid ⟨X1, h1, fun k hk => tlF_not (H.out.dX k (List.mem_append_left _ hk)).1 (H.out.dX k (List.mem_append_left _ hk)).2.1 (H.out.dX k (List.mem_append_left _ hk)).2.2⟩
    have HB2 : Hid (TreeBy w c fixedDist (tlF T rb v)) := Lib.hid ⟨X2, h2, fun k hk => tlF_not (H.out.dX k (List.mem_append_right _ hk)).1 (H.out.dX k (List.mem_append_right _ hk)).2.1 (H.out.dX k (List.mem_append_right _ hk)).2.2⟩
    clear h1 h2
    go_enter Tryd.func47, Tryd.ntmps47
    go_wp2_with fail
    refine bodyPost_ret (v := .agg #[.pointer (some ⟨b, 0, none⟩), .pointer (some ⟨c, 0, none⟩)]) (by simp [results, Tryd.results47, go_sem, k0, k1]) rfl ?_
    exact ⟨b, c, _, _, _, rfl, HIe.out, HB1.out.touch HTe.out, HB2.out.touch HTe.out, HTe.out⟩

end
end Go.Proofs.YtboiljclenikbaaDoor
