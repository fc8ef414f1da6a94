/-
  InfSigns, InfPut, InfLen, InfLens: texts merged.
-/
import Derived.Test.YtiiiokikmjgliaaGreatDoorKMake
import Derived.Test.YtiiiokikmjgliaaGreatDoorKPlain
import Derived.Test.YtiiiokikmjgliaaGreatDoorInfTell2
import Derived.Test.YtiiiokikmjgliaaGreatDoorKCodeR
/-
  The contract of package inflate's signs: the codes of the signs among lengths.
-/
namespace Go.Proofs.YtiiiokikmjgliaaGreatDoor
section
open Go.RowKit
set_option maxRecDepth 100000
theorem intsOf_ints {ns : List Nat} (h : ∀ n ∈ ns, n ≤ 100000) : Ints (intsOf ns) := ints_of fun z hz => by
  unfold intsOf at hz
  obtain ⟨n, hn, rfl⟩ := List.mem_map.1 hz
  have := h n hn
  omega
theorem checkZ_good {ls : List Int} (h : checkZ ls = 0) : refusedZ ls = 0 := by
  unfold refusedZ
  rw [h]; rfl
theorem check_is (p : Option Addr) (n cap : Nat) (ns : List Nat) (w : World) (hn : n = ns.length) (hl : ns.length ≤ 1000) (h9 : ∀ n ∈ ns, n ≤ 100000) (hp : Nums w p (intsOf ns)) {e : Int} (he : checkZ (intsOf ns) = e) :
    Calls Tryz.prog 185 #[.slice p n cap] w fun en w' => en = .returned (.int .i64 e) ∧ Below w.heap.size w w' := by
  have := cCheck_is p cap (intsOf ns) w (by rw [intsOf_length]; exact hl) (intsOf_ints h9) hp he
  rw [intsOf_length, ← hn] at this
  exact this
theorem new_is (p : Option Addr) (n cap : Nat) (ns : List Nat) (w : World) (hn : n = ns.length) (hp : Nums w p (intsOf ns)) (he : refusedZ (intsOf ns) = 0) :
    Calls Tryz.prog 147 #[.slice p n cap] w fun en w' => ∃ b F, en = .returned (.tuple #[.pointer (some ⟨b, 0, none⟩), .int .i64 0]) ∧ TreeAt w' b (intsOf ns) F ∧ (∀ k ∈ F, w.heap.size ≤ k) ∧ Below w.heap.size w w' :=
  tNew_good p cap n (intsOf ns) w (by rw [intsOf_length]; exact hn) hp he
def EndsT (w : World) (T rb : Nat) (s : ByteArray) (o : List UInt8) (M : Nat) (v : Value) (p q : Option Addr) (X : List Nat) (r : Except Int (List Nat × Nat)) (en : Ending) (w' : World) : Prop := match r with
  | .ok (ls, z) => ∃ t, en = .returned (.tuple #[.pointer (some ⟨t, 0, none⟩), .int .i64 0]) ∧ TreeBy w' t ls (tlF T rb v) ∧ refusedZ (intsOf ls) = 0 ∧ ls.length = 19 ∧ TlIs w' T rb s z o M v p q X ∧ Touches (tlF T rb v) (tlF T rb v) w w'
  | .error e => en = .returned (.tuple #[.pointer none, .int .i64 e]) ∧ Touches (tlF T rb v) (tlF T rb v) w w'
theorem EndsT.err {w w' : World} {T rb : Nat} {s : ByteArray} {o : List UInt8} {M : Nat} {v : Value} {p q : Option Addr} {X : List Nat} {r : Except Int (List Nat × Nat)} {e : Int} (hr : r = .error e) (ht : Touches (tlF T rb v) (tlF T rb v) w w') : EndsT w T rb s o M v p q X r (.returned (.tuple #[.pointer none, .int .i64 e])) w' := by
  subst hr; exact ⟨rfl, ht⟩
structure Sgn (w0 w : World) (T rb : Nat) (s : ByteArray) (pos : Nat) (o : List UInt8) (M g : Nat) (ls : List Nat) (v : Value) (p q : Option Addr) (X : List Nat) : Prop where
  is : TlIs w T rb s pos o M v p q X
  ht : Touches (tlF T rb v) (tlF T rb v) w0 w
  tab : LaidBy w (tlF T rb v)
  row : RowAt w g ls
  far : g ∉ tlF T rb v ∧ g ∉ X ∧ w0.heap.size ≤ g
  len : ls.length = 19
  small : ∀ n ∈ ls, n ≤ 100000
section
variable {w0 w w' : World} {T rb : Nat} {s : ByteArray} {pos pos' : Nat} {o : List UInt8} {M g : Nat} {ls : List Nat} {v : Value} {p q : Option Addr} {X : List Nat}
theorem Sgn.step (h : Sgn w0 w T rb s pos o M g ls v p q X) (hi : TlIs w' T rb s pos' o M v p q X) (ht : Touches (tlF T rb v) (tlF T rb v) w w') : Sgn w0 w' T rb s pos' o M g ls v p q X :=
  ⟨hi, h.ht.trans ht, h.tab.touch ht, (ht.out h.row.lt h.far.1).1.trans h.row, h.far, h.len, h.small⟩
theorem LaidBy.aside {F : List Nat} (h : LaidBy w F) {a : Addr} (ha : a.block ∉ [4, 5, 7, 6]) (u : Value) : LaidBy (w.setCell a u) F := by
  obtain ⟨hl, hf⟩ := h
  have e : ∀ g, g ≠ a.block → ∀ j, (w.setCell a u).cell? ⟨g, j, none⟩ = w.cell? ⟨g, j, none⟩ := fun g hg j => World.cell?_of_block (w := w) (heap_setCell_other _ a g _ hg)
  simp only [List.mem_cons, List.not_mem_nil, or_false, not_or] at ha
  exact ⟨⟨fun i x hx => ⟨(e _ (fun h => ha.1 h.symm) _).trans (hl.lens i x hx).1, (e _ (fun h => ha.1 h.symm) _).trans (hl.lens i x hx).2⟩, fun i x hx => ⟨(e _ (fun h => ha.2.1 h.symm) _).trans (hl.dist i x hx).1, (e _ (fun h => ha.2.1 h.symm) _).trans (hl.dist i x hx).2⟩,
    fun i x hx => ⟨(e _ (fun h => ha.2.2.1 h.symm) _).trans (hl.times i x hx).1, (e _ (fun h => ha.2.2.1 h.symm) _).trans (hl.times i x hx).2⟩, fun i hi => (e _ (fun h => ha.2.2.2 h.symm) _).trans (hl.order i hi)⟩, hf⟩
theorem LaidBy.apart {F : List Nat} (h : LaidBy w0 F) {k : Nat} (hk : w0.heap.size ≤ k) : k ∉ [4, 5, 7, 6] := by
  have b1 : 4 < w0.heap.size := cell_block (h.1.lens 0 _ rfl).1
  have b2 : 5 < w0.heap.size := cell_block (h.1.dist 0 _ rfl).1
  have b3 : 7 < w0.heap.size := cell_block (h.1.times 0 _ rfl).1
  have b4 : 6 < w0.heap.size := cell_block (h.1.order 0 (by decide))
  intro hm
  simp only [List.mem_cons, List.not_mem_nil, or_false] at hm
  omega
theorem Sgn.put (h : Sgn w0 w T rb s pos o M g ls v p q X) (h0 : LaidBy w0 (tlF T rb v)) (j x : Nat) (hx : x ≤ 100000) : Sgn w0 (w.setCell ⟨g, j, none⟩ (.int .i64 (x : Int))) T rb s pos o M g (ls.set j x) v p q X :=
  ⟨h.is.aside (a := ⟨g, j, none⟩) h.far.1 h.far.2.1 _, h.ht.beyond (a := ⟨g, j, none⟩) h.far.2.2 _, h.tab.aside (a := ⟨g, j, none⟩) (h0.apart h.far.2.2) _, h.row.put j x, h.far, by rw [List.length_set]; exact h.len, fun n hn => by
    rcases List.mem_or_eq_of_mem_set hn with hn | rfl
    · exact h.small n hn
    · exact hx⟩
end
set_option maxHeartbeats 4000000 in
theorem signs_is (T rb : Nat) (s : ByteArray) (pos : Nat) (o : List UInt8) (M : Nat) (v : Value) (p q : Option Addr) (X : List Nat) (w : World) (many : Nat) (h : TlIs w T rb s pos o M v p q X) (hs : s.size ≤ 10000) (hm : many ≤ 19) (hL : LaidBy w (tlF T rb v))
    {r : Except Int (List Nat × Nat)} (he : pbind (headsP many 0 (List.replicate 19 0)) (fun ls => pbind (pfail (checkZ (intsOf ls) != 0) 4) fun _ => pret ls) s.data.toList pos = r) :
    Calls Tryz.prog 171 #[.pointer (some ⟨T, 0, none⟩), .int .i64 (many : Int)] w (EndsT w T rb s o M v p q X r) := by
  obtain ⟨rh, hrh⟩ : ∃ rh, headsP many 0 (List.replicate 19 0) s.data.toList pos = rh := ⟨_, rfl⟩
  have Hrh := Lib.hid hrh
  have HPost := Lib.hid he
  have HL0 := Lib.hid hL
  have hlt : w.heap.size ∉ tlF T rb v := fun hm => Nat.lt_irrefl _ (h.lt _ hm)
  have hltX : w.heap.size ∉ X := fun hm => Nat.lt_irrefl _ (h.fix.lt _ hm)
  have hmake : (Instr.makeSlice 100 (.int .i64 19) (.int .i64 19)).run Tryz.prog w = .ok (.slice (some ⟨w.heap.size, 0, none⟩) 19 19) (w.alloc (.cells (cellsZ (asZ (List.replicate 19 0))).toArray 3)) := make_row 19 w (by omega)
  obtain ⟨W0, hW0⟩ : ∃ W0, w.alloc (.cells (cellsZ (asZ (List.replicate 19 0))).toArray 3) = W0 := ⟨_, rfl⟩
  have HT0 : Touches (tlF T rb v) (tlF T rb v) w (w.alloc (.cells (cellsZ (asZ (List.replicate 19 0))).toArray 3)) := Touches.of_below ((below_same w).alloc (Nat.le_refl _) _)
  have HS : Hid (Sgn w (w.alloc (.cells (cellsZ (asZ (List.replicate 19 0))).toArray 3)) T rb s pos o M w.heap.size (List.replicate 19 0) v p q X) := Lib.hid ⟨h.alloc _, HT0, hL.touch HT0, heap_alloc_new w _, ⟨hlt, hltX, Nat.le_refl _⟩, List.length_replicate, fun n hn => by rw [(List.mem_replicate.1 hn).2]; omega⟩
  rw [hW0] at hmake HS
  clear he hrh h hL hlt hltX HT0 hW0
  go_enter Tryz.func171, Tryz.ntmps171
  go_wp2_with fail
  go_loopg [12] many (fun g s12 wx => ∃ (j pos1 : Nat) (ls : List Nat), j + g = many ∧ s12 = .int .i64 (j : Int) ∧ Aside (Sgn w wx T rb s pos1 o M w.heap.size ls v p q X ∧ headsP g j ls s.data.toList pos1 = rh))
  case atStart => exact ⟨0, pos, _, by omega, rfl, HS.out, Hrh.out⟩
  case round =>
    obtain ⟨j, pos1, ls, hjg, rfl, HI⟩ := hrel
    have r0 := HI.out.1.is.cell.reader
    have Hls := Lib.hid HI.out
    cases gk with
    | succ g =>
      have hjn : (j : Int) < (many : Int) := by omega
      have hj19 : (j : Int) < 19 := by omega
      cases hb : bitsP 3 s.data.toList pos1 with
      | error e =>
        have HE := Lib.hid (tlGet_err T rb s pos1 o M v p q X wr 3 Hls.out.1.is hs (by omega) hb)
        have Hend : Hid (r = .error 5) := Lib.hid (by
          have h1 := Hls.out.2
          rw [headsP, pbind_err hb] at h1
          rw [← HPost.out, pbind_err (Hrh.out.trans h1.symm), (bitsP_err (by omega) hb).1])
        clear hb
        go_wp2_with fail
        refine HE.out.mono ?_
        rintro en w2 ⟨rfl, ht⟩
        have HT2 := Lib.hid (Hls.out.1.ht.trans ht)
        clear ht
        go_wp2_with fail
        go_ret2
        exact EndsT.err Hend.out HT2.out
      | ok x =>
        obtain ⟨n, p1⟩ := x
        have HE := Lib.hid (tlGet_ok T rb s pos1 o M v p q X wr 3 Hls.out.1.is hs (by omega) hb)
        have hn := bitsP_small (by omega) hb
        have hnx := Hls.out.2
        rw [headsP, pbind_of hb] at hnx
        have Hnx := Lib.hid hnx
        obtain ⟨k, hk⟩ : ∃ k, orderL[j]?.getD 0 = k := ⟨_, rfl⟩
        have hk19 : k < 19 := by rw [← hk]; exact (orderT_at j (by omega)).2
        have hkz : (k : Int) < 19 := by omega
        rw [hk] at Hnx
        have Hk := Lib.hid hk
        clear hb hnx hk
        go_wp2_with fail
        refine HE.out.mono ?_
        rintro en w2 ⟨rfl, hi, ht⟩
        have HS2 := Lib.hid (Hls.out.1.step hi ht)
        have c1 := HS2.out.tab.1.sign (k := j) (by omega)
        rw [Hk.out] at c1
        obtain ⟨y, hy⟩ : ∃ y, ls[k]? = some y := ⟨_, List.getElem?_eq_getElem (by rw [HS2.out.len]; omega)⟩
        have c2 := HS2.out.row.cell hy
        have f2 := HS2.out.row.free k
        have HS3 := Lib.hid (HS2.out.put HL0.out k n (by omega))
        clear hi ht hy
        go_wp2_with fail
        go_roundg g
        case measure => omega
        case rel => exact ⟨j + 1, p1, ls.set k n, by omega, by go_num, HS3.out, Hnx.out⟩
    | zero =>
      obtain rfl : j = many := by omega
      have hjj : ¬ (j : Int) < (j : Int) := by omega
      have Hrh2 : Hid (headsP j 0 (List.replicate 19 0) s.data.toList pos = .ok (ls, pos1)) := Lib.hid (Hrh.out.trans Hls.out.2.symm)
      have Hnum : Hid (Nums wr (some ⟨w.heap.size, 0, none⟩) (intsOf ls)) := Lib.hid Hls.out.1.row.nums
      obtain ⟨e, he⟩ : ∃ e, checkZ (intsOf ls) = e := ⟨_, rfl⟩
      have HC := Lib.hid (check_is (some ⟨w.heap.size, 0, none⟩) 19 19 ls wr Hls.out.1.len.symm (by rw [Hls.out.1.len]; omega) Hls.out.1.small Hnum.out he)
      by_cases h0 : e = 0
      · subst h0
        have hz : ((0 : Int) != 0) = false := rfl
        have Hend : Hid (r = .ok (ls, pos1)) := Lib.hid (by rw [← HPost.out, pbind_of Hrh2.out, he, hz, pbind_of pfail_false]; rfl)
        have Hg := Lib.hid (checkZ_good he)
        clear he hz
        go_wp2_with fail
        refine HC.out.mono ?_
        rintro en w2 ⟨rfl, hb⟩
        have HS2 := Lib.hid (Hls.out.1.step (Hls.out.1.is.later hb) (Touches.of_below hb))
        have HN := Lib.hid (new_is (some ⟨w.heap.size, 0, none⟩) 19 19 ls w2 Hls.out.1.len.symm (Hnum.out.later hb) Hg.out)
        clear hb
        go_wp2_with fail
        refine HN.out.mono ?_
        rintro en w3 ⟨t, TF, rfl, ht, hX, hb⟩
        have HS3 := Lib.hid (HS2.out.step (HS2.out.is.later hb) (Touches.of_below hb))
        have HTB : Hid (TreeBy w3 t ls (tlF T rb v)) := Lib.hid ⟨TF, ht, fun k hk hm => by have h1 := hX k hk; have h2 := HS2.out.is.lt k hm; omega⟩
        clear ht hX hb
        go_wp2_with fail
        go_ret2
        have hr := Hend.out
        subst hr
        exact ⟨t, rfl, HTB.out, Hg.out, HS3.out.len, HS3.out.is, HS3.out.ht⟩
      · have hez : (e != 0) = true := by simpa using h0
        have Hend : Hid (r = .error 4) := Lib.hid (by rw [← HPost.out, pbind_of Hrh2.out, he, hez, pbind_err pfail_true])
        clear he h0
        go_wp2_with fail
        refine HC.out.mono ?_
        rintro en w2 ⟨rfl, hb⟩
        have HT2 := Lib.hid (Hls.out.1.ht.trans (Touches.of_below hb))
        clear hb
        go_wp2_with fail
        go_ret2
        exact EndsT.err Hend.out HT2.out
end
end Go.Proofs.YtiiiokikmjgliaaGreatDoor
/-
  The contracts of package inflate's putter, and of the function that it makes.
-/
namespace Go.Proofs.YtiiiokikmjgliaaGreatDoor
section
open Go.RowKit
set_option maxRecDepth 100000
def PutAt (w : World) (b g n j : Nat) (ls : List Nat) : Prop :=
  w.heap[b]? = some (.cells #[.slice (some ⟨g, 0, none⟩) n n] 100 (0, 0)) ∧ w.heap[b + 1]? = some (.cells #[.int .i64 (j : Int)] 3 (0, 0)) ∧ RowAt w g ls ∧ ls.length = n ∧ j ≤ n ∧ g ≠ b ∧ g ≠ b + 1
section
variable {w w' : World} {b g n j : Nat} {ls : List Nat}
theorem PutAt.slice (h : PutAt w b g n j ls) : w.cell? ⟨b, 0, none⟩ = some (.slice (some ⟨g, 0, none⟩) n n) := by rw [cell_of_row _ _ _ _ _ _ h.1]; rfl
theorem PutAt.place (h : PutAt w b g n j ls) : w.cell? ⟨b + 1, 0, none⟩ = some (.int .i64 (j : Int)) := by rw [cell_of_row _ _ _ _ _ _ h.2.1]; rfl
theorem PutAt.freeP (h : PutAt w b g n j ls) : w.frozen? ⟨b + 1, 0, none⟩ = false := frozen_of_row _ _ _ _ _ h.2.1
theorem PutAt.lt (h : PutAt w b g n j ls) : b + 1 < w.heap.size ∧ g < w.heap.size := by
  refine ⟨?_, h.2.2.1.lt⟩
  rcases Nat.lt_or_ge (b + 1) w.heap.size with h' | h'
  · exact h'
  · have h2 := h.2.1
    rw [Array.getElem?_eq_none h'] at h2; cases h2
theorem PutAt.move (h : PutAt w b g n j ls) (hk : ∀ k, k = b ∨ k = b + 1 ∨ k = g → w'.heap[k]? = w.heap[k]?) : PutAt w' b g n j ls :=
  ⟨(hk b (.inl rfl)).trans h.1, (hk (b + 1) (.inr (.inl rfl))).trans h.2.1, (hk g (.inr (.inr rfl))).trans h.2.2.1, h.2.2.2⟩
theorem PutAt.touch {F F' : List Nat} (h : PutAt w b g n j ls) (ht : Touches F F' w w') (h1 : b ∉ F ∧ b + 1 ∉ F ∧ g ∉ F) : PutAt w' b g n j ls ∧ b ∉ F' ∧ b + 1 ∉ F' ∧ g ∉ F' := by
  have hl := h.lt
  have e1 := ht.out (g := b) (by omega) h1.1
  have e2 := ht.out (g := b + 1) (by omega) h1.2.1
  have e3 := ht.out (g := g) (by omega) h1.2.2
  refine ⟨h.move fun k hk => ?_, e1.2, e2.2, e3.2⟩
  rcases hk with rfl | rfl | rfl
  · exact e1.1
  · exact e2.1
  · exact e3.1
theorem PutAt.next (h : PutAt w b g n j ls) (hj : j < n) (x : Nat) : PutAt ((w.setCell ⟨g, j, none⟩ (.int .i64 (x : Int))).setCell ⟨b + 1, 0, none⟩ (.int .i64 ((j + 1 : Nat) : Int))) b g n (j + 1) (ls.set j x) := by
  obtain ⟨h1, h2, h3, h4, h5, h6, h7⟩ := h
  have e2 : (w.setCell ⟨g, j, none⟩ (.int .i64 (x : Int))).heap[b + 1]? = some (.cells #[.int .i64 (j : Int)] 3 (0, 0)) := (heap_setCell_other _ ⟨g, j, none⟩ (b + 1) _ (fun e => h7 e.symm)).trans h2
  refine ⟨?_, ?_, (h3.put j x).other _ h7, by rw [List.length_set]; exact h4, by omega, h6, h7⟩
  · rw [heap_setCell_other _ ⟨b + 1, 0, none⟩ b _ (by simp), heap_setCell_other _ ⟨g, j, none⟩ b _ (fun e => h6 e.symm)]
    exact h1
  · exact heap_setCell_same _ _ 0 _ _ (.int .i64 ((j + 1 : Nat) : Int)) e2
end
theorem putter_is (g n : Nat) (w : World) :
    Calls Tryz.prog 186 #[.slice (some ⟨g, 0, none⟩) n n] w fun e w' =>
      e = .returned (.func (.func 190) #[] #[.pointer (some ⟨w.heap.size + 1, 0, none⟩), .pointer (some ⟨w.heap.size, 0, none⟩)]) ∧
      (w.alloc (.cells #[.slice (some ⟨g, 0, none⟩) n n] 100)).alloc (.cells #[.int .i64 0] 3) = w' := by
  go_enter Tryz.func186, Tryz.ntmps186
  go_wp2_with fail
  go_ret
  exact ⟨rfl, rfl⟩
theorem PutAt.made {w : World} {g n : Nat} {ls : List Nat} (h : RowAt w g ls) (hl : ls.length = n) : PutAt ((w.alloc (.cells #[.slice (some ⟨g, 0, none⟩) n n] 100)).alloc (.cells #[.int .i64 0] 3)) w.heap.size g n 0 ls := by
  have hlt := h.lt
  refine ⟨?_, ?_, ?_, hl, Nat.zero_le _, by omega, by omega⟩
  · rw [Below.heap_alloc _ _ _ (by simp)]; exact heap_alloc_new w _
  · have := heap_alloc_new (w.alloc (.cells #[.slice (some ⟨g, 0, none⟩) n n] 100)) (.cells #[.int .i64 0] 3)
    simpa using this
  · unfold RowAt
    rw [Below.heap_alloc _ _ _ (by simp; omega), Below.heap_alloc _ _ _ hlt]
    exact h
set_option maxHeartbeats 1000000 in
theorem put_full (b g n x : Nat) (ls : List Nat) (w : World) (h : PutAt w b g n n ls) :
    Calls Tryz.prog 190 #[.int .i64 (x : Int), .pointer (some ⟨b + 1, 0, none⟩), .pointer (some ⟨b, 0, none⟩)] w fun e w' => e = .returned (.int .i64 (-1)) ∧ w = w' := by
  have c1 := h.place
  have c2 := h.slice
  clear h
  go_enter Tryz.func190, Tryz.ntmps190
  go_wp2_with fail
  go_ret
  exact ⟨rfl, rfl⟩
set_option maxHeartbeats 1000000 in
theorem put_room (b g n j x : Nat) (ls : List Nat) (w : World) (h : PutAt w b g n j ls) (hj : j < n) (hn : n ≤ 1000) :
    Calls Tryz.prog 190 #[.int .i64 (x : Int), .pointer (some ⟨b + 1, 0, none⟩), .pointer (some ⟨b, 0, none⟩)] w fun e w' => e = .returned (.int .i64 ((n - (j + 1) : Nat) : Int)) ∧ (w.setCell ⟨g, j, none⟩ (.int .i64 (x : Int))).setCell ⟨b + 1, 0, none⟩ (.int .i64 ((j + 1 : Nat) : Int)) = w' := by
  have c1 := h.place
  have c2 := h.slice
  have f2 := h.freeP
  have f3 := h.2.2.1.free j
  have hjl : j < ls.length := by rw [h.2.2.2.1]; exact hj
  obtain ⟨y, hy⟩ : ∃ y, ls[j]? = some y := ⟨_, List.getElem?_eq_getElem hjl⟩
  have c3 := h.2.2.1.cell hy
  have hne : ((j : Int) == (n : Int)) = false := by rw [beq_eq_false_iff_ne]; omega
  have hjz : (j : Int) < (n : Int) := by omega
  have d1 : (w.setCell ⟨g, j, none⟩ (.int .i64 (x : Int))).cell? ⟨b + 1, 0, none⟩ = some (.int .i64 (j : Int)) := (World.cell?_of_block (w := w) (heap_setCell_other _ ⟨g, j, none⟩ (b + 1) _ (fun e => h.2.2.2.2.2.2 e.symm))).trans c1
  have d2 : (w.setCell ⟨g, j, none⟩ (.int .i64 (x : Int))).frozen? ⟨b + 1, 0, none⟩ = false := by
    have : (w.setCell ⟨g, j, none⟩ (.int .i64 (x : Int))).heap[b + 1]? = _ := (heap_setCell_other _ ⟨g, j, none⟩ (b + 1) _ (fun e => h.2.2.2.2.2.2 e.symm)).trans h.2.1
    exact frozen_of_row _ _ _ _ _ this
  have HN := Lib.hid (h.next hj x)
  have e1 := HN.out.slice
  have e2 := HN.out.place
  have Hz : Hid ((n : Int) - ((j : Int) + 1) = ((n - (j + 1) : Nat) : Int)) := Lib.hid (by omega)
  have hcast : ((j + 1 : Nat) : Int) = (j : Int) + 1 := by omega
  rw [hcast] at e1 e2
  rw [hcast]
  clear h hjl hy
  go_enter Tryz.func190, Tryz.ntmps190
  go_wp2_with fail
  go_ret
  exact ⟨ret_int Hz.out, rfl⟩
end
end Go.Proofs.YtiiiokikmjgliaaGreatDoor
/-
  The contract of package inflate's length: a length, and how many times it comes.
-/
namespace Go.Proofs.YtiiiokikmjgliaaGreatDoor
section
open Go.RowKit
set_option maxRecDepth 100000
theorem findC_lt : ∀ (ls : List Int) (cs : List Nat) (w x i : Nat), 0 ≤ findC ls cs w x i → findC ls cs w x i < (i : Int) + ls.length
  | [], _, _, _, _, h => by unfold findC at h; omega
  | _ :: _, [], _, _, _, h => by unfold findC at h; omega
  | l :: ls, c :: cs, w, x, i, h => by
    unfold findC at h ⊢
    split
    · rw [List.length_cons]; omega
    · rename_i hn
      rw [if_neg hn] at h
      have := findC_lt ls cs w x (i + 1) h
      rw [List.length_cons]; omega
theorem readC_lt (ls : List Int) (cs : List Nat) : ∀ (k n code : Nat) (r : List Nat) (sy : Int) (m : Nat), readC ls cs k n code r = (sy, m, 0) → sy < ls.length
  | 0, n, code, r, sy, m, h => by
    have : readC ls cs 0 n code r = (0, 0, 4) := by cases r <;> rfl
    rw [this] at h; cases h
  | k + 1, n, code, [], sy, m, h => by cases h
  | k + 1, n, code, b :: r, sy, m, h => by
    rw [readC] at h
    by_cases hf : 0 ≤ findC ls cs (n + 1) (2 * code + b) 0
    · rw [if_pos hf] at h
      obtain ⟨rfl, _⟩ := Prod.mk.inj h
      have := findC_lt _ _ _ _ _ hf
      omega
    · rw [if_neg hf] at h
      obtain ⟨rfl, h2⟩ := Prod.mk.inj h
      obtain ⟨_, h3⟩ := Prod.mk.inj h2
      exact readC_lt ls cs k (n + 1) (2 * code + b) r _ _ (by rw [← h3])
theorem symP_lt {ns : List Nat} {l : List UInt8} {pos n z : Nat} (h : symP ns l pos = .ok (n, z)) : n < ns.length ∧ pos < z := by
  obtain ⟨sy, m, hr, rfl, rfl⟩ := symP_ok h
  have h1 := readC_lt _ _ _ _ _ _ _ _ hr
  have h2 := readC_nat _ _ _ _ _ _ _ _ hr
  have h3 := readC_pos _ _ _ _ _ _ _ _ hr
  unfold intsOf at h1
  rw [List.length_map] at h1
  omega
def aheadZ (out : List Nat) : Int := if out.length = 0 then -1 else ((out[out.length - 1]?.getD 0 : Nat) : Int)
def EndsL (w : World) (T rb : Nat) (s : ByteArray) (o : List UInt8) (M : Nat) (v : Value) (p q : Option Addr) (X : List Nat) (r : Except Int ((Nat × Nat) × Nat)) (en : Ending) (w' : World) : Prop := match r with
  | .ok ((t, x), z) => en = .returned (.tuple #[.int .i64 (x : Int), .int .i64 (t : Int), .int .i64 0]) ∧ TlIs w' T rb s z o M v p q X ∧ Touches (tlF T rb v) (tlF T rb v) w w'
  | .error e => en = .returned (.tuple #[.int .i64 0, .int .i64 0, .int .i64 e]) ∧ Touches (tlF T rb v) (tlF T rb v) w w'
section
variable {w w' : World} {T rb : Nat} {s : ByteArray} {o : List UInt8} {M : Nat} {v : Value} {p q : Option Addr} {X : List Nat} {r : Except Int ((Nat × Nat) × Nat)}
theorem EndsL.err {e : Int} (hr : r = .error e) (ht : Touches (tlF T rb v) (tlF T rb v) w w') : EndsL w T rb s o M v p q X r (.returned (.tuple #[.int .i64 0, .int .i64 0, .int .i64 e])) w' := by
  subst hr; exact ⟨rfl, ht⟩
theorem EndsL.ok {t x z : Nat} {en : Ending} (hr : r = .ok ((t, x), z)) (he : en = .returned (.tuple #[.int .i64 (x : Int), .int .i64 (t : Int), .int .i64 0])) (h : TlIs w' T rb s z o M v p q X) (ht : Touches (tlF T rb v) (tlF T rb v) w w') : EndsL w T rb s o M v p q X r en w' := by
  subst hr he; exact ⟨rfl, h, ht⟩
end
set_option maxHeartbeats 4000000 in
theorem length_is (T rb : Nat) (s : ByteArray) (pos : Nat) (o : List UInt8) (M : Nat) (v : Value) (p q : Option Addr) (X : List Nat) (w : World) (t : Nat) (ns out : List Nat) (a : Int) (h : TlIs w T rb s pos o M v p q X) (hs : s.size ≤ 10000)
    (ht : TreeBy w t ns (tlF T rb v)) (hr : refusedZ (intsOf ns) = 0) (hn : ns.length ≤ 19) (hL : LaidBy w (tlF T rb v)) (ha : aheadZ out = a) {r : Except Int ((Nat × Nat) × Nat)} (he : pbind (symP ns) (fun n => timesP out n) s.data.toList pos = r) :
    Calls Tryz.prog 187 #[.pointer (some ⟨T, 0, none⟩), .pointer (some ⟨t, 0, none⟩), .int .i64 a] w (EndsL w T rb s o M v p q X r) := by
  have HPost := Lib.hid he
  have r0 := h.cell.reader
  have HL := Lib.hid hL
  clear he hL
  cases hb : symP ns s.data.toList pos with
  | error e =>
    have hez : (e != 0) = true := by simpa using Sure.sym _ _ _ _ hb
    have HE := Lib.hid (tlSym_err T rb s pos o M v p q X w t ns h hs hr ht hb)
    have Hend : Hid (r = .error e) := Lib.hid (by rw [← HPost.out, pbind_err hb])
    clear hb h ht hr
    go_enter Tryz.func187, Tryz.ntmps187
    go_wp2_with fail
    refine HE.out.mono ?_
    rintro en w1 ⟨⟨sy, rfl⟩, ht⟩
    have HT := Lib.hid ht
    clear ht
    go_wp2_with fail
    refine bodyPost_ret (by simp [results, Tryz.results187, go_sem]; rfl) rfl ?_
    exact EndsL.err Hend.out HT.out
  | ok x1 =>
    obtain ⟨n, p1⟩ := x1
    have hn18 : n < 19 := Nat.lt_of_lt_of_le (symP_lt hb).1 hn
    have HE := Lib.hid (tlSym_ok T rb s pos o M v p q X w t ns h hs hr ht hb)
    rw [pbind_of hb] at HPost
    clear hb h ht hr hn
    by_cases h16 : n < 16
    · have hz : (n : Int) < 16 := by omega
      have Hend : Hid (r = .ok ((1, n), p1)) := Lib.hid (by
        rw [← HPost.out]; unfold timesP
        rw [if_neg (by omega), if_neg (by omega), if_neg (by omega)]; rfl)
      go_enter Tryz.func187, Tryz.ntmps187
      go_wp2_with fail
      refine HE.out.mono ?_
      rintro en w1 ⟨rfl, hi, ht⟩
      have HI := Lib.hid hi
      have HT := Lib.hid ht
      clear hi ht
      go_wp2_with fail
      refine bodyPost_ret (by simp [results, Tryz.results187, go_sem]; rfl) rfl ?_
      exact EndsL.ok Hend.out rfl HI.out HT.out
    · have hz : ¬ (n : Int) < 16 := by omega
      by_cases hno : n = 16 ∧ out.length = 0
      · obtain ⟨rfl, h0⟩ := hno
        have ha1 : a = -1 := by rw [← ha]; unfold aheadZ; rw [if_pos h0]
        subst ha1
        have Hend : Hid (r = .error 4) := Lib.hid (by
          rw [← HPost.out]; unfold timesP
          rw [if_pos rfl, decide_eq_true h0, pbind_err pfail_true])
        go_enter Tryz.func187, Tryz.ntmps187
        go_wp2_with fail
        refine HE.out.mono ?_
        rintro en w1 ⟨rfl, hi, ht⟩
        have HT := Lib.hid ht
        clear hi ht
        go_wp2_with fail
        refine bodyPost_ret (by simp [results, Tryz.results187, go_sem]; rfl) rfl ?_
        exact EndsL.err Hend.out HT.out
      · -- what is told, of 16, 17, 18
        obtain ⟨x, lo, k, bw, hk, hx, hT, hlo, hbw, hsw⟩ : ∃ x lo k bw : Nat, n = 16 + k ∧ ((n = 16 ∧ a = (x : Int)) ∨ (16 < n ∧ x = 0)) ∧ timesL[k]? = some ((lo : Int), (bw : Int)) ∧ lo ≤ 11 ∧ bw ≤ 16 ∧ timesP out n = pbind (bitsP bw) (fun t => pret (t + lo, x)) := by
          have hc : n = 16 ∨ n = 17 ∨ n = 18 := by omega
          rcases hc with rfl | rfl | rfl
          · have h0 : out.length ≠ 0 := fun e => hno ⟨rfl, e⟩
            refine ⟨out[out.length - 1]?.getD 0, 3, 0, 2, rfl, .inl ⟨rfl, by rw [← ha]; unfold aheadZ; rw [if_neg h0]⟩, rfl, by omega, by omega, ?_⟩
            unfold timesP
            rw [if_pos rfl, decide_eq_false h0]
            rfl
          · exact ⟨0, 3, 1, 3, rfl, .inr ⟨by omega, rfl⟩, rfl, by omega, by omega, rfl⟩
          · exact ⟨0, 11, 2, 7, rfl, .inr ⟨by omega, rfl⟩, rfl, by omega, by omega, rfl⟩
        rw [hsw] at HPost
        have hk3 : k < 3 := by omega
        have hkz : (n : Int) - 16 = (k : Int) := by omega
        have hkz0 : ¬ (k : Int) < 0 := by omega
        have hkz3 : (k : Int) < 3 := by omega
        have hx16 : (¬ (16 : Int) < (n : Int) ∧ (a == -1) = false ∧ a = (x : Int)) ∨ ((16 : Int) < (n : Int) ∧ x = 0) := by
          rcases hx with ⟨h1, h2⟩ | ⟨h1, h2⟩
          · exact .inl ⟨by omega, by rw [beq_eq_false_iff_ne]; omega, h2⟩
          · exact .inr ⟨by omega, h2⟩
        have HTm := Lib.hid hT
        clear hx hsw hno ha hk hT h16
        cases hb2 : bitsP bw s.data.toList p1 with
        | error e =>
          have HN := Lib.hid (fun W (hW : TlIs W T rb s p1 o M v p q X) => number_err T rb s p1 o M v p q X W lo bw hW hs hbw hb2)
          have Hend : Hid (r = .error 5) := Lib.hid (by rw [← HPost.out, pbind_err hb2, (bitsP_err hbw hb2).1])
          clear hb2
          rcases hx16 with ⟨g1, g2, rfl⟩ | ⟨g1, rfl⟩
          all_goals
            go_enter Tryz.func187, Tryz.ntmps187
            go_wp2_with fail
            refine HE.out.mono ?_
            rintro en w1 ⟨rfl, hi, ht⟩
            have HI := Lib.hid hi
            have HT := Lib.hid ht
            obtain ⟨c1, c2⟩ := (HL.out.touch ht).1.time HTm.out
            clear hi ht
            go_wp2_with fail
            refine (HN.out _ HI.out).mono ?_
            rintro en w2 ⟨rfl, ht⟩
            have HT2 := Lib.hid (HT.out.trans ht)
            clear ht
            go_wp2_with fail
            refine bodyPost_ret (by simp [results, Tryz.results187, go_sem]; rfl) rfl ?_
            exact EndsL.err Hend.out HT2.out
        | ok x2 =>
          obtain ⟨tm, p2⟩ := x2
          have HN := Lib.hid (fun W (hW : TlIs W T rb s p1 o M v p q X) => number_ok T rb s p1 o M v p q X W lo bw hW hs hbw (by omega) hb2)
          have Hend : Hid (r = .ok ((tm + lo, x), p2)) := Lib.hid (by rw [← HPost.out, pbind_of hb2]; rfl)
          clear hb2
          rw [Nat.add_comm] at Hend
          obtain ⟨tt, htt⟩ : ∃ tt, lo + tm = tt := ⟨_, rfl⟩
          rw [htt] at HN Hend
          clear htt
          rcases hx16 with ⟨g1, g2, rfl⟩ | ⟨g1, rfl⟩
          all_goals
            go_enter Tryz.func187, Tryz.ntmps187
            go_wp2_with fail
            refine HE.out.mono ?_
            rintro en w1 ⟨rfl, hi, ht⟩
            have HI := Lib.hid hi
            have HT := Lib.hid ht
            obtain ⟨c1, c2⟩ := (HL.out.touch ht).1.time HTm.out
            clear hi ht
            go_wp2_with fail
            refine (HN.out _ HI.out).mono ?_
            rintro en w2 ⟨rfl, hi, ht⟩
            have HI2 := Lib.hid hi
            have HT2 := Lib.hid (HT.out.trans ht)
            clear hi ht
            go_wp2_with fail
            refine bodyPost_ret (by simp [results, Tryz.results187, go_sem]; rfl) rfl ?_
            exact EndsL.ok Hend.out rfl HI2.out HT2.out
end
end Go.Proofs.YtiiiokikmjgliaaGreatDoor
/-
  The contract of package inflate's lengths: a row of so many lengths.
-/
namespace Go.Proofs.YtiiiokikmjgliaaGreatDoor
section
open Go.RowKit
set_option maxRecDepth 100000
theorem timesP_le {out : List Nat} {n t x z pos : Nat} {l : List UInt8} (h : timesP out n l pos = .ok ((t, x), z)) (hn : n < 19) (ho : ∀ y ∈ out, y ≤ 18) : 1 ≤ t ∧ t ≤ 65600 ∧ x ≤ 18 ∧ pos ≤ z ∧ (n ≠ 16 → True) := by
  unfold timesP at h
  split at h
  · obtain ⟨_, m1, h1, h2⟩ := pbind_ok h
    obtain ⟨_, rfl⟩ := pfail_ok h1
    obtain ⟨a, m2, h3, h4⟩ := pbind_ok h2
    have hs := bitsP_small (by omega) h3
    obtain ⟨_, _, rfl⟩ := bitsP_ok h3
    unfold pret at h4
    obtain ⟨h5, rfl⟩ := Prod.mk.inj (Except.ok.inj h4)
    obtain ⟨rfl, rfl⟩ := Prod.mk.inj h5
    refine ⟨by omega, by omega, ?_, by omega, fun _ => trivial⟩
    cases hx : out[out.length - 1]? with
    | none => simp
    | some y => exact ho y (List.mem_of_getElem? hx)
  · split at h
    · obtain ⟨a, m2, h3, h4⟩ := pbind_ok h
      have hs := bitsP_small (by omega) h3
      obtain ⟨_, _, rfl⟩ := bitsP_ok h3
      unfold pret at h4
      obtain ⟨h5, rfl⟩ := Prod.mk.inj (Except.ok.inj h4)
      obtain ⟨rfl, rfl⟩ := Prod.mk.inj h5
      exact ⟨by omega, by omega, by omega, by omega, fun _ => trivial⟩
    · split at h
      · obtain ⟨a, m2, h3, h4⟩ := pbind_ok h
        have hs := bitsP_small (by omega) h3
        obtain ⟨_, _, rfl⟩ := bitsP_ok h3
        unfold pret at h4
        obtain ⟨h5, rfl⟩ := Prod.mk.inj (Except.ok.inj h4)
        obtain ⟨rfl, rfl⟩ := Prod.mk.inj h5
        exact ⟨by omega, by omega, by omega, by omega, fun _ => trivial⟩
      · unfold pret at h
        obtain ⟨h5, rfl⟩ := Prod.mk.inj (Except.ok.inj h)
        obtain ⟨rfl, rfl⟩ := Prod.mk.inj h5
        exact ⟨by omega, by omega, by omega, by omega, fun _ => trivial⟩
theorem Sure.symTimes (ns out : List Nat) : Sure (pbind (symP ns) fun n => timesP out n) := (Sure.sym _).bind fun _ => Sure.times _ _
theorem aheadZ_more (out : List Nat) (t x : Nat) (ht : 1 ≤ t) : aheadZ (out ++ List.replicate t x) = (x : Int) := by
  unfold aheadZ
  rw [if_neg (by rw [List.length_append, List.length_replicate]; omega), List.length_append, List.length_replicate, List.getElem?_append_right (by omega), List.getElem?_replicate, if_pos (by omega)]
  rfl
def filled (out : List Nat) (i x many : Nat) : List Nat := out ++ List.replicate i x ++ List.replicate (many - (out.length + i)) 0
theorem filled_none (out : List Nat) (x many : Nat) : filled out 0 x many = out ++ List.replicate (many - out.length) 0 := by
  unfold filled
  simp
theorem filled_set {out : List Nat} {i x many : Nat} (h : out.length + i < many) : (filled out i x many).set (out.length + i) x = filled out (i + 1) x many := by
  unfold filled
  rw [List.set_append_right _ _ (by simp), List.length_append, List.length_replicate, Nat.sub_self, show many - (out.length + i) = (many - (out.length + (i + 1))) + 1 by omega, List.replicate_succ, List.set_cons_zero, List.replicate_succ']
  simp
theorem filled_next (out : List Nat) (t x many : Nat) : filled out t x many = (out ++ List.replicate t x) ++ List.replicate (many - (out ++ List.replicate t x).length) 0 := by
  unfold filled
  simp
def EndsR (w : World) (T rb : Nat) (s : ByteArray) (o : List UInt8) (M many : Nat) (v : Value) (p q : Option Addr) (X : List Nat) (r : Except Int (List Nat × Nat)) (en : Ending) (w' : World) : Prop := match r with
  | .ok (out, z) => ∃ g, en = .returned (.tuple #[.slice (some ⟨g, 0, none⟩) many many, .int .i64 0]) ∧ RowAt w' g out ∧ w.heap.size ≤ g ∧ out.length = many ∧ (∀ x ∈ out, x ≤ 18) ∧ TlIs w' T rb s z o M v p q X ∧ Touches (tlF T rb v) (tlF T rb v) w w'
  | .error e => en = .returned (.tuple #[.slice none 0 0, .int .i64 e]) ∧ Touches (tlF T rb v) (tlF T rb v) w w'
theorem EndsR.err {w w' : World} {T rb : Nat} {s : ByteArray} {o : List UInt8} {M many : Nat} {v : Value} {p q : Option Addr} {X : List Nat} {r : Except Int (List Nat × Nat)} {e : Int} (hr : r = .error e) (ht : Touches (tlF T rb v) (tlF T rb v) w w') : EndsR w T rb s o M many v p q X r (.returned (.tuple #[.slice none 0 0, .int .i64 e])) w' := by
  subst hr; exact ⟨rfl, ht⟩
structure Lns (w0 w : World) (T rb : Nat) (s : ByteArray) (pos : Nat) (o : List UInt8) (M t : Nat) (ns : List Nat) (g b many j : Nat) (ls : List Nat) (v : Value) (p q : Option Addr) (X : List Nat) : Prop where
  is : TlIs w T rb s pos o M v p q X
  ht : Touches (tlF T rb v) (tlF T rb v) w0 w
  tab : LaidBy w (tlF T rb v)
  tree : TreeBy w t ns (tlF T rb v)
  put : PutAt w b g many j ls
  far : b ∉ tlF T rb v ∧ b + 1 ∉ tlF T rb v ∧ g ∉ tlF T rb v
  farX : b ∉ X ∧ b + 1 ∉ X ∧ g ∉ X
  new : w0.heap.size ≤ g ∧ w0.heap.size ≤ b
section
variable {w0 w w' : World} {T rb : Nat} {s : ByteArray} {pos pos' : Nat} {o : List UInt8} {M t : Nat} {ns : List Nat} {g b many j : Nat} {ls : List Nat} {v : Value} {p q : Option Addr} {X : List Nat}
theorem Lns.step (h : Lns w0 w T rb s pos o M t ns g b many j ls v p q X) (hi : TlIs w' T rb s pos' o M v p q X) (ht : Touches (tlF T rb v) (tlF T rb v) w w') : Lns w0 w' T rb s pos' o M t ns g b many j ls v p q X :=
  ⟨hi, h.ht.trans ht, h.tab.touch ht, h.tree.touch ht, (h.put.touch ht h.far).1, h.far, h.farX, h.new⟩
theorem Lns.more (h : Lns w0 w T rb s pos o M t ns g b many j ls v p q X) (h0 : LaidBy w0 (tlF T rb v)) (hT0 : TreeBy w0 t ns (tlF T rb v)) (hj : j < many) (x : Nat) : Lns w0 ((w.setCell ⟨g, j, none⟩ (.int .i64 (x : Int))).setCell ⟨b + 1, 0, none⟩ (.int .i64 ((j + 1 : Nat) : Int))) T rb s pos o M t ns g b many (j + 1) (ls.set j x) v p q X := by
  have hT : Touches (tlF T rb v) (tlF T rb v) w0 ((w.setCell ⟨g, j, none⟩ (.int .i64 (x : Int))).setCell ⟨b + 1, 0, none⟩ (.int .i64 ((j + 1 : Nat) : Int))) := (h.ht.beyond (a := ⟨g, j, none⟩) h.new.1 _).beyond (a := ⟨b + 1, 0, none⟩) (by have := h.new.2; simp; omega) _
  refine ⟨(h.is.aside (a := ⟨g, j, none⟩) h.far.2.2 h.farX.2.2 _).aside (a := ⟨b + 1, 0, none⟩) h.far.2.1 h.farX.2.1 _, hT, h0.touch hT, hT0.touch hT, h.put.next hj x, h.far, h.farX, h.new⟩
end
set_option maxHeartbeats 8000000 in
theorem lengths_is (T rb : Nat) (s : ByteArray) (pos : Nat) (o : List UInt8) (M : Nat) (v : Value) (p q : Option Addr) (X : List Nat) (w : World) (t many fuel : Nat) (ns : List Nat) (h : TlIs w T rb s pos o M v p q X) (hs : s.size ≤ 10000) (hm1 : 1 ≤ many) (hm : many ≤ 400) (hf : 8 * s.size + 1 ≤ fuel + pos)
    (ht : TreeBy w t ns (tlF T rb v)) (hr : refusedZ (intsOf ns) = 0) (hn : ns.length = 19) (hL : LaidBy w (tlF T rb v)) {r : Except Int (List Nat × Nat)} (he : rowP ns many fuel [] s.data.toList pos = r) :
    Calls Tryz.prog 172 #[.pointer (some ⟨T, 0, none⟩), .pointer (some ⟨t, 0, none⟩), .int .i64 (many : Int)] w (EndsR w T rb s o M many v p q X r) := by
  have HPost := Lib.hid he
  have HL0 := Lib.hid hL
  have HTr0 := Lib.hid ht
  have HR := Lib.hid hr
  have Hn := Lib.hid hn
  have Hlt := Lib.hid h.lt
  have HltX := Lib.hid h.fix.lt
  have hmake := make_row many w (by omega)
  have HI0 := Lib.hid (h.alloc (.cells (cellsZ (asZ (List.replicate many 0))).toArray 3))
  have HT0 : Hid (Touches (tlF T rb v) (tlF T rb v) w (w.alloc (.cells (cellsZ (asZ (List.replicate many 0))).toArray 3))) := Lib.hid (Touches.of_below ((below_same w).alloc (Nat.le_refl _) _))
  have HR0 : Hid (RowAt (w.alloc (.cells (cellsZ (asZ (List.replicate many 0))).toArray 3)) w.heap.size (List.replicate many 0)) := Lib.hid (heap_alloc_new w _)
  have Hsz0 : Hid (w.heap.size < (w.alloc (.cells (cellsZ (asZ (List.replicate many 0))).toArray 3)).heap.size) := Lib.hid (by simp)
  obtain ⟨W0, hW0⟩ : ∃ W0, w.alloc (.cells (cellsZ (asZ (List.replicate many 0))).toArray 3) = W0 := ⟨_, rfl⟩
  rw [hW0] at hmake HI0 HT0 HR0 Hsz0
  have HP := Lib.hid (putter_is w.heap.size many W0)
  clear he h hL ht hr hn hW0
  go_enter Tryz.func172, Tryz.ntmps172
  go_wp2_with fail
  refine HP.out.mono ?_
  rintro en w1 ⟨rfl, hw1⟩
  have HS : Hid (Lns w w1 T rb s pos o M t ns w.heap.size W0.heap.size many 0 (List.replicate many 0) v p q X) := Lib.hid (by
    rw [← hw1]
    have hT1 : Touches (tlF T rb v) (tlF T rb v) w ((W0.alloc (.cells #[.slice (some ⟨w.heap.size, 0, none⟩) many many] 100)).alloc (.cells #[.int .i64 0] 3)) := (HT0.out.alloc _).alloc _
    have hl := Hsz0.out
    exact ⟨(HI0.out.alloc _).alloc _, hT1, HL0.out.touch hT1, HTr0.out.touch hT1, PutAt.made HR0.out List.length_replicate,
      ⟨fun hm => by have := Hlt.out _ hm; omega, fun hm => by have := Hlt.out _ hm; omega, fun hm => by have := Hlt.out _ hm; omega⟩,
      ⟨fun hm => by have := HltX.out _ hm; omega, fun hm => by have := HltX.out _ hm; omega, fun hm => by have := HltX.out _ hm; omega⟩, Nat.le_refl _, by omega⟩)
  obtain ⟨b, hb⟩ : ∃ b, W0.heap.size = b := ⟨_, rfl⟩
  obtain ⟨gr, hgr⟩ : ∃ gr, w.heap.size = gr := ⟨_, rfl⟩
  rw [hb] at HS
  rw [hb]
  rw [hgr] at HS
  rw [hgr]
  have Hgr := Lib.hid hgr
  clear hw1 HI0 HT0 HR0 HP Hlt HltX Hsz0 hmake hb hgr
  go_wp2_with fail
  go_loopg [10, 11] fuel (fun g s10 s11 wx => ∃ (out : List Nat) (pos1 : Nat) (a : Int), out.length ≤ many ∧ s10 = .int .i64 ((many - out.length : Nat) : Int) ∧ s11 = .int .i64 a ∧ 8 * s.size + 1 ≤ g + pos1 ∧
    Aside (Lns w wx T rb s pos1 o M t ns gr b many out.length (filled out 0 0 many) v p q X ∧ rowP ns many g out s.data.toList pos1 = r ∧ (∀ y ∈ out, y ≤ 18) ∧ aheadZ out = a))
  case atStart => exact ⟨[], pos, -1, by simp, by simp, rfl, hf, by rw [filled_none]; exact HS.out, HPost.out, (fun y hy => by cases hy), rfl⟩
  case round =>
    obtain ⟨out, pos1, a, hol, rfl, rfl, hg, HI⟩ := hrel
    have HA := Lib.hid HI.out
    have hp1 := HA.out.1.is.hpos
    obtain ⟨g, rfl⟩ : ∃ f, gk = f + 1 := ⟨gk - 1, by omega⟩
    by_cases hfull : many ≤ out.length
    · have hz : many - out.length = 0 := by omega
      have Hend : Hid (r = .ok (out, pos1)) := Lib.hid (by
        have := HA.out.2.1
        rw [rowP, if_pos hfull] at this
        exact this.symm)
      have Hrow : Hid (RowAt wr gr out) := Lib.hid (by
        have := HA.out.1.put.2.2.1
        rw [filled_none, hz, List.replicate_zero, List.append_nil] at this
        exact this)
      have Hlen : Hid (out.length = many) := Lib.hid (by omega)
      rw [hz]
      clear hz hfull
      go_wp2_with fail
      go_ret2
      have hr := Hend.out
      subst hr
      exact ⟨gr, rfl, Hrow.out, by rw [Hgr.out]; exact Nat.le_refl _, Hlen.out, HA.out.2.2.1, HA.out.1.is, HA.out.1.ht⟩
    · have hpos : (0 : Int) < ((many - out.length : Nat) : Int) := by omega
      obtain ⟨left, hleft⟩ : ∃ left, many - out.length = left := ⟨_, rfl⟩
      rw [hleft] at hpos
      have Hleft := Lib.hid hleft
      have hnx := HA.out.2.1
      rw [rowP, if_neg hfull] at hnx
      rw [hleft]
      clear hleft
      cases hc : pbind (symP ns) (fun n => timesP out n) s.data.toList pos1 with
      | error e =>
        have hez : (e != 0) = true := by simpa using Sure.symTimes _ _ _ _ _ hc
        have HE := Lib.hid (length_is T rb s pos1 o M v p q X wr t ns out a HA.out.1.is hs HA.out.1.tree HR.out (by rw [Hn.out]; omega) HA.out.1.tab HA.out.2.2.2 hc)
        have Hend : Hid (r = .error e) := Lib.hid (by
          rw [← hnx]
          cases hsy : symP ns s.data.toList pos1 with
          | error e' =>
            rw [pbind_err hsy] at hc
            rw [pbind_err hsy]
            cases hc; rfl
          | ok x =>
            obtain ⟨n, z⟩ := x
            rw [pbind_of hsy] at hc
            rw [pbind_of hsy, pbind_err hc])
        clear hc hnx
        go_wp2_with fail
        refine HE.out.mono ?_
        rintro en w2 ⟨rfl, ht⟩
        have HT2 := Lib.hid (HA.out.1.ht.trans ht)
        clear ht
        go_wp2_with fail
        go_ret2
        exact EndsR.err Hend.out HT2.out
      | ok x =>
        obtain ⟨⟨tm, x⟩, z⟩ := x
        have HE := Lib.hid (length_is T rb s pos1 o M v p q X wr t ns out a HA.out.1.is hs HA.out.1.tree HR.out (by rw [Hn.out]; omega) HA.out.1.tab HA.out.2.2.2 hc)
        obtain ⟨n, z1, hsy, htm⟩ := pbind_ok hc
        have hlt := symP_lt hsy
        obtain ⟨ht1, ht2, hx18, hz1, _⟩ := timesP_le htm (by rw [← Hn.out]; exact hlt.1) HA.out.2.2.1
        rw [pbind_of hsy, pbind_of htm] at hnx
        have Hnx := Lib.hid hnx
        have hpz : pos1 < z := by omega
        clear hc hsy htm hlt hnx hz1
        go_wp2_with fail
        refine HE.out.mono ?_
        rintro en w2 ⟨rfl, hi, ht⟩
        have HS2 := Lib.hid (HA.out.1.step hi ht)
        clear hi ht
        go_wp2_with fail
        go_loopg [10, 34] tm (fun gg s10 s34 wx => ∃ i : Nat, i + gg = tm ∧ s34 = .int .i64 (i : Int) ∧ out.length + i ≤ many ∧ s10 = .int .i64 ((many - (out.length + i) : Nat) : Int) ∧ Aside (Lns w wx T rb s z o M t ns gr b many (out.length + i) (filled out i x many) v p q X))
        case atStart => exact ⟨0, by omega, rfl, hol, by rw [← Hleft.out]; rfl, by have := HS2.out; rwa [filled_none out 0, ← filled_none out x] at this⟩
        case round =>
          obtain ⟨i, hig, rfl, hoi, rfl, HB⟩ := hrel
          have HBk := Lib.hid HB.out
          cases gk with
          | succ gg =>
            have hit : (i : Int) < (tm : Int) := by omega
            by_cases hroom : out.length + i < many
            · have HP := Lib.hid (put_room b gr many (out.length + i) x (filled out i x many) wr HBk.out.put hroom (by omega))
              have HM := Lib.hid (HBk.out.more HL0.out HTr0.out hroom x)
              rw [filled_set hroom] at HM
              have hn0 : ¬ ((many - (out.length + i + 1) : Nat) : Int) < 0 := by omega
              obtain ⟨lf, hlf⟩ : ∃ lf, many - (out.length + i + 1) = lf := ⟨_, rfl⟩
              have Hlf := Lib.hid hlf
              rw [hlf] at HP hn0
              obtain ⟨ol, holn⟩ : ∃ ol, out.length = ol := ⟨_, rfl⟩
              have Hol := Lib.hid holn
              obtain ⟨lf0, hlf0⟩ : ∃ lf0, many - (out.length + i) = lf0 := ⟨_, rfl⟩
              rw [hlf0]
              clear hlf holn hlf0
              go_wp2_with fail
              refine HP.out.mono ?_
              rintro en w3 ⟨rfl, rfl⟩
              go_wp2_with fail
              go_roundg gg
              case measure => omega
              case rel => exact ⟨i + 1, by omega, by go_num, by omega, by rw [← Nat.add_assoc, Hlf.out], HM.out⟩
            · have hoi2 : out.length + i = many := by omega
              have HBm := Lib.hid HBk.out.put
              rw [hoi2] at HBm
              have HP := Lib.hid (put_full b gr many x (filled out i x many) wr HBm.out)
              have Hend : Hid (r = .error 4) := Lib.hid (by
                rw [← Hnx.out, decide_eq_true (show many < out.length + tm by omega), pbind_err pfail_true])
              obtain ⟨lf0, hlf0⟩ : ∃ lf0, many - (out.length + i) = lf0 := ⟨_, rfl⟩
              rw [hlf0]
              clear hlf0 hoi2
              go_wp2_with fail
              refine HP.out.mono ?_
              rintro en w3 ⟨rfl, rfl⟩
              go_wp2_with fail
              go_ret2
              exact EndsR.err Hend.out HBk.out.ht
          | zero =>
            obtain rfl : i = tm := by omega
            have hii : ¬ (i : Int) < (i : Int) := by omega
            have hlen : (out ++ List.replicate i x).length = out.length + i := by rw [List.length_append, List.length_replicate]
            have Hlen := Lib.hid hlen
            have Hnx2 : Hid (rowP ns many g (out ++ List.replicate i x) s.data.toList z = r) := Lib.hid (by
              rw [← Hnx.out, decide_eq_false (show ¬ many < out.length + i by omega), pbind_of pfail_false])
            have HBn : Hid (Lns w wr T rb s z o M t ns gr b many (out ++ List.replicate i x).length (filled (out ++ List.replicate i x) 0 0 many) v p q X) := Lib.hid (by
              rw [filled_none, ← filled_next, hlen]; exact HBk.out)
            have Hsm : Hid (∀ y ∈ out ++ List.replicate i x, y ≤ 18) := Lib.hid fun y hy => by
              rcases List.mem_append.1 hy with hy | hy
              · exact HA.out.2.2.1 y hy
              · rw [(List.mem_replicate.1 hy).2]; exact hx18
            obtain ⟨lf0, hlf0⟩ : ∃ lf0, many - (out.length + i) = lf0 := ⟨_, rfl⟩
            have Hlf0 := Lib.hid hlf0
            rw [hlf0]
            clear hlf0 hlen
            go_wp2_with fail
            go_roundg g
            case measure => omega
            case rel => exact ⟨out ++ List.replicate i x, z, (x : Int), by rw [Hlen.out]; exact hoi, by rw [Hlen.out, Hlf0.out], rfl, by omega, HBn.out, Hnx2.out, Hsm.out, aheadZ_more out i x ht1⟩
end
end Go.Proofs.YtiiiokikmjgliaaGreatDoor
