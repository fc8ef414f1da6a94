/-
  The contracts of bitrow's Writer: Put, Align, Len, Text.
-/
import Derived.Test.YtahanllbaclokaaBitTouch
import Derived.Test.YtahanllbaclokaaBitText
import Derived.Deep.RegionHeld3
import Derived.Deep.LoopGhost
namespace Go.Proofs.Ytahanllbaclokaa
open Go.RowKit
/-- A writer's object: the bits that it holds, its whole bytes. -/
def WrCell (w : World) (b : Nat) (L : List Nat) (v : Value) : Prop := w.heap[b]? = some (.cells #[.int .i64 (numB L : Int), .int .i64 (L.length : Int), v] 49 (0, 0))
theorem WrCell.held {w : World} {b : Nat} {L : List Nat} {v : Value} (h : WrCell w b L v) : w.cell? ⟨b, 0, none⟩ = some (.int .i64 (numB L : Int)) := by rw [cell_of_row _ _ _ _ _ _ h]; rfl
theorem WrCell.count {w : World} {b : Nat} {L : List Nat} {v : Value} (h : WrCell w b L v) : w.cell? ⟨b, 1, none⟩ = some (.int .i64 (L.length : Int)) := by rw [cell_of_row _ _ _ _ _ _ h]; rfl
theorem WrCell.whole {w : World} {b : Nat} {L : List Nat} {v : Value} (h : WrCell w b L v) : w.cell? ⟨b, 2, none⟩ = some v := by rw [cell_of_row _ _ _ _ _ _ h]; rfl
theorem WrCell.free {w : World} {b : Nat} {L : List Nat} {v : Value} (h : WrCell w b L v) (j : Nat) : w.frozen? ⟨b, j, none⟩ = false := frozen_of_row _ _ _ _ _ h
theorem WrCell.lt {w : World} {b : Nat} {L : List Nat} {v : Value} (h : WrCell w b L v) : b < w.heap.size := by
  rcases Nat.lt_or_ge b w.heap.size with h' | h'
  · exact h'
  · unfold WrCell at h; rw [Array.getElem?_eq_none h'] at h; cases h
theorem WrCell.two {w : World} {b : Nat} {L : List Nat} {v : Value} (h : WrCell w b L v) (L' : List Nat) : WrCell (twoSet w b (numB L') (L'.length : Nat)) b L' v := by
  have h1 := heap_setCell_same _ _ 0 _ _ (.int .i64 (numB L' : Int)) h
  exact heap_setCell_same _ _ 1 _ _ (.int .i64 (L'.length : Int)) h1
theorem WrCell.put {w : World} {b : Nat} {L : List Nat} {v : Value} (h : WrCell w b L v) (v' : Value) : WrCell (w.setCell ⟨b, 2, none⟩ v') b L v' := heap_setCell_same _ _ 2 _ _ v' h
theorem WrCell.move {w w' : World} {b : Nat} {L : List Nat} {v : Value} (h : WrCell w b L v) (hk : w'.heap[b]? = w.heap[b]?) : WrCell w' b L v := hk.trans h

/-- A writer, some of whose bits are whole bytes (D), the others held (L). -/
def WrAt (w : World) (b : Nat) (D L : List Nat) (v : Value) : Prop := WrCell w b L v ∧ Row8 w v (packB D) ∧ ∀ k, v.ownBlock = some k → k ≠ b
def wrF (b : Nat) (v : Value) : List Nat := b :: v.ownBlock.toList
theorem wrF_self (b : Nat) (v : Value) : b ∈ wrF b v := by simp [wrF]
theorem wrF_own {b k : Nat} {v : Value} (h : v.ownBlock = some k) : k ∈ wrF b v := by simp [wrF, h]
theorem wrF_mem {b k : Nat} {v : Value} (h : k ∈ wrF b v) : k = b ∨ v.ownBlock = some k := by simpa [wrF] using h
theorem WrAt.two {w : World} {b : Nat} {D L : List Nat} {v : Value} (h : WrAt w b D L v) (L' : List Nat) : WrAt (twoSet w b (numB L') (L'.length : Nat)) b D L' v :=
  ⟨h.1.two L', h.2.1.move fun k hk => two_block _ _ _ _ k (h.2.2 k hk), h.2.2⟩
theorem WrAt.move {w w' : World} {b : Nat} {D L : List Nat} {v : Value} (h : WrAt w b D L v) (hk : ∀ k ∈ wrF b v, w'.heap[k]? = w.heap[k]?) : WrAt w' b D L v :=
  ⟨h.1.move (hk b (wrF_self b v)), h.2.1.move fun k e => hk k (wrF_own e), h.2.2⟩
theorem WrAt.lt {w : World} {b : Nat} {D L : List Nat} {v : Value} (h : WrAt w b D L v) : ∀ k ∈ wrF b v, k < w.heap.size := fun k hk => by
  rcases wrF_mem hk with rfl | h1
  · exact h.1.lt
  · exact h.2.1.lt k h1

/-- A writer to which these bits were put. -/
def WriterAt (w : World) (b : Nat) (row F : List Nat) : Prop := ∃ D L v, row = D ++ L ∧ D.length % 8 = 0 ∧ L.length < 8 ∧ F = wrF b v ∧ WrAt w b D L v
theorem WriterAt.lt {w : World} {b : Nat} {row F : List Nat} (h : WriterAt w b row F) : ∀ k ∈ F, k < w.heap.size := by
  obtain ⟨D, L, v, _, _, _, rfl, h⟩ := h
  exact h.lt
theorem WriterAt.move {w w' : World} {b : Nat} {row F : List Nat} (h : WriterAt w b row F) (_ : w.heap.size ≤ w'.heap.size) (hk : ∀ k ∈ F, w'.heap[k]? = w.heap[k]?) : WriterAt w' b row F := by
  obtain ⟨D, L, v, h1, h2, h3, rfl, h⟩ := h
  exact ⟨D, L, v, h1, h2, h3, rfl, h.move hk⟩
theorem writer_new (W : World) : WriterAt (W.alloc (.cells #[.int .i64 0, .int .i64 0, .slice none 0 0] 49)) W.heap.size [] [W.heap.size] :=
  ⟨[], [], .slice none 0 0, rfl, rfl, by decide, rfl, heap_alloc_new W _, Row8.nil _, fun k h => by cases h⟩

set_option maxHeartbeats 1000000 in
theorem wPut_arg (p : Option Addr) (n width : Int) (w : World) (hp : p = none ∨ ((∃ b, p = some b) ∧ (width < 0 ∨ 16 < width))) {e : Int} (he : e = if p = none then 1 else 2) :
    Calls Try.prog 35 #[.pointer p, .int .i64 n, .int .i64 width] w fun en w' => en = .returned (.int .i64 e) ∧ w = w' := by
  rcases hp with rfl | ⟨⟨b, rfl⟩, hw⟩
  · obtain rfl : e = 1 := by simpa using he
    clear he
    go_enter Try.func35, Try.ntmps35
    go_wp2_with fail
    go_ret
    exact ⟨rfl, rfl⟩
  · obtain rfl : e = 2 := by simpa using he
    have Hw := Lib.hid (fun W => isWidth_is width W (b := false) (by simp; omega))
    clear he hw
    go_enter Try.func35, Try.ntmps35
    go_wp2_with fail
    refine (Hw.out _).mono ?_
    rintro e w1 ⟨rfl, rfl⟩
    go_wp2_with fail
    go_ret
    exact ⟨rfl, rfl⟩

set_option maxHeartbeats 1000000 in
theorem wPut_range (b : Addr) (n : Int) (v : Nat) (w : World) (hv : v ≤ 16) (hn : n < 0 ∨ (2 : Int) ^ v ≤ n) :
    Calls Try.prog 35 #[.pointer (some b), .int .i64 n, .int .i64 (v : Int)] w fun en w' => en = .returned (.int .i64 3) ∧ w = w' := by
  have Hw := Lib.hid (fun W => isWidth_is (v : Int) W (b := true) (by simp; omega))
  by_cases h0 : n < 0
  · clear hn
    go_enter Try.func35, Try.ntmps35
    go_wp2_with fail
    refine (Hw.out _).mono ?_
    rintro e w1 ⟨rfl, rfl⟩
    go_wp2_with fail
    go_ret
    exact ⟨rfl, rfl⟩
  · have h1 : (2 : Int) ^ v ≤ n := by omega
    clear hn
    rw [pow_two_int] at h1
    have hpk := pow_two_int v
    have hp2 : (2 : Nat) ^ v ≤ 2 ^ 16 := Nat.pow_le_pow_right (by omega) hv
    obtain ⟨p, hp⟩ : ∃ p, 2 ^ v = p := ⟨_, rfl⟩
    rw [hp] at h1 hp2 hpk
    clear hp
    go_enter Try.func35, Try.ntmps35
    go_wp2_with fail
    refine (Hw.out _).mono ?_
    rintro e w1 ⟨rfl, rfl⟩
    go_wp2_with fail
    go_ret
    exact ⟨rfl, rfl⟩

theorem leave8_is (b : Nat) (L : List Nat) (w : World) (h2 : ∀ b ∈ L, b < 2) (hl : L.length ≤ 31) (hkl : 8 ≤ L.length) (h0 : w.cell? ⟨b, 0, none⟩ = some (.int .i64 (numB L : Int))) (h1 : w.cell? ⟨b, 1, none⟩ = some (.int .i64 (L.length : Int)))
   (hf : w.frozen? ⟨b, 0, none⟩ = false) (hf1 : w.frozen? ⟨b, 1, none⟩ = false) :
    Calls Try.prog 40 #[.pointer (some ⟨b, 0, none⟩), .int .i64 8] w fun e w' => e = .returned (.int .i64 (numB (L.take 8) : Int)) ∧ w' = twoSet w b (numB (L.drop 8)) ((L.drop 8).length : Nat) :=
  leave_is b L 8 w h2 hl (by decide) hkl h0 h1 hf hf1
theorem heap_alloc_old (w : World) (o : Obj) (k : Nat) (h : k < w.heap.size) : (w.alloc o).heap[k]? = w.heap[k]? := Below.heap_alloc w o k h
/-- One byte is put behind the whole ones: ahead of the store. -/
def WrNext (w : World) (b : Nat) (D L : List Nat) (v v' : Value) : Prop := WrCell w b L v ∧ Row8 w v' (packB D) ∧ ∀ k, v'.ownBlock = some k → k ≠ b
theorem WrAt.append {w w' : World} {b : Nat} {D D' L : List Nat} {v v' : Value} {o : Obj} {x : UInt8} (h : WrAt w b D L v) (hD : packB D' = packB D ++ [x]) (hr : Row8 w' v' (packB D ++ [x])) (hg : (w.alloc o).grownBy w' v.ownBlock) (hv : ∀ k, v'.ownBlock = some k → v.ownBlock = some k ∨ k = (w.alloc o).heap.size) : WrNext w' b D' L v v' := by
  have hlt := h.1.lt
  have hs : (w.alloc o).heap.size = w.heap.size + 1 := by simp
  refine ⟨h.1.move ((hg.block b (by omega) fun e => h.2.2 b e.symm rfl).trans (heap_alloc_old _ _ _ hlt)), by rw [hD]; exact hr, fun k hk => ?_⟩
  rcases hv k hk with h1 | h1
  · exact h.2.2 k h1
  · omega
theorem WrAt.append_touch {w0 w w' : World} {F : List Nat} {b : Nat} {D L : List Nat} {v v' : Value} {o : Obj} (h : WrAt w b D L v) (ht : Touches F (wrF b v) w0 w) (hg : (w.alloc o).grownBy w' v.ownBlock) (hv : ∀ k, v'.ownBlock = some k → v.ownBlock = some k ∨ k = (w.alloc o).heap.size) : Touches F (wrF b v') w0 w' := by
  refine (ht.alloc o).grown hg (fun k e => wrF_own e) fun k hk => ?_
  rcases wrF_mem hk with rfl | h1
  · exact .inl (wrF_self _ _)
  · rcases hv k h1 with h2 | h2
    · exact .inl (wrF_own h2)
    · exact .inr (by omega)
theorem WrNext.done {w : World} {b : Nat} {D L : List Nat} {v v' : Value} (h : WrNext w b D L v v') : WrAt (w.setCell ⟨b, 2, none⟩ v') b D L v' :=
  ⟨h.1.put v', h.2.1.move fun k hk => Below.heap_setCell _ _ _ k (h.2.2 k hk), h.2.2⟩

theorem cells_new1_at (W : World) {g : Nat} (hg : W.heap.size = g) (c : UInt8) (z : Int) (hz : z = (c.toNat : Int)) : ∀ j (h : j < [c].length), (W.alloc (.cells #[.int .u8 z] 5)).cell? ((⟨g, 0, none⟩ : Addr).add j) = some (.int .u8 ([c][j].toNat : Int)) := by
  subst hg; exact cells_new1 W c z hz

set_option maxHeartbeats 2000000 in
theorem wPut_ok (b n k : Nat) (D L : List Nat) (v : Value) (w : World) (hk : k ≤ 16) (hn : n < 2 ^ k) (h : WrAt w b D L v) (hD : D.length % 8 = 0) (hL : L.length < 8) (h2 : ∀ x ∈ L, x < 2) (hl : D.length ≤ 200000) :
    Calls Try.prog 35 #[.pointer (some ⟨b, 0, none⟩), .int .i64 (n : Int), .int .i64 (k : Int)] w fun en w' => en = .returned (.int .i64 0) ∧ ∃ F', WriterAt w' b (D ++ (L ++ bitsN k n)) F' ∧ Touches (wrF b v) F' w w' := by
  have Hw := Lib.hid (fun W => isWidth_is (k : Int) W (b := true) (by simp; omega))
  have Hcome := Lib.hid (come_is b L n k w h2 (by omega) hn hk h.1.held h.1.count (h.1.free 0) (h.1.free 1))
  have HA := Lib.hid h
  have hpk := pow_two_int k
  have hp2 : (2 : Nat) ^ k ≤ 2 ^ 16 := Nat.pow_le_pow_right (by omega) hk
  have Hb2 : Hid (∀ x ∈ L ++ bitsN k n, x < 2) := Lib.hid fun x hx => by
    rcases List.mem_append.1 hx with hx | hx
    · exact h2 x hx
    · exact bitsN_two _ _ x hx
  have hlen : (L ++ bitsN k n).length ≤ 23 := by rw [List.length_append, bitsN_length]; omega
  obtain ⟨M, hM⟩ : ∃ M, L ++ bitsN k n = M := ⟨_, rfl⟩
  rw [hM] at Hcome Hb2 hlen ⊢
  obtain ⟨p, hp⟩ : ∃ p, 2 ^ k = p := ⟨_, rfl⟩
  rw [hp] at hpk hp2 hn
  clear hM h h2 hp
  go_enter Try.func35, Try.ntmps35
  go_wp2_with fail
  refine (Hw.out _).mono ?_
  rintro e w1 ⟨rfl, rfl⟩
  go_wp2_with fail
  refine Hcome.out.mono ?_
  rintro e w1 ⟨rfl, rfl⟩
  have HA1 := Lib.hid (HA.out.two M)
  have HT1 := Lib.hid ((Touches.refl (wrF b v) w).two (wrF_self b v) (numB M) (M.length : Nat))
  go_wp2_with fail
  go_loopg [] (M.length / 8) (fun g wx => ∃ (E N : List Nat) (u : Value), N.length / 8 = g ∧ N.length ≤ 23 ∧ Aside (D ++ M = E ++ N ∧ E.length % 8 = 0 ∧ E.length ≤ 200000 + 23 ∧ (∀ x ∈ N, x < 2) ∧ WrAt wx b E N u ∧ Touches (wrF b v) (wrF b u) w wx))
  case atStart => exact ⟨D, M, v, rfl, hlen, rfl, hD, by omega, Hb2.out, HA1.out, HT1.out⟩
  case round =>
    obtain ⟨E, N, u, hg, hN, HI⟩ := hrel
    have c1 := HI.out.2.2.2.2.1.1.count
    cases gk with
    | zero =>
      have hN8 : N.length < 8 := by omega
      go_wp2_with fail
      go_ret
      exact ⟨rfl, wrF b u, ⟨E, N, u, HI.out.1, HI.out.2.1, hN8, rfl, HI.out.2.2.2.2.1⟩, HI.out.2.2.2.2.2⟩
    | succ g =>
      have hN8 : 8 ≤ N.length := by omega
      have c0 := HI.out.2.2.2.2.1.1.held
      have c2 := HI.out.2.2.2.2.1.1.whole
      have f2 := HI.out.2.2.2.2.1.1.free 2
      have Hleave := Lib.hid (leave8_is b N wr.drew HI.out.2.2.2.1 (by omega) hN8 c0 c1 (HI.out.2.2.2.2.1.1.free 0) (HI.out.2.2.2.2.1.1.free 1))
      have HA2 : Hid (WrAt (twoSet wr.drew b (numB (N.drop 8)) ((N.drop 8).length : Nat)) b E (N.drop 8) u) := Lib.hid (WrAt.two (w := wr.drew) HI.out.2.2.2.2.1 (N.drop 8))
      have c22 := HA2.out.1.whole
      have f22 := HA2.out.1.free 2
      have ht : numB (N.take 8) < 256 := by
        have h1 := numB_lt (N.take 8) fun x hx => HI.out.2.2.2.1 x (List.mem_of_mem_take hx)
        rw [List.length_take, Nat.min_eq_left hN8] at h1
        exact h1
      have hsz := two_size wr.drew b (numB (N.drop 8)) ((N.drop 8).length : Nat)
      have hpl : (packB E).length + 1 ≤ 140737488355328 := by
        have h1 := packB_len HI.out.2.1
        have h2 := HI.out.2.2.1
        omega
      have HS : Hid (packB (E ++ N.take 8) = packB E ++ [UInt8.ofNat (numB (N.take 8))]) := Lib.hid (packB_snoc (E.length / 8) E _ (by have := HI.out.2.1; omega) (by rw [List.length_take]; omega))
      have HT2 : Hid (Touches (wrF b v) (wrF b u) w (twoSet wr.drew b (numB (N.drop 8)) ((N.drop 8).length : Nat))) := Lib.hid (HI.out.2.2.2.2.2.drew.two (wrF_self b u) _ _)
      obtain ⟨t, htt⟩ : ∃ t, numB (N.take 8) = t := ⟨_, rfl⟩
      obtain ⟨W2, hW2⟩ : ∃ W2, twoSet wr.drew b (numB (N.drop 8)) ((N.drop 8).length : Nat) = W2 := ⟨_, rfl⟩
      rw [htt] at Hleave ht HS
      rw [hW2] at Hleave HA2 c22 f22 hsz HT2
      have c23 : ∀ o, (W2.alloc o).cell? ⟨b, 2, none⟩ = some u := fun o => (HA2.out.1.move (heap_alloc_old _ _ _ HA2.out.1.lt)).whole
      have hu8 : IntKind.u8.wrap (t : Int) = (t : Int) := by rw [IntKind.wrap_u8]; omega
      have hbyte : (t : Int) = ((UInt8.ofNat t).toNat : Int) := by rw [UInt8.toNat_ofNat']; omega
      have Hbyte := Lib.hid hbyte
      have Hsz := Lib.hid hsz
      clear c0 htt hW2 hbyte
      go_wp2_with fail
      go_region_law (first
        | (go_simp; go_at_call 40; refine Hleave.out.mono ?_; rintro e w1 ⟨rfl, rfl⟩)
        | (refine step_append_row8 rfl (.tmp 36) (.tmp 42) rfl _ (packB E) rfl (HA2.out.2.1.move fun k hk => heap_alloc_old _ _ _ (HA2.out.2.1.lt k hk)) _ _ (UInt8.ofNat t) rfl (cells_new1_at _ Hsz.out _ _ Hbyte.out) hpl _ rfl ?_; intro v3 w3 Ho3 Hg3 Hv3 hf3; obtain ⟨g3, cap3, rfl⟩ := hf3; have HA3 := Lib.hid (HA2.out.append (D' := E ++ N.take 8) HS.out Ho3.out Hg3.out Hv3.out); have HT3 := Lib.hid (HA2.out.append_touch HT2.out Hg3.out Hv3.out); have c3 := HA3.out.1.whole; have f3 := HA3.out.1.free 2))
      all_goals
        have HA4 := Lib.hid HA3.out.done
        have HT4 := Lib.hid (HT3.out.setCell (a := ⟨b, 2, none⟩) (wrF_self b _) (.slice (some ⟨g3, 0, none⟩) ((packB E).length + 1) cap3))
        go_wp2_with fail
        go_roundg g
        case measure => omega
        case rel =>
          refine ⟨E ++ N.take 8, N.drop 8, .slice (some ⟨g3, 0, none⟩) ((packB E).length + 1) cap3, by rw [List.length_drop]; omega, by rw [List.length_drop]; omega, ?_⟩
          refine ⟨?_, ?_, ?_, fun x hx => HI.out.2.2.2.1 x (List.mem_of_mem_drop hx), HA4.out, HT4.out⟩
          · rw [HI.out.1, List.append_assoc, List.take_append_drop]
          · have h1 := HI.out.2.1
            rw [List.length_append, List.length_take]; omega
          · have h1 := HI.out.2.2.1
            have h2 := congrArg List.length HI.out.1
            rw [List.length_append, List.length_append] at h2
            rw [List.length_append, List.length_take]; omega

/-- Put, of whatever. -/
theorem wPut_is (b : Nat) (row F : List Nat) (n width : Int) (w : World) (h : WriterAt w b row F) (h2 : ∀ x ∈ row, x < 2) (hl : row.length ≤ 100000) (_h0 : -9223372036854775808 ≤ n) (_h1 : n ≤ 9223372036854775807) (_h3 : -9223372036854775808 ≤ width) (_h4 : width ≤ 9223372036854775807)
    {row' : List Nat} {e : Int} (hr : putB row n width = (row', e)) :
    Calls Try.prog 35 #[.pointer (some ⟨b, 0, none⟩), .int .i64 n, .int .i64 width] w fun en w' => en = .returned (.int .i64 e) ∧ ∃ F', WriterAt w' b row' F' ∧ Touches F F' w w' := by
  by_cases hw : width < 0 ∨ 16 < width
  · rw [putB_arg hw] at hr
    obtain ⟨rfl, rfl⟩ := Prod.mk.inj hr
    refine (wPut_arg (some ⟨b, 0, none⟩) n width w (.inr ⟨⟨_, rfl⟩, hw⟩) (e := 2) (by simp)).mono ?_
    rintro e w' ⟨rfl, rfl⟩
    exact ⟨rfl, F, h, Touches.refl _ _⟩
  · obtain ⟨k, rfl⟩ := Int.eq_ofNat_of_zero_le (show 0 ≤ width by omega)
    have hk : k ≤ 16 := by omega
    by_cases hn : n < 0 ∨ (2 : Int) ^ k ≤ n
    · rw [putB_range hk hn] at hr
      obtain ⟨rfl, rfl⟩ := Prod.mk.inj hr
      refine (wPut_range ⟨b, 0, none⟩ n k w hk hn).mono ?_
      rintro e w' ⟨rfl, rfl⟩
      exact ⟨rfl, F, h, Touches.refl _ _⟩
    · obtain ⟨m, rfl⟩ := Int.eq_ofNat_of_zero_le (show 0 ≤ n by omega)
      have hm : m < 2 ^ k := by
        have h1 := hn
        rw [pow_two_int] at h1
        omega
      rw [putB_ok hk hm] at hr
      obtain ⟨rfl, rfl⟩ := Prod.mk.inj hr
      obtain ⟨D, L, v, rfl, hD, hL, rfl, hA⟩ := h
      rw [List.append_assoc]
      exact wPut_ok b m k D L v w hk hm hA hD hL (fun x hx => h2 x (List.mem_append_right _ hx)) (by rw [List.length_append] at hl; omega)
theorem below_same (w : World) : Below w.heap.size w w := Below.refl _ _
theorem wPut_nil (n width : Int) (w : World) : Calls Try.prog 35 #[.pointer none, .int .i64 n, .int .i64 width] w fun en w' => en = .returned (.int .i64 1) ∧ Below w.heap.size w w' := by
  refine (wPut_arg none n width w (.inl rfl) (e := 1) (by simp)).mono ?_
  rintro e w' ⟨rfl, rfl⟩
  exact ⟨rfl, below_same _⟩

theorem wLen_nil (w : World) : Calls Try.prog 22 #[.pointer none] w fun en w' => en = .returned (.int .i64 0) ∧ Below w.heap.size w w' := by
  go_enter Try.func22, Try.ntmps22
  go_wp2_with fail
  go_ret
  exact ⟨rfl, below_same _⟩
theorem wText_nil (w : World) : Calls Try.prog 23 #[.pointer none] w fun en w' => en = .returned (.string ⟨#[]⟩) ∧ Below w.heap.size w w' := by
  go_enter Try.func23, Try.ntmps23
  go_wp2_with fail
  go_ret
  exact ⟨rfl, below_same _⟩

set_option maxHeartbeats 1000000 in
theorem wLen_is (b : Nat) (row F : List Nat) (w : World) (h : WriterAt w b row F) (hl : row.length ≤ 100000) :
    Calls Try.prog 22 #[.pointer (some ⟨b, 0, none⟩)] w fun en w' => en = .returned (.int .i64 (row.length : Int)) ∧ Below w.heap.size w w' := by
  obtain ⟨D, L, v, hrow, hD, hL, hF, hA⟩ := h
  have c1 := hA.1.count
  have c2 := hA.1.whole
  obtain ⟨ad, cap, hv⟩ := hA.2.1.form
  subst hv
  have hpl := packB_len hD
  have hlen : row.length = D.length + L.length := by rw [hrow, List.length_append]
  have HR : Hid (8 * ((packB D).length : Int) + (L.length : Int) = (row.length : Int)) := Lib.hid (by omega)
  have hb : (packB D).length ≤ 100000 := by omega
  clear hpl hlen hA hrow hF hD
  go_enter Try.func22, Try.ntmps22
  go_wp2_with fail
  go_region
  all_goals
    go_wp2_with fail
    go_ret
    exact ⟨ret_int HR.out, (below_same w).drew⟩

theorem bytes_both (l m : List UInt8) : bytes (l ++ m) = bytes l ++ bytes m := by
  unfold bytes
  apply ByteArray.ext
  rw [ByteArray.data_append]
  simp
theorem conv_new1 (w : World) (c : UInt8) (z : Int) (hz : z = (c.toNat : Int)) : (convert 47 9 (.slice (some ⟨w.heap.size, 0, none⟩) 1 1)).run Try.prog (w.alloc (.cells #[.int .u8 z] 5)) = .ok (.string (bytes [c])) (w.alloc (.cells #[.int .u8 z] 5)) :=
  run_convert_bytes_back (P := Try.prog) _ 47 9 5 ⟨w.heap.size, 0, none⟩ 1 [c] Try.underlying47 Try.underlying5 Try.underlying9 (fun j hj => cells_new1 w c z hz j hj)

set_option maxHeartbeats 1000000 in
theorem wText_is (b : Nat) (row F : List Nat) (w : World) (h : WriterAt w b row F) (h2 : ∀ x ∈ row, x < 2) (hl : row.length ≤ 100000) {u : ByteArray} (hu : textB row = u.data.toList) :
    Calls Try.prog 23 #[.pointer (some ⟨b, 0, none⟩)] w fun en w' => en = .returned (.string u) ∧ Below w.heap.size w w' := by
  obtain ⟨D, L, v, hrow, hD, hL, hF, hA⟩ := h
  have c0 := hA.1.held
  have c1 := hA.1.count
  have c2 := hA.1.whole
  have htx := hA.2.1.text
  have hx := numB_lt L fun x hx => h2 x (by rw [hrow]; exact List.mem_append_right _ hx)
  have hub : u = bytes (textB row) := by
    rw [hu]; rfl
  by_cases h0 : L.length = 0
  · obtain rfl : L = [] := List.eq_nil_of_length_eq_zero h0
    rw [hrow, List.append_nil, textB_none hD] at hub
    subst hub
    clear hA hF hD hrow hx hu h2
    go_enter Try.func23, Try.ntmps23
    go_wp2_with fail
    go_ret
    exact ⟨rfl, below_same _⟩
  · have ht := textB_some hD (by omega : 0 < L.length) hL
    rw [hrow, ht] at hub
    have hz : numB L < 256 := by
      have : (2 : Nat) ^ L.length ≤ 2 ^ 8 := Nat.pow_le_pow_right (by omega) (by omega)
      omega
    have hu8 : IntKind.u8.wrap (numB L : Int) = (numB L : Int) := by rw [IntKind.wrap_u8]; omega
    have hpos : 0 < (L.length : Int) := by omega
    have Hub : Hid (bytes (packB D) ++ bytes [UInt8.ofNat (numB L)] = u) := Lib.hid (by rw [hub, bytes_both])
    obtain ⟨z, hzz⟩ : ∃ z, numB L = z := ⟨_, rfl⟩
    rw [hzz] at hu8 hz c0 Hub
    have hcv := conv_new1 w (UInt8.ofNat z) (z : Int) (by rw [UInt8.toNat_ofNat']; omega)
    have hs1 : (bytes (packB D)).size ≤ 100000 := by
      have h3 := packB_len hD
      rw [hrow, List.length_append] at hl
      rw [bytes_size]; omega
    have hs2 : (bytes [UInt8.ofNat z]).size = 1 := rfl
    obtain ⟨B1, hB1⟩ : ∃ B1, bytes (packB D) = B1 := ⟨_, rfl⟩
    obtain ⟨B2, hB2⟩ : ∃ B2, bytes [UInt8.ofNat z] = B2 := ⟨_, rfl⟩
    rw [hB1] at htx Hub hs1
    rw [hB2] at hcv Hub hs2
    clear hA hF hD hrow hx hu h2 hub ht hzz hB1 hB2
    go_enter Try.func23, Try.ntmps23
    go_wp2_with fail
    go_ret
    exact ⟨by rw [← Hub.out]; rfl, (below_same w).alloc (Nat.le_refl _) _⟩

end Go.Proofs.Ytahanllbaclokaa
