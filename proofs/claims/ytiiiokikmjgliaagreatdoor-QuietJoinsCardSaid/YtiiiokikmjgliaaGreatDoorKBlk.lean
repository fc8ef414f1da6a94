/-
  SqWriter, SqTree, SqCodes, InfTab, SqTab, SqBlock: texts merged.
-/
import Derived.Test.YtiiiokikmjgliaaGreatDoorKHeld
import Derived.Deep.RegionHeld3
import Derived.Deep.LoopGhost
import Derived.Test.YtiiiokikmjgliaaGreatDoorKCode
import Derived.Test.YtiiiokikmjgliaaGreatDoorKPlain
import Derived.Test.YtiiiokikmjgliaaGreatDoorRows
import Derived.Test.YtiiiokikmjgliaaGreatDoorKRows
import Derived.Lib.LaidTab
import Derived.LaidLaws
import Derived.OpenShut
import Derived.Stop.LaidErr
import Derived.Below
/-
  The contracts of bitrow's Writer, the first field of a block: Put, Text.
-/
namespace Go.Proofs.YtiiiokikmjgliaaGreatDoor
section
set_option maxRecDepth 100000
open Go.RowKit
def WrCell (pS pD : Value) (w : World) (b : Nat) (L : List Nat) (v : Value) : Prop := w.heap[b]? = some (.cells #[.int .i64 (numB L : Int), .int .i64 (L.length : Int), v, pS, pD] 160 (0, 0))
theorem WrCell.held {pS pD : Value} {w : World} {b : Nat} {L : List Nat} {v : Value} (h : WrCell pS pD w b L v) : w.cell? ⟨b, 0, none⟩ = some (.int .i64 (numB L : Int)) := by rw [cell_of_row _ _ _ _ _ _ h]; rfl
theorem WrCell.count {pS pD : Value} {w : World} {b : Nat} {L : List Nat} {v : Value} (h : WrCell pS pD w b L v) : w.cell? ⟨b, 1, none⟩ = some (.int .i64 (L.length : Int)) := by rw [cell_of_row _ _ _ _ _ _ h]; rfl
theorem WrCell.whole {pS pD : Value} {w : World} {b : Nat} {L : List Nat} {v : Value} (h : WrCell pS pD w b L v) : w.cell? ⟨b, 2, none⟩ = some v := by rw [cell_of_row _ _ _ _ _ _ h]; rfl
theorem WrCell.free {pS pD : Value} {w : World} {b : Nat} {L : List Nat} {v : Value} (h : WrCell pS pD w b L v) (j : Nat) : w.frozen? ⟨b, j, none⟩ = false := frozen_of_row _ _ _ _ _ h
theorem WrCell.lt {pS pD : Value} {w : World} {b : Nat} {L : List Nat} {v : Value} (h : WrCell pS pD w b L v) : b < w.heap.size := by
  rcases Nat.lt_or_ge b w.heap.size with h' | h'
  · exact h'
  · unfold WrCell at h; rw [Array.getElem?_eq_none h'] at h; cases h
theorem WrCell.two {pS pD : Value} {w : World} {b : Nat} {L : List Nat} {v : Value} (h : WrCell pS pD w b L v) (L' : List Nat) : WrCell pS pD (twoSet w b (numB L') (L'.length : Nat)) b L' v := by
  have h1 := heap_setCell_same _ _ 0 _ _ (.int .i64 (numB L' : Int)) h
  exact heap_setCell_same _ _ 1 _ _ (.int .i64 (L'.length : Int)) h1
theorem WrCell.put {pS pD : Value} {w : World} {b : Nat} {L : List Nat} {v : Value} (h : WrCell pS pD w b L v) (v' : Value) : WrCell pS pD (w.setCell ⟨b, 2, none⟩ v') b L v' := heap_setCell_same _ _ 2 _ _ v' h
theorem WrCell.move {pS pD : Value} {w w' : World} {b : Nat} {L : List Nat} {v : Value} (h : WrCell pS pD w b L v) (hk : w'.heap[b]? = w.heap[b]?) : WrCell pS pD w' b L v := hk.trans h
def WrAt (pS pD : Value) (w : World) (b : Nat) (D L : List Nat) (v : Value) : Prop := WrCell pS pD w b L v ∧ Row8 w v (packB D) ∧ ∀ k, v.ownBlock = some k → k ≠ b
def wrF (b : Nat) (v : Value) : List Nat := b :: v.ownBlock.toList
theorem wrF_self (b : Nat) (v : Value) : b ∈ wrF b v := by simp [wrF]
theorem wrF_own {b k : Nat} {v : Value} (h : v.ownBlock = some k) : k ∈ wrF b v := by simp [wrF, h]
theorem wrF_mem {b k : Nat} {v : Value} (h : k ∈ wrF b v) : k = b ∨ v.ownBlock = some k := by simpa [wrF] using h
theorem WrAt.two {pS pD : Value} {w : World} {b : Nat} {D L : List Nat} {v : Value} (h : WrAt pS pD w b D L v) (L' : List Nat) : WrAt pS pD (twoSet w b (numB L') (L'.length : Nat)) b D L' v :=
  ⟨h.1.two L', h.2.1.move fun k hk => two_block _ _ _ _ k (h.2.2 k hk), h.2.2⟩
theorem WrAt.move {pS pD : Value} {w w' : World} {b : Nat} {D L : List Nat} {v : Value} (h : WrAt pS pD w b D L v) (hk : ∀ k ∈ wrF b v, w'.heap[k]? = w.heap[k]?) : WrAt pS pD w' b D L v :=
  ⟨h.1.move (hk b (wrF_self b v)), h.2.1.move fun k e => hk k (wrF_own e), h.2.2⟩
theorem WrAt.lt {pS pD : Value} {w : World} {b : Nat} {D L : List Nat} {v : Value} (h : WrAt pS pD w b D L v) : ∀ k ∈ wrF b v, k < w.heap.size := fun k hk => by
  rcases wrF_mem hk with rfl | h1
  · exact h.1.lt
  · exact h.2.1.lt k h1
def WriterAt (pS pD : Value) (w : World) (b : Nat) (row F : List Nat) : Prop := ∃ D L v, row = D ++ L ∧ D.length % 8 = 0 ∧ L.length < 8 ∧ F = wrF b v ∧ WrAt pS pD w b D L v
theorem WriterAt.lt {pS pD : Value} {w : World} {b : Nat} {row F : List Nat} (h : WriterAt pS pD w b row F) : ∀ k ∈ F, k < w.heap.size := by
  obtain ⟨D, L, v, _, _, _, rfl, h⟩ := h
  exact h.lt
theorem WriterAt.move {pS pD : Value} {w w' : World} {b : Nat} {row F : List Nat} (h : WriterAt pS pD w b row F) (_ : w.heap.size ≤ w'.heap.size) (hk : ∀ k ∈ F, w'.heap[k]? = w.heap[k]?) : WriterAt pS pD w' b row F := by
  obtain ⟨D, L, v, h1, h2, h3, rfl, h⟩ := h
  exact ⟨D, L, v, h1, h2, h3, rfl, h.move hk⟩
set_option maxHeartbeats 1000000 in
theorem wPut_arg (p : Option Addr) (n width : Int) (w : World) (hp : p = none ∨ ((∃ b, p = some b) ∧ (width < 0 ∨ 16 < width))) {e : Int} (he : e = if p = none then 1 else 2) :
    Calls Tryz.prog 150 #[.pointer p, .int .i64 n, .int .i64 width] w fun en w' => en = .returned (.int .i64 e) ∧ w = w' := by
  rcases hp with rfl | ⟨⟨b, rfl⟩, hw⟩
  · obtain rfl : e = 1 := by simpa using he
    clear he
    go_enter Tryz.func150, Tryz.ntmps150
    go_wp2_with fail
    go_ret
    exact ⟨rfl, rfl⟩
  · obtain rfl : e = 2 := by simpa using he
    have Hw := Lib.hid (fun W => isWidth_is width W (b := false) (by simp; omega))
    clear he hw
    go_enter Tryz.func150, Tryz.ntmps150
    go_wp2_with fail
    refine (Hw.out _).mono ?_
    rintro e w1 ⟨rfl, rfl⟩
    go_wp2_with fail
    go_ret
    exact ⟨rfl, rfl⟩
set_option maxHeartbeats 1000000 in
theorem wPut_range (b : Addr) (n : Int) (v : Nat) (w : World) (hv : v ≤ 16) (hn : n < 0 ∨ (2 : Int) ^ v ≤ n) :
    Calls Tryz.prog 150 #[.pointer (some b), .int .i64 n, .int .i64 (v : Int)] w fun en w' => en = .returned (.int .i64 3) ∧ w = w' := by
  have Hw := Lib.hid (fun W => isWidth_is (v : Int) W (b := true) (by simp; omega))
  by_cases h0 : n < 0
  · clear hn
    go_enter Tryz.func150, Tryz.ntmps150
    go_wp2_with fail
    refine (Hw.out _).mono ?_
    rintro e w1 ⟨rfl, rfl⟩
    go_wp2_with fail
    go_ret
    exact ⟨rfl, rfl⟩
  · have h1 : (2 : Int) ^ v ≤ n := by omega
    clear hn
    rw [pow_two_int] at h1
    have hpk := pow_two_int v
    have hp2 : (2 : Nat) ^ v ≤ 2 ^ 16 := Nat.pow_le_pow_right (by omega) hv
    obtain ⟨p, hp⟩ : ∃ p, 2 ^ v = p := ⟨_, rfl⟩
    rw [hp] at h1 hp2 hpk
    clear hp
    go_enter Tryz.func150, Tryz.ntmps150
    go_wp2_with fail
    refine (Hw.out _).mono ?_
    rintro e w1 ⟨rfl, rfl⟩
    go_wp2_with fail
    go_ret
    exact ⟨rfl, rfl⟩
theorem leave8_is (b : Nat) (L : List Nat) (w : World) (h2 : ∀ b ∈ L, b < 2) (hl : L.length ≤ 31) (hkl : 8 ≤ L.length) (h0 : w.cell? ⟨b, 0, none⟩ = some (.int .i64 (numB L : Int))) (h1 : w.cell? ⟨b, 1, none⟩ = some (.int .i64 (L.length : Int)))
   (hf : w.frozen? ⟨b, 0, none⟩ = false) (hf1 : w.frozen? ⟨b, 1, none⟩ = false) :
    Calls Tryz.prog 163 #[.pointer (some ⟨b, 0, none⟩), .int .i64 8] w fun e w' => e = .returned (.int .i64 (numB (L.take 8) : Int)) ∧ w' = twoSet w b (numB (L.drop 8)) ((L.drop 8).length : Nat) :=
  leave_is b L 8 w h2 hl (by decide) hkl h0 h1 hf hf1
theorem heap_alloc_old (w : World) (o : Obj) (k : Nat) (h : k < w.heap.size) : (w.alloc o).heap[k]? = w.heap[k]? := Below.heap_alloc w o k h
def WrNext (pS pD : Value) (w : World) (b : Nat) (D L : List Nat) (v v' : Value) : Prop := WrCell pS pD w b L v ∧ Row8 w v' (packB D) ∧ ∀ k, v'.ownBlock = some k → k ≠ b
theorem WrAt.append {pS pD : Value} {w w' : World} {b : Nat} {D D' L : List Nat} {v v' : Value} {o : Obj} {x : UInt8} (h : WrAt pS pD w b D L v) (hD : packB D' = packB D ++ [x]) (hr : Row8 w' v' (packB D ++ [x])) (hg : (w.alloc o).grownBy w' v.ownBlock) (hv : ∀ k, v'.ownBlock = some k → v.ownBlock = some k ∨ k = (w.alloc o).heap.size) : WrNext pS pD w' b D' L v v' := by
  have hlt := h.1.lt
  have hs : (w.alloc o).heap.size = w.heap.size + 1 := by simp
  refine ⟨h.1.move ((hg.block b (by omega) fun e => h.2.2 b e.symm rfl).trans (heap_alloc_old _ _ _ hlt)), by rw [hD]; exact hr, fun k hk => ?_⟩
  rcases hv k hk with h1 | h1
  · exact h.2.2 k h1
  · omega
theorem WrAt.append_touch {pS pD : Value} {w0 w w' : World} {F : List Nat} {b : Nat} {D L : List Nat} {v v' : Value} {o : Obj} (h : WrAt pS pD w b D L v) (ht : Touches F (wrF b v) w0 w) (hg : (w.alloc o).grownBy w' v.ownBlock) (hv : ∀ k, v'.ownBlock = some k → v.ownBlock = some k ∨ k = (w.alloc o).heap.size) : Touches F (wrF b v') w0 w' := by
  refine (ht.alloc o).grown hg (fun k e => wrF_own e) fun k hk => ?_
  rcases wrF_mem hk with rfl | h1
  · exact .inl (wrF_self _ _)
  · rcases hv k h1 with h2 | h2
    · exact .inl (wrF_own h2)
    · exact .inr (by omega)
theorem WrNext.done {pS pD : Value} {w : World} {b : Nat} {D L : List Nat} {v v' : Value} (h : WrNext pS pD w b D L v v') : WrAt pS pD (w.setCell ⟨b, 2, none⟩ v') b D L v' :=
  ⟨h.1.put v', h.2.1.move fun k hk => Below.heap_setCell _ _ _ k (h.2.2 k hk), h.2.2⟩
theorem cells_new1_at (W : World) {g : Nat} (hg : W.heap.size = g) (c : UInt8) (z : Int) (hz : z = (c.toNat : Int)) : ∀ j (h : j < [c].length), (W.alloc (.cells #[.int .u8 z] 5)).cell? ((⟨g, 0, none⟩ : Addr).add j) = some (.int .u8 ([c][j].toNat : Int)) := by
  subst hg; exact cells_new1 W c z hz
set_option maxHeartbeats 2000000 in
theorem wPut_ok (pS pD : Value) (b n k : Nat) (D L : List Nat) (v : Value) (w : World) (hk : k ≤ 16) (hn : n < 2 ^ k) (h : WrAt pS pD w b D L v) (hD : D.length % 8 = 0) (hL : L.length < 8) (h2 : ∀ x ∈ L, x < 2) (hl : D.length ≤ 1000000) :
    Calls Tryz.prog 150 #[.pointer (some ⟨b, 0, none⟩), .int .i64 (n : Int), .int .i64 (k : Int)] w fun en w' => en = .returned (.int .i64 0) ∧ ∃ F', WriterAt pS pD w' b (D ++ (L ++ bitsN k n)) F' ∧ Touches (wrF b v) F' w w' := by
  have Hw := Lib.hid (fun W => isWidth_is (k : Int) W (b := true) (by simp; omega))
  have Hcome := Lib.hid (come_is b L n k w h2 (by omega) hn hk h.1.held h.1.count (h.1.free 0) (h.1.free 1))
  have HA := Lib.hid h
  have hpk := pow_two_int k
  have hp2 : (2 : Nat) ^ k ≤ 2 ^ 16 := Nat.pow_le_pow_right (by omega) hk
  have Hb2 : Hid (∀ x ∈ L ++ bitsN k n, x < 2) := Lib.hid fun x hx => by
    rcases List.mem_append.1 hx with hx | hx
    · exact h2 x hx
    · exact bitsN_two _ _ x hx
  have hlen : (L ++ bitsN k n).length ≤ 23 := by rw [List.length_append, bitsN_length]; omega
  obtain ⟨M, hM⟩ : ∃ M, L ++ bitsN k n = M := ⟨_, rfl⟩
  rw [hM] at Hcome Hb2 hlen ⊢
  obtain ⟨p, hp⟩ : ∃ p, 2 ^ k = p := ⟨_, rfl⟩
  rw [hp] at hpk hp2 hn
  clear hM h h2 hp
  go_enter Tryz.func150, Tryz.ntmps150
  go_wp2_with fail
  refine (Hw.out _).mono ?_
  rintro e w1 ⟨rfl, rfl⟩
  go_wp2_with fail
  refine Hcome.out.mono ?_
  rintro e w1 ⟨rfl, rfl⟩
  have HA1 := Lib.hid (HA.out.two M)
  have HT1 := Lib.hid ((Touches.refl (wrF b v) w).two (wrF_self b v) (numB M) (M.length : Nat))
  go_wp2_with fail
  go_loopg [] (M.length / 8) (fun g wx => ∃ (E N : List Nat) (u : Value), N.length / 8 = g ∧ N.length ≤ 23 ∧ Aside (D ++ M = E ++ N ∧ E.length % 8 = 0 ∧ E.length ≤ 1000000 + 23 ∧ (∀ x ∈ N, x < 2) ∧ WrAt pS pD wx b E N u ∧ Touches (wrF b v) (wrF b u) w wx))
  case atStart => exact ⟨D, M, v, rfl, hlen, rfl, hD, by omega, Hb2.out, HA1.out, HT1.out⟩
  case round =>
    obtain ⟨E, N, u, hg, hN, HI⟩ := hrel
    have c1 := HI.out.2.2.2.2.1.1.count
    cases gk with
    | zero =>
      have hN8 : N.length < 8 := by omega
      go_wp2_with fail
      go_ret
      exact ⟨rfl, wrF b u, ⟨E, N, u, HI.out.1, HI.out.2.1, hN8, rfl, HI.out.2.2.2.2.1⟩, HI.out.2.2.2.2.2⟩
    | succ g =>
      have hN8 : 8 ≤ N.length := by omega
      have c0 := HI.out.2.2.2.2.1.1.held
      have c2 := HI.out.2.2.2.2.1.1.whole
      have f2 := HI.out.2.2.2.2.1.1.free 2
      have Hleave := Lib.hid (leave8_is b N wr.drew HI.out.2.2.2.1 (by omega) hN8 c0 c1 (HI.out.2.2.2.2.1.1.free 0) (HI.out.2.2.2.2.1.1.free 1))
      have HA2 : Hid (WrAt pS pD (twoSet wr.drew b (numB (N.drop 8)) ((N.drop 8).length : Nat)) b E (N.drop 8) u) := Lib.hid (WrAt.two (w := wr.drew) HI.out.2.2.2.2.1 (N.drop 8))
      have c22 := HA2.out.1.whole
      have f22 := HA2.out.1.free 2
      have ht : numB (N.take 8) < 256 := by
        have h1 := numB_lt (N.take 8) fun x hx => HI.out.2.2.2.1 x (List.mem_of_mem_take hx)
        rw [List.length_take, Nat.min_eq_left hN8] at h1
        exact h1
      have hsz := two_size wr.drew b (numB (N.drop 8)) ((N.drop 8).length : Nat)
      have hpl : (packB E).length + 1 ≤ 140737488355328 := by
        have h1 := packB_len HI.out.2.1
        have h2 := HI.out.2.2.1
        omega
      have HS : Hid (packB (E ++ N.take 8) = packB E ++ [UInt8.ofNat (numB (N.take 8))]) := Lib.hid (packB_snoc (E.length / 8) E _ (by have := HI.out.2.1; omega) (by rw [List.length_take]; omega))
      have HT2 : Hid (Touches (wrF b v) (wrF b u) w (twoSet wr.drew b (numB (N.drop 8)) ((N.drop 8).length : Nat))) := Lib.hid (HI.out.2.2.2.2.2.drew.two (wrF_self b u) _ _)
      obtain ⟨t, htt⟩ : ∃ t, numB (N.take 8) = t := ⟨_, rfl⟩
      obtain ⟨W2, hW2⟩ : ∃ W2, twoSet wr.drew b (numB (N.drop 8)) ((N.drop 8).length : Nat) = W2 := ⟨_, rfl⟩
      rw [htt] at Hleave ht HS
      rw [hW2] at Hleave HA2 c22 f22 hsz HT2
      have c23 : ∀ o, (W2.alloc o).cell? ⟨b, 2, none⟩ = some u := fun o => (HA2.out.1.move (heap_alloc_old _ _ _ HA2.out.1.lt)).whole
      have hu8 : IntKind.u8.wrap (t : Int) = (t : Int) := by rw [IntKind.wrap_u8]; omega
      have hbyte : (t : Int) = ((UInt8.ofNat t).toNat : Int) := by rw [UInt8.toNat_ofNat']; omega
      have Hbyte := Lib.hid hbyte
      have Hsz := Lib.hid hsz
      clear c0 htt hW2 hbyte
      go_wp2_with fail
      go_region_law (first
        | (go_simp; go_at_call 163; refine Hleave.out.mono ?_; rintro e w1 ⟨rfl, rfl⟩)
        | (refine step_append_row8 rfl (.tmp 36) (.tmp 42) rfl _ (packB E) rfl (HA2.out.2.1.move fun k hk => heap_alloc_old _ _ _ (HA2.out.2.1.lt k hk)) _ _ (UInt8.ofNat t) rfl (cells_new1_at _ Hsz.out _ _ Hbyte.out) hpl _ rfl ?_; intro v3 w3 Ho3 Hg3 Hv3 hf3; obtain ⟨g3, cap3, rfl⟩ := hf3; have HA3 := Lib.hid (HA2.out.append (D' := E ++ N.take 8) HS.out Ho3.out Hg3.out Hv3.out); have HT3 := Lib.hid (HA2.out.append_touch HT2.out Hg3.out Hv3.out); have c3 := HA3.out.1.whole; have f3 := HA3.out.1.free 2))
      all_goals
        have HA4 := Lib.hid HA3.out.done
        have HT4 := Lib.hid (HT3.out.setCell (a := ⟨b, 2, none⟩) (wrF_self b _) (.slice (some ⟨g3, 0, none⟩) ((packB E).length + 1) cap3))
        go_wp2_with fail
        go_roundg g
        case measure => omega
        case rel =>
          refine ⟨E ++ N.take 8, N.drop 8, .slice (some ⟨g3, 0, none⟩) ((packB E).length + 1) cap3, by rw [List.length_drop]; omega, by rw [List.length_drop]; omega, ?_⟩
          refine ⟨?_, ?_, ?_, fun x hx => HI.out.2.2.2.1 x (List.mem_of_mem_drop hx), HA4.out, HT4.out⟩
          · rw [HI.out.1, List.append_assoc, List.take_append_drop]
          · have h1 := HI.out.2.1
            rw [List.length_append, List.length_take]; omega
          · have h1 := HI.out.2.2.1
            have h2 := congrArg List.length HI.out.1
            rw [List.length_append, List.length_append] at h2
            rw [List.length_append, List.length_take]; omega
theorem wPut_is (pS pD : Value) (b : Nat) (row F : List Nat) (n width : Int) (w : World) (h : WriterAt pS pD w b row F) (h2 : ∀ x ∈ row, x < 2) (hl : row.length ≤ 1000000) (_h0 : -9223372036854775808 ≤ n) (_h1 : n ≤ 9223372036854775807) (_h3 : -9223372036854775808 ≤ width) (_h4 : width ≤ 9223372036854775807)
    {row' : List Nat} {e : Int} (hr : putB row n width = (row', e)) :
    Calls Tryz.prog 150 #[.pointer (some ⟨b, 0, none⟩), .int .i64 n, .int .i64 width] w fun en w' => en = .returned (.int .i64 e) ∧ ∃ F', WriterAt pS pD w' b row' F' ∧ Touches F F' w w' := by
  by_cases hw : width < 0 ∨ 16 < width
  · rw [putB_arg hw] at hr
    obtain ⟨rfl, rfl⟩ := Prod.mk.inj hr
    refine (wPut_arg (some ⟨b, 0, none⟩) n width w (.inr ⟨⟨_, rfl⟩, hw⟩) (e := 2) (by simp)).mono ?_
    rintro e w' ⟨rfl, rfl⟩
    exact ⟨rfl, F, h, Touches.refl _ _⟩
  · obtain ⟨k, rfl⟩ := Int.eq_ofNat_of_zero_le (show 0 ≤ width by omega)
    have hk : k ≤ 16 := by omega
    by_cases hn : n < 0 ∨ (2 : Int) ^ k ≤ n
    · rw [putB_range hk hn] at hr
      obtain ⟨rfl, rfl⟩ := Prod.mk.inj hr
      refine (wPut_range ⟨b, 0, none⟩ n k w hk hn).mono ?_
      rintro e w' ⟨rfl, rfl⟩
      exact ⟨rfl, F, h, Touches.refl _ _⟩
    · obtain ⟨m, rfl⟩ := Int.eq_ofNat_of_zero_le (show 0 ≤ n by omega)
      have hm : m < 2 ^ k := by
        have h1 := hn
        rw [pow_two_int] at h1
        omega
      rw [putB_ok hk hm] at hr
      obtain ⟨rfl, rfl⟩ := Prod.mk.inj hr
      obtain ⟨D, L, v, rfl, hD, hL, rfl, hA⟩ := h
      rw [List.append_assoc]
      exact wPut_ok pS pD b m k D L v w hk hm hA hD hL (fun x hx => h2 x (List.mem_append_right _ hx)) (by rw [List.length_append] at hl; omega)
theorem bytes_both (l m : List UInt8) : bytes (l ++ m) = bytes l ++ bytes m := by
  unfold bytes
  apply ByteArray.ext
  rw [ByteArray.data_append]
  simp
theorem conv_new1 (w : World) (c : UInt8) (z : Int) (hz : z = (c.toNat : Int)) : (convert 64 9 (.slice (some ⟨w.heap.size, 0, none⟩) 1 1)).run Tryz.prog (w.alloc (.cells #[.int .u8 z] 5)) = .ok (.string (bytes [c])) (w.alloc (.cells #[.int .u8 z] 5)) :=
  run_convert_bytes_back (P := Tryz.prog) _ 64 9 5 ⟨w.heap.size, 0, none⟩ 1 [c] Tryz.underlying64 Tryz.underlying5 Tryz.underlying9 (fun j hj => cells_new1 w c z hz j hj)
set_option maxHeartbeats 1000000 in
theorem wText_is (pS pD : Value) (b : Nat) (row F : List Nat) (w : World) (h : WriterAt pS pD w b row F) (h2 : ∀ x ∈ row, x < 2) (hl : row.length ≤ 1000000) {u : ByteArray} (hu : textB row = u.data.toList) :
    Calls Tryz.prog 139 #[.pointer (some ⟨b, 0, none⟩)] w fun en w' => en = .returned (.string u) ∧ Below w.heap.size w w' := by
  obtain ⟨D, L, v, hrow, hD, hL, hF, hA⟩ := h
  have c0 := hA.1.held
  have c1 := hA.1.count
  have c2 := hA.1.whole
  have htx := hA.2.1.text
  have hx := numB_lt L fun x hx => h2 x (by rw [hrow]; exact List.mem_append_right _ hx)
  have hub : u = bytes (textB row) := by
    rw [hu]; rfl
  by_cases h0 : L.length = 0
  · obtain rfl : L = [] := List.eq_nil_of_length_eq_zero h0
    rw [hrow, List.append_nil, textB_none hD] at hub
    subst hub
    clear hA hF hD hrow hx hu h2
    go_enter Tryz.func139, Tryz.ntmps139
    go_wp2_with fail
    go_ret
    exact ⟨rfl, below_same _⟩
  · have ht := textB_some hD (by omega : 0 < L.length) hL
    rw [hrow, ht] at hub
    have hz : numB L < 256 := by
      have : (2 : Nat) ^ L.length ≤ 2 ^ 8 := Nat.pow_le_pow_right (by omega) (by omega)
      omega
    have hu8 : IntKind.u8.wrap (numB L : Int) = (numB L : Int) := by rw [IntKind.wrap_u8]; omega
    have hpos : 0 < (L.length : Int) := by omega
    have Hub : Hid (bytes (packB D) ++ bytes [UInt8.ofNat (numB L)] = u) := Lib.hid (by rw [hub, bytes_both])
    obtain ⟨z, hzz⟩ : ∃ z, numB L = z := ⟨_, rfl⟩
    rw [hzz] at hu8 hz c0 Hub
    have hcv := conv_new1 w (UInt8.ofNat z) (z : Int) (by rw [UInt8.toNat_ofNat']; omega)
    have hs1 : (bytes (packB D)).size ≤ 1000000 := by
      have h3 := packB_len hD
      rw [hrow, List.length_append] at hl
      rw [bytes_size]; omega
    have hs2 : (bytes [UInt8.ofNat z]).size = 1 := rfl
    obtain ⟨B1, hB1⟩ : ∃ B1, bytes (packB D) = B1 := ⟨_, rfl⟩
    obtain ⟨B2, hB2⟩ : ∃ B2, bytes [UInt8.ofNat z] = B2 := ⟨_, rfl⟩
    rw [hB1] at htx Hub hs1
    rw [hB2] at hcv Hub hs2
    clear hA hF hD hrow hx hu h2 hub ht hzz hB1 hB2
    go_enter Tryz.func139, Tryz.ntmps139
    go_wp2_with fail
    go_ret
    exact ⟨by rw [← Hub.out]; rfl, (below_same w).alloc (Nat.le_refl _) _⟩
theorem WriterAt.later {pS pD : Value} {w w' : World} {b : Nat} {row F : List Nat} (h : WriterAt pS pD w b row F) (hb : Below w.heap.size w w') : WriterAt pS pD w' b row F := h.move hb.size fun k hk => hb.block k (h.lt k hk)
end
end Go.Proofs.YtiiiokikmjgliaaGreatDoor
/-
  The contract of a tree's Write, into a block.
-/
namespace Go.Proofs.YtiiiokikmjgliaaGreatDoor
section
open Go.RowKit
def writeC (ls : List Int) (row : List Nat) (k : Int) : List Nat × Int :=
  if 0 ≤ k ∧ 0 < ls[k.toNat]?.getD 0 then (row ++ codeBits (ls[k.toNat]?.getD 0).toNat (codeAt (natsOf ls) k.toNat), 0) else (row, 12)
set_option maxHeartbeats 1000000 in
theorem tWrite_is (pS pD : Value) (t : Nat) (ls : List Int) (T : List Nat) (b : Nat) (row F : List Nat) (k : Int) (w : World) (hr : refusedZ ls = 0) (ht : TreeAt w t ls T) (h : WriterAt pS pD w b row F) (h2 : ∀ x ∈ row, x < 2) (hl : row.length ≤ 900000) (_hd : ∀ k ∈ T, k ∉ F) (_h0 : -9223372036854775808 ≤ k) (_h1 : k ≤ 9223372036854775807)
    {row' : List Nat} {e : Int} (he : writeC ls row k = (row', e)) :
    Calls Tryz.prog 154 #[.pointer (some ⟨t, 0, none⟩), .pointer (some ⟨b, 0, none⟩), .int .i64 k] w fun en w' => en = .returned (.int .i64 e) ∧ ∃ F', WriterAt pS pD w' b row' F' ∧ Touches F F' w w' := by
  obtain ⟨hlen, hall, hkr⟩ := refusedZ_zero hr
  obtain ⟨vl, gt, ct, go, co, L, ords, rfl, hT, _, _⟩ := ht
  obtain ⟨al, cl, rfl, hnl⟩ := hT.2.1.form
  have H := Lib.hid h
  have H2 := Lib.hid h2
  have HT := Lib.hid hT
  have c0 := hT.1.lengths
  have c1 := hT.1.turned
  clear h h2 hr hkr hT
  unfold writeC at he
  by_cases hk0 : k < 0
  · rw [if_neg (by omega)] at he
    obtain ⟨rfl, rfl⟩ := Prod.mk.inj he
    clear he
    go_enter Tryz.func154, Tryz.ntmps154
    go_wp2_with fail
    go_ret
    exact ⟨rfl, F, H.out, Touches.refl _ _⟩
  · obtain ⟨n, rfl⟩ := Int.eq_ofNat_of_zero_le (show 0 ≤ k by omega)
    rw [Int.toNat_natCast] at he
    by_cases hn : n < ls.length
    · have hnz : ¬ (ls.length : Int) ≤ (n : Int) := by omega
      have hnz2 : (n : Int) < (ls.length : Int) := by omega
      obtain ⟨b1, o1, rfl, hc1⟩ := hnl.at n hn
      obtain ⟨v, hv⟩ : ∃ v, ls[n]?.getD 0 = v := ⟨_, rfl⟩
      have hnat := natsOf_at hn
      rw [hv] at hc1 he hnat
      have hv0 : 0 ≤ v ∧ v ≤ 15 := by
        have h1 := hv
        rw [List.getElem?_eq_getElem hn] at h1
        simp only [Option.getD_some] at h1
        have := hall _ (List.getElem_mem hn)
        rwa [h1] at this
      obtain ⟨l, rfl⟩ := Int.eq_ofNat_of_zero_le hv0.1
      rw [Int.toNat_natCast] at he hnat
      have hl15 : l ≤ 15 := by omega
      clear hv hv0
      by_cases hl0 : l = 0
      · subst hl0
        rw [if_neg (by omega)] at he
        obtain ⟨rfl, rfl⟩ := Prod.mk.inj he
        clear he
        go_enter Tryz.func154, Tryz.ntmps154
        go_wp2_with fail
        go_ret
        exact ⟨rfl, F, H.out, Touches.refl _ _⟩
      · rw [if_pos ⟨by omega, by omega⟩] at he
        obtain ⟨rfl, rfl⟩ := Prod.mk.inj he
        have hlz : ((l : Int) == 0) = false := by rw [beq_eq_false_iff_ne]; omega
        have hnn : n < (natsOf ls).length := by rw [natsOf_length]; exact hn
        have hta : turnAt (natsOf ls) ls.length n = revN l (codeAt (natsOf ls) n) := by unfold turnAt; rw [if_pos hn, hnat]
        have hc2 := HT.out.2.2.1.cell (turnN_at (j := ls.length) hnn)
        rw [hta] at hc2
        have hrl := revN_lt l (codeAt (natsOf ls) n)
        have hput : putB row ((revN l (codeAt (natsOf ls) n) : Nat) : Int) (l : Int) = (row ++ codeBits l (codeAt (natsOf ls) n), 0) := by rw [putB_ok (by omega) hrl, bits_revN]
        have hpw : (2 : Nat) ^ l ≤ 2 ^ 15 := Nat.pow_le_pow_right (by omega) hl15
        obtain ⟨row', hrow⟩ : ∃ row', row ++ codeBits l (codeAt (natsOf ls) n) = row' := ⟨_, rfl⟩
        obtain ⟨x, hx⟩ : ∃ x, revN l (codeAt (natsOf ls) n) = x := ⟨_, rfl⟩
        rw [hrow, hx] at hput
        rw [hx] at hc2 hrl
        rw [hrow]
        have hx15 : x ≤ 32768 := by omega
        have Hcall := Lib.hid (wPut_is pS pD b row F (x : Int) (l : Int) w.drew H.out H2.out (by omega) (by omega) (by omega) (by omega) (by omega) hput)
        clear he hta hnat hput hrl hpw hrow hx hall hnl
        go_enter Tryz.func154, Tryz.ntmps154
        go_wp2_with fail
        go_region_with (go_at_call 150; refine Hcall.out.mono ?_; rintro e w1 ⟨rfl, F1, hw, ht⟩)
        all_goals
          have HW := Lib.hid hw
          have HTo := Lib.hid ht
          clear hw ht
          go_wp2_with fail
          go_ret
          exact ⟨rfl, F1, HW.out, HTo.out⟩
    · have hnz : (ls.length : Int) ≤ (n : Int) := by omega
      rw [if_neg (by rw [List.getElem?_eq_none (by omega)]; simp)] at he
      obtain ⟨rfl, rfl⟩ := Prod.mk.inj he
      clear he
      go_enter Tryz.func154, Tryz.ntmps154
      go_wp2_with fail
      go_ret
      exact ⟨rfl, F, H.out, Touches.refl _ _⟩
end
end Go.Proofs.YtiiiokikmjgliaaGreatDoor
/-
  The fixed codes, written.
-/
namespace Go.Proofs.YtiiiokikmjgliaaGreatDoor
section
open Go.RowKit
set_option maxRecDepth 100000
theorem natsOf_intsOf (ns : List Nat) : natsOf (intsOf ns) = ns := by
  unfold natsOf intsOf
  rw [List.map_map]
  conv => rhs; rw [← List.map_id ns]
  exact List.map_congr_left fun n _ => by simp
theorem fixed_refused : refusedZ (intsOf fixedLit) = 0 ∧ refusedZ (intsOf fixedDist) = 0 := by decide +kernel
theorem writeC_of {ns : List Nat} {k n : Nat} (row : List Nat) (hn : ns[k]? = some n) (h0 : 0 < n) : writeC (intsOf ns) row (k : Int) = (row ++ codeBits n (codeAt ns k), 0) := by
  have h1 : (intsOf ns)[k]? = some (n : Int) := by
    unfold intsOf
    rw [List.getElem?_map, hn]; rfl
  unfold writeC
  rw [Int.toNat_natCast, h1, natsOf_intsOf]
  simp only [Option.getD_some]
  rw [if_pos ⟨by omega, by omega⟩, Int.toNat_natCast]
theorem fixedLit_at {k : Nat} (h : k < 288) : ∃ n, fixedLit[k]? = some n ∧ 0 < n := by
  have h1 := litL_le ⟨k, h⟩
  simp only at h1
  have hl : fixedLit.length = 288 := by decide +kernel
  refine ⟨fixedLit[k]'(by omega), List.getElem?_eq_getElem _, ?_⟩
  rw [List.getElem?_eq_getElem (by omega)] at h1
  simp only [Option.getD_some] at h1
  omega
theorem writeC_sym {k : Nat} (row : List Nat) (h : k < 288) : writeC (intsOf fixedLit) row (k : Int) = (row ++ symB k, 0) := by
  obtain ⟨n, h1, h2⟩ := fixedLit_at h
  rw [writeC_of row h1 h2]
  unfold symB
  rw [h1]; rfl
theorem dist_code : ∀ k : Fin 32, codeAt fixedDist k.val = k.val ∧ fixedDist[k.val]? = some 5 := by decide +kernel
theorem writeC_far {k : Nat} (row : List Nat) (h : k < 32) : writeC (intsOf fixedDist) row (k : Int) = (row ++ codeBits 5 k, 0) := by
  have h1 := dist_code ⟨k, h⟩
  simp only at h1
  rw [writeC_of row h1.2 (by omega), h1.1]
end
end Go.Proofs.YtiiiokikmjgliaaGreatDoor
/-
  The tables of package inflate, as the program reads them: plain facts on memory.
-/
namespace Go.Proofs.YtiiiokikmjgliaaGreatDoor
section
open Go.RowKit
def pairData (ps : List (Int × Int)) : DataW Unit := .agg (ps.map fun x => .agg [.lit (.int .i64 x.1), .lit (.int .i64 x.2)])
theorem two_of {α : Type} {l : List α} (h : l.length = 2) : ∃ a b, l = [a, b] := by
  match l, h with
  | [a, b], _ => exact ⟨a, b, rfl⟩
def fieldsOf (q : Option TypeDesc) : List (TypeId × Nat) := match q with
  | some (.struct fs) => fs.toList.map fun f => (f.type, f.offset)
  | _ => []
theorem two_fields {q : Option TypeDesc} {a b : TypeId} {i j : Nat} (h : fieldsOf q = [(a, i), (b, j)]) : ∃ f0 f1 : Field, q = some (.struct #[f0, f1]) ∧ f0.type = a ∧ f0.offset = i ∧ f1.type = b ∧ f1.offset = j := by
  unfold fieldsOf at h
  split at h
  · rename_i fs
    obtain ⟨l⟩ := fs
    rcases l with _ | ⟨f0, _ | ⟨f1, _ | ⟨f2, l⟩⟩⟩ <;> simp at h
    exact ⟨f0, f1, rfl, h.1.1, h.1.2, h.2.1, h.2.2⟩
  · cases h
theorem pair_of_trod {fuel : Nat} {w : World} {base : Nat} {sp : Nat → Bool} {held : Bool} {cs : List Value} {x : Int × Int} {b : DataW Unit × List MemPlace} (hb : b.1 = .agg [.lit (.int .i64 x.1), .lit (.int .i64 x.2)])
    (h : DataW.trod (fun _ => ()) Tryz.prog w base sp held fuel 211 cs = some b) : cs = [.int .i64 x.1, .int .i64 x.2] := by
  have hd : fieldsOf (Tryz.prog.underlying 211) = [(3, 0), (3, 1)] := by kernel_rfl
  have hi : Tryz.prog.underlying 3 = some (.int .i64) := by kernel_rfl
  have hc : Tryz.prog.cellsOf 3 = 1 := by kernel_rfl
  have hc2 : Tryz.prog.cellsOf 211 = 2 := by kernel_rfl
  obtain ⟨f0, f1, hu, t0, o0, t1, o1⟩ := two_fields hd
  obtain ⟨ys, n, _, hx, hl, hyl, hall⟩ := DataW.trod_struct hu h
  rw [hc2] at hl
  have h0 := hall 0 f0 rfl
  have h1 := hall 1 f1 rfl
  rw [t0, o0, hc] at h0
  rw [t1, o1, hc] at h1
  obtain ⟨y0, y1, rfl⟩ := two_of hyl
  obtain ⟨c0, c1, rfl⟩ := two_of hl
  obtain ⟨z0, e0, d0, _⟩ := DataW.trod_int hi h0
  obtain ⟨z1, e1, d1, _⟩ := DataW.trod_int hi h1
  rw [hx] at hb
  subst d0 d1
  simp at hb e0 e1
  rw [e0, e1, hb.1, hb.2]
def PairIs (w : World) (g : Nat) (ps : List (Int × Int)) : Prop := ∀ i x, ps[i]? = some x → w.cell? ⟨g, i * 2, none⟩ = some (.int .i64 x.1) ∧ w.cell? ⟨g, i * 2 + 1, none⟩ = some (.int .i64 x.2)
theorem PairIs.later {w w' : World} {g : Nat} {ps : List (Int × Int)} (h : PairIs w g ps) (hb : Below w.heap.size w w') : PairIs w' g ps := fun i x hx => ⟨cell_later (h i x hx).1 hb, cell_later (h i x hx).2 hb⟩
theorem pairs_of_head {W : World} {name : String} {ps : List (Int × Int)} {rest : List (String × DataW Unit)} {g : Nat} {t : TypeId} {n : Nat}
    (hg : Tryz.prog.globalNamed name = some g) (hty : (Tryz.prog.globals[g]?).map (·.type) = some t) (ht : Tryz.prog.underlying t = some (.array n 211))
    (h : laidMet Tryz.prog ((name, pairData ps) :: rest) W) : PairIs W g ps := by
  have hc2 : Tryz.prog.cellsOf 211 = 2 := by kernel_rfl
  obtain ⟨_, ⟨g', t', cs, fuel, p, q, hg', ht', hvar, hd, _, _⟩, _⟩ := h
  obtain rfl := Option.some.inj (hg.symm.trans hg')
  obtain rfl := Option.some.inj (hty.symm.trans ht')
  obtain ⟨xs, m, _, hx, hl, hxl, hall⟩ := DataW.trod_array ht hd
  have hxs : xs.map (·.1) = ps.map fun x => (.agg [.lit (.int .i64 x.1), .lit (.int .i64 x.2)] : DataW Unit) := by
    have := congrArg Prod.fst hx
    simpa [pairData] using this.symm
  have hpl : ps.length = n := by
    have := congrArg List.length hxs
    simp at this
    omega
  intro i x hi
  have hin : i < n := by rw [← hpl]; exact (List.getElem?_eq_some_iff.1 hi).1
  have h1 := hall i hin
  obtain ⟨b, hb⟩ : ∃ b, xs[i]? = some b := ⟨xs[i]'(by omega), List.getElem?_eq_getElem (by omega)⟩
  have hb1 : b.1 = .agg [.lit (.int .i64 x.1), .lit (.int .i64 x.2)] := by
    have := congrArg (·[i]?) hxs
    simpa [hb, hi] using this
  rw [hb, hc2] at h1
  have h2 := pair_of_trod hb1 h1
  have e0 := congrArg (·[0]?) h2
  have e1 := congrArg (·[1]?) h2
  simp only [List.getElem?_take, List.getElem?_drop] at e0 e1
  simp at e0 e1
  refine ⟨?_, ?_⟩
  · rw [World.var?_cell hg hvar]
    simpa using e0
  · rw [World.var?_cell hg hvar]
    simpa using e1
def lensL : List (Int × Int) := [(3, 0), (4, 0), (5, 0), (6, 0), (7, 0), (8, 0), (9, 0), (10, 0), (11, 1), (13, 1), (15, 1), (17, 1), (19, 2), (23, 2), (27, 2), (31, 2), (35, 3), (43, 3), (51, 3), (59, 3), (67, 4), (83, 4), (99, 4), (115, 4), (131, 5), (163, 5), (195, 5), (227, 5), (258, 0)]
def distL : List (Int × Int) := [(1, 0), (2, 0), (3, 0), (4, 0), (5, 1), (7, 1), (9, 2), (13, 2), (17, 3), (25, 3), (33, 4), (49, 4), (65, 5), (97, 5), (129, 6), (193, 6), (257, 7), (385, 7), (513, 8), (769, 8), (1025, 9), (1537, 9), (2049, 10), (3073, 10), (4097, 11), (6145, 11), (8193, 12), (12289, 12), (16385, 13), (24577, 13)]
def timesL : List (Int × Int) := [(3, 2), (3, 3), (11, 7)]
def ordersL : List Int := [16, 17, 18, 0, 8, 7, 9, 6, 10, 5, 11, 4, 12, 3, 13, 2, 14, 1, 15]
theorem lensT_at : ∀ k, k < 29 → lensL[k]? = some ((lengthN k : Int), ((if k = 28 then 0 else extraN k 8 4 : Nat) : Int)) := by decide +kernel
theorem distT_at : ∀ k, k < 30 → distL[k]? = some ((distN k : Int), (extraN k 4 2 : Int)) := by decide +kernel
theorem orderT_at : ∀ k, k < 19 → ordersL.getD k 0 = (orderL[k]?.getD 0 : Nat) ∧ orderL[k]?.getD 0 < 19 := by decide +kernel
structure Laid (w : World) : Prop where
  lens : PairIs w 4 lensL
  dist : PairIs w 5 distL
  times : PairIs w 7 timesL
  order : ∀ i, i < 19 → w.cell? ⟨6, i, none⟩ = some (.int .i64 (ordersL.getD i 0))
theorem Laid.later {w w' : World} (h : Laid w) (hb : Below w.heap.size w w') : Laid w' := ⟨h.lens.later hb, h.dist.later hb, h.times.later hb, fun i hi => cell_later (h.order i hi) hb⟩
theorem laid_lens : (Rows.laid_bindery_inflate_lengthsFrom : DataW Unit) = pairData lensL := by kernel_rfl
theorem laid_dist : (Rows.laid_bindery_inflate_distancesFrom : DataW Unit) = pairData distL := by kernel_rfl
theorem laid_times : (Rows.laid_bindery_inflate_timesFrom : DataW Unit) = pairData timesL := by kernel_rfl
theorem laid_order : (Rows.laid_bindery_inflate_signOrder : DataW Unit) = Lib.tabData .i64 ordersL := by kernel_rfl
theorem laid_of {l : List (String × DataW Unit)} {w : World} (hL : laidMet Tryz.prog (("bindery/inflate.lengthsFrom", Rows.laid_bindery_inflate_lengthsFrom) :: ("bindery/inflate.distancesFrom", Rows.laid_bindery_inflate_distancesFrom) :: ("bindery/inflate.timesFrom", Rows.laid_bindery_inflate_timesFrom) :: ("bindery/inflate.signOrder", Rows.laid_bindery_inflate_signOrder) :: l) w) : Laid w := by
  rw [laid_lens, laid_dist, laid_times, laid_order] at hL
  have h1 := hL.tail
  have h2 := h1.tail
  have h3 := h2.tail
  refine ⟨?_, ?_, ?_, ?_⟩
  · exact pairs_of_head (t := 212) (n := 29) (by kernel_rfl) (by kernel_rfl) (by kernel_rfl) hL
  · exact pairs_of_head (t := 213) (n := 30) (by kernel_rfl) (by kernel_rfl) (by kernel_rfl) h1
  · exact pairs_of_head (t := 222) (n := 3) (by kernel_rfl) (by kernel_rfl) (by kernel_rfl) h2
  · have := Lib.tabIs_of_head (g := 6) (t := 214) (e := 3) (n := 19) (by kernel_rfl) (by kernel_rfl) (by kernel_rfl) (by kernel_rfl) (by kernel_rfl) (by kernel_rfl) h3
    intro i hi
    exact Lib.TabIs.cell this (g := 6) (by kernel_rfl) i hi
theorem Laid.len {w : World} (h : Laid w) {k : Nat} (hk : k < 29) : w.cell? ⟨4, k * 2, none⟩ = some (.int .i64 (lengthN k : Int)) ∧ w.cell? ⟨4, k * 2 + 1, none⟩ = some (.int .i64 ((if k = 28 then 0 else extraN k 8 4 : Nat) : Int)) := h.lens k _ (lensT_at k hk)
theorem Laid.far {w : World} (h : Laid w) {k : Nat} (hk : k < 30) : w.cell? ⟨5, k * 2, none⟩ = some (.int .i64 (distN k : Int)) ∧ w.cell? ⟨5, k * 2 + 1, none⟩ = some (.int .i64 (extraN k 4 2 : Int)) := h.dist k _ (distT_at k hk)
theorem Laid.time {w : World} (h : Laid w) {k : Nat} {x : Int × Int} (hk : timesL[k]? = some x) : w.cell? ⟨7, k * 2, none⟩ = some (.int .i64 x.1) ∧ w.cell? ⟨7, k * 2 + 1, none⟩ = some (.int .i64 x.2) := h.times k _ hk
theorem Laid.sign {w : World} (h : Laid w) {k : Nat} (hk : k < 19) : w.cell? ⟨6, k, none⟩ = some (.int .i64 ((orderL[k]?.getD 0 : Nat) : Int)) := by
  rw [h.order k hk, (orderT_at k hk).1]
end
end Go.Proofs.YtiiiokikmjgliaaGreatDoor
/-
  The tables of package squeeze, as the program reads them: plain facts on memory.
-/
namespace Go.Proofs.YtiiiokikmjgliaaGreatDoor
section
open Go.RowKit
theorem qpair_of_trod {fuel : Nat} {w : World} {base : Nat} {sp : Nat → Bool} {held : Bool} {cs : List Value} {x : Int × Int} {b : DataW Unit × List MemPlace} (hb : b.1 = .agg [.lit (.int .i64 x.1), .lit (.int .i64 x.2)])
    (h : DataW.trod (fun _ => ()) Tryz.prog w base sp held fuel 182 cs = some b) : cs = [.int .i64 x.1, .int .i64 x.2] := by
  have hd : fieldsOf (Tryz.prog.underlying 182) = [(3, 0), (3, 1)] := by kernel_rfl
  have hi : Tryz.prog.underlying 3 = some (.int .i64) := by kernel_rfl
  have hc : Tryz.prog.cellsOf 3 = 1 := by kernel_rfl
  have hc2 : Tryz.prog.cellsOf 182 = 2 := by kernel_rfl
  obtain ⟨f0, f1, hu, t0, o0, t1, o1⟩ := two_fields hd
  obtain ⟨ys, n, _, hx, hl, hyl, hall⟩ := DataW.trod_struct hu h
  rw [hc2] at hl
  have h0 := hall 0 f0 rfl
  have h1 := hall 1 f1 rfl
  rw [t0, o0, hc] at h0
  rw [t1, o1, hc] at h1
  obtain ⟨y0, y1, rfl⟩ := two_of hyl
  obtain ⟨c0, c1, rfl⟩ := two_of hl
  obtain ⟨z0, e0, d0, _⟩ := DataW.trod_int hi h0
  obtain ⟨z1, e1, d1, _⟩ := DataW.trod_int hi h1
  rw [hx] at hb
  subst d0 d1
  simp at hb e0 e1
  rw [e0, e1, hb.1, hb.2]
theorem qpairs_of_head {W : World} {name : String} {ps : List (Int × Int)} {rest : List (String × DataW Unit)} {g : Nat} {t : TypeId} {n : Nat}
    (hg : Tryz.prog.globalNamed name = some g) (hty : (Tryz.prog.globals[g]?).map (·.type) = some t) (ht : Tryz.prog.underlying t = some (.array n 182))
    (h : laidMet Tryz.prog ((name, pairData ps) :: rest) W) : PairIs W g ps := by
  have hc2 : Tryz.prog.cellsOf 182 = 2 := by kernel_rfl
  obtain ⟨_, ⟨g', t', cs, fuel, p, q, hg', ht', hvar, hd, _, _⟩, _⟩ := h
  obtain rfl := Option.some.inj (hg.symm.trans hg')
  obtain rfl := Option.some.inj (hty.symm.trans ht')
  obtain ⟨xs, m, _, hx, hl, hxl, hall⟩ := DataW.trod_array ht hd
  have hxs : xs.map (·.1) = ps.map fun x => (.agg [.lit (.int .i64 x.1), .lit (.int .i64 x.2)] : DataW Unit) := by
    have := congrArg Prod.fst hx
    simpa [pairData] using this.symm
  have hpl : ps.length = n := by
    have := congrArg List.length hxs
    simp at this
    omega
  intro i x hi
  have hin : i < n := by rw [← hpl]; exact (List.getElem?_eq_some_iff.1 hi).1
  have h1 := hall i hin
  obtain ⟨b, hb⟩ : ∃ b, xs[i]? = some b := ⟨xs[i]'(by omega), List.getElem?_eq_getElem (by omega)⟩
  have hb1 : b.1 = .agg [.lit (.int .i64 x.1), .lit (.int .i64 x.2)] := by
    have := congrArg (·[i]?) hxs
    simpa [hb, hi] using this
  rw [hb, hc2] at h1
  have h2 := qpair_of_trod hb1 h1
  have e0 := congrArg (·[0]?) h2
  have e1 := congrArg (·[1]?) h2
  simp only [List.getElem?_take, List.getElem?_drop] at e0 e1
  simp at e0 e1
  refine ⟨?_, ?_⟩
  · rw [World.var?_cell hg hvar]
    simpa using e0
  · rw [World.var?_cell hg hvar]
    simpa using e1
structure LaidQ (w : World) : Prop where
  lens : PairIs w 2 lensL
  dist : PairIs w 3 distL
theorem LaidQ.later {w w' : World} (h : LaidQ w) (hb : Below w.heap.size w w') : LaidQ w' := ⟨h.lens.later hb, h.dist.later hb⟩
theorem laidQ_lens : (Rows.laid_bindery_squeeze_lengthsFrom : DataW Unit) = pairData lensL := by kernel_rfl
theorem laidQ_dist : (Rows.laid_bindery_squeeze_distancesFrom : DataW Unit) = pairData distL := by kernel_rfl
theorem laidQ_of {l : List (String × DataW Unit)} {w : World} (hL : laidMet Tryz.prog (("bindery/squeeze.lengthsFrom", Rows.laid_bindery_squeeze_lengthsFrom) :: ("bindery/squeeze.distancesFrom", Rows.laid_bindery_squeeze_distancesFrom) :: l) w) : LaidQ w := by
  rw [laidQ_lens, laidQ_dist] at hL
  have h1 := hL.tail
  refine ⟨?_, ?_⟩
  · exact qpairs_of_head (t := 183) (n := 29) (by kernel_rfl) (by kernel_rfl) (by kernel_rfl) hL
  · exact qpairs_of_head (t := 185) (n := 30) (by kernel_rfl) (by kernel_rfl) (by kernel_rfl) h1
theorem LaidQ.len {w : World} (h : LaidQ w) {k : Nat} (hk : k < 29) : w.cell? ⟨2, k * 2, none⟩ = some (.int .i64 (lengthN k : Int)) ∧ w.cell? ⟨2, k * 2 + 1, none⟩ = some (.int .i64 (moreL k : Int)) := h.lens k _ (lensT_at k hk)
theorem LaidQ.far {w : World} (h : LaidQ w) {k : Nat} (hk : k < 30) : w.cell? ⟨3, k * 2, none⟩ = some (.int .i64 (distN k : Int)) ∧ w.cell? ⟨3, k * 2 + 1, none⟩ = some (.int .i64 (moreD k : Int)) := h.dist k _ (distT_at k hk)
end
end Go.Proofs.YtiiiokikmjgliaaGreatDoor
/-
  A block of fixed codes that is written: symbol, number.
-/
namespace Go.Proofs.YtiiiokikmjgliaaGreatDoor
section
open Go.RowKit
set_option maxRecDepth 100000
theorem WriterAt.third {w : World} {b : Nat} {row F : List Nat} {pS pD : Value} (h : WriterAt pS pD w b row F) : w.cell? ⟨b, 3, none⟩ = some pS ∧ w.cell? ⟨b, 4, none⟩ = some pD := by
  obtain ⟨D, L, v, _, _, _, _, h⟩ := h
  have h1 := h.1
  unfold WrCell at h1
  exact ⟨by rw [cell_of_row _ _ _ _ _ _ h1]; rfl, by rw [cell_of_row _ _ _ _ _ _ h1]; rfl⟩
def BlkAt (w : World) (B : Nat) (row F : List Nat) : Prop := ∃ s d XS XD F0, F = F0 ++ (XS ++ XD) ∧ WriterAt (.pointer (some ⟨s, 0, none⟩)) (.pointer (some ⟨d, 0, none⟩)) w B row F0 ∧ TreeAt w s (intsOf fixedLit) XS ∧ TreeAt w d (intsOf fixedDist) XD ∧ (∀ k ∈ XS ++ XD, k ∉ F0) ∧ ∀ b ∈ row, b < 2
theorem BlkAt.lt {w : World} {B : Nat} {row F : List Nat} (h : BlkAt w B row F) : ∀ k ∈ F, k < w.heap.size := by
  obtain ⟨s, d, XS, XD, F0, rfl, h1, h2, h3, _⟩ := h
  intro k hk
  rcases List.mem_append.1 hk with hk | hk
  · exact h1.lt k hk
  · rcases List.mem_append.1 hk with hk | hk
    · exact h2.lt k hk
    · exact h3.lt k hk
theorem BlkAt.move {w w' : World} {B : Nat} {row F : List Nat} (h : BlkAt w B row F) (hs : w.heap.size ≤ w'.heap.size) (hk : ∀ k ∈ F, w'.heap[k]? = w.heap[k]?) : BlkAt w' B row F := by
  obtain ⟨s, d, XS, XD, F0, rfl, h1, h2, h3, h4, h5⟩ := h
  exact ⟨s, d, XS, XD, F0, rfl, h1.move hs fun k e => hk k (List.mem_append_left _ e), h2.move hs fun k e => hk k (List.mem_append_right _ (List.mem_append_left _ e)), h3.move hs fun k e => hk k (List.mem_append_right _ (List.mem_append_right _ e)), h4, h5⟩
theorem BlkAt.later {w w' : World} {B : Nat} {row F : List Nat} (h : BlkAt w B row F) (hb : Below w.heap.size w w') : BlkAt w' B row F := h.move hb.size fun k hk => hb.block k (h.lt k hk)
theorem Touches.beside {F F' X : List Nat} {w w' : World} (h : Touches F F' w w') : Touches (F ++ X) (F' ++ X) w w' :=
  ⟨h.1, h.2.1, h.2.2.1, h.2.2.2.1, fun k hk hn => h.2.2.2.2.1 k hk fun e => hn (List.mem_append_left _ e), fun k hk => by
    rcases List.mem_append.1 hk with hk | hk
    · rcases h.2.2.2.2.2 k hk with h1 | h1
      · exact .inl (List.mem_append_left _ h1)
      · exact .inr h1
    · exact .inl (List.mem_append_right _ hk)⟩
theorem Touches.undrew {F F' : List Nat} {w w' : World} (h : Touches F F' w.drew w') : Touches F F' w w' := h
theorem blk_next {w w' : World} {B s d : Nat} {row' XS XD F0 F0' : List Nat} (hw : WriterAt (.pointer (some ⟨s, 0, none⟩)) (.pointer (some ⟨d, 0, none⟩)) w' B row' F0') (ht : Touches F0 F0' w w') (h2 : TreeAt w s (intsOf fixedLit) XS) (h3 : TreeAt w d (intsOf fixedDist) XD) (h4 : ∀ k ∈ XS ++ XD, k ∉ F0) (h5 : ∀ b ∈ row', b < 2) :
    ∃ F', BlkAt w' B row' F' ∧ Touches (F0 ++ (XS ++ XD)) F' w w' := by
  have hx : ∀ k ∈ XS ++ XD, k < w.heap.size := fun k hk => by
    rcases List.mem_append.1 hk with hk | hk
    · exact h2.lt k hk
    · exact h3.lt k hk
  refine ⟨F0' ++ (XS ++ XD), ⟨s, d, XS, XD, F0', rfl, hw, h2.move ht.size fun k hk => (ht.out (hx k (List.mem_append_left _ hk)) (h4 k (List.mem_append_left _ hk))).1, h3.move ht.size fun k hk => (ht.out (hx k (List.mem_append_right _ hk)) (h4 k (List.mem_append_right _ hk))).1, fun k hk => (ht.out (hx k hk) (h4 k hk)).2, h5⟩, ht.beside⟩
set_option maxHeartbeats 1000000 in
theorem symbol_is (B k : Nat) (row F : List Nat) (w : World) (h : BlkAt w B row F) (hl : row.length ≤ 900000) (hk : k < 288) :
    Calls Tryz.prog 136 #[.pointer (some ⟨B, 0, none⟩), .int .i64 (k : Int)] w fun en w' => en = .returned (.tuple #[]) ∧ ∃ F', BlkAt w' B (row ++ symB k) F' ∧ Touches F F' w w' := by
  obtain ⟨s, d, XS, XD, F0, rfl, h1, h2, h3, h4, h5⟩ := h
  have c3 := h1.third.1
  have HC := Lib.hid (tWrite_is _ _ s (intsOf fixedLit) XS B row F0 (k : Int) w.drew fixed_refused.1 h2 h1 h5 hl (fun k hk => h4 k (List.mem_append_left _ hk)) (by omega) (by omega) (writeC_sym row hk))
  have HN := Lib.hid (fun w' F0' hw (ht : Touches F0 F0' w.drew w') => blk_next (B := B) (w := w) (w' := w') (F0 := F0) (F0' := F0') (row' := row ++ symB k) hw ht.undrew h2 h3 h4 (fun b hb => by
    rcases List.mem_append.1 hb with e | e
    · exact h5 b e
    · exact symB_two _ b e))
  clear h1 h2 h3 h4 h5
  go_enter Tryz.func136, Tryz.ntmps136
  go_wp2_with fail
  go_region_with (go_at_call 154; refine HC.out.mono ?_; rintro e w1 ⟨rfl, F1, hw, ht⟩)
  all_goals
    have HR := Lib.hid (HN.out _ _ hw ht)
    clear hw ht
    go_wp2_with fail
    exact bodyPost_end (v := .tuple #[]) (by simp [results, go_sem]) rfl ⟨rfl, HR.out⟩
set_option maxHeartbeats 1000000 in
theorem bnumber_is (B n a k : Nat) (row F : List Nat) (w : World) (h : BlkAt w B row F) (hl : row.length ≤ 900000) (hk : k ≤ 13) (ha : a ≤ n) (hn : n ≤ 100000) (hnk : n - a < 2 ^ k) :
    Calls Tryz.prog 159 #[.pointer (some ⟨B, 0, none⟩), .int .i64 (n : Int), .agg #[.int .i64 (a : Int), .int .i64 (k : Int)]] w fun en w' => en = .returned (.tuple #[]) ∧ ∃ F', BlkAt w' B (row ++ bitsN k (n - a)) F' ∧ Touches F F' w w' := by
  obtain ⟨W0, hW0⟩ : ∃ W0, w.alloc (.cells #[.int .i64 (a : Int), .int .i64 (k : Int)] 182) = W0 := ⟨_, rfl⟩
  have hb0 : Below w.heap.size w W0 := by rw [← hW0]; exact (below_same w).alloc (Nat.le_refl _) _
  obtain ⟨s, d, XS, XD, F0, rfl, h1, h2, h3, h4, h5⟩ := h.later hb0
  have hnz : IntKind.i64.wrap ((n : Int) - (a : Int)) = ((n - a : Nat) : Int) := by rw [IntWalk.i64_in _ (by omega)]; omega
  have HC := Lib.hid (wPut_is _ _ B row F0 ((n - a : Nat) : Int) (k : Int) W0.drew h1 h5 (by omega) (by omega) (by omega) (by omega) (by omega) (putB_ok (by omega) hnk))
  have HN := Lib.hid (fun w' F0' hw (ht : Touches F0 F0' W0.drew w') => blk_next (B := B) (w := W0) (w' := w') (F0 := F0) (F0' := F0') (row' := row ++ bitsN k (n - a)) hw ht.undrew h2 h3 h4 (fun b hb => by
    rcases List.mem_append.1 hb with e | e
    · exact h5 b e
    · exact bitsN_two _ _ b e))
  have HB := Lib.hid hb0
  rw [← hnz] at HC
  clear h1 h2 h3 h4 h5 h hb0 hnz
  subst hW0
  go_enter Tryz.func159, Tryz.ntmps159
  go_wp2_with fail
  go_region_with (go_at_call 150; refine HC.out.mono ?_; rintro e w1 ⟨rfl, F1, hw, ht⟩)
  all_goals
    obtain ⟨F2, hw2, ht2⟩ := HN.out _ _ hw ht
    have HR := Lib.hid hw2
    have HT := Lib.hid ((Touches.of_below HB.out).trans ht2)
    clear hw ht hw2 ht2
    go_wp2_with fail
    exact bodyPost_end (v := .tuple #[]) (by simp [results, go_sem]) rfl ⟨rfl, F2, HR.out, HT.out⟩
end
end Go.Proofs.YtiiiokikmjgliaaGreatDoor
