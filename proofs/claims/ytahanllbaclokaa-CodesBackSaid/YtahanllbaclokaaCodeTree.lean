/-
  A tree of codes in memory; the contracts of its Write.
-/
import Derived.Test.YtahanllbaclokaaCodeDeal
import Derived.Test.YtahanllbaclokaaCodeTurn
import Derived.Test.YtahanllbaclokaaBitReader
namespace Go.Proofs.Ytahanllbaclokaa
open Go.RowKit

/-- A tree's object. -/
def treeRow (vl : Value) (gt ct go co n : Nat) (f : Nat → Nat) (L : Nat) : Array Value :=
  #[vl, .slice (some ⟨gt, 0, none⟩) n ct, .int .i64 (f 0 : Int), .int .i64 (f 1 : Int), .int .i64 (f 2 : Int), .int .i64 (f 3 : Int), .int .i64 (f 4 : Int), .int .i64 (f 5 : Int), .int .i64 (f 6 : Int), .int .i64 (f 7 : Int), .int .i64 (f 8 : Int), .int .i64 (f 9 : Int), .int .i64 (f 10 : Int), .int .i64 (f 11 : Int), .int .i64 (f 12 : Int), .int .i64 (f 13 : Int), .int .i64 (f 14 : Int), .int .i64 (f 15 : Int), .int .i64 (L : Int), .slice (some ⟨go, 0, none⟩) n co]
theorem treeRow_count (vl : Value) (gt ct go co n : Nat) (f : Nat → Nat) (L : Nat) {i : Nat} (h : i < 16) : (treeRow vl gt ct go co n f L)[2 + i]? = some (.int .i64 (f i : Int)) := by
  have : i = 0 ∨ i = 1 ∨ i = 2 ∨ i = 3 ∨ i = 4 ∨ i = 5 ∨ i = 6 ∨ i = 7 ∨ i = 8 ∨ i = 9 ∨ i = 10 ∨ i = 11 ∨ i = 12 ∨ i = 13 ∨ i = 14 ∨ i = 15 := by omega
  rcases this with rfl | rfl | rfl | rfl | rfl | rfl | rfl | rfl | rfl | rfl | rfl | rfl | rfl | rfl | rfl | rfl <;> rfl
def TreeCell (w : World) (b : Nat) (vl : Value) (gt ct go co n : Nat) (f : Nat → Nat) (L : Nat) : Prop := w.heap[b]? = some (.cells (treeRow vl gt ct go co n f L) 64 (0, 0))
theorem TreeCell.lengths {w : World} {b : Nat} {vl : Value} {gt ct go co n : Nat} {f : Nat → Nat} {L : Nat} (h : TreeCell w b vl gt ct go co n f L) : w.cell? ⟨b, 0, none⟩ = some vl := by rw [cell_of_row _ _ _ _ _ _ h]; rfl
theorem TreeCell.turned {w : World} {b : Nat} {vl : Value} {gt ct go co n : Nat} {f : Nat → Nat} {L : Nat} (h : TreeCell w b vl gt ct go co n f L) : w.cell? ⟨b, 1, none⟩ = some (.slice (some ⟨gt, 0, none⟩) n ct) := by rw [cell_of_row _ _ _ _ _ _ h]; rfl
theorem TreeCell.count {w : World} {b : Nat} {vl : Value} {gt ct go co n : Nat} {f : Nat → Nat} {L : Nat} (h : TreeCell w b vl gt ct go co n f L) {i : Nat} (hi : i < 16) : w.cell? ⟨b, 2 + i, none⟩ = some (.int .i64 (f i : Int)) := by rw [cell_of_row _ _ _ _ _ _ h]; exact treeRow_count _ _ _ _ _ _ _ _ hi
theorem TreeCell.longest {w : World} {b : Nat} {vl : Value} {gt ct go co n : Nat} {f : Nat → Nat} {L : Nat} (h : TreeCell w b vl gt ct go co n f L) : w.cell? ⟨b, 18, none⟩ = some (.int .i64 (L : Int)) := by rw [cell_of_row _ _ _ _ _ _ h]; rfl
theorem TreeCell.ordered {w : World} {b : Nat} {vl : Value} {gt ct go co n : Nat} {f : Nat → Nat} {L : Nat} (h : TreeCell w b vl gt ct go co n f L) : w.cell? ⟨b, 19, none⟩ = some (.slice (some ⟨go, 0, none⟩) n co) := by rw [cell_of_row _ _ _ _ _ _ h]; rfl
theorem TreeCell.free {w : World} {b : Nat} {vl : Value} {gt ct go co n : Nat} {f : Nat → Nat} {L : Nat} (h : TreeCell w b vl gt ct go co n f L) (j : Nat) : w.frozen? ⟨b, j, none⟩ = false := frozen_of_row _ _ _ _ _ h
theorem TreeCell.lt {w : World} {b : Nat} {vl : Value} {gt ct go co n : Nat} {f : Nat → Nat} {L : Nat} (h : TreeCell w b vl gt ct go co n f L) : b < w.heap.size := by
  rcases Nat.lt_or_ge b w.heap.size with h' | h'
  · exact h'
  · unfold TreeCell at h; rw [Array.getElem?_eq_none h'] at h; cases h
theorem TreeCell.more {w : World} {b : Nat} {vl : Value} {gt ct go co n : Nat} {f : Nat → Nat} {L : Nat} (h : TreeCell w b vl gt ct go co n f L) (L' : Nat) : TreeCell (w.setCell ⟨b, 18, none⟩ (.int .i64 (L' : Int))) b vl gt ct go co n f L' := by
  have := heap_setCell_same _ _ 18 _ _ (.int .i64 (L' : Int)) h
  exact this

/-- A slice of numbers that a call made, or none. -/
def Row64 (w : World) (v : Value) (l : List Int) : Prop := w.ownsRow 0 3 1 v l.length (cellsZ l)
theorem Row64.move {w w' : World} {v : Value} {l : List Int} (h : Row64 w v l) (hk : ∀ k, v.ownBlock = some k → w'.heap[k]? = w.heap[k]?) : Row64 w' v l := owns_move h hk
theorem Row64.lt {w : World} {v : Value} {l : List Int} (h : Row64 w v l) : ∀ k, v.ownBlock = some k → k < w.heap.size := fun k e => (World.ownsRow.lt h k e).2
theorem Row64.form {w : World} {v : Value} {l : List Int} (h : Row64 w v l) : ∃ a cap, v = .slice a l.length cap ∧ Nums w a l := by
  have h' := h
  rcases h.2 with ⟨rfl, h0⟩ | ⟨g, cap, cur, rfl, _⟩
  · exact ⟨none, 0, by rw [h0], .inl (List.eq_nil_of_length_eq_zero h0)⟩
  · refine ⟨some ⟨g, 0, none⟩, cap, rfl, .inr ⟨g, 0, rfl, fun i hi => ?_⟩⟩
    have hcell := World.ownsRow.cells h' (g := g) rfl i (.int .i64 (l[i]?.getD 0)) (by
      rw [cellsZ_at hi, List.getElem?_eq_getElem hi]; rfl)
    have e : (⟨g, 0, none⟩ : Addr).add i = ⟨g, 0 + i, none⟩ := by unfold Addr.add; split <;> simp_all
    rw [e] at hcell
    exact hcell

/-- A tree, part by part. -/
def TreeIs (w : World) (b : Nat) (ls : List Int) (vl : Value) (gt ct go co L : Nat) (ords : List Nat) : Prop :=
  TreeCell w b vl gt ct go co ls.length (cntN (natsOf ls)) L ∧ Row64 w vl ls ∧ RowAt w gt (turnN (natsOf ls) ls.length) ∧ RowAt w go ords
def treeF (b gt go : Nat) (vl : Value) : List Nat := b :: gt :: go :: vl.ownBlock.toList
theorem treeF_mem {b gt go k : Nat} {vl : Value} (h : k ∈ treeF b gt go vl) : k = b ∨ k = gt ∨ k = go ∨ vl.ownBlock = some k := by simpa [treeF] using h
theorem TreeIs.lt {w : World} {b : Nat} {ls : List Int} {vl : Value} {gt ct go co L : Nat} {ords : List Nat} (h : TreeIs w b ls vl gt ct go co L ords) : ∀ k ∈ treeF b gt go vl, k < w.heap.size := fun k hk => by
  rcases treeF_mem hk with rfl | rfl | rfl | hk
  · exact h.1.lt
  · exact h.2.2.1.lt
  · exact h.2.2.2.lt
  · exact h.2.1.lt k hk
theorem TreeIs.move {w w' : World} {b : Nat} {ls : List Int} {vl : Value} {gt ct go co L : Nat} {ords : List Nat} (h : TreeIs w b ls vl gt ct go co L ords) (hk : ∀ k ∈ treeF b gt go vl, w'.heap[k]? = w.heap[k]?) : TreeIs w' b ls vl gt ct go co L ords :=
  ⟨(hk b (by simp [treeF])).trans h.1, h.2.1.move fun k e => hk k (by simp [treeF, e]), (hk gt (by simp [treeF])).trans h.2.2.1, (hk go (by simp [treeF])).trans h.2.2.2⟩
/-- A tree of codes of such lengths lies there: its own blocks. -/
def TreeAt (w : World) (b : Nat) (ls : List Int) (F : List Nat) : Prop :=
  ∃ vl gt ct go co L ords, F = treeF b gt go vl ∧ TreeIs w b ls vl gt ct go co L ords ∧ Ordered (natsOf ls) ls.length ords ∧ longZ ls = (L : Int)
theorem TreeAt.lt {w : World} {b : Nat} {ls : List Int} {F : List Nat} (h : TreeAt w b ls F) : ∀ k ∈ F, k < w.heap.size := by
  obtain ⟨vl, gt, ct, go, co, L, ords, rfl, h, _⟩ := h
  exact h.lt
theorem TreeAt.move {w w' : World} {b : Nat} {ls : List Int} {F : List Nat} (h : TreeAt w b ls F) (_ : w.heap.size ≤ w'.heap.size) (hk : ∀ k ∈ F, w'.heap[k]? = w.heap[k]?) : TreeAt w' b ls F := by
  obtain ⟨vl, gt, ct, go, co, L, ords, rfl, h, h2⟩ := h
  exact ⟨vl, gt, ct, go, co, L, ords, rfl, h.move hk, h2⟩
theorem TreeAt.later {w w' : World} {b : Nat} {ls : List Int} {F : List Nat} (h : TreeAt w b ls F) (hb : Below w.heap.size w w') : TreeAt w' b ls F := h.move hb.size fun k hk => hb.block k (h.lt k hk)

theorem tWrite_no_tree (b : Option Addr) (k : Int) (w : World) : Calls Try.prog 20 #[.pointer none, .pointer b, .int .i64 k] w fun en w' => en = .returned (.int .i64 1) ∧ Below w.heap.size w w' := by
  go_enter Try.func20, Try.ntmps20
  go_wp2_with fail
  go_ret
  exact ⟨rfl, below_same _⟩
theorem tWrite_no_writer (t : Nat) (ls : List Int) (T : List Nat) (k : Int) (w : World) (_ht : TreeAt w t ls T) : Calls Try.prog 20 #[.pointer (some ⟨t, 0, none⟩), .pointer none, .int .i64 k] w fun en w' => en = .returned (.int .i64 1) ∧ Below w.heap.size w w' := by
  go_enter Try.func20, Try.ntmps20
  go_wp2_with fail
  go_ret
  exact ⟨rfl, below_same _⟩
/-- A symbol's bits behind a row, and the error. -/
def writeC (ls : List Int) (row : List Nat) (k : Int) : List Nat × Int :=
  if 0 ≤ k ∧ 0 < ls[k.toNat]?.getD 0 then (row ++ codeBits (ls[k.toNat]?.getD 0).toNat (codeAt (natsOf ls) k.toNat), 0) else (row, 12)

set_option maxHeartbeats 1000000 in
theorem tWrite_is (t : Nat) (ls : List Int) (T : List Nat) (b : Nat) (row F : List Nat) (k : Int) (w : World) (hr : refusedZ ls = 0) (ht : TreeAt w t ls T) (h : WriterAt w b row F) (h2 : ∀ x ∈ row, x < 2) (hl : row.length ≤ 10000) (_hd : ∀ k ∈ T, k ∉ F) (_h0 : -9223372036854775808 ≤ k) (_h1 : k ≤ 9223372036854775807)
    {row' : List Nat} {e : Int} (he : writeC ls row k = (row', e)) :
    Calls Try.prog 20 #[.pointer (some ⟨t, 0, none⟩), .pointer (some ⟨b, 0, none⟩), .int .i64 k] w fun en w' => en = .returned (.int .i64 e) ∧ ∃ F', WriterAt w' b row' F' ∧ Touches F F' w w' := by
  obtain ⟨hlen, hall, hkr⟩ := refusedZ_zero hr
  obtain ⟨vl, gt, ct, go, co, L, ords, rfl, hT, _, _⟩ := ht
  obtain ⟨al, cl, rfl, hnl⟩ := hT.2.1.form
  have H := Lib.hid h
  have H2 := Lib.hid h2
  have HT := Lib.hid hT
  have c0 := hT.1.lengths
  have c1 := hT.1.turned
  clear h h2 hr hkr hT
  unfold writeC at he
  by_cases hk0 : k < 0
  · rw [if_neg (by omega)] at he
    obtain ⟨rfl, rfl⟩ := Prod.mk.inj he
    clear he
    go_enter Try.func20, Try.ntmps20
    go_wp2_with fail
    go_ret
    exact ⟨rfl, F, H.out, Touches.refl _ _⟩
  · obtain ⟨n, rfl⟩ := Int.eq_ofNat_of_zero_le (show 0 ≤ k by omega)
    rw [Int.toNat_natCast] at he
    by_cases hn : n < ls.length
    · have hnz : ¬ (ls.length : Int) ≤ (n : Int) := by omega
      have hnz2 : (n : Int) < (ls.length : Int) := by omega
      obtain ⟨b1, o1, rfl, hc1⟩ := hnl.at n hn
      obtain ⟨v, hv⟩ : ∃ v, ls[n]?.getD 0 = v := ⟨_, rfl⟩
      have hnat := natsOf_at hn
      rw [hv] at hc1 he hnat
      have hv0 : 0 ≤ v ∧ v ≤ 15 := by
        have h1 := hv
        rw [List.getElem?_eq_getElem hn] at h1
        simp only [Option.getD_some] at h1
        have := hall _ (List.getElem_mem hn)
        rwa [h1] at this
      obtain ⟨l, rfl⟩ := Int.eq_ofNat_of_zero_le hv0.1
      rw [Int.toNat_natCast] at he hnat
      have hl15 : l ≤ 15 := by omega
      clear hv hv0
      by_cases hl0 : l = 0
      · subst hl0
        rw [if_neg (by omega)] at he
        obtain ⟨rfl, rfl⟩ := Prod.mk.inj he
        clear he
        go_enter Try.func20, Try.ntmps20
        go_wp2_with fail
        go_ret
        exact ⟨rfl, F, H.out, Touches.refl _ _⟩
      · rw [if_pos ⟨by omega, by omega⟩] at he
        obtain ⟨rfl, rfl⟩ := Prod.mk.inj he
        have hlz : ((l : Int) == 0) = false := by rw [beq_eq_false_iff_ne]; omega
        have hnn : n < (natsOf ls).length := by rw [natsOf_length]; exact hn
        have hta : turnAt (natsOf ls) ls.length n = revN l (codeAt (natsOf ls) n) := by unfold turnAt; rw [if_pos hn, hnat]
        have hc2 := HT.out.2.2.1.cell (turnN_at (j := ls.length) hnn)
        rw [hta] at hc2
        have hrl := revN_lt l (codeAt (natsOf ls) n)
        have hput : putB row ((revN l (codeAt (natsOf ls) n) : Nat) : Int) (l : Int) = (row ++ codeBits l (codeAt (natsOf ls) n), 0) := by rw [putB_ok (by omega) hrl, bits_revN]
        have hpw : (2 : Nat) ^ l ≤ 2 ^ 15 := Nat.pow_le_pow_right (by omega) hl15
        obtain ⟨row', hrow⟩ : ∃ row', row ++ codeBits l (codeAt (natsOf ls) n) = row' := ⟨_, rfl⟩
        obtain ⟨x, hx⟩ : ∃ x, revN l (codeAt (natsOf ls) n) = x := ⟨_, rfl⟩
        rw [hrow, hx] at hput
        rw [hx] at hc2 hrl
        rw [hrow]
        have hx15 : x ≤ 32768 := by omega
        have Hcall := Lib.hid (wPut_is b row F (x : Int) (l : Int) w.drew H.out H2.out (by omega) (by omega) (by omega) (by omega) (by omega) hput)
        clear he hta hnat hput hrl hpw hrow hx hall hnl
        go_enter Try.func20, Try.ntmps20
        go_wp2_with fail
        go_region_with (go_at_call 35; refine Hcall.out.mono ?_; rintro e w1 ⟨rfl, F1, hw, ht⟩)
        all_goals
          have HW := Lib.hid hw
          have HTo := Lib.hid ht
          clear hw ht
          go_wp2_with fail
          go_ret
          exact ⟨rfl, F1, HW.out, HTo.out⟩
    · have hnz : (ls.length : Int) ≤ (n : Int) := by omega
      rw [if_neg (by rw [List.getElem?_eq_none (by omega)]; simp)] at he
      obtain ⟨rfl, rfl⟩ := Prod.mk.inj he
      clear he
      go_enter Try.func20, Try.ntmps20
      go_wp2_with fail
      go_ret
      exact ⟨rfl, F, H.out, Touches.refl _ _⟩

end Go.Proofs.Ytahanllbaclokaa
