/-
  The walk of the law BitrowBack.
-/
import Derived.Test.YtcnokejjpcpphaaBitLaws2
import Derived.Deep.AppendLies
import Derived.Maps.AppendAt
namespace Go.Proofs.Ytcnokejjpcpphaa
open Go.RowKit

/-- All bits of numbers that were put. -/
def rowOf (ps : List (Nat × Nat × Bool)) : List Nat := ps.flatMap fun a => bitsN a.2.1 a.1
theorem rowOf_snoc (ps : List (Nat × Nat × Bool)) (a : Nat × Nat × Bool) : rowOf (ps ++ [a]) = rowOf ps ++ bitsN a.2.1 a.1 := by simp [rowOf]
theorem rowOf_append (a b : List (Nat × Nat × Bool)) : rowOf (a ++ b) = rowOf a ++ rowOf b := by simp [rowOf]
theorem rowOf_two (ps : List (Nat × Nat × Bool)) : ∀ b ∈ rowOf ps, b < 2 := by
  intro b hb
  obtain ⟨a, _, ha⟩ := List.mem_flatMap.1 hb
  exact bitsN_two _ _ b ha
theorem rowOf_length {ps : List (Nat × Nat × Bool)} (h : ∀ a ∈ ps, a.2.1 ≤ 16) : (rowOf ps).length ≤ 16 * ps.length := by
  induction ps with
  | nil => simp [rowOf]
  | cons a r ih =>
    have h1 := h a (by simp)
    have h2 := ih fun x hx => h x (by simp [hx])
    have e : rowOf (a :: r) = bitsN a.2.1 a.1 ++ rowOf r := rfl
    rw [e, List.length_append, bitsN_length, List.length_cons]; omega
def cellsA (ps : List (Nat × Nat × Bool)) : List Value := ps.flatMap fun a => [.int .i64 (a.1 : Int), .int .i64 (a.2.1 : Int), .bool a.2.2]
theorem cellsA_snoc (ps : List (Nat × Nat × Bool)) (a : Nat × Nat × Bool) : cellsA (ps ++ [a]) = cellsA ps ++ [.int .i64 (a.1 : Int), .int .i64 (a.2.1 : Int), .bool a.2.2] := by simp [cellsA]
theorem cellsA_at : ∀ (ps : List (Nat × Nat × Bool)) (j : Nat) (a : Nat × Nat × Bool), ps[j]? = some a → (cellsA ps)[j * 3]? = some (.int .i64 (a.1 : Int)) ∧ (cellsA ps)[j * 3 + 1]? = some (.int .i64 (a.2.1 : Int))
  | [], j, a, h => by simp at h
  | x :: r, 0, a, h => by
    simp at h; subst h
    exact ⟨rfl, rfl⟩
  | x :: r, j + 1, a, h => by
    have := cellsA_at r j a (by simpa using h)
    have e : cellsA (x :: r) = [.int .i64 (x.1 : Int), .int .i64 (x.2.1 : Int), .bool x.2.2] ++ cellsA r := rfl
    rw [e, show (j + 1) * 3 = j * 3 + 3 by omega, List.getElem?_append_right (by simp), List.getElem?_append_right (by simp)]
    simpa using this
/-- A put that is good, and one that isn't. -/
theorem putB_zero {row row' : List Nat} {n v : Int} (h : putB row n v = (row', 0)) : ∃ n' v' : Nat, n = n' ∧ v = v' ∧ v' ≤ 16 ∧ n' < 2 ^ v' ∧ row' = row ++ bitsN v' n' := by
  unfold putB at h
  split at h
  · simp at h
  · rename_i h1
    split at h
    · simp at h
    · rename_i h2
      have hp : ((2 ^ v.toNat : Nat) : Int) = (2 : Int) ^ v.toNat := by simp
      rw [← hp] at h2
      exact ⟨n.toNat, v.toNat, by omega, by omega, by omega, by omega, (Prod.mk.inj h).1.symm⟩
theorem putB_else {row row' : List Nat} {n v e : Int} (he : e ≠ 0) (h : putB row n v = (row', e)) : row' = row := by
  unfold putB at h
  split at h
  · exact (Prod.mk.inj h).1.symm
  · split at h
    · exact (Prod.mk.inj h).1.symm
    · exact absurd (Prod.mk.inj h).2.symm he
/-- What is put is got, one behind the other. -/
theorem got_next {t : List UInt8} {pre post : List (Nat × Nat × Bool)} {n v : Nat} {f : Bool} (ht : textB (rowOf (pre ++ (n, v, f) :: post)) = t) (hv : v ≤ 16) (hn : n < 2 ^ v) :
    getB t (rowOf pre).length (v : Int) = ((n : Int), (rowOf pre).length + v, 0) := by
  have hb : bitsOf t = alignB (rowOf (pre ++ (n, v, f) :: post)) := by rw [← ht]; exact bitsOf_textB (rowOf_two _)
  have hl : 8 * t.length = (bitsOf t).length := (bitsOf_length t).symm
  have hrow : rowOf (pre ++ (n, v, f) :: post) = rowOf pre ++ (bitsN v n ++ rowOf post) := by rw [rowOf_append]; rfl
  have hlen : (rowOf pre).length + v ≤ 8 * t.length := by
    rw [hl, hb, alignB_length, hrow, List.length_append, List.length_append, bitsN_length]; omega
  rw [getB_ok hv hlen, hb]
  unfold alignB
  rw [hrow, List.append_assoc, List.drop_left, List.append_assoc, List.take_left' (bitsN_length v n), numB_bitsN v n hn]
theorem got_rest {t : List UInt8} {ps : List (Nat × Nat × Bool)} (ht : textB (rowOf ps) = t) :
    8 * t.length = (rowOf ps).length + padN (rowOf ps).length ∧ getB t (rowOf ps).length (padN (rowOf ps).length : Int) = (0, 8 * t.length, 0) := by
  have hb : bitsOf t = alignB (rowOf ps) := by rw [← ht]; exact bitsOf_textB (rowOf_two _)
  have hl : 8 * t.length = (rowOf ps).length + padN (rowOf ps).length := by rw [← bitsOf_length, hb, alignB_length]
  have hp := padN_lt (rowOf ps).length
  refine ⟨hl, ?_⟩
  rw [getB_ok (by omega) (by omega), hb]
  unfold alignB
  rw [List.drop_left, List.take_of_length_le (by rw [List.length_replicate]; exact Nat.le_refl _), numB_zeros, ← hl]
  rfl
theorem getB_to2 {s : ByteArray} {pos to v : Nat} {n e : Int} (hp : pos ≤ 8 * s.size) (h : getB s.data.toList pos (v : Int) = (n, to, e)) : to ≤ 8 * s.size := by
  unfold getB at h
  rw [show s.data.toList.length = s.size by rw [← size_data]] at h
  split at h
  · simp only [Prod.mk.injEq] at h; omega
  · split at h
    · simp only [Prod.mk.injEq] at h; omega
    · simp only [Prod.mk.injEq] at h; omega
theorem owns_block {w w' : World} {B : Nat} {e : TypeId} {size : Nat} {v : Value} {n : Nat} {xs : List Value} (h : w.ownsRow B e size v n xs) (hb : ∀ k, v.ownBlock = some k → w'.heap[k]? = w.heap[k]?) : w'.ownsRow B e size v n xs := by
  refine ⟨h.1, ?_⟩
  rcases h.2 with h2 | ⟨g, cap, cur, hv, hB, hg, hr⟩
  · exact .inl h2
  · exact .inr ⟨g, cap, cur, hv, hB, (hb g (by rw [hv]; rfl)).trans hg, hr⟩
theorem acts_form {w : World} {B : Nat} {e : TypeId} {v : Value} {ps : List (Nat × Nat × Bool)} (h : w.ownsRow B e 3 v ps.length (cellsA ps)) : ∃ ao cp, v = .slice ao ps.length cp := by
  rcases h.2 with ⟨hv, h0⟩ | ⟨g, cap, cur, hv, _⟩
  · exact ⟨none, 0, by rw [hv, h0]⟩
  · exact ⟨_, _, hv⟩
theorem acts_at {w : World} {B n cp : Nat} {e : TypeId} {ao : Option Addr} {ps : List (Nat × Nat × Bool)} (h : w.ownsRow B e 3 (.slice ao n cp) n (cellsA ps)) {j : Nat} {a : Nat × Nat × Bool} (hn : 0 < n) (ha : ps[j]? = some a) :
    ∃ g, ao = some ⟨g, 0, none⟩ ∧ g < w.heap.size ∧ w.cell? ⟨g, j * 3, none⟩ = some (.int .i64 (a.1 : Int)) ∧ w.cell? ⟨g, j * 3 + 1, none⟩ = some (.int .i64 (a.2.1 : Int)) := by
  have hc := cellsA_at ps j a ha
  rcases h.2 with ⟨hv, h0⟩ | ⟨g, cap, cur, hv, _⟩
  · omega
  · have hao : ao = some ⟨g, 0, none⟩ := by injection hv
    subst hao
    have hcell := h.cells (g := g) rfl
    have e : ∀ k, (⟨g, 0, none⟩ : Addr).add k = ⟨g, k, none⟩ := fun k => by unfold Addr.add; split <;> simp_all
    have h1 := hcell _ _ hc.1
    have h2 := hcell _ _ hc.2
    rw [e] at h1 h2
    exact ⟨g, rfl, (h.lt g rfl).2, h1, h2⟩
theorem ps_split {ps : List (Nat × Nat × Bool)} {j : Nat} {a : Nat × Nat × Bool} (h : ps[j]? = some a) : ps = ps.take j ++ a :: ps.drop (j + 1) ∧ rowOf (ps.take (j + 1)) = rowOf (ps.take j) ++ bitsN a.2.1 a.1 := by
  obtain ⟨h1, h2⟩ := List.getElem?_eq_some_iff.1 h
  constructor
  · conv => lhs; rw [← List.take_append_drop j ps]
    rw [List.drop_eq_getElem_cons h1, h2]
  · rw [List.take_succ_eq_append_getElem h1, h2, rowOf_snoc]
theorem infoAct : (Try.prog.info? 31).map (fun i => (i.zero, i.size, i.bytes)) = some (some (.agg #[.int .i64 0, .int .i64 0, .bool false]), 3, 24) := by kernel_rfl

set_option maxRecDepth 100000 in
set_option maxHeartbeats 4000000 in
theorem bback_walk (p : Option Addr) (cap : Nat) (z : List (Int × Int × Bool)) (w : World) (hz : z.length ≤ 9223372036854775807) (hp : Acts w p z) :
    Calls Try.prog 5 #[.slice p z.length cap] w (Yes w) := by
  obtain ⟨i0, hi0, hz0, hz1, hz2⟩ := info_parts infoAct
  have Hp := Lib.hid hp
  clear hp
  by_cases hbig : (100 : Int) < (z.length : Int)
  · go_enter Try.func5, Try.ntmps5
    go_wp2_with fail
    refine (rows_any _).mono ?_
    rintro e w1 ⟨rfl, hb⟩
    have Hb := Lib.hid hb
    clear hb
    go_wp2_with fail
    go_ret
    exact ⟨rfl, Hb.out⟩
  · go_enter Try.func5, Try.ntmps5
    go_wp2_with fail
    go_loopg [4, 5] z.length (fun gg s4 s5 wx => ∃ (i : Nat) (ps : List (Nat × Nat × Bool)) (F : List Nat), i + gg = z.length ∧ s5 = .int .i64 i ∧ ps.length ≤ i ∧ Aside (∀ a ∈ ps, a.2.1 ≤ 16 ∧ a.1 < 2 ^ a.2.1) ∧
      Aside (WriterAt wx w.heap.size (rowOf ps) F ∧ wx.ownsRow w.heap.size 31 3 s4 ps.length (cellsA ps) ∧ (∀ k, s4.ownBlock = some k → k ∉ F) ∧ ∀ k ∈ F, w.heap.size ≤ k) ∧ Below w.heap.size w wx)
    case atStart =>
      exact ⟨0, [], [w.heap.size], by omega, rfl, by simp, (fun a ha => by cases ha), ⟨writer_new w, World.ownsRow_nil _ _ _ _, (fun k hk => by cases hk), fun k hk => by rw [mem_one hk]; exact Nat.le_refl _⟩, (Below.refl _ w).alloc (Nat.le_refl _) _⟩
    case round =>
      obtain ⟨i, ps, F, hig, rfl, hpl, HA, HI, hb⟩ := hrel
      have Hb := Lib.hid hb
      clear hb
      have hrl := rowOf_length fun a ha => (HA.out a ha).1
      have Hrl := Lib.hid hrl
      clear hrl
      cases gk with
      | succ gg =>
        have hi : i < z.length := by omega
        have hiz : (i : Int) < (z.length : Int) := by omega
        obtain ⟨b, off, n, v, f, rfl, hblt, hzi, hc0, hc1, hc2, hn0, hn1, hv0, hv1⟩ := Hp.out.at i hi
        have hd0 := (Hb.out.cell (p := ⟨b, off + i * 3, none⟩) hblt).trans hc0
        have hd1 := (Hb.out.cell (p := ⟨b, off + i * 3 + 1, none⟩) hblt).trans hc1
        have Hc0 := Lib.hid hc0
        have Hc1 := Lib.hid hc1
        have Hc2 := Lib.hid hc2
        clear hzi hc0 hc1 hc2
        obtain ⟨row', e0, hput⟩ : ∃ row' e0, putB (rowOf ps) n v = (row', e0) := ⟨_, _, rfl⟩
        by_cases he : e0 = 0
        · subst he
          obtain ⟨n', v', rfl, rfl, hv16, hnv, rfl⟩ := putB_zero hput
          have Hput := Lib.hid hput
          have Hgood : Hid (∀ a ∈ ps ++ [(n', v', f)], a.2.1 ≤ 16 ∧ a.1 < 2 ^ a.2.1) := Lib.hid fun a ha => by
            rcases List.mem_append.1 ha with ha | ha
            · exact HA.out a ha
            · simp only [List.mem_cons, List.not_mem_nil, or_false] at ha
              subst ha
              exact ⟨hv16, hnv⟩
          clear hput hnv
          go_wp2_with fail
          go_region_with (go_at_call 10; refine (wPut_is w.heap.size _ F _ _ _ (HI.out.1.later (Below.refl _ _).drew) (rowOf_two ps) (by have := Hrl.out; omega) hn0 hn1 hv0 hv1 Hput.out).mono ?_; rintro e w3 ⟨rfl, F2, hw, ht⟩)
          all_goals
            have Hb3 := Lib.hid (Hb.out.drew.trans (ht.below (B := w.heap.size) Hb.out.size HI.out.2.2.2))
            have HF2 := Lib.hid (ht.more (B := w.heap.size) Hb.out.size HI.out.2.2.2)
            have HW2 := Lib.hid hw
            have hne : ∀ k, u4.ownBlock = some k → k < wr.heap.size ∧ k ∉ F := fun k hk => ⟨(HI.out.2.1.lt k hk).2, HI.out.2.2.1 k hk⟩
            have HO2 : Hid (w3.ownsRow w.heap.size 31 3 u4 ps.length (cellsA ps)) := Lib.hid (owns_block HI.out.2.1 fun k hk => (ht.out (hne k hk).1 (hne k hk).2).1)
            have HN2 : Hid (∀ k, u4.ownBlock = some k → k ∉ F2) := Lib.hid fun k hk => (ht.out (hne k hk).1 (hne k hk).2).2
            have hd0' := (Hb3.out.cell (p := ⟨b, off + i * 3, none⟩) hblt).trans Hc0.out
            have hd1' := (Hb3.out.cell (p := ⟨b, off + i * 3 + 1, none⟩) hblt).trans Hc1.out
            have hd2' := (Hb3.out.cell (p := ⟨b, off + i * 3 + 2, none⟩) hblt).trans Hc2.out
            clear hw ht hne
            go_wp2_with (at_builtin; refine wpList_append_lies _ rfl (.tmp 35) (.tmp 40) 22 rfl w.heap.size 31 i0 (.agg #[.int .i64 0, .int .i64 0, .bool false]) 3 24 Try.underlying22 hi0 hz0 hz1 hz2 rfl (by decide) _ ps.length (cellsA ps) rfl (HO2.out.alloc _) ⟨w3.heap.size, 0, none⟩ 1 1 [.int .i64 (n' : Int), .int .i64 (v' : Int), .bool f] rfl rfl (World.news_of_block (heap_alloc_new _ _)) (by simp [Value.oneCell']) (by decide) (by unfold maxLen; omega) (by omega) (by have := Hb3.out.size; simp; omega) _ rfl ?_; intro g4 cap4 w4 hown hgrow hat _)
            have Hown := Lib.hid hown
            have Hgrow := Lib.hid hgrow
            have Hat := Lib.hid hat
            clear hown hgrow hat
            go_roundg gg
            case measure => omega
            case rel =>
              have hback : ∀ k, k < w3.heap.size → some k ≠ u4.ownBlock → w4.heap[k]? = w3.heap[k]? := fun k hk hne => by
                rw [Hgrow.out.block k (by simp; omega) hne]
                exact Below.heap_alloc _ _ _ hk
              have hF : ∀ k ∈ F2, k < w3.heap.size ∧ some k ≠ u4.ownBlock := fun k hk => ⟨HW2.out.lt k hk, fun e => HN2.out k e.symm hk⟩
              have hw3s : w3.heap.size ≤ w4.heap.size := by have := Hgrow.out.size; simp at this; omega
              refine ⟨i + 1, ps ++ [(n', v', f)], F2, by omega, by go_num, by rw [List.length_append]; simp; omega, Hgood.out, ⟨?_, ?_, ?_, HF2.out⟩, ?_⟩
              · rw [rowOf_snoc]
                exact HW2.out.move hw3s fun k hk => hback k (hF k hk).1 (hF k hk).2
              · rw [cellsA_snoc, List.length_append]; exact Hown.out
              · intro k hk
                have hk' : k = g4 := by injection hk with h; exact h.symm
                subst hk'
                intro hm
                rcases Hat.out with h | h
                · exact HN2.out _ h hm
                · rw [h] at hm
                  have := HW2.out.lt _ hm
                  simp at this
                  omega
              · exact (Hb3.out.alloc Hb3.out.size _).grown Hgrow.out (by have := Hb3.out.size; simp; omega) fun k hk => (HO2.out.lt k hk).1
        · have hez : (e0 == 0) = false := by simpa using he
          obtain rfl := putB_else he hput
          have Hput := Lib.hid hput
          clear hput he
          go_wp2_with fail
          go_region_with (go_at_call 10; refine (wPut_is w.heap.size _ F _ _ _ (HI.out.1.later (Below.refl _ _).drew) (rowOf_two ps) (by have := Hrl.out; omega) hn0 hn1 hv0 hv1 Hput.out).mono ?_; rintro e w3 ⟨rfl, F2, hw, ht⟩)
          all_goals
            have Hb3 := Lib.hid (Hb.out.drew.trans (ht.below (B := w.heap.size) Hb.out.size HI.out.2.2.2))
            have HF2 := Lib.hid (ht.more (B := w.heap.size) Hb.out.size HI.out.2.2.2)
            have HW2 := Lib.hid hw
            have hne : ∀ k, u4.ownBlock = some k → k < wr.heap.size ∧ k ∉ F := fun k hk => ⟨(HI.out.2.1.lt k hk).2, HI.out.2.2.1 k hk⟩
            have HO2 : Hid (w3.ownsRow w.heap.size 31 3 u4 ps.length (cellsA ps)) := Lib.hid (owns_block HI.out.2.1 fun k hk => (ht.out (hne k hk).1 (hne k hk).2).1)
            have HN2 : Hid (∀ k, u4.ownBlock = some k → k ∉ F2) := Lib.hid fun k hk => (ht.out (hne k hk).1 (hne k hk).2).2
            clear hw ht hne
            go_wp2_with fail
            go_roundg gg
            case measure => omega
            case rel => exact ⟨i + 1, ps, F2, by omega, by go_num, by omega, HA.out, ⟨HW2.out, HO2.out, HN2.out, HF2.out⟩, Hb3.out⟩
      | zero =>
        obtain rfl : i = z.length := by omega
        obtain ⟨t, ht⟩ : ∃ t : ByteArray, textB (rowOf ps) = t.data.toList := ⟨bytes (textB (rowOf ps)), (bytes_data _).symm⟩
        have hrest := got_rest ht
        rw [show t.data.toList.length = t.size by rw [← size_data]] at hrest
        obtain ⟨hl8, hrest⟩ := hrest
        have hpad := padN_lt (rowOf ps).length
        obtain ⟨R, hR⟩ : ∃ R, (rowOf ps).length = R := ⟨_, rfl⟩
        obtain ⟨D, hD⟩ : ∃ D, padN R = D := ⟨_, rfl⟩
        rw [hR, hD] at hl8 hrest
        rw [hR, hD] at hpad
        have hRb : R ≤ 1600 := by have := Hrl.out; omega
        have hts : t.size ≤ 100000 := by omega
        have Ht := Lib.hid ht
        have Hrest := Lib.hid hrest
        have HR := Lib.hid hR
        clear ht hrest hR hD hig
        go_wp2_with fail
        refine (wText_is w.heap.size _ F _ HI.out.1 (rowOf_two ps) (by have := Hrl.out; omega) Ht.out).mono ?_
        rintro e w1 ⟨rfl, hb⟩
        have Hb1 := Lib.hid (Hb.out.trans (hb.mono Hb.out.size))
        have Hw1 := Lib.hid (HI.out.1.later hb)
        have Ho1 := Lib.hid (owns_later HI.out.2.1 hb)
        clear hb
        go_wp2_with fail
        refine (rNew_is t _ hts).mono ?_
        rintro e w2 ⟨br, G, rfl, hr, hg, hb⟩
        have Hb2 := Lib.hid (Hb1.out.trans (hb.mono Hb1.out.size))
        have Hw2 := Lib.hid (Hw1.out.later hb)
        have Ho2 := Lib.hid (owns_later Ho1.out hb)
        have Hr2 := Lib.hid hr
        have HG2 : Hid (∀ k ∈ G, w.heap.size ≤ k) := Lib.hid fun k hk => by have := hg k hk; have := Hb1.out.size; omega
        have HGF : Hid (∀ k ∈ F, k ∉ G) := Lib.hid fun k hk hm => by have := hg k hm; have := Hw1.out.lt k hk; omega
        have HGO : Hid (∀ k, u4.ownBlock = some k → k ∉ G) := Lib.hid fun k hk hm => by have := hg k hm; have := (Ho1.out.lt k hk).2; omega
        clear hr hg hb
        obtain ⟨ao, cp, rfl⟩ := acts_form HI.out.2.1
        go_wp2_with fail
        go_loopg [7] ps.length (fun gg s7 wx => ∃ (j pos : Nat) (G' : List Nat), j + gg = ps.length ∧ s7 = .int .i64 j ∧ Aside (pos = (rowOf (ps.take j)).length) ∧ pos ≤ 8 * t.size ∧
          Aside (ReaderAt wx br t pos G' ∧ WriterAt wx w.heap.size (rowOf ps) F ∧ wx.ownsRow w.heap.size 31 3 (.slice ao ps.length cp) ps.length (cellsA ps) ∧ (∀ k ∈ G', w.heap.size ≤ k) ∧ (∀ k ∈ F, k ∉ G') ∧ ∀ k, (Value.slice ao ps.length cp).ownBlock = some k → k ∉ G') ∧ Below w.heap.size w wx)
        case atStart => exact ⟨0, 0, G, by omega, rfl, rfl, by omega, ⟨Hr2.out, Hw2.out, Ho2.out, HG2.out, HGF.out, HGO.out⟩, Hb2.out⟩
        case round =>
          obtain ⟨j, pos, G', hjg, rfl, HP, hpos, HJ, hb3⟩ := hrel
          have Hb3 := Lib.hid hb3
          clear hb3
          cases gk with
          | succ gg =>
            have hj : j < ps.length := by omega
            have hjz : (j : Int) < (ps.length : Int) := by omega
            obtain ⟨⟨n, v, f⟩, ha⟩ : ∃ a, ps[j]? = some a := ⟨_, List.getElem?_eq_getElem hj⟩
            have hgood := HA.out _ (List.mem_of_getElem? ha)
            have hsp := ps_split ha
            have hnext := got_next (t := t.data.toList) (pre := ps.take j) (post := ps.drop (j + 1)) (n := n) (v := v) (f := f) (by rw [← hsp.1]; exact Ht.out) hgood.1 hgood.2
            rw [← HP.out] at hnext
            have Hnext := Lib.hid hnext
            have Hpos2 : Hid (pos + v = (rowOf (ps.take (j + 1))).length) := Lib.hid (by rw [hsp.2, List.length_append, bitsN_length, HP.out])
            have hto := getB_to2 hpos hnext
            obtain ⟨g3, rfl, hg3, hc1, hc2⟩ := acts_at HJ.out.2.2.1 (by omega) ha
            have hv16 : v ≤ 16 := hgood.1
            have hn16 : n < 65536 := by
              have h1 := hgood.2
              have h2 : (2 : Nat) ^ v ≤ 2 ^ 16 := Nat.pow_le_pow_right (by omega) hv16
              simp only at h1
              omega
            have Hc1 := Lib.hid hc1
            have Hg3 := Lib.hid hg3
            clear hgood hsp hnext ha hc1 hg3
            go_wp2_with fail
            refine (rGet_is br t pos G' (v : Int) _ HJ.out.1 hpos hts (by omega) (by omega) Hnext.out).mono ?_
            rintro e w3 ⟨rfl, G3, hr, ht⟩
            have Hb4 := Lib.hid (Hb3.out.trans (ht.below (B := w.heap.size) Hb3.out.size HJ.out.2.2.2.1))
            have HG3 := Lib.hid (ht.more (B := w.heap.size) Hb3.out.size HJ.out.2.2.2.1)
            have Hr3 := Lib.hid hr
            have HnG := HJ.out.2.2.2.2.2 g3 rfl
            have Hw3 := Lib.hid (HJ.out.2.1.move ht.size fun k hk => (ht.out (HJ.out.2.1.lt k hk) (HJ.out.2.2.2.2.1 k hk)).1)
            have HF3 : Hid (∀ k ∈ F, k ∉ G3) := Lib.hid fun k hk => (ht.out (HJ.out.2.1.lt k hk) (HJ.out.2.2.2.2.1 k hk)).2
            have hown := ht.out Hg3.out HnG
            have Ho3 : Hid (w3.ownsRow w.heap.size 31 3 (.slice (some ⟨g3, 0, none⟩) ps.length cp) ps.length (cellsA ps)) := Lib.hid (owns_block HJ.out.2.2.1 fun k hk => by
              have hk' : g3 = k := by injection hk
              rw [← hk']; exact hown.1)
            have HO3 : Hid (∀ k, (Value.slice (some ⟨g3, 0, none⟩) ps.length cp).ownBlock = some k → k ∉ G3) := Lib.hid fun k hk => by
              have hk' : g3 = k := by injection hk
              rw [← hk']; exact hown.2
            have hc3 : w3.cell? ⟨g3, j * 3, none⟩ = some (.int .i64 (n : Int)) := (World.cell?_of_block (w := wr) hown.1).trans Hc1.out
            clear hr ht hown HnG
            go_wp2_with fail
            go_roundg gg
            case measure => omega
            case rel => exact ⟨j + 1, pos + v, G3, by omega, by go_num, Hpos2.out, hto, ⟨Hr3.out, Hw3.out, Ho3.out, HG3.out, HF3.out, HO3.out⟩, Hb4.out⟩
          | zero =>
            obtain rfl : j = ps.length := by omega
            have hposR : pos = R := by rw [HP.out, List.take_length, HR.out]
            subst hposR
            have hleft : 8 * (t.size : Int) - (pos : Int) = (D : Int) := by omega
            clear hjg
            go_wp2_with fail
            refine (wText_is w.heap.size _ F _ HJ.out.2.1 (rowOf_two ps) (by have := Hrl.out; omega) Ht.out).mono ?_
            rintro e w3 ⟨rfl, hb⟩
            have Hb4 := Lib.hid (Hb3.out.trans (hb.mono Hb3.out.size))
            have Hw4 := Lib.hid (HJ.out.2.1.later hb)
            have Hr4 := Lib.hid (HJ.out.1.later hb)
            clear hb
            go_wp2_with fail
            refine (rAt_is br t pos G' _ Hr4.out hpos hts).mono ?_
            rintro e w4 ⟨rfl, hb⟩
            have Hb5 := Lib.hid (Hb4.out.trans (hb.mono Hb4.out.size))
            have Hw5 := Lib.hid (Hw4.out.later hb)
            have Hr5 := Lib.hid (Hr4.out.later hb)
            clear hb
            go_wp2_with fail
            refine (rGet_is br t pos G' (D : Int) _ Hr5.out hpos hts (by omega) (by omega) Hrest.out).mono ?_
            rintro e w5 ⟨rfl, G5, hr, ht⟩
            have Hb6 := Lib.hid (Hb5.out.trans (ht.below (B := w.heap.size) Hb5.out.size HJ.out.2.2.2.1))
            have Hw6 := Lib.hid (Hw5.out.move ht.size fun k hk => (ht.out (Hw5.out.lt k hk) (HJ.out.2.2.2.2.1 k hk)).1)
            have Hr6 := Lib.hid hr
            clear hr ht
            go_wp2_with fail
            refine (rAt_is br t (8 * t.size) G5 _ Hr6.out (Nat.le_refl _) hts).mono ?_
            rintro e w6 ⟨rfl, hb⟩
            have Hb7 := Lib.hid (Hb6.out.trans (hb.mono Hb6.out.size))
            have Hw7 := Lib.hid (Hw6.out.later hb)
            clear hb
            go_wp2_with fail
            refine (wText_is w.heap.size _ F _ Hw7.out (rowOf_two ps) (by have := Hrl.out; omega) Ht.out).mono ?_
            rintro e w7 ⟨rfl, hb⟩
            have Hb8 := Lib.hid (Hb7.out.trans (hb.mono Hb7.out.size))
            clear hb
            have hDz : (D : Int) < 8 := by omega
            have h8z : ((8 * t.size : Nat) : Int) = 8 * (t.size : Int) := by omega
            go_wp2_with fail
            refine (rows_any _).mono ?_
            rintro e w8 ⟨rfl, hb⟩
            have Hb9 := Lib.hid (Hb8.out.trans (hb.mono Hb8.out.size))
            clear hb
            go_wp2_with fail
            go_ret
            exact ⟨rfl, Hb9.out⟩

end Go.Proofs.Ytcnokejjpcpphaa
