/-
  PaList, PaRead, PaDict: texts merged.
-/
import Derived.Test.YtejgcnmbngdkiaaGreatDoorNNum
import Derived.Test.YtejgcnmbngdkiaaGreatDoorNKey
/-
  (*reader).list.
-/
namespace Go.Proofs.YtejgcnmbngdkiaaGreatDoor
section
open Go.RowKit
set_option maxRecDepth 100000
attribute [local go_sem] undef Hv.arr

section
variable {b B : Nat} {w w' : World}
theorem OwnV.beside {p : Option Addr} {cap : Nat} {xs : List Hv} (h : OwnV w B p cap xs) (hb : Beside b w w') (hB : b < B) : OwnV w' B p cap xs := h.keep fun a ha => hb.out (h.lt a ha).2 (by have := (h.lt a ha).1; omega)
theorem RowV.beside {p : Option Addr} {cap : Nat} {xs : List Hv} {vs : List Val} (h : RowV w B p cap xs vs) (hb : Beside b w w') (hB : b < B) : RowV w' B p cap xs vs :=
  ⟨h.1.beside hb hB, h.2.1, fun i h1 h2 => ((h.2.2 i h1 h2).later (fun k hk => hb.out hk.2 (by have := hk.1.1; omega))).mono (fun _ hk => ⟨hk.1, Nat.lt_of_lt_of_le hk.2 hb.size⟩)⟩
/-- Behind an append of what lies in none of its memory. -/
theorem RowV.put {p : Option Addr} {cap : Nat} {xs : List Hv} {vs : List Val} (h : RowV w B p cap xs vs) {T : Nat → Prop} {g cap' : Nat} {y : Hv} {u : Val} (hy : Rd w T y u) (hT : ∀ k, T k → B ≤ k ∧ ∀ a, p = some a → k ≠ a.block)
    (h1 : OwnV w' B (some ⟨g, 0, none⟩) cap' (xs ++ [y])) (h2 : ∀ k, k < w.heap.size → (∀ q, p = some q → k ≠ q.block) → w'.heap[k]? = w.heap[k]?) (h3 : (p = some ⟨g, 0, none⟩ ∨ g = w.heap.size) ∧ w.heap.size ≤ w'.heap.size) :
    RowV w' B (some ⟨g, 0, none⟩) cap' (xs ++ [y]) (vs ++ [u]) := by
  refine ⟨h1, by rw [List.length_append, List.length_append, h.2.1]; rfl, fun i hi hi' => ?_⟩
  have hS : ∀ k, (B ≤ k ∧ ∀ a, p = some a → k ≠ a.block) ∧ k < w.heap.size → (B ≤ k ∧ ∀ a, (some ⟨g, 0, none⟩ : Option Addr) = some a → k ≠ a.block) ∧ k < w'.heap.size := fun k hk => by
    refine ⟨⟨hk.1.1, fun a ha => ?_⟩, by have := h3.2; omega⟩
    injection ha with ha
    subst ha
    rcases h3.1 with e | e
    · exact hk.1.2 _ e
    · show k ≠ g
      omega
  rcases Nat.lt_or_ge i xs.length with hlt | hge
  · have hlt' : i < vs.length := by rw [← h.2.1]; exact hlt
    rw [List.getElem_append_left hlt, List.getElem_append_left hlt']
    exact ((h.2.2 i hlt hlt').later (fun k hk => h2 k hk.2 hk.1.2)).mono hS
  · obtain rfl : i = xs.length := by rw [List.length_append] at hi; simp at hi; omega
    rw [List.getElem_append_right (Nat.le_refl _), List.getElem_append_right (by rw [h.2.1]; exact Nat.le_refl _)]
    exact by simpa [h.2.1] using ((hy.bound.mono (fun k hk => (⟨hT k hk.1, hk.2⟩ : (B ≤ k ∧ ∀ a, p = some a → k ≠ a.block) ∧ k < w.heap.size))).later (fun k hk => h2 k hk.2 hk.1.2)).mono hS
end

theorem setCell_far (w : World) (b o k : Nat) (v : Value) (h : k ≠ b) : (w.setCell ⟨b, o, none⟩ v).heap[k]? = w.heap[k]? := Below.heap_setCell _ _ _ _ h
/-- What stands while a list is read. -/
structure ListAt (s : ByteArray) (w wx : World) (b d : Nat) (k : Nat) (acc : List Val) (p : Option Addr) (cap : Nat) (xs : List Hv) : Prop where
  rdr : RdrAt wx b s (k : Int) (d + 1)
  bes : Beside b w wx
  box : VCell wx (w.heap.size + 1) ⟨5, 0, 0, ⟨#[]⟩, ⟨p, xs.length, cap⟩, ⟨none, 0, 0⟩⟩
  res : VCell wx w.heap.size .nil
  row : RowV wx (w.heap.size + 1 + 1) p cap xs acc
  le : k ≤ s.data.toList.length
  few : acc.length ≤ k
theorem ListAt.later {s : ByteArray} {w wx w' : World} {b d k : Nat} {acc : List Val} {p : Option Addr} {cap : Nat} {xs : List Hv} (h : ListAt s w wx b d k acc p cap xs) (hb : Below wx.heap.size wx w') : ListAt s w w' b d k acc p cap xs :=
  ⟨h.rdr.later hb h.rdr.lt, h.bes.then hb, h.box.later hb h.box.lt, h.res.later hb h.res.lt, h.row.later hb, h.le, h.few⟩
/-- Behind a call that moves the reader. -/
theorem ListAt.call {s : ByteArray} {w wx w' : World} {b d k : Nat} {acc : List Val} {p : Option Addr} {cap : Nat} {xs : List Hv} (h : ListAt s w wx b d k acc p cap xs) (hlt : b < w.heap.size) (hb : Beside b wx w') {k' : Nat} (hr : RdrAt w' b s (k' : Int) (d + 1)) (hk : k ≤ k') (hle : k' ≤ s.data.toList.length) : ListAt s w w' b d k' acc p cap xs :=
  ⟨hr, h.bes.trans hb, h.box.same (hb.out h.box.lt (by omega)), h.res.same (hb.out h.res.lt (by omega)), h.row.beside hb (by omega), hle, Nat.le_trans h.few hk⟩

set_option maxHeartbeats 8000000 in
theorem plist_of (s : ByteArray) (F : Nat) (hs : s.size ≤ 100000000) (hb : ∀ g, g < F → BegunC s g) : ListC s F := by
  intro k d b w hk hd hcode h
  have hlt := h.lt
  have hls : s.data.toList.length ≤ 100000000 := by rw [← size_data]; exact hs
  obtain ⟨w1, hw1⟩ : ∃ w1, w.alloc (.cells #[.int .i64 0, .int .i64 0, .int .i64 0, .string ⟨#[]⟩, .slice none 0 0, .slice none 0 0] 25) = w1 := ⟨_, rfl⟩
  obtain ⟨w2, hw2⟩ : ∃ w2, w1.alloc (.cells #[.int .i64 5, .int .i64 0, .int .i64 0, .string ⟨#[]⟩, .slice none 0 0, .slice none 0 0] 25) = w2 := ⟨_, rfl⟩
  have hs1 : w1.heap.size = w.heap.size + 1 := by rw [← hw1]; simp
  have hb1 : Below w.heap.size w w1 := by rw [← hw1]; exact (Below.refl _ w).alloc (Nat.le_refl _) _
  have hb2 : Below w1.heap.size w1 w2 := by rw [← hw2]; exact (Below.refl _ w1).alloc (Nat.le_refl _) _
  have hs2 : w2.heap.size = w.heap.size + 1 + 1 := by rw [← hw2]; simp [hs1]
  have HI0 : Hid (∃ acc p cap xs, ListAt s w w2 b d k acc p cap xs ∧ listP s.data.toList F k (d + 1) acc = listP s.data.toList F k (d + 1) []) := Lib.hid ⟨[], none, 0, [],
    ⟨(h.later hb1 hlt).later hb2 (by omega), .of_below (hb1.trans (hb2.mono (by omega))), (show VCell w2 (w.heap.size + 1) ⟨5, 0, 0, ⟨#[]⟩, ⟨none, 0, 0⟩, ⟨none, 0, 0⟩⟩ by rw [← hs1, ← hw2]; exact heap_alloc_new w1 _),
      (show VCell w1 w.heap.size .nil by rw [← hw1]; exact heap_alloc_new w _).later hb2 (by omega), by rw [← hs2]; exact RowV.void _ _, hk, Nat.zero_le _⟩, rfl⟩
  obtain ⟨R, hR⟩ : ∃ R, listP s.data.toList F k (d + 1) [] = R := ⟨_, rfl⟩
  rw [hR] at hcode HI0 ⊢
  have Hb := Lib.hid hb
  have Hw1 := Lib.hid hw1
  have Hw2 := Lib.hid hw2
  have Hcode := Lib.hid hcode
  clear hw1 hw2 hb1 hb2 h hR hb hcode
  go_enter Tryz.func84, Tryz.ntmps84
  go_wp2_with fail
  go_step3
  go_wp2_with fail
  go_step3
  rw [Hw1.out]
  go_wp2_with fail
  rw [Hw2.out]
  go_loopg [] F (fun g wx => ∃ (k : Nat) (acc : List Val) (p : Option Addr) (cap : Nat) (xs : List Hv), Aside (ListAt s w wx b d k acc p cap xs ∧ listP s.data.toList g k (d + 1) acc = R) ∧ g ≤ F)
  case atStart =>
    obtain ⟨acc, p, cap, xs, h1, h2⟩ := HI0.out
    exact ⟨k, acc, p, cap, xs, ⟨h1, h2⟩, Nat.le_refl _⟩
  case round =>
    obtain ⟨k, acc, p, cap, xs, HI, hg⟩ := hrel
    have Hcode' := Hcode.out
    cases gk with
    | zero =>
      exfalso
      have := HI.out.2
      rw [listP] at this
      rw [← this] at Hcode'
      exact Hcode' rfl
    | succ g =>
      have hL := HI.out.1
      have hP := HI.out.2
      have HL := Lib.hid hL
      have hk := hL.le
      obtain ⟨t, ht⟩ : ∃ t, nextN s.data.toList k = t := ⟨_, rfl⟩
      have hti := (nextI_nat hk).trans ht
      have hts := next_sound s.data.toList k hk
      have htg := next_good s.data.toList k hk
      have htp := next_step hk
      rw [ht] at hts htg htp
      by_cases hc : t.code = 0
      · have HN := Lib.hid (pnext_any s (k : Int) 58 [.int .i64 ((d + 1 : Nat) : Int)] b wr t hs hL.rdr hti hc)
        have hkf : k ≤ t.fin := by have := (htg.2 hc).1; have := (htg.2 hc).2.1; omega
        by_cases h5 : t.kind = 5
        · have hRe : R = ⟨.mk 5 0 0 (bytes []) acc [], t.fin, 0⟩ := by rw [← hP, list_end (by rw [ht]; exact hc) (by rw [ht]; exact h5), ht]
          have c5 : (t.kind == 5) = true := by simpa using h5
          have HRe := Lib.hid hRe
          have Hfin := Lib.hid hts.fin
          clear hti hts htg htp hc h5 HI hL hP hRe Hcode' ht
          go_wp2_with fail
          refine HN.out.mono ?_
          rintro e w3 ⟨rfl, hp, hb3⟩
          have HL3 := Lib.hid (HL.out.call hlt hb3 hp hkf Hfin.out)
          clear hp hb3
          go_wp2_with (first
            | (refine TokCell.store rfl rfl _ _ rfl w3.heap.size #[.int .i64 0, .int .i64 0, .string ⟨#[]⟩, .int .i64 0, .int .i64 0] t.kind t.num (bytes t.str) t.beg t.fin rfl rfl (TokCell.new w3 _) rfl w3.heap.size _ (Below.refl _ _) (Nat.le_refl _) ?_; intro w4 HT4 HB4 HO4; obtain ⟨r0, r1, r2, r3, r4⟩ := HT4.out.parts; have HL4 := Lib.hid (HL3.out.later (((Below.refl _ w3).alloc (Nat.le_refl _) _).trans HB4.out)); have HR4 := HL4.out.rdr; have HRes4 := HL4.out.res)
            | (refine VCell.load rfl (.tmp 4) rfl (w.heap.size + 1) _ rfl HL4.out.box ?_)
            | (refine VCell.store rfl rfl _ _ rfl w.heap.size .nil ⟨5, 0, 0, ⟨#[]⟩, ⟨p, xs.length, cap⟩, ⟨none, 0, 0⟩⟩ rfl rfl HRes4 ?_; intro wz HCz HKz HBz HZz))
          have hrow := HL4.out.row.read
          obtain ⟨g0, g1, g2, g3, g4, g5⟩ := HCz.out.at
          try dsimp only at g0 g1 g2 g3 g4 g5
          rw [Exit.noGoto_ret]
          exact bodyPost_ret (v := .tuple #[.agg #[.int .i64 5, .int .i64 0, .int .i64 0, .string ⟨#[]⟩, .slice p xs.length cap, .slice none 0 0], .int .i64 0]) (by simp [results, Tryz.results84, go_sem, g0, g1, g2, g3, g4, g5]) rfl
            (by rw [HRe.out]; exact tells_ok (R := ⟨.mk 5 0 0 (bytes []) acc [], t.fin, 0⟩) (y := ⟨5, 0, 0, ⟨#[]⟩, ⟨p, xs.length, cap⟩, ⟨none, 0, 0⟩⟩) (HR4.same (HKz.out b (by omega))) (HL4.out.bes.store (Nat.le_refl _) HBz.out) rfl (rd_iff.2 ⟨⟨rfl, rfl, rfl, rfl⟩, (hrow.later (fun k hk => HKz.out k (by omega))).mono (fun k hk => by omega), RdD.nil _ _ none 0 (Nat.zero_le _)⟩) rfl)
        · have c5 : (t.kind == 5) = false := by simpa using h5
          have HBc := Hb.out g (by omega) t (d + 1) b
          obtain ⟨P, hP2⟩ : ∃ P, begunP s.data.toList g t (d + 1) = P := ⟨_, rfl⟩
          rw [hP2] at HBc
          by_cases h3 : P.code = 0
          · have hRe : listP s.data.toList g P.fin (d + 1) (acc ++ [P.v]) = R := by
              rw [← hP, list_step (by rw [ht]; exact hc) (by rw [ht]; exact h5) (by rw [ht, hP2]; exact h3), ht, hP2]
            have hfine := (reads_fine s.data.toList g).1 t (d + 1) hts (by rw [hP2]; exact h3)
            rw [hP2] at hfine
            have h0 : ¬ t.kind = 0 := fun e => by
              rw [← hP2] at h3
              cases g with
              | zero => rw [begunP] at h3; exact absurd h3 (by decide)
              | succ g => rw [begun_end e] at h3; exact absurd h3 (by decide)
            have hst := htp hc h0
            have hlo := hfine.lo
            have HRe := Lib.hid hRe
            have Hfin := Lib.hid hts.fin
            have Hhi := Lib.hid hfine.hi
            have HBn := Lib.hid (fun W (h : RdrAt W b s (t.fin : Int) (d + 1)) => HBc W hts (by omega) (by rw [h3]; decide) h)
            clear hti hts htg htp hc h5 HI hL hP hRe Hcode' HBc hfine h0 ht hP2
            go_wp2_with fail
            refine HN.out.mono ?_
            rintro e w3 ⟨rfl, hp, hb3⟩
            have HL3 := Lib.hid (HL.out.call hlt hb3 hp hkf Hfin.out)
            clear hp hb3
            go_wp2_with (first
              | (refine TokCell.store rfl rfl _ _ rfl w3.heap.size #[.int .i64 0, .int .i64 0, .string ⟨#[]⟩, .int .i64 0, .int .i64 0] t.kind t.num (bytes t.str) t.beg t.fin rfl rfl (TokCell.new w3 _) rfl w3.heap.size _ (Below.refl _ _) (Nat.le_refl _) ?_; intro w4 HT4 HB4 HO4; obtain ⟨r0, r1, r2, r3, r4⟩ := HT4.out.parts; have HL4 := Lib.hid (HL3.out.later (((Below.refl _ w3).alloc (Nat.le_refl _) _).trans HB4.out)); have HR4 := HL4.out.rdr; have HRes4 := HL4.out.res)
              | (refine TokCell.load rfl _ rfl w3.heap.size _ rfl HT4.out rfl ?_))
            refine (HBn.out w4 HR4).mono ?_
            rintro e w5 ⟨⟨yk, yn, yg, ys, ⟨ylp, yll, ylc⟩, ⟨ydp, ydl, ydc⟩⟩, a5, he, hr5, hb5, hv5⟩
            obtain ⟨rfl, hy5⟩ := hv5 h3
            rw [h3] at he
            replace he : e = .returned (.tuple #[.agg #[.int .i64 yk, .int .i64 yn, .int .i64 yg, .string ys, .slice ylp yll ylc, .slice ydp ydl ydc], .int .i64 0]) := he
            subst he
            have HL5 := Lib.hid (HL4.out.call hlt hb5 hr5 hlo Hhi.out)
            have Hy5 := Lib.hid hy5
            have hz5 := hb5.size
            have hz4 := HL4.out.row.1.lt
            have hzz4 := HL4.out.box.lt
            clear hr5 hb5 hv5 hy5 HR4 HRes4
            go_wp2_with (first
              | (refine VCell.store rfl rfl (.tmp 7) (.tmp 29) rfl w5.heap.size .nil ⟨yk, yn, yg, ys, ⟨ylp, yll, ylc⟩, ⟨ydp, ydl, ydc⟩⟩ rfl rfl (VCell.new w5 .nil) ?_; intro w6 HC6 HK6 HB6 HZ6; have hb56 : Below w5.heap.size w5 w6 := ((Below.refl _ w5).alloc (Nat.le_refl _) _).trans HB6.out; have HL6 := Lib.hid (HL5.out.later hb56); have Hy6 := Lib.hid (Hy5.out.bound.later (fun k hk => hb56.block k hk.2)); have x4 : w6.cell? ⟨w.heap.size + 1, 4, none⟩ = some (.slice p xs.length cap) := HL6.out.box.cell 4)
              | (refine VCell.load rfl (.tmp 7) rfl w5.heap.size _ rfl HC6.out ?_)
              | (at_builtin; refine wpList_append_V rfl (.tmp 36) (.tmp 38) rfl (w.heap.size + 1 + 1) _ _ xs rfl (HL6.out.row.1.push rfl) ⟨yk, yn, yg, ys, ⟨ylp, yll, ylc⟩, ⟨ydp, ydl, ydc⟩⟩ w6.heap.size 1 rfl (push_new rfl) (by have := HL6.out.few; have := HL6.out.le; have := HL6.out.row.2.1; omega) _ (Below.refl _ _) (by have := HL6.out.box.lt; simp; omega) ?_; intro g' cap' w7 HO7 HB7 HK7 HF7; have HO67 : Hid (∀ k, k < w6.heap.size → (∀ q, p = some q → k ≠ q.block) → w7.heap[k]? = w6.heap[k]?) := Lib.hid (fun k hk hq => (HK7.out k (by simp; omega) hq).trans (push_old rfl hk)); have hbq : ∀ j, j < w.heap.size + 1 + 1 → ∀ q, p = some q → j ≠ q.block := (fun j hj q hq => by have := (HL6.out.row.1.lt q hq).1; omega); have Hv7 := Lib.hid (HL6.out.box.same (HO67.out _ HL6.out.box.lt (hbq _ (by omega)))); have x7 : w7.cell? ⟨w.heap.size + 1, 4, none⟩ = some (.slice p xs.length cap) := Hv7.out.cell 4; have z7 := Hv7.out.free 4))
            have e : (xs ++ [(⟨yk, yn, yg, ys, ⟨ylp, yll, ylc⟩, ⟨ydp, ydl, ydc⟩⟩ : Hv)]).length = xs.length + 1 := by rw [List.length_append]; rfl
            go_roundg g
            case measure => omega
            case rel =>
              refine ⟨P.fin, acc ++ [P.v], some ⟨g', 0, none⟩, cap', xs ++ [⟨yk, yn, yg, ys, ⟨ylp, yll, ylc⟩, ⟨ydp, ydl, ydc⟩⟩], (show Aside _ from ⟨⟨?_, ?_, ?_, ?_, ?_, ?_, ?_⟩, HRe.out⟩), by omega⟩
              · exact HL6.out.rdr.same ((setCell_far _ _ _ _ _ (by omega)).trans (HO67.out b HL6.out.rdr.lt (hbq b (by omega))))
              · exact ((HL6.out.bes.alloc (.cells (⟨yk, yn, yg, ys, ⟨ylp, yll, ylc⟩, ⟨ydp, ydl, ydc⟩⟩ : Hv).arr 25)).store (q := w.heap.size + 1 + 1) (by omega) HB7.out).setNew (by omega) 4 _
              · rw [e]; exact Hv7.out.setL _ _ _
              · exact HL6.out.res.same ((setCell_far _ _ _ _ _ (by omega)).trans (HO67.out _ HL6.out.res.lt (hbq _ (by omega))))
              · refine RowV.beside (b := w.heap.size + 1) ?_ ((Beside.refl _ _).setAt 4 _) (by omega)
                exact RowV.put (HL6.out.row.later ((Below.refl _ w6).alloc (Nat.le_refl _) (.cells (⟨yk, yn, yg, ys, ⟨ylp, yll, ylc⟩, ⟨ydp, ydl, ydc⟩⟩ : Hv).arr 25))) (Hy6.out.bound.later (fun k hk => heap_alloc_old _ _ hk.2)) (fun k hk => ⟨by have := hk.1.1; omega, fun a ha => by have := (hz4 a ha).2; have := hk.1.1; omega⟩) HO7.out HK7.out HF7.out
              · exact Hhi.out
              · rw [List.length_append]; show acc.length + 1 ≤ _; have := HL.out.few; omega
          · have hRe : R = .err P.code := by rw [← hP, list_bad (by rw [ht]; exact hc) (by rw [ht]; exact h5) (by rw [ht, hP2]; exact h3), ht, hP2]
            have hPc : ¬ P.code = -1 := by rw [hRe] at Hcode'; exact Hcode'
            have HRe := Lib.hid hRe
            have Hfin := Lib.hid hts.fin
            have HBn := Lib.hid (fun W (h : RdrAt W b s (t.fin : Int) (d + 1)) => HBc W hts (by omega) hPc h)
            have hcd : (P.code != 0) = true := by simpa using h3
            have H3 := Lib.hid h3
            generalize hPq : P.code = c at *
            clear hti hts htg htp hc h5 HI hL hP hRe Hcode' HBc ht hP2 h3 hPc
            go_wp2_with fail
            refine HN.out.mono ?_
            rintro e w3 ⟨rfl, hp, hb3⟩
            have HL3 := Lib.hid (HL.out.call hlt hb3 hp hkf Hfin.out)
            clear hp hb3
            go_wp2_with (first
              | (refine TokCell.store rfl rfl _ _ rfl w3.heap.size #[.int .i64 0, .int .i64 0, .string ⟨#[]⟩, .int .i64 0, .int .i64 0] t.kind t.num (bytes t.str) t.beg t.fin rfl rfl (TokCell.new w3 _) rfl w3.heap.size _ (Below.refl _ _) (Nat.le_refl _) ?_; intro w4 HT4 HB4 HO4; obtain ⟨r0, r1, r2, r3, r4⟩ := HT4.out.parts; have HL4 := Lib.hid (HL3.out.later (((Below.refl _ w3).alloc (Nat.le_refl _) _).trans HB4.out)); have HR4 := HL4.out.rdr; have HRes4 := HL4.out.res)
              | (refine TokCell.load rfl _ rfl w3.heap.size _ rfl HT4.out rfl ?_))
            refine (HBn.out w4 HR4).mono ?_
            rintro e w5 ⟨⟨yk, yn, yg, ys, ⟨ylp, yll, ylc⟩, ⟨ydp, ydl, ydc⟩⟩, a5, he, hr5, hb5, hv5⟩
            rw [hPq] at he
            replace he : e = .returned (.tuple #[.agg #[.int .i64 yk, .int .i64 yn, .int .i64 yg, .string ys, .slice ylp yll ylc, .slice ydp ydl ydc], .int .i64 c]) := he
            subst he
            have HR5 := Lib.hid hr5
            have HS5 := Lib.hid (HL4.out.bes.trans hb5)
            have HV5 := Lib.hid (HL4.out.res.same (hb5.out HL4.out.res.lt (by omega)))
            clear hr5 hb5 hv5 HR4 HRes4
            go_wp2_with (first
              | (refine VCell.store rfl rfl (.tmp 7) (.tmp 29) rfl w5.heap.size .nil ⟨yk, yn, yg, ys, ⟨ylp, yll, ylc⟩, ⟨ydp, ydl, ydc⟩⟩ rfl rfl (VCell.new w5 .nil) ?_; intro w6 HC6 HK6 HB6 HZ6; have hb56 : Below w5.heap.size w5 w6 := ((Below.refl _ w5).alloc (Nat.le_refl _) _).trans HB6.out; have HR6 := Lib.hid (HR5.out.later hb56 HR5.out.lt); have HS6 := Lib.hid (HS5.out.then hb56); have HV6 := Lib.hid (HV5.out.later hb56 HV5.out.lt))
              | (refine VCell.store rfl rfl _ _ rfl w.heap.size .nil ⟨0, 0, 0, ⟨#[]⟩, ⟨none, 0, 0⟩, ⟨none, 0, 0⟩⟩ rfl rfl HV6.out ?_; intro wz HCz HKz HBz HZz))
            obtain ⟨g0, g1, g2, g3, g4, g5⟩ := HCz.out.at
            try dsimp only at g0 g1 g2 g3 g4 g5
            rw [Exit.noGoto_ret]
            exact bodyPost_ret (v := .tuple #[.agg #[.int .i64 0, .int .i64 0, .int .i64 0, .string ⟨#[]⟩, .slice none 0 0, .slice none 0 0], .int .i64 c]) (by simp [results, Tryz.results84, go_sem, g0, g1, g2, g3, g4, g5]) rfl
              (by rw [HRe.out]; exact tells_err (y := ⟨0, 0, 0, ⟨#[]⟩, ⟨none, 0, 0⟩, ⟨none, 0, 0⟩⟩) (HR6.out.same (HKz.out b (by omega))) (HS6.out.store (Nat.le_refl _) HBz.out) H3.out rfl)
      · have HN := Lib.hid (pnext_err s (k : Int) 58 [.int .i64 ((d + 1 : Nat) : Int)] b wr t.code hs hL.rdr (hti.trans (htg.1.1 hc)) hc)
        have hRe : R = .err t.code := by rw [← hP, list_err (by rw [ht]; exact hc), ht]
        have hcd : (t.code != 0) = true := by simpa using hc
        have HRe := Lib.hid hRe
        have H3 := Lib.hid hc
        generalize t.code = c at *
        clear hti hts htg htp hc HI hL hP hRe Hcode' ht
        go_wp2_with fail
        refine HN.out.mono ?_
        rintro e w3 ⟨rfl, hp, hb3⟩
        have HL3 := Lib.hid (HL.out.call (k' := k) hlt hb3 hp (Nat.le_refl _) hk)
        clear hp hb3
        go_wp2_with (first
          | (refine TokCell.store rfl rfl _ _ rfl w3.heap.size #[.int .i64 0, .int .i64 0, .string ⟨#[]⟩, .int .i64 0, .int .i64 0] 0 0 ⟨#[]⟩ 0 0 rfl rfl (TokCell.new w3 _) rfl w3.heap.size _ (Below.refl _ _) (Nat.le_refl _) ?_; intro w4 HT4 HB4 HO4; obtain ⟨r0, r1, r2, r3, r4⟩ := HT4.out.parts; have HL4 := Lib.hid (HL3.out.later (((Below.refl _ w3).alloc (Nat.le_refl _) _).trans HB4.out)); have HR4 := HL4.out.rdr; have HRes4 := HL4.out.res)
          | (refine VCell.store rfl rfl _ _ rfl w.heap.size .nil ⟨0, 0, 0, ⟨#[]⟩, ⟨none, 0, 0⟩, ⟨none, 0, 0⟩⟩ rfl rfl HRes4 ?_; intro wz HCz HKz HBz HZz))
        obtain ⟨g0, g1, g2, g3, g4, g5⟩ := HCz.out.at
        try dsimp only at g0 g1 g2 g3 g4 g5
        rw [Exit.noGoto_ret]
        exact bodyPost_ret (v := .tuple #[.agg #[.int .i64 0, .int .i64 0, .int .i64 0, .string ⟨#[]⟩, .slice none 0 0, .slice none 0 0], .int .i64 c]) (by simp [results, Tryz.results84, go_sem, g0, g1, g2, g3, g4, g5]) rfl
          (by rw [HRe.out]; exact tells_err (y := ⟨0, 0, 0, ⟨#[]⟩, ⟨none, 0, 0⟩, ⟨none, 0, 0⟩⟩) (HR4.same (HKz.out b (by omega))) (HL4.out.bes.store (Nat.le_refl _) HBz.out) H3.out rfl)
end
end Go.Proofs.YtejgcnmbngdkiaaGreatDoor
/-
  (*reader).read; (*reader).dict.
-/
namespace Go.Proofs.YtejgcnmbngdkiaaGreatDoor
section
open Go.RowKit
set_option maxRecDepth 100000
attribute [local go_sem] undef Hv.arr

section
variable {b B : Nat} {w w' : World}
theorem OwnP.beside {p : Option Addr} {cap : Nat} {xs : List Hp} (h : OwnP w B p cap xs) (hb : Beside b w w') (hB : b < B) : OwnP w' B p cap xs := h.keep fun a ha => hb.out (h.lt a ha).2 (by have := (h.lt a ha).1; omega)
theorem RowP.beside {p : Option Addr} {cap : Nat} {xs : List Hp} {vs : Prs} (h : RowP w B p cap xs vs) (hb : Beside b w w') (hB : b < B) : RowP w' B p cap xs vs :=
  ⟨h.1.beside hb hB, h.2.1, fun i h1 h2 => ⟨(h.2.2 i h1 h2).1, ((h.2.2 i h1 h2).2.later (fun k hk => hb.out hk.2 (by have := hk.1.1; omega))).mono (fun _ hk => ⟨hk.1, Nat.lt_of_lt_of_le hk.2 hb.size⟩)⟩⟩
theorem RowP.put {p : Option Addr} {cap : Nat} {xs : List Hp} {vs : Prs} (h : RowP w B p cap xs vs) {T : Nat → Prop} {g cap' : Nat} {y : Hp} {u : ByteArray × Val} (hk : y.key = u.1) (hy : Rd w T y.v u.2) (hT : ∀ k, T k → B ≤ k ∧ ∀ a, p = some a → k ≠ a.block)
    (h1 : OwnP w' B (some ⟨g, 0, none⟩) cap' (xs ++ [y])) (h2 : ∀ k, k < w.heap.size → (∀ q, p = some q → k ≠ q.block) → w'.heap[k]? = w.heap[k]?) (h3 : (p = some ⟨g, 0, none⟩ ∨ g = w.heap.size) ∧ w.heap.size ≤ w'.heap.size) :
    RowP w' B (some ⟨g, 0, none⟩) cap' (xs ++ [y]) (vs ++ [u]) := by
  refine ⟨h1, by rw [List.length_append, List.length_append, h.2.1]; rfl, fun i hi hi' => ?_⟩
  have hS : ∀ k, (B ≤ k ∧ ∀ a, p = some a → k ≠ a.block) ∧ k < w.heap.size → (B ≤ k ∧ ∀ a, (some ⟨g, 0, none⟩ : Option Addr) = some a → k ≠ a.block) ∧ k < w'.heap.size := fun k hk => by
    refine ⟨⟨hk.1.1, fun a ha => ?_⟩, by have := h3.2; omega⟩
    injection ha with ha
    subst ha
    rcases h3.1 with e | e
    · exact hk.1.2 _ e
    · show k ≠ g
      omega
  rcases Nat.lt_or_ge i xs.length with hlt | hge
  · have hlt' : i < vs.length := by rw [← h.2.1]; exact hlt
    rw [List.getElem_append_left hlt, List.getElem_append_left hlt']
    exact ⟨(h.2.2 i hlt hlt').1, ((h.2.2 i hlt hlt').2.later (fun k hk => h2 k hk.2 hk.1.2)).mono hS⟩
  · obtain rfl : i = xs.length := by rw [List.length_append] at hi; simp at hi; omega
    rw [List.getElem_append_right (Nat.le_refl _), List.getElem_append_right (by rw [h.2.1]; exact Nat.le_refl _)]
    exact by simpa [h.2.1] using (⟨hk, ((hy.bound.mono (fun k hk => (⟨hT k hk.1, hk.2⟩ : (B ≤ k ∧ ∀ a, p = some a → k ≠ a.block) ∧ k < w.heap.size))).later (fun k hk => h2 k hk.2 hk.1.2)).mono hS⟩ : y.key = u.1 ∧ _)
end

/-- How often a key stands among pairs. -/
def hadF (acc : Prs) (u : ByteArray) : Int := if hasK u acc = true then 1 else 0
theorem hadF_snoc {acc : Prs} {k : List UInt8} {v : Val} : (fun u => if u = bytes k then 1 else hadF acc u) = hadF (acc ++ [pairV k v]) := by
  funext u
  unfold hadF hasK
  rw [List.any_append]
  by_cases e : u = bytes k
  · subst e; simp [pairV]
  · rw [if_neg e]
    have : ([pairV k v].any fun q => decide (q.1 = u)) = false := by simp [pairV]; exact fun h => e h.symm
    rw [this, Bool.or_false]
/-- What stands while a dictionary is read. -/
structure DictAt (s : ByteArray) (w wx : World) (b d : Nat) (k : Nat) (acc : Prs) (p : Option Addr) (cap : Nat) (xs : List Hp) : Prop where
  rdr : RdrAt wx b s (k : Int) (d + 1)
  bes : Beside b w wx
  box : VCell wx (w.heap.size + 1) ⟨6, 0, 0, ⟨#[]⟩, ⟨none, 0, 0⟩, ⟨p, xs.length, cap⟩⟩
  res : VCell wx w.heap.size .nil
  map : MapS wx (w.heap.size + 1 + 1) acc.length (hadF acc)
  row : RowP wx (w.heap.size + 1 + 1 + 1) p cap xs acc
  le : k ≤ s.data.toList.length
  few : acc.length ≤ k
section
variable {s : ByteArray} {w wx w' : World} {b d k : Nat} {acc : Prs} {p : Option Addr} {cap : Nat} {xs : List Hp}
theorem DictAt.later (h : DictAt s w wx b d k acc p cap xs) (hb : Below wx.heap.size wx w') : DictAt s w w' b d k acc p cap xs :=
  ⟨h.rdr.later hb h.rdr.lt, h.bes.then hb, h.box.later hb h.box.lt, h.res.later hb h.res.lt, h.map.move (hb.block _ h.map.lt), h.row.later hb, h.le, h.few⟩
/-- Behind a call that moves the reader. -/
theorem DictAt.call (h : DictAt s w wx b d k acc p cap xs) (hlt : b < w.heap.size) (hb : Beside b wx w') {k' : Nat} (hr : RdrAt w' b s (k' : Int) (d + 1)) (hk : k ≤ k') (hle : k' ≤ s.data.toList.length) : DictAt s w w' b d k' acc p cap xs :=
  ⟨hr, h.bes.trans hb, h.box.same (hb.out h.box.lt (by omega)), h.res.same (hb.out h.res.lt (by omega)), h.map.move (hb.out h.map.lt (by omega)), h.row.beside hb (by omega), hle, Nat.le_trans h.few hk⟩
end
/-- Beside the map: all but the map stays. -/
structure DictOn (s : ByteArray) (w wx : World) (b d : Nat) (k : Nat) (acc : Prs) (p : Option Addr) (cap : Nat) (xs : List Hp) (cnt : Nat) (f : ByteArray → Int) : Prop where
  rdr : RdrAt wx b s (k : Int) (d + 1)
  bes : Beside b w wx
  box : VCell wx (w.heap.size + 1) ⟨6, 0, 0, ⟨#[]⟩, ⟨none, 0, 0⟩, ⟨p, xs.length, cap⟩⟩
  res : VCell wx w.heap.size .nil
  map : MapS wx (w.heap.size + 1 + 1) cnt f
  row : RowP wx (w.heap.size + 1 + 1 + 1) p cap xs acc
  le : k ≤ s.data.toList.length
  few : acc.length ≤ k
section
variable {s : ByteArray} {w wx w' : World} {b d k : Nat} {acc : Prs} {p : Option Addr} {cap : Nat} {xs : List Hp} {cnt : Nat} {f : ByteArray → Int}
theorem DictAt.key (h : DictAt s w wx b d k acc p cap xs) (hlt : b < w.heap.size) (hb : Beside (w.heap.size + 1 + 1) wx w') (hm : MapS w' (w.heap.size + 1 + 1) cnt f) : DictOn s w w' b d k acc p cap xs cnt f :=
  ⟨h.rdr.same (hb.out h.rdr.lt (by omega)), h.bes.new hb (by omega), h.box.same (hb.out h.box.lt (by omega)), h.res.same (hb.out h.res.lt (by omega)), hm, h.row.beside hb (by omega), h.le, h.few⟩
theorem DictOn.later (h : DictOn s w wx b d k acc p cap xs cnt f) (hb : Below wx.heap.size wx w') : DictOn s w w' b d k acc p cap xs cnt f :=
  ⟨h.rdr.later hb h.rdr.lt, h.bes.then hb, h.box.later hb h.box.lt, h.res.later hb h.res.lt, h.map.move (hb.block _ h.map.lt), h.row.later hb, h.le, h.few⟩
theorem DictOn.call (h : DictOn s w wx b d k acc p cap xs cnt f) (hlt : b < w.heap.size) (hb : Beside b wx w') {k' : Nat} (hr : RdrAt w' b s (k' : Int) (d + 1)) (hk : k ≤ k') (hle : k' ≤ s.data.toList.length) : DictOn s w w' b d k' acc p cap xs cnt f :=
  ⟨hr, h.bes.trans hb, h.box.same (hb.out h.box.lt (by omega)), h.res.same (hb.out h.res.lt (by omega)), h.map.move (hb.out h.map.lt (by omega)), h.row.beside hb (by omega), hle, Nat.le_trans h.few hk⟩
end
/-- What read tells, with so much fuel. -/
def ReadC (s : ByteArray) (g : Nat) : Prop := ∀ (k d b : Nat) (w : World), k ≤ s.data.toList.length → d ≤ 64 → ¬ (readP s.data.toList g k d).code = -1 → RdrAt w b s (k : Int) d →
  Calls Tryz.prog 19 #[.pointer (some ⟨b, 0, none⟩)] w (Tells b s d (readP s.data.toList g k d) w)

set_option maxHeartbeats 8000000 in
theorem read_at (s : ByteArray) (g : Nat) (hs : s.size ≤ 100000000) (hb : BegunC s g) (a : Int) (k d b : Nat) (w : World) (ha : nextI s.data.toList a = nextN s.data.toList k) (hk : k ≤ s.data.toList.length) (hd : d ≤ 64) (hcode : ¬ (readP s.data.toList g k d).code = -1) (h : RdrAt w b s a d) :
    Calls Tryz.prog 19 #[.pointer (some ⟨b, 0, none⟩)] w (Tells b s d (readP s.data.toList g k d) w) := by
  have hlt := h.lt
  obtain ⟨w1, hw1⟩ : ∃ w1, w.alloc (.cells #[.int .i64 0, .int .i64 0, .int .i64 0, .string ⟨#[]⟩, .slice none 0 0, .slice none 0 0] 25) = w1 := ⟨_, rfl⟩
  have hs1 : w1.heap.size = w.heap.size + 1 := by rw [← hw1]; simp
  have hb1 : Below w.heap.size w w1 := by rw [← hw1]; exact (Below.refl _ w).alloc (Nat.le_refl _) _
  have HV := Lib.hid (show VCell w1 w.heap.size .nil by rw [← hw1]; exact heap_alloc_new w _)
  have hr1 : RdrAt w1 b s a d := h.later hb1 hlt
  have HS := Lib.hid (Beside.of_below (b := b) hb1)
  have Hw1 := Lib.hid hw1
  obtain ⟨R, hR⟩ : ∃ R, readP s.data.toList g k d = R := ⟨_, rfl⟩
  rw [hR] at hcode ⊢
  obtain ⟨t, ht⟩ : ∃ t, nextN s.data.toList k = t := ⟨_, rfl⟩
  have hti := ha.trans ht
  have hts := next_sound s.data.toList k hk
  have htg := next_good s.data.toList k hk
  rw [ht] at hts htg
  clear hw1 hb1 h
  by_cases hc : t.code = 0
  · have HN := Lib.hid (pnext_any s a 58 [.int .i64 (d : Int)] b w1 t hs hr1 hti hc)
    have hRe : begunP s.data.toList g t d = R := by rw [← hR, pread_ok (by rw [ht]; exact hc), ht]
    have HB := Lib.hid (fun W (h : RdrAt W b s (t.fin : Int) d) => hb t d b W hts hd (by rw [hRe]; exact hcode) h)
    rw [hRe] at HB
    clear hti hts htg hc hr1 hRe hR ht hcode
    go_enter Tryz.func19, Tryz.ntmps19
    iterate 6 go_step
    rw [Hw1.out]
    go_wp2_with fail
    refine HN.out.mono ?_
    rintro e w3 ⟨rfl, hp, hb3⟩
    have HR3 := Lib.hid (show RdrAt w3 b s (t.fin : Int) d from hp)
    have HS3 := Lib.hid (HS.out.trans hb3)
    have HV3 := Lib.hid (HV.out.same (hb3.out HV.out.lt (by omega)))
    clear hp hb3
    go_wp2_with (first
      | (refine TokCell.store rfl rfl _ _ rfl w3.heap.size #[.int .i64 0, .int .i64 0, .string ⟨#[]⟩, .int .i64 0, .int .i64 0] t.kind t.num (bytes t.str) t.beg t.fin rfl rfl (TokCell.new w3 _) rfl w3.heap.size _ (Below.refl _ _) (Nat.le_refl _) ?_; intro w4 HT4 HB4 HO4; have hb4 : Below w3.heap.size w3 w4 := ((Below.refl _ w3).alloc (Nat.le_refl _) _).trans HB4.out; have HR4 := Lib.hid (HR3.out.later hb4 HR3.out.lt); have HS4 := Lib.hid (HS3.out.then hb4); have HV4 := Lib.hid (HV3.out.later hb4 HV3.out.lt))
      | (refine TokCell.load rfl _ rfl w3.heap.size _ rfl HT4.out rfl ?_))
    refine (HB.out w4 HR4.out).mono ?_
    rintro e w5 ⟨⟨yk, yn, yg, ys, ⟨ylp, yll, ylc⟩, ⟨ydp, ydl, ydc⟩⟩, a5, he, hr5, hb5, hv5⟩
    replace he : e = .returned (.tuple #[.agg #[.int .i64 yk, .int .i64 yn, .int .i64 yg, .string ys, .slice ylp yll ylc, .slice ydp ydl ydc], .int .i64 R.code]) := he
    subst he
    have HR5 := Lib.hid hr5
    have HS5 := Lib.hid (HS4.out.trans hb5)
    have HV5 := Lib.hid (HV4.out.same (hb5.out HV4.out.lt (by omega)))
    have Hv5 := Lib.hid hv5
    have hz4 := HV4.out.lt
    have hz5 := hb5.size
    clear hr5 hb5 hv5
    go_wp2_with (refine VCell.store rfl rfl _ _ rfl w.heap.size .nil ⟨yk, yn, yg, ys, ⟨ylp, yll, ylc⟩, ⟨ydp, ydl, ydc⟩⟩ rfl rfl HV5.out ?_; intro wz HCz HKz HBz HZz)
    obtain ⟨g0, g1, g2, g3, g4, g5⟩ := HCz.out.at
    try dsimp only at g0 g1 g2 g3 g4 g5
    exact bodyPost_ret (v := .tuple #[.agg #[.int .i64 yk, .int .i64 yn, .int .i64 yg, .string ys, .slice ylp yll ylc, .slice ydp ydl ydc], .int .i64 R.code]) (by simp [results, Tryz.results19, go_sem, g0, g1, g2, g3, g4, g5]) rfl
      ⟨⟨yk, yn, yg, ys, ⟨ylp, yll, ylc⟩, ⟨ydp, ydl, ydc⟩⟩, a5, rfl, HR5.out.same (HKz.out b (by omega)), HS5.out.store (Nat.le_refl _) HBz.out, fun h0 => ⟨(Hv5.out h0).1, ((Hv5.out h0).2.later (fun k hk => HKz.out k (by omega))).mono (fun k hk => by omega)⟩⟩
  · have HN := Lib.hid (pnext_err s a 58 [.int .i64 (d : Int)] b w1 t.code hs hr1 (hti.trans (htg.1.1 hc)) hc)
    have hRe : R = .err t.code := by rw [← hR, pread_err (by rw [ht]; exact hc), ht]
    have hcd : (t.code != 0) = true := by simpa using hc
    have HRe := Lib.hid hRe
    have H3 := Lib.hid hc
    generalize t.code = c at *
    clear hti hts htg hc hr1 hRe hR ht hcode
    go_enter Tryz.func19, Tryz.ntmps19
    iterate 6 go_step
    rw [Hw1.out]
    go_wp2_with fail
    refine HN.out.mono ?_
    rintro e w3 ⟨rfl, hp, hb3⟩
    have HR3 := Lib.hid (show RdrAt w3 b s a d from hp)
    have HS3 := Lib.hid (HS.out.trans hb3)
    have HV3 := Lib.hid (HV.out.same (hb3.out HV.out.lt (by omega)))
    clear hp hb3
    go_wp2_with (first
      | (refine TokCell.store rfl rfl _ _ rfl w3.heap.size #[.int .i64 0, .int .i64 0, .string ⟨#[]⟩, .int .i64 0, .int .i64 0] 0 0 ⟨#[]⟩ 0 0 rfl rfl (TokCell.new w3 _) rfl w3.heap.size _ (Below.refl _ _) (Nat.le_refl _) ?_; intro w4 HT4 HB4 HO4; have hb4 : Below w3.heap.size w3 w4 := ((Below.refl _ w3).alloc (Nat.le_refl _) _).trans HB4.out; have HR4 := Lib.hid (HR3.out.later hb4 HR3.out.lt); have HS4 := Lib.hid (HS3.out.then hb4); have HV4 := Lib.hid (HV3.out.later hb4 HV3.out.lt))
      | (refine VCell.store rfl rfl _ _ rfl w.heap.size .nil ⟨0, 0, 0, ⟨#[]⟩, ⟨none, 0, 0⟩, ⟨none, 0, 0⟩⟩ rfl rfl HV4.out ?_; intro wz HCz HKz HBz HZz))
    obtain ⟨g0, g1, g2, g3, g4, g5⟩ := HCz.out.at
    try dsimp only at g0 g1 g2 g3 g4 g5
    exact bodyPost_ret (v := .tuple #[.agg #[.int .i64 0, .int .i64 0, .int .i64 0, .string ⟨#[]⟩, .slice none 0 0, .slice none 0 0], .int .i64 c]) (by simp [results, Tryz.results19, go_sem, g0, g1, g2, g3, g4, g5]) rfl
      (by rw [HRe.out]; exact tells_err (y := ⟨0, 0, 0, ⟨#[]⟩, ⟨none, 0, 0⟩, ⟨none, 0, 0⟩⟩) (HR4.out.same (HKz.out b (by omega))) (HS4.out.store (Nat.le_refl _) HBz.out) H3.out rfl)
theorem read_of (s : ByteArray) (g : Nat) (hs : s.size ≤ 100000000) (hb : BegunC s g) : ReadC s g := fun k d b w hk hd hc h => read_at s g hs hb (k : Int) k d b w (nextI_nat hk) hk hd hc h
end
end Go.Proofs.YtejgcnmbngdkiaaGreatDoor
/-
  (*reader).dict.
-/
namespace Go.Proofs.YtejgcnmbngdkiaaGreatDoor
section
open Go.RowKit
set_option maxRecDepth 100000
attribute [local go_sem] undef Hv.arr

theorem keyI_zero {t : Sg} {acc : Prs} (h : keyI t (hadF acc) = 0) : t.kind = 2 ∧ hasK (bytes t.str) acc = false := by
  unfold keyI at h
  split at h
  · exact absurd h (by decide)
  split at h
  · rename_i h2
    split at h
    · rename_i h3
      refine ⟨h2, ?_⟩
      unfold hadF at h3
      cases e : hasK (bytes t.str) acc with
      | false => rfl
      | true => rw [e, if_pos rfl] at h3; exact absurd h3 (by decide)
    · exact absurd h (by decide)
  · exact absurd h (by decide)
theorem dict_key_err {l : List UInt8} {g k d : Nat} {acc : Prs} (hc : (nextN l k).code = 0) (h7 : ¬ (nextN l k).kind = 7) (hK : ¬ keyI (nextN l k) (hadF acc) = 0) : dictP l (g + 1) k d acc = .err (keyI (nextN l k) (hadF acc)) := by
  unfold keyI at hK ⊢
  by_cases h0 : (nextN l k).kind = 0
  · rw [dict_short hc h0, if_pos h0]
  · rw [if_neg h0] at hK ⊢
    by_cases h2 : (nextN l k).kind = 2
    · rw [if_pos h2] at hK ⊢
      unfold hadF at hK ⊢
      cases e : hasK (bytes (nextN l k).str) acc with
      | false => rw [e] at hK; exact absurd rfl hK
      | true => rw [dict_key hc h2 e]; rfl
    · rw [if_neg h2, dict_form hc (by omega)]
set_option maxHeartbeats 8000000 in
theorem dict_of (s : ByteArray) (F : Nat) (hs : s.size ≤ 100000000) (hb : ∀ g, g < F → ReadC s g) : DictC s F := by
  intro k d b w hk hd hcode h
  have hlt := h.lt
  have hls : s.data.toList.length ≤ 100000000 := by rw [← size_data]; exact hs
  obtain ⟨w1, hw1⟩ : ∃ w1, w.alloc (.cells #[.int .i64 0, .int .i64 0, .int .i64 0, .string ⟨#[]⟩, .slice none 0 0, .slice none 0 0] 25) = w1 := ⟨_, rfl⟩
  obtain ⟨w2, hw2⟩ : ∃ w2, w1.alloc (.cells #[.int .i64 6, .int .i64 0, .int .i64 0, .string ⟨#[]⟩, .slice none 0 0, .slice none 0 0] 25) = w2 := ⟨_, rfl⟩
  obtain ⟨w0, hw0⟩ : ∃ w0, w2.alloc (.map #[] 0) = w0 := ⟨_, rfl⟩
  have hs1 : w1.heap.size = w.heap.size + 1 := by rw [← hw1]; simp
  have hb1 : Below w.heap.size w w1 := by rw [← hw1]; exact (Below.refl _ w).alloc (Nat.le_refl _) _
  have hb2 : Below w1.heap.size w1 w2 := by rw [← hw2]; exact (Below.refl _ w1).alloc (Nat.le_refl _) _
  have hs2 : w2.heap.size = w.heap.size + 1 + 1 := by rw [← hw2]; simp [hs1]
  have hb0 : Below w2.heap.size w2 w0 := by rw [← hw0]; exact (Below.refl _ w2).alloc (Nat.le_refl _) _
  have hs0 : w0.heap.size = w.heap.size + 1 + 1 + 1 := by rw [← hw0]; simp [hs2]
  have HI0 : Hid (∃ acc p cap xs, DictAt s w w0 b d k acc p cap xs ∧ dictP s.data.toList F k (d + 1) acc = dictP s.data.toList F k (d + 1) []) := Lib.hid ⟨[], none, 0, [],
    ⟨((h.later hb1 hlt).later hb2 (by omega)).later hb0 (by omega), .of_below (hb1.trans ((hb2.mono (by omega)).trans (hb0.mono (by omega)))), (show VCell w2 (w.heap.size + 1) ⟨6, 0, 0, ⟨#[]⟩, ⟨none, 0, 0⟩, ⟨none, 0, 0⟩⟩ by rw [← hs1, ← hw2]; exact heap_alloc_new w1 _).later hb0 (by omega),
      ((show VCell w1 w.heap.size .nil by rw [← hw1]; exact heap_alloc_new w _).later hb2 (by omega)).later hb0 (by omega), by rw [← hs2, ← hw0]; exact MapS.made w2, by rw [← hs0]; exact RowP.void _ _, hk, Nat.zero_le _⟩, rfl⟩
  obtain ⟨R, hR⟩ : ∃ R, dictP s.data.toList F k (d + 1) [] = R := ⟨_, rfl⟩
  rw [hR] at hcode HI0 ⊢
  have Hb := Lib.hid hb
  have Hw1 := Lib.hid hw1
  have Hw2 := Lib.hid hw2
  have Hw0 := Lib.hid hw0
  have Hcode := Lib.hid hcode
  have hmm := fun W => @run_makeMap Tryz.prog 96 W
  clear hw1 hw2 hw0 hb1 hb2 hb0 h hR hb hcode
  go_enter Tryz.func85, Tryz.ntmps85
  iterate 6 go_step
  rw [Hw1.out]
  go_wp2_with fail
  rw [Hw2.out, Hw0.out]
  clear hmm
  go_loopg [] F (fun g wx => ∃ (k : Nat) (acc : Prs) (p : Option Addr) (cap : Nat) (xs : List Hp), Aside (DictAt s w wx b d k acc p cap xs ∧ dictP s.data.toList g k (d + 1) acc = R) ∧ g ≤ F)
  case atStart =>
    obtain ⟨acc, p, cap, xs, h1, h2⟩ := HI0.out
    exact ⟨k, acc, p, cap, xs, ⟨h1, h2⟩, Nat.le_refl _⟩
  case round =>
    obtain ⟨k, acc, p, cap, xs, HI, hg⟩ := hrel
    have Hcode' := Hcode.out
    cases gk with
    | zero =>
      exfalso
      have := HI.out.2
      rw [dictP] at this
      rw [← this] at Hcode'
      exact Hcode' rfl
    | succ g =>
      have hL := HI.out.1
      have hP := HI.out.2
      have HL := Lib.hid hL
      have hk := hL.le
      obtain ⟨t, ht⟩ : ∃ t, nextN s.data.toList k = t := ⟨_, rfl⟩
      have hti := (nextI_nat hk).trans ht
      have hts := next_sound s.data.toList k hk
      have htg := next_good s.data.toList k hk
      have htp := next_step hk
      rw [ht] at hts htg htp
      by_cases hc : t.code = 0
      · have HN := Lib.hid (pnext_any s (k : Int) 58 [.int .i64 ((d + 1 : Nat) : Int)] b wr t hs hL.rdr hti hc)
        have hkf : k ≤ t.fin := by have := (htg.2 hc).1; have := (htg.2 hc).2.1; omega
        by_cases h7 : t.kind = 7
        · have hRe : R = ⟨.mk 6 0 0 (bytes []) [] acc, t.fin, 0⟩ := by rw [← hP, dict_end (by rw [ht]; exact hc) (by rw [ht]; exact h7), ht]
          have c7 : (t.kind == 7) = true := by simpa using h7
          have HRe := Lib.hid hRe
          have Hfin := Lib.hid hts.fin
          clear hti hts htg htp hc h7 HI hL hP hRe Hcode' ht
          go_wp2_with fail
          refine HN.out.mono ?_
          rintro e w3 ⟨rfl, hp, hb3⟩
          have HL3 := Lib.hid (HL.out.call hlt hb3 hp hkf Hfin.out)
          clear hp hb3
          go_wp2_with (first
            | (refine TokCell.store rfl rfl _ _ rfl w3.heap.size #[.int .i64 0, .int .i64 0, .string ⟨#[]⟩, .int .i64 0, .int .i64 0] t.kind t.num (bytes t.str) t.beg t.fin rfl rfl (TokCell.new w3 _) rfl w3.heap.size _ (Below.refl _ _) (Nat.le_refl _) ?_; intro w4 HT4 HB4 HO4; obtain ⟨r0, r1, r2, r3, r4⟩ := HT4.out.parts; have HL4 := Lib.hid (HL3.out.later (((Below.refl _ w3).alloc (Nat.le_refl _) _).trans HB4.out)); have HR4 := HL4.out.rdr; have HRes4 := HL4.out.res)
            | (refine VCell.load rfl (.tmp 4) rfl (w.heap.size + 1) _ rfl HL4.out.box ?_)
            | (refine VCell.store rfl rfl _ _ rfl w.heap.size .nil ⟨6, 0, 0, ⟨#[]⟩, ⟨none, 0, 0⟩, ⟨p, xs.length, cap⟩⟩ rfl rfl HRes4 ?_; intro wz HCz HKz HBz HZz))
          have hrow := HL4.out.row.read
          obtain ⟨g0, g1, g2, g3, g4, g5⟩ := HCz.out.at
          try dsimp only at g0 g1 g2 g3 g4 g5
          exact bodyPost_ret (v := .tuple #[.agg #[.int .i64 6, .int .i64 0, .int .i64 0, .string ⟨#[]⟩, .slice none 0 0, .slice p xs.length cap], .int .i64 0]) (by simp [results, Tryz.results85, go_sem, g0, g1, g2, g3, g4, g5]) rfl
            (by rw [HRe.out]; exact tells_ok (R := ⟨.mk 6 0 0 (bytes []) [] acc, t.fin, 0⟩) (y := ⟨6, 0, 0, ⟨#[]⟩, ⟨none, 0, 0⟩, ⟨p, xs.length, cap⟩⟩) (HR4.same (HKz.out b (by omega))) (HL4.out.bes.store (Nat.le_refl _) HBz.out) rfl (rd_iff.2 ⟨⟨rfl, rfl, rfl, rfl⟩, RdL.nil _ _ none 0 (Nat.zero_le _), (hrow.later (fun k hk => HKz.out k (by omega))).mono (fun k hk => by omega)⟩) rfl)
        · have c7 : (t.kind == 7) = false := by simpa using h7
          have hKey := fun W (h : MapS W (w.heap.size + 1 + 1) acc.length (hadF acc)) => keyCode_any t (w.heap.size + 1 + 1) acc.length (hadF acc) W h (by have := hL.few; omega) (by have := hts.str; omega) (by unfold hadF; split; exact .inr rfl; exact .inl rfl)
          obtain ⟨K, hK⟩ : ∃ K, keyI t (hadF acc) = K := ⟨_, rfl⟩
          rw [hK] at hKey
          by_cases hK0 : K = 0
          · obtain ⟨h2, hfree⟩ := keyI_zero (hK.trans hK0)
            have hst := htp hc (by omega)
            subst hK0
            have HBc := Hb.out g (by omega) t.fin (d + 1) b
            obtain ⟨P, hP2⟩ : ∃ P, readP s.data.toList g t.fin (d + 1) = P := ⟨_, rfl⟩
            rw [hP2] at HBc
            by_cases h3 : P.code = 0
            · have hRe : dictP s.data.toList g P.fin (d + 1) (acc ++ [pairV t.str P.v]) = R := by
                rw [← hP, dict_step (by rw [ht]; exact hc) (by rw [ht]; exact h2) (by rw [ht]; exact hfree) (by rw [ht, hP2]; exact h3), ht, hP2]
              have hfine := read_fine hts.fin (by rw [hP2]; exact h3)
              rw [hP2] at hfine
              have hlo := hfine.lo
              have HRe := Lib.hid hRe
              have Hfin := Lib.hid hts.fin
              have Hhi := Lib.hid hfine.hi
              have HBn := Lib.hid (fun W (h : RdrAt W b s (t.fin : Int) (d + 1)) => HBc W hts.fin (by omega) (by rw [h3]; decide) h)
              have HKey := Lib.hid hKey
              have Hstr := Lib.hid hts.str
              clear hti hts htg htp hc h7 HI hL hP hRe Hcode' HBc hfine h2 hfree ht hP2 hKey hK
              go_wp2_with fail
              refine HN.out.mono ?_
              rintro e w3 ⟨rfl, hp, hb3⟩
              have HL3 := Lib.hid (HL.out.call hlt hb3 hp hkf Hfin.out)
              have hm3 := HL3.out.map.lt
              clear hp hb3
              go_wp2_with (first
                | (refine TokCell.store rfl rfl _ _ rfl w3.heap.size #[.int .i64 0, .int .i64 0, .string ⟨#[]⟩, .int .i64 0, .int .i64 0] t.kind t.num (bytes t.str) t.beg t.fin rfl rfl (TokCell.new w3 _) rfl w3.heap.size _ (Below.refl _ _) (Nat.le_refl _) ?_; intro w4 HT4 HB4 HO4; obtain ⟨r0, r1, r2, r3, r4⟩ := HT4.out.parts; have HL4 := Lib.hid (HL3.out.later (((Below.refl _ w3).alloc (Nat.le_refl _) _).trans HB4.out)); have HR4 := HL4.out.rdr; have HRes4 := HL4.out.res)
                | (refine TokCell.load rfl _ rfl w3.heap.size _ rfl HT4.out rfl ?_))
              refine (HKey.out w4 HL4.out.map).mono ?_
              rintro e w5 ⟨rfl, hb5, hm5⟩
              have HL5 := Lib.hid (HL4.out.key hlt hb5 (hm5 trivial))
              have HT5 := Lib.hid (HT4.out.same (hb5.out HT4.out.lt (by omega)))
              have HR5 := HL5.out.rdr
              have hz45 := hb5.size
              clear hb5 hm5 HR4 HRes4 r0 r1 r2 r3 r4
              go_wp2_with fail
              refine (HBn.out w5 HR5).mono ?_
              rintro e w6 ⟨⟨yk, yn, yg, ys, ⟨ylp, yll, ylc⟩, ⟨ydp, ydl, ydc⟩⟩, a6, he, hr6, hb6, hv6⟩
              obtain ⟨rfl, hy6⟩ := hv6 h3
              rw [h3] at he
              replace he : e = .returned (.tuple #[.agg #[.int .i64 yk, .int .i64 yn, .int .i64 yg, .string ys, .slice ylp yll ylc, .slice ydp ydl ydc], .int .i64 0]) := he
              subst he
              have HL6 := Lib.hid (HL5.out.call hlt hb6 hr6 hlo Hhi.out)
              have HT6 := Lib.hid (HT5.out.same (hb6.out HT5.out.lt (by omega)))
              have Hy6 := Lib.hid hy6
              have hz6 := hb6.size
              have hz5 := HL5.out.row.1.lt
              have hzz5 := HL5.out.map.lt
              clear hr6 hb6 hv6 hy6 HR5
              go_wp2_with (first
                | (refine VCell.store rfl rfl (.tmp 9) (.tmp 39) rfl w6.heap.size .nil ⟨yk, yn, yg, ys, ⟨ylp, yll, ylc⟩, ⟨ydp, ydl, ydc⟩⟩ rfl rfl (VCell.new w6 .nil) ?_; intro w7 HC7 HK7 HB7 HZ7; have hb67 : Below w6.heap.size w6 w7 := ((Below.refl _ w6).alloc (Nat.le_refl _) _).trans HB7.out; have HL7 := Lib.hid (HL6.out.later hb67); have Hy7 := Lib.hid (Hy6.out.bound.later (fun k hk => hb67.block k hk.2)); have x5 : w7.cell? ⟨w.heap.size + 1, 5, none⟩ = some (.slice p xs.length cap) := HL7.out.box.cell 5; have t7 := HT6.out.later hb67 HT6.out.lt; obtain ⟨_, _, y2, _, _⟩ := t7.parts; clear t7)
                | (refine VCell.load rfl (.tmp 9) rfl w6.heap.size _ rfl HC7.out ?_)
                | (at_builtin; refine wpList_append_P rfl (.tmp 46) (.tmp 51) rfl (w.heap.size + 1 + 1 + 1) _ _ xs rfl (HL7.out.row.1.push rfl) ⟨bytes t.str, ⟨yk, yn, yg, ys, ⟨ylp, yll, ylc⟩, ⟨ydp, ydl, ydc⟩⟩⟩ w7.heap.size 1 rfl (push_new rfl) (by have := HL7.out.few; have := HL7.out.le; have := HL7.out.row.2.1; omega) _ (Below.refl _ _) (by have := HL7.out.map.lt; simp; omega) ?_; intro g' cap' w8 HO8 HB8 HK8 HF8; have HO78 : Hid (∀ k, k < w7.heap.size → (∀ q, p = some q → k ≠ q.block) → w8.heap[k]? = w7.heap[k]?) := Lib.hid (fun k hk hq => (HK8.out k (by simp; omega) hq).trans (push_old rfl hk)); have hbq : ∀ j, j < w.heap.size + 1 + 1 + 1 → ∀ q, p = some q → j ≠ q.block := (fun j hj q hq => by have := (HL7.out.row.1.lt q hq).1; omega); have Hv8 := Lib.hid (HL7.out.box.same (HO78.out _ HL7.out.box.lt (hbq _ (by omega)))); have x8 : w8.cell? ⟨w.heap.size + 1, 5, none⟩ = some (.slice p xs.length cap) := Hv8.out.cell 5; have z8 := Hv8.out.free 5))
              have e : (xs ++ [(⟨bytes t.str, ⟨yk, yn, yg, ys, ⟨ylp, yll, ylc⟩, ⟨ydp, ydl, ydc⟩⟩⟩ : Hp)]).length = xs.length + 1 := by rw [List.length_append]; rfl
              have hl7 := HL7.out.map.lt
              go_roundg g
              case measure => omega
              case rel =>
                refine ⟨P.fin, acc ++ [pairV t.str P.v], some ⟨g', 0, none⟩, cap', xs ++ [⟨bytes t.str, ⟨yk, yn, yg, ys, ⟨ylp, yll, ylc⟩, ⟨ydp, ydl, ydc⟩⟩⟩], (show Aside _ from ⟨⟨?_, ?_, ?_, ?_, ?_, ?_, ?_, ?_⟩, HRe.out⟩), by omega⟩
                · exact HL7.out.rdr.same ((setCell_far _ _ _ _ _ (by omega)).trans (HO78.out b HL7.out.rdr.lt (hbq b (by omega))))
                · exact ((HL7.out.bes.alloc (.cells (⟨bytes t.str, ⟨yk, yn, yg, ys, ⟨ylp, yll, ylc⟩, ⟨ydp, ydl, ydc⟩⟩⟩ : Hp).arr 42)).store (q := w.heap.size + 1 + 1 + 1) (by omega) HB8.out).setNew (by omega) 5 _
                · rw [e]; exact Hv8.out.setD _ _ _
                · exact HL7.out.res.same ((setCell_far _ _ _ _ _ (by omega)).trans (HO78.out _ HL7.out.res.lt (hbq _ (by omega))))
                · have hm := HL7.out.map
                  rw [hadF_snoc (v := P.v)] at hm
                  rw [List.length_append]
                  exact hm.move ((setCell_far _ _ _ _ _ (by omega)).trans (HO78.out _ hl7 (hbq _ (by omega))))
                · refine RowP.beside (b := w.heap.size + 1) ?_ ((Beside.refl _ _).setAt 5 _) (by omega)
                  exact RowP.put (HL7.out.row.later ((Below.refl _ w7).alloc (Nat.le_refl _) (.cells (⟨bytes t.str, ⟨yk, yn, yg, ys, ⟨ylp, yll, ylc⟩, ⟨ydp, ydl, ydc⟩⟩⟩ : Hp).arr 42))) rfl (Hy7.out.bound.later (fun k hk => heap_alloc_old _ _ hk.2)) (fun k hk => ⟨by have := hk.1.1; omega, fun a ha => by have := (hz5 a ha).2; have := hk.1.1; omega⟩) HO8.out HK8.out HF8.out
                · exact Hhi.out
                · rw [List.length_append]; show acc.length + 1 ≤ _; have := HL.out.few; omega
            · have hRe : R = .err P.code := by rw [← hP, dict_read (by rw [ht]; exact hc) (by rw [ht]; exact h2) (by rw [ht]; exact hfree) (by rw [ht, hP2]; exact h3), ht, hP2]
              have hPc : ¬ P.code = -1 := by rw [hRe] at Hcode'; exact Hcode'
              have HRe := Lib.hid hRe
              have Hfin := Lib.hid hts.fin
              have HBn := Lib.hid (fun W (h : RdrAt W b s (t.fin : Int) (d + 1)) => HBc W hts.fin (by omega) hPc h)
              have hcd : (P.code != 0) = true := by simpa using h3
              have H3 := Lib.hid h3
              have HKey := Lib.hid hKey
              generalize hPq : P.code = c at *
              clear hti hts htg htp hc h7 HI hL hP hRe Hcode' HBc ht hP2 h3 hPc h2 hfree hKey hK
              go_wp2_with fail
              refine HN.out.mono ?_
              rintro e w3 ⟨rfl, hp, hb3⟩
              have HL3 := Lib.hid (HL.out.call hlt hb3 hp hkf Hfin.out)
              clear hp hb3
              go_wp2_with (first
                | (refine TokCell.store rfl rfl _ _ rfl w3.heap.size #[.int .i64 0, .int .i64 0, .string ⟨#[]⟩, .int .i64 0, .int .i64 0] t.kind t.num (bytes t.str) t.beg t.fin rfl rfl (TokCell.new w3 _) rfl w3.heap.size _ (Below.refl _ _) (Nat.le_refl _) ?_; intro w4 HT4 HB4 HO4; obtain ⟨r0, r1, r2, r3, r4⟩ := HT4.out.parts; have HL4 := Lib.hid (HL3.out.later (((Below.refl _ w3).alloc (Nat.le_refl _) _).trans HB4.out)); have HR4 := HL4.out.rdr; have HRes4 := HL4.out.res)
                | (refine TokCell.load rfl _ rfl w3.heap.size _ rfl HT4.out rfl ?_))
              refine (HKey.out w4 HL4.out.map).mono ?_
              rintro e w5 ⟨rfl, hb5, hm5⟩
              have HL5 := Lib.hid (HL4.out.key hlt hb5 (hm5 trivial))
              have HR5 := HL5.out.rdr
              clear hb5 hm5 HR4 HRes4 r0 r1 r2 r3 r4
              go_wp2_with fail
              refine (HBn.out w5 HR5).mono ?_
              rintro e w6 ⟨⟨yk, yn, yg, ys, ⟨ylp, yll, ylc⟩, ⟨ydp, ydl, ydc⟩⟩, a6, he, hr6, hb6, hv6⟩
              rw [hPq] at he
              replace he : e = .returned (.tuple #[.agg #[.int .i64 yk, .int .i64 yn, .int .i64 yg, .string ys, .slice ylp yll ylc, .slice ydp ydl ydc], .int .i64 c]) := he
              subst he
              have HR6 := Lib.hid hr6
              have HS6 := Lib.hid (HL5.out.bes.trans hb6)
              have HV6 := Lib.hid (HL5.out.res.same (hb6.out HL5.out.res.lt (by omega)))
              clear hr6 hb6 hv6 HR5
              go_wp2_with (first
                | (refine VCell.store rfl rfl (.tmp 9) (.tmp 39) rfl w6.heap.size .nil ⟨yk, yn, yg, ys, ⟨ylp, yll, ylc⟩, ⟨ydp, ydl, ydc⟩⟩ rfl rfl (VCell.new w6 .nil) ?_; intro w7 HC7 HK7 HB7 HZ7; have hb67 : Below w6.heap.size w6 w7 := ((Below.refl _ w6).alloc (Nat.le_refl _) _).trans HB7.out; have HR7 := Lib.hid (HR6.out.later hb67 HR6.out.lt); have HS7 := Lib.hid (HS6.out.then hb67); have HV7 := Lib.hid (HV6.out.later hb67 HV6.out.lt))
                | (refine VCell.store rfl rfl _ _ rfl w.heap.size .nil ⟨0, 0, 0, ⟨#[]⟩, ⟨none, 0, 0⟩, ⟨none, 0, 0⟩⟩ rfl rfl HV7.out ?_; intro wz HCz HKz HBz HZz))
              obtain ⟨g0, g1, g2, g3, g4, g5⟩ := HCz.out.at
              try dsimp only at g0 g1 g2 g3 g4 g5
              exact bodyPost_ret (v := .tuple #[.agg #[.int .i64 0, .int .i64 0, .int .i64 0, .string ⟨#[]⟩, .slice none 0 0, .slice none 0 0], .int .i64 c]) (by simp [results, Tryz.results85, go_sem, g0, g1, g2, g3, g4, g5]) rfl
                (by rw [HRe.out]; exact tells_err (y := ⟨0, 0, 0, ⟨#[]⟩, ⟨none, 0, 0⟩, ⟨none, 0, 0⟩⟩) (HR7.out.same (HKz.out b (by omega))) (HS7.out.store (Nat.le_refl _) HBz.out) H3.out rfl)
          · have hRe : R = .err K := by rw [← hP, dict_key_err (by rw [ht]; exact hc) (by rw [ht]; exact h7) (by rw [ht, hK]; exact hK0), ht, hK]
            have hcd : (K != 0) = true := by simpa using hK0
            have HRe := Lib.hid hRe
            have H3 := Lib.hid hK0
            have Hfin := Lib.hid hts.fin
            have HKey := Lib.hid hKey
            clear hti hts htg htp hc h7 HI hL hP hRe Hcode' ht hK hK0 hKey
            go_wp2_with fail
            refine HN.out.mono ?_
            rintro e w3 ⟨rfl, hp, hb3⟩
            have HL3 := Lib.hid (HL.out.call hlt hb3 hp hkf Hfin.out)
            clear hp hb3
            go_wp2_with (first
              | (refine TokCell.store rfl rfl _ _ rfl w3.heap.size #[.int .i64 0, .int .i64 0, .string ⟨#[]⟩, .int .i64 0, .int .i64 0] t.kind t.num (bytes t.str) t.beg t.fin rfl rfl (TokCell.new w3 _) rfl w3.heap.size _ (Below.refl _ _) (Nat.le_refl _) ?_; intro w4 HT4 HB4 HO4; obtain ⟨r0, r1, r2, r3, r4⟩ := HT4.out.parts; have HL4 := Lib.hid (HL3.out.later (((Below.refl _ w3).alloc (Nat.le_refl _) _).trans HB4.out)); have HR4 := HL4.out.rdr; have HRes4 := HL4.out.res)
              | (refine TokCell.load rfl _ rfl w3.heap.size _ rfl HT4.out rfl ?_))
            refine (HKey.out w4 HL4.out.map).mono ?_
            rintro e w5 ⟨rfl, hb5, hm5⟩
            have HR5 := Lib.hid (HL4.out.rdr.same (hb5.out HL4.out.rdr.lt (by omega)))
            have HS5 := Lib.hid (HL4.out.bes.new hb5 (by omega))
            have HV5 := Lib.hid (HL4.out.res.same (hb5.out HL4.out.res.lt (by omega)))
            clear hb5 hm5 HR4 HRes4 r0 r1 r2 r3 r4
            go_wp2_with (refine VCell.store rfl rfl _ _ rfl w.heap.size .nil ⟨0, 0, 0, ⟨#[]⟩, ⟨none, 0, 0⟩, ⟨none, 0, 0⟩⟩ rfl rfl HV5.out ?_; intro wz HCz HKz HBz HZz)
            obtain ⟨g0, g1, g2, g3, g4, g5⟩ := HCz.out.at
            try dsimp only at g0 g1 g2 g3 g4 g5
            exact bodyPost_ret (v := .tuple #[.agg #[.int .i64 0, .int .i64 0, .int .i64 0, .string ⟨#[]⟩, .slice none 0 0, .slice none 0 0], .int .i64 K]) (by simp [results, Tryz.results85, go_sem, g0, g1, g2, g3, g4, g5]) rfl
              (by rw [HRe.out]; exact tells_err (y := ⟨0, 0, 0, ⟨#[]⟩, ⟨none, 0, 0⟩, ⟨none, 0, 0⟩⟩) (HR5.out.same (HKz.out b (by omega))) (HS5.out.store (Nat.le_refl _) HBz.out) H3.out rfl)
      · have HN := Lib.hid (pnext_err s (k : Int) 58 [.int .i64 ((d + 1 : Nat) : Int)] b wr t.code hs hL.rdr (hti.trans (htg.1.1 hc)) hc)
        have hRe : R = .err t.code := by rw [← hP, dict_err (by rw [ht]; exact hc), ht]
        have hcd : (t.code != 0) = true := by simpa using hc
        have HRe := Lib.hid hRe
        have H3 := Lib.hid hc
        generalize t.code = c at *
        clear hti hts htg htp hc HI hL hP hRe Hcode' ht
        go_wp2_with fail
        refine HN.out.mono ?_
        rintro e w3 ⟨rfl, hp, hb3⟩
        have HL3 := Lib.hid (HL.out.call (k' := k) hlt hb3 hp (Nat.le_refl _) hk)
        clear hp hb3
        go_wp2_with (first
          | (refine TokCell.store rfl rfl _ _ rfl w3.heap.size #[.int .i64 0, .int .i64 0, .string ⟨#[]⟩, .int .i64 0, .int .i64 0] 0 0 ⟨#[]⟩ 0 0 rfl rfl (TokCell.new w3 _) rfl w3.heap.size _ (Below.refl _ _) (Nat.le_refl _) ?_; intro w4 HT4 HB4 HO4; obtain ⟨r0, r1, r2, r3, r4⟩ := HT4.out.parts; have HL4 := Lib.hid (HL3.out.later (((Below.refl _ w3).alloc (Nat.le_refl _) _).trans HB4.out)); have HR4 := HL4.out.rdr; have HRes4 := HL4.out.res)
          | (refine VCell.store rfl rfl _ _ rfl w.heap.size .nil ⟨0, 0, 0, ⟨#[]⟩, ⟨none, 0, 0⟩, ⟨none, 0, 0⟩⟩ rfl rfl HRes4 ?_; intro wz HCz HKz HBz HZz))
        obtain ⟨g0, g1, g2, g3, g4, g5⟩ := HCz.out.at
        try dsimp only at g0 g1 g2 g3 g4 g5
        exact bodyPost_ret (v := .tuple #[.agg #[.int .i64 0, .int .i64 0, .int .i64 0, .string ⟨#[]⟩, .slice none 0 0, .slice none 0 0], .int .i64 c]) (by simp [results, Tryz.results85, go_sem, g0, g1, g2, g3, g4, g5]) rfl
          (by rw [HRe.out]; exact tells_err (y := ⟨0, 0, 0, ⟨#[]⟩, ⟨none, 0, 0⟩, ⟨none, 0, 0⟩⟩) (HR4.same (HKz.out b (by omega))) (HL4.out.bes.store (Nat.le_refl _) HBz.out) H3.out rfl)
end
end Go.Proofs.YtejgcnmbngdkiaaGreatDoor
