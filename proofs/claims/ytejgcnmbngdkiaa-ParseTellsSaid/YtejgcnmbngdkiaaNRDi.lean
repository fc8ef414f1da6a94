/-
  PaRDict, PaRTop: texts merged.
-/
import Derived.Test.YtejgcnmbngdkiaaNRLi
import Derived.Test.YtejgcnmbngdkiaaNDict
import Derived.Test.YtejgcnmbngdkiaaNRPl
/-
  The document's dict.
-/
namespace Go.Proofs.Ytejgcnmbngdkiaa
section
open Go.RowKit
set_option maxRecDepth 100000
attribute [local go_sem] undef Hv.arr

/-- What stands while a dictionary is read. -/
structure RDictAt (s : ByteArray) (w wx : World) (k : Nat) (acc : Prs) (p : Option Addr) (cap : Nat) (xs : List Hp) : Prop where
  bel : Below w.heap.size w wx
  res : VCell wx w.heap.size .nil
  row : RowP wx (w.heap.size + 1) p cap xs acc
  le : k ≤ s.data.toList.length
  few : acc.length ≤ k
theorem RDictAt.later {s : ByteArray} {w wx w' : World} {k : Nat} {acc : Prs} {p : Option Addr} {cap : Nat} {xs : List Hp} (h : RDictAt s w wx k acc p cap xs) (hb : Below wx.heap.size wx w') : RDictAt s w w' k acc p cap xs :=
  ⟨h.bel.trans (hb.mono h.bel.size), h.res.later hb h.res.lt, h.row.later hb, h.le, h.few⟩
theorem hasK_take {k : ByteArray} {acc : Prs} {i : Nat} (h : i < acc.length) : hasK k (acc.take (i + 1)) = (hasK k (acc.take i) || decide ((acc[i]).1 = k)) := by
  unfold hasK
  rw [List.take_add_one, List.getElem?_eq_getElem h, Option.toList_some, List.any_append]
  simp
theorem hasK_yes {k : ByteArray} {acc : Prs} {i : Nat} (h : i < acc.length) (e : (acc[i]).1 = k) : hasK k acc = true := by
  unfold hasK
  rw [List.any_eq_true]
  exact ⟨acc[i], List.getElem_mem h, decide_eq_true e⟩

set_option maxHeartbeats 16000000 in
theorem rdict_of (s : ByteArray) (F : Nat) (hs : s.size ≤ 100000000) (hb : ∀ g, g < F → RReadC s g) : RDictC s F := by
  intro k d w hk hd hcode
  have hls : s.data.toList.length ≤ 100000000 := by rw [← size_data]; exact hs
  obtain ⟨w1, hw1⟩ : ∃ w1, w.alloc (.cells #[.int .i64 0, .int .i64 0, .int .i64 0, .string ⟨#[]⟩, .slice none 0 0, .slice none 0 0] 26) = w1 := ⟨_, rfl⟩
  have hs1 : w1.heap.size = w.heap.size + 1 := by rw [← hw1]; simp
  have hb1 : Below w.heap.size w w1 := by rw [← hw1]; exact (Below.refl _ w).alloc (Nat.le_refl _) _
  have hv1 : VCell w1 w.heap.size .nil := by rw [← hw1]; exact heap_alloc_new w _
  have hb2 : Below w1.heap.size w1 (w1.alloc (.cells #[] 40)) := (Below.refl _ w1).alloc (Nat.le_refl _) _
  have HI0 := Lib.hid (show RDictAt s w (w1.alloc (.cells #[] 40)) k [] (some ⟨w1.heap.size, 0, none⟩) 0 [] from
    ⟨hb1.trans (hb2.mono (by omega)), hv1.later hb2 (by omega), by rw [← hs1]; exact RowP.made w1 (Nat.le_refl _), hk, Nat.zero_le _⟩)
  obtain ⟨R, hR⟩ : ∃ R, dictP s.data.toList F k (d + 1) [] = R := ⟨_, rfl⟩
  rw [hR] at hcode ⊢
  have HR0 := Lib.hid hR
  have Hb := Lib.hid hb
  have Hw1 := Lib.hid hw1
  have Hcode := Lib.hid hcode
  obtain ⟨D, hD⟩ : ∃ D : Int, ((d + 1 : Nat) : Int) = D := ⟨_, rfl⟩
  rw [hD]
  have HD := Lib.hid hD
  clear hw1 hb1 hb2 hv1 hR hb hcode hD
  go_enter Try.func26, Try.ntmps26
  iterate 6 go_step
  rw [Hw1.out]
  go_wp2_with fail
  go_loopg [1, 9] F (fun g v1 v9 wx => ∃ (k : Nat) (acc : Prs) (p : Option Addr) (cap : Nat) (xs : List Hp), v1 = .int .i64 (k : Int) ∧ v9 = .slice p xs.length cap ∧ Aside (RDictAt s w wx k acc p cap xs ∧ dictP s.data.toList g k (d + 1) acc = R) ∧ g ≤ F)
  case atStart => exact ⟨k, [], some ⟨w1.heap.size, 0, none⟩, 0, [], rfl, by first | rfl | (rw [hs1]; rfl), ⟨HI0.out, HR0.out⟩, Nat.le_refl _⟩
  case round =>
    obtain ⟨k, acc, p, cap, xs, rfl, rfl, HI, hg⟩ := hrel
    have Hcode' := Hcode.out
    cases gk with
    | zero =>
      exfalso
      have := HI.out.2
      rw [dictP] at this
      rw [← this] at Hcode'
      exact Hcode' rfl
    | succ g =>
      have hL := HI.out.1
      have hP := HI.out.2
      have HL := Lib.hid hL
      have hk := hL.le
      obtain ⟨t, ht⟩ : ∃ t, nextN s.data.toList k = t := ⟨_, rfl⟩
      have hts := next_sound s.data.toList k hk
      have htg := next_good s.data.toList k hk
      have htp := next_step hk
      have hn := fun W => rNext_any s (k : Int) W hs
      rw [(nextI_nat hk).trans ht] at hn
      rw [ht] at hts htg htp
      unfold Sg.told Sg.tok at hn
      by_cases hc : t.code = 0
      · have H1 := Lib.hid (show ∀ W, Calls Try.prog 16 #[.string s, .int .i64 (k : Int)] W (fun e w' => e = .returned (.tuple #[.agg (tokC t.kind t.num (bytes t.str) t.beg t.fin), .int .i64 0]) ∧ Below W.heap.size W w') from by have h := hn; rw [hc] at h; exact h)
        by_cases h7 : t.kind = 7
        · have hRe : R = ⟨.mk 6 0 0 (bytes []) [] acc, t.fin, 0⟩ := by rw [← hP, dict_end (by rw [ht]; exact hc) (by rw [ht]; exact h7), ht]
          have c7 : (t.kind == 7) = true := by simpa using h7
          have HRe := Lib.hid hRe
          clear hn hts htg htp hc h7 HI hL hP hRe Hcode' ht
          go_wp2_with fail
          refine (H1.out wr).mono ?_
          rintro e w3 ⟨rfl, hb3⟩
          have HL3 := Lib.hid (HL.out.later hb3)
          have hz3 := HL3.out.res.lt
          clear hb3
          go_wp2_with (refine TokCell.store rfl rfl _ _ rfl w3.heap.size #[.int .i64 0, .int .i64 0, .string ⟨#[]⟩, .int .i64 0, .int .i64 0] t.kind t.num (bytes t.str) t.beg t.fin rfl rfl (TokCell.new w3 _) rfl w3.heap.size _ (Below.refl _ _) (Nat.le_refl _) ?_; intro w4 HT4 HB4 HO4; have hb4 : Below w3.heap.size w3 w4 := ((Below.refl _ w3).alloc (Nat.le_refl _) _).trans HB4.out; obtain ⟨r0, r1, r2, r3, r4⟩ := HT4.out.parts; have HL4 := Lib.hid (HL3.out.later hb4); have Hres := HL4.out.res; clear hb4)
          have hrow := HL4.out.row.read
          have hne3 : ¬ w3.heap.size = w.heap.size := by omega
          obtain ⟨⟨z0, z1, z2, z3, z4, z5⟩, f0, f1, f2, f3, f4, f5⟩ := Hres.zeros
          go_region
          go_wp2_with fail
          have hvz := Hres.six 6 0 0 ⟨#[]⟩ none p 0 0 xs.length cap
          have hbz := below_six HL4.out.bel (Nat.le_refl _) (.int .i64 6) (.int .i64 0) (.int .i64 0) (.string ⟨#[]⟩) (.slice none 0 0) (.slice p xs.length cap)
          have hrz : RdD ((((((w4.setCell ⟨w.heap.size, 0, none⟩ (.int .i64 6)).setCell ⟨w.heap.size, 1, none⟩ (.int .i64 0)).setCell ⟨w.heap.size, 2, none⟩ (.int .i64 0)).setCell ⟨w.heap.size, 3, none⟩ (.string ⟨#[]⟩)).setCell ⟨w.heap.size, 4, none⟩ (.slice none 0 0)).setCell ⟨w.heap.size, 5, none⟩ (.slice p xs.length cap)) (fun k => w.heap.size ≤ k) ⟨p, xs.length, cap⟩ acc :=
            (hrow.later (fun k hk => six_other w4 w.heap.size k (by omega) _ _ _ _ _ _)).mono (fun k hk => by omega)
          generalize (((((w4.setCell ⟨w.heap.size, 0, none⟩ (.int .i64 6)).setCell ⟨w.heap.size, 1, none⟩ (.int .i64 0)).setCell ⟨w.heap.size, 2, none⟩ (.int .i64 0)).setCell ⟨w.heap.size, 3, none⟩ (.string ⟨#[]⟩)).setCell ⟨w.heap.size, 4, none⟩ (.slice none 0 0)).setCell ⟨w.heap.size, 5, none⟩ (.slice p xs.length cap) = wz at hvz hbz hrz ⊢
          obtain ⟨g0, g1, g2, g3, g4, g5⟩ := hvz.at
          try dsimp only at g0 g1 g2 g3 g4 g5
          simp only [Nat.zero_add] at g1 g2 g3 g4 g5
          have hfin : RTells R w (.returned (.tuple #[.agg #[.int .i64 6, .int .i64 0, .int .i64 0, .string ⟨#[]⟩, .slice none 0 0, .slice p xs.length cap], .int .i64 (t.fin : Int), .int .i64 0])) wz.drew := by
            rw [HRe.out]
            exact ⟨⟨6, 0, 0, ⟨#[]⟩, ⟨none, 0, 0⟩, ⟨p, xs.length, cap⟩⟩, rfl, rd_iff.2 ⟨⟨rfl, rfl, rfl, rfl⟩, RdL.nil _ _ none 0 (Nat.zero_le _), hrz.later (fun _ _ => rfl)⟩, hbz.drew⟩
          exact bodyPost_ret (v := .tuple #[.agg #[.int .i64 6, .int .i64 0, .int .i64 0, .string ⟨#[]⟩, .slice none 0 0, .slice p xs.length cap], .int .i64 (t.fin : Int), .int .i64 0]) (by simp [results, Try.results26, go_sem, g0, g1, g2, g3, g4, g5]) rfl hfin
        · have c7 : (t.kind == 7) = false := by simpa using h7
          by_cases h0 : t.kind = 0
          · have hRe : R = .err 5 := by rw [← hP, dict_short (by rw [ht]; exact hc) (by rw [ht]; exact h0)]
            have c0 : (t.kind == 0) = true := by simpa using h0
            have HRe := Lib.hid hRe
            clear hn hts htg htp hc h7 h0 HI hL hP hRe Hcode' ht
            go_wp2_with fail
            refine (H1.out wr).mono ?_
            rintro e w3 ⟨rfl, hb3⟩
            have HL3 := Lib.hid (HL.out.later hb3)
            clear hb3
            go_wp2_with (first
              | (refine TokCell.store rfl rfl _ _ rfl w3.heap.size #[.int .i64 0, .int .i64 0, .string ⟨#[]⟩, .int .i64 0, .int .i64 0] t.kind t.num (bytes t.str) t.beg t.fin rfl rfl (TokCell.new w3 _) rfl w3.heap.size _ (Below.refl _ _) (Nat.le_refl _) ?_; intro w4 HT4 HB4 HO4; have hb4 : Below w3.heap.size w3 w4 := ((Below.refl _ w3).alloc (Nat.le_refl _) _).trans HB4.out; obtain ⟨r0, r1, r2, r3, r4⟩ := HT4.out.parts; have HL4 := Lib.hid (HL3.out.later hb4); have Hres := HL4.out.res; clear hb4)
              | (refine VCell.store rfl rfl _ _ rfl w.heap.size .nil ⟨0, 0, 0, ⟨#[]⟩, ⟨none, 0, 0⟩, ⟨none, 0, 0⟩⟩ rfl rfl Hres ?_; intro wz HCz HKz HBz HZz))
            obtain ⟨g0, g1, g2, g3, g4, g5⟩ := HCz.out.at
            try dsimp only at g0 g1 g2 g3 g4 g5
            exact bodyPost_ret (v := .tuple #[.agg #[.int .i64 0, .int .i64 0, .int .i64 0, .string ⟨#[]⟩, .slice none 0 0, .slice none 0 0], .int .i64 0, .int .i64 5]) (by simp [results, Try.results26, go_sem, g0, g1, g2, g3, g4, g5]) rfl
              (by rw [HRe.out]; exact (show RTells (.err 5) w _ _ from ⟨⟨0, 0, 0, ⟨#[]⟩, ⟨none, 0, 0⟩, ⟨none, 0, 0⟩⟩, rfl, rd_nil, HL4.out.bel.trans HBz.out⟩))
          · have c0 : (t.kind == 0) = false := by simpa using h0
            have hst := htp hc h0
            by_cases h2 : t.kind = 2
            · have c2 : (t.kind != 2) = false := by simpa using h2
              have HBc := Hb.out g (by omega) (t.fin : Int) t.fin (d + 1)
              obtain ⟨P, hP2⟩ : ∃ P, readP s.data.toList g t.fin (d + 1) = P := ⟨_, rfl⟩
              rw [hP2, HD.out] at HBc
              have HBn := Lib.hid (fun W (hpc : ¬ P.code = -1) => HBc W (nextI_nat hts.fin) hts.fin (by omega) hpc)
              have Hkey := Lib.hid (show hasK (bytes t.str) acc = true → R = .err 11 from fun h => by rw [← hP, dict_key (by rw [ht]; exact hc) (by rw [ht]; exact h2) (by rw [ht]; exact h)])
              have Hstep := Lib.hid (show hasK (bytes t.str) acc = false → P.code = 0 → dictP s.data.toList g P.fin (d + 1) (acc ++ [pairV t.str P.v]) = R from fun h h3 => by
                rw [← hP, dict_step (by rw [ht]; exact hc) (by rw [ht]; exact h2) (by rw [ht]; exact h) (by rw [ht, hP2]; exact h3), ht, hP2])
              have Hbad := Lib.hid (show hasK (bytes t.str) acc = false → ¬ P.code = 0 → R = .err P.code from fun h h3 => by
                rw [← hP, dict_read (by rw [ht]; exact hc) (by rw [ht]; exact h2) (by rw [ht]; exact h) (by rw [ht, hP2]; exact h3), ht, hP2])
              have Hfine := Lib.hid (show P.code = 0 → t.fin ≤ P.fin ∧ P.fin ≤ s.data.toList.length from fun h3 => by
                have hfine := read_fine hts.fin (by rw [hP2]; exact h3)
                rw [hP2] at hfine
                exact ⟨hfine.lo, hfine.hi⟩)
              clear hn hts htg htp hc h7 h0 h2 HI hL hP Hcode' HBc ht hP2
              go_wp2_with fail
              refine (H1.out wr).mono ?_
              rintro e w3 ⟨rfl, hb3⟩
              have HL3 := Lib.hid (HL.out.later hb3)
              have hz3 := HL3.out.res.lt
              clear hb3
              go_wp2_with (refine TokCell.store rfl rfl _ _ rfl w3.heap.size #[.int .i64 0, .int .i64 0, .string ⟨#[]⟩, .int .i64 0, .int .i64 0] t.kind t.num (bytes t.str) t.beg t.fin rfl rfl (TokCell.new w3 _) rfl w3.heap.size _ (Below.refl _ _) (Nat.le_refl _) ?_; intro w4 HT4 HB4 HO4; have hb4 : Below w3.heap.size w3 w4 := ((Below.refl _ w3).alloc (Nat.le_refl _) _).trans HB4.out; obtain ⟨r0, r1, r2, r3, r4⟩ := HT4.out.parts; have HL4 := Lib.hid (HL3.out.later hb4); have Hres := HL4.out.res; clear hb4)
              have Hxl := Lib.hid HL4.out.row.2.1
              have hfew := HL4.out.few
              go_loopg [12] xs.length (fun h v12 wy => ∃ i : Nat, v12 = .int .i64 (i : Int) ∧ i + h = xs.length ∧ Aside (hasK (bytes t.str) (acc.take i) = false ∧ Below w4.heap.size w4 wy))
              case atStart => exact ⟨0, rfl, by omega, ⟨rfl, Below.refl _ _⟩⟩
              case round =>
                obtain ⟨i, rfl, hi, HA⟩ := hrel
                have HL5 := Lib.hid (HL4.out.later HA.out.2)
                have HT5 := Lib.hid (HT4.out.later HA.out.2 HT4.out.lt)
                obtain ⟨y0, y1, y2, y3, y4⟩ := HT5.out.parts
                cases gk with
                | zero =>
                  obtain rfl : i = xs.length := by omega
                  have hfree : hasK (bytes t.str) acc = false := by
                    have h := HA.out.1
                    rwa [List.take_of_length_le (by have := Hxl.out; omega)] at h
                  have hend : ¬ ((xs.length : Int) < (xs.length : Int)) := by omega
                  by_cases h3 : P.code = 0
                  · have HRe := Lib.hid (Hstep.out hfree h3)
                    have H2 := Lib.hid (HBn.out wr (by rw [h3]; decide))
                    have h3' := Lib.hid h3
                    obtain ⟨hlo, hhi⟩ := Hfine.out h3
                    have Hhi := Lib.hid hhi
                    clear hi HA hfree h3 hhi r0 r1 r2 r3 r4 Hres
                    go_wp2_with fail
                    refine H2.out.mono ?_
                    rintro e w5 ⟨⟨yk, yn, yg, ys, ⟨ylp, yll, ylc⟩, ⟨ydp, ydl, ydc⟩⟩, he, hy5, hb5⟩
                    replace he : e = .returned (.tuple #[.agg #[.int .i64 yk, .int .i64 yn, .int .i64 yg, .string ys, .slice ylp yll ylc, .slice ydp ydl ydc], .int .i64 (P.fin : Int), .int .i64 P.code]) := he
                    rw [h3'.out] at he
                    subst he
                    have HL6 := Lib.hid (HL5.out.later hb5)
                    have HT6 := Lib.hid (HT5.out.later hb5 HT5.out.lt)
                    have Hy5 := Lib.hid hy5
                    have hz5 := hb5.size
                    have hz4 := HL5.out.row.1.lt
                    have hzz4 := HL5.out.res.lt
                    clear hb5 hy5 y0 y1 y2 y3 y4
                    go_wp2_with (first
                      | (refine VCell.store rfl rfl (.tmp 13) (.tmp 67) rfl w5.heap.size .nil ⟨yk, yn, yg, ys, ⟨ylp, yll, ylc⟩, ⟨ydp, ydl, ydc⟩⟩ rfl rfl (VCell.new w5 .nil) ?_; intro w6 HC6 HK6 HB6 HZ6; have hb56 : Below w5.heap.size w5 w6 := ((Below.refl _ w5).alloc (Nat.le_refl _) _).trans HB6.out; have HL7 := Lib.hid (HL6.out.later hb56); have Hy6 := Lib.hid (Hy5.out.bound.later (fun k hk => hb56.block k hk.2)); have t7 := HT6.out.later hb56 HT6.out.lt; obtain ⟨_, _, x2, _, _⟩ := t7.parts; clear t7)
                      | (refine VCell.load rfl (.tmp 13) rfl w5.heap.size _ rfl HC6.out ?_)
                      | (at_builtin; refine wpList_append_P rfl (.tmp 74) (.tmp 79) rfl (w.heap.size + 1) _ _ xs rfl (HL7.out.row.1.push rfl) ⟨bytes t.str, ⟨yk, yn, yg, ys, ⟨ylp, yll, ylc⟩, ⟨ydp, ydl, ydc⟩⟩⟩ w6.heap.size 1 rfl (push_new rfl) (by have := HL7.out.few; have := HL7.out.le; have := HL7.out.row.2.1; omega) _ (Below.refl _ _) (by have := HL7.out.res.lt; simp; omega) ?_; intro g' cap' w7 HO7 HB7 HK7 HF7))
                    have e : (xs ++ [(⟨bytes t.str, ⟨yk, yn, yg, ys, ⟨ylp, yll, ylc⟩, ⟨ydp, ydl, ydc⟩⟩⟩ : Hp)]).length = xs.length + 1 := by rw [List.length_append]; rfl
                    have hbA : Below w.heap.size w (w6.alloc (.cells (⟨bytes t.str, ⟨yk, yn, yg, ys, ⟨ylp, yll, ylc⟩, ⟨ydp, ydl, ydc⟩⟩⟩ : Hp).arr 40)) := HL7.out.bel.alloc HL7.out.bel.size _
                    have hres7 : VCell w7 w.heap.size .nil := HL7.out.res.same ((HK7.out _ (by have := HL7.out.res.lt; simp; omega) (fun q hq => by have := (HL7.out.row.1.lt q hq).1; omega)).trans (push_old rfl HL7.out.res.lt))
                    go_roundg g
                    case measure => omega
                    case rel =>
                      refine ⟨P.fin, acc ++ [pairV t.str P.v], some ⟨g', 0, none⟩, cap', xs ++ [⟨bytes t.str, ⟨yk, yn, yg, ys, ⟨ylp, yll, ylc⟩, ⟨ydp, ydl, ydc⟩⟩⟩], rfl, by rw [e], (show Aside _ from ⟨⟨?_, hres7, ?_, Hhi.out, ?_⟩, HRe.out⟩), by omega⟩
                      · exact hbA.trans (HB7.out.mono (by omega))
                      · exact RowP.put (HL7.out.row.later ((Below.refl _ w6).alloc (Nat.le_refl _) (.cells (⟨bytes t.str, ⟨yk, yn, yg, ys, ⟨ylp, yll, ylc⟩, ⟨ydp, ydl, ydc⟩⟩⟩ : Hp).arr 40))) rfl (Hy6.out.bound.later (fun k hk => heap_alloc_old _ _ hk.2)) (fun k hk => ⟨by have := hk.1.1; omega, fun a ha => by have := (hz4 a ha).2; have := hk.1.1; omega⟩) HO7.out HK7.out HF7.out
                      · rw [List.length_append]; show acc.length + 1 ≤ _; omega
                  · have hRe := Hbad.out hfree h3
                    have hPc : ¬ P.code = -1 := by have h := Hcode.out; rw [hRe] at h; exact h
                    have HRe := Lib.hid hRe
                    have H2 := Lib.hid (HBn.out wr hPc)
                    have hcd : (P.code != 0) = true := by simpa using h3
                    clear hi HA hfree h3 hRe hPc r0 r1 r2 r3 r4 Hres
                    generalize hPq : P.code = c at *
                    go_wp2_with fail
                    refine H2.out.mono ?_
                    rintro e w5 ⟨⟨yk, yn, yg, ys, ⟨ylp, yll, ylc⟩, ⟨ydp, ydl, ydc⟩⟩, he, hy5, hb5⟩
                    replace he : e = .returned (.tuple #[.agg #[.int .i64 yk, .int .i64 yn, .int .i64 yg, .string ys, .slice ylp yll ylc, .slice ydp ydl ydc], .int .i64 (P.fin : Int), .int .i64 P.code]) := he
                    rw [hPq] at he
                    subst he
                    have HL6 := Lib.hid (HL5.out.later hb5)
                    clear hb5 hy5 y0 y1 y2 y3 y4
                    go_wp2_with (first
                      | (refine VCell.store rfl rfl (.tmp 13) (.tmp 67) rfl w5.heap.size .nil ⟨yk, yn, yg, ys, ⟨ylp, yll, ylc⟩, ⟨ydp, ydl, ydc⟩⟩ rfl rfl (VCell.new w5 .nil) ?_; intro w6 HC6 HK6 HB6 HZ6; have hb56 : Below w5.heap.size w5 w6 := ((Below.refl _ w5).alloc (Nat.le_refl _) _).trans HB6.out; have HL7 := Lib.hid (HL6.out.later hb56); have Hres := HL7.out.res)
                      | (refine VCell.store rfl rfl _ _ rfl w.heap.size .nil ⟨0, 0, 0, ⟨#[]⟩, ⟨none, 0, 0⟩, ⟨none, 0, 0⟩⟩ rfl rfl Hres ?_; intro wz HCz HKz HBz HZz))
                    obtain ⟨g0, g1, g2, g3, g4, g5⟩ := HCz.out.at
                    try dsimp only at g0 g1 g2 g3 g4 g5
                    exact bodyPost_ret (v := .tuple #[.agg #[.int .i64 0, .int .i64 0, .int .i64 0, .string ⟨#[]⟩, .slice none 0 0, .slice none 0 0], .int .i64 0, .int .i64 c]) (by simp [results, Try.results26, go_sem, g0, g1, g2, g3, g4, g5]) rfl
                      (by rw [HRe.out]; exact (show RTells (.err c) w _ _ from ⟨⟨0, 0, 0, ⟨#[]⟩, ⟨none, 0, 0⟩, ⟨none, 0, 0⟩⟩, rfl, rd_nil, HL7.out.bel.trans HBz.out⟩))
                | succ h =>
                  have hil : i < xs.length := by omega
                  have hili : (i : Int) < (xs.length : Int) := by omega
                  have hia : i < acc.length := by have := Hxl.out; omega
                  obtain ⟨gb, hpg, hgB, hat⟩ := HL5.out.row.1.at hil
                  have hkey := (HL5.out.row.2.2 i hil hia).1
                  have e0 := hat.1
                  obtain ⟨kk, hkk⟩ : ∃ kk, (xs[i]).key = kk := ⟨_, rfl⟩
                  rw [hkk] at e0 hkey
                  subst hpg
                  have hres5 := HL5.out.res
                  by_cases heq : kk = bytes t.str
                  · have hke : (kk.toList == (bytes t.str).toList) = true := by rw [eq_toList]; exact decide_eq_true heq
                    have HRe := Lib.hid (Hkey.out (hasK_yes hia (hkey.symm.trans heq)))
                    clear heq hkey hkk hat HA r0 r1 r2 r3 r4 Hres
                    go_wp2_with fail
                    go_quiet (fail)
                    go_wp2_with (refine VCell.store rfl rfl _ _ rfl w.heap.size .nil ⟨0, 0, 0, ⟨#[]⟩, ⟨none, 0, 0⟩, ⟨none, 0, 0⟩⟩ rfl rfl hres5 ?_; intro wz HCz HKz HBz HZz)
                    obtain ⟨g0, g1, g2, g3, g4, g5⟩ := HCz.out.at
                    try dsimp only at g0 g1 g2 g3 g4 g5
                    exact bodyPost_ret (v := .tuple #[.agg #[.int .i64 0, .int .i64 0, .int .i64 0, .string ⟨#[]⟩, .slice none 0 0, .slice none 0 0], .int .i64 0, .int .i64 11]) (by simp [results, Try.results26, go_sem, g0, g1, g2, g3, g4, g5]) rfl
                      (by rw [HRe.out]; exact (show RTells (.err 11) w _ _ from ⟨⟨0, 0, 0, ⟨#[]⟩, ⟨none, 0, 0⟩, ⟨none, 0, 0⟩⟩, rfl, rd_nil, (below_drewN HL5.out.bel _).trans HBz.out⟩))
                  · have hke : (kk.toList == (bytes t.str).toList) = false := by rw [eq_toList]; exact decide_eq_false heq
                    have HA2 := Lib.hid (show hasK (bytes t.str) (acc.take (i + 1)) = false from by rw [hasK_take hia, HA.out.1, ← hkey, decide_eq_false heq]; rfl)
                    have HA3 := Lib.hid HA.out.2
                    clear heq hkey hkk hat HA r0 r1 r2 r3 r4 Hres
                    go_wp2_with fail
                    go_quiet (fail)
                    go_wp2_with fail
                    go_roundg h
                    case measure => omega
                    case rel => exact ⟨i + 1, by go_num, by omega, (show Aside _ from ⟨HA2.out, below_drewN HA3.out _⟩)⟩
            · have c2 : (t.kind != 2) = true := by simpa using h2
              have hRe : R = .err 4 := by rw [← hP, dict_form (by rw [ht]; exact hc) (by rw [ht]; omega)]
              have HRe := Lib.hid hRe
              clear hn hts htg htp hc h7 h0 h2 HI hL hP hRe Hcode' ht
              go_wp2_with fail
              refine (H1.out wr).mono ?_
              rintro e w3 ⟨rfl, hb3⟩
              have HL3 := Lib.hid (HL.out.later hb3)
              clear hb3
              go_wp2_with (first
                | (refine TokCell.store rfl rfl _ _ rfl w3.heap.size #[.int .i64 0, .int .i64 0, .string ⟨#[]⟩, .int .i64 0, .int .i64 0] t.kind t.num (bytes t.str) t.beg t.fin rfl rfl (TokCell.new w3 _) rfl w3.heap.size _ (Below.refl _ _) (Nat.le_refl _) ?_; intro w4 HT4 HB4 HO4; have hb4 : Below w3.heap.size w3 w4 := ((Below.refl _ w3).alloc (Nat.le_refl _) _).trans HB4.out; obtain ⟨r0, r1, r2, r3, r4⟩ := HT4.out.parts; have HL4 := Lib.hid (HL3.out.later hb4); have Hres := HL4.out.res; clear hb4)
                | (refine VCell.store rfl rfl _ _ rfl w.heap.size .nil ⟨0, 0, 0, ⟨#[]⟩, ⟨none, 0, 0⟩, ⟨none, 0, 0⟩⟩ rfl rfl Hres ?_; intro wz HCz HKz HBz HZz))
              obtain ⟨g0, g1, g2, g3, g4, g5⟩ := HCz.out.at
              try dsimp only at g0 g1 g2 g3 g4 g5
              exact bodyPost_ret (v := .tuple #[.agg #[.int .i64 0, .int .i64 0, .int .i64 0, .string ⟨#[]⟩, .slice none 0 0, .slice none 0 0], .int .i64 0, .int .i64 4]) (by simp [results, Try.results26, go_sem, g0, g1, g2, g3, g4, g5]) rfl
                (by rw [HRe.out]; exact (show RTells (.err 4) w _ _ from ⟨⟨0, 0, 0, ⟨#[]⟩, ⟨none, 0, 0⟩, ⟨none, 0, 0⟩⟩, rfl, rd_nil, HL4.out.bel.trans HBz.out⟩))
      · have H1 := Lib.hid (show ∀ W, Calls Try.prog 16 #[.string s, .int .i64 (k : Int)] W (fun e w' => e = .returned (.tuple #[.agg (tokC 0 0 ⟨#[]⟩ 0 0), .int .i64 t.code]) ∧ Below W.heap.size W w') from by have h := hn; rw [htg.1.1 hc] at h; exact h)
        have hRe : R = .err t.code := by rw [← hP, dict_err (by rw [ht]; exact hc), ht]
        have hcd : (t.code != 0) = true := by simpa using hc
        have HRe := Lib.hid hRe
        generalize t.code = c at *
        clear hn hts htg htp hc HI hL hP hRe Hcode' ht
        go_wp2_with fail
        refine (H1.out wr).mono ?_
        rintro e w3 ⟨rfl, hb3⟩
        have HL3 := Lib.hid (HL.out.later hb3)
        clear hb3
        go_wp2_with (first
          | (refine TokCell.store rfl rfl _ _ rfl w3.heap.size #[.int .i64 0, .int .i64 0, .string ⟨#[]⟩, .int .i64 0, .int .i64 0] 0 0 ⟨#[]⟩ 0 0 rfl rfl (TokCell.new w3 _) rfl w3.heap.size _ (Below.refl _ _) (Nat.le_refl _) ?_; intro w4 HT4 HB4 HO4; have hb4 : Below w3.heap.size w3 w4 := ((Below.refl _ w3).alloc (Nat.le_refl _) _).trans HB4.out; obtain ⟨r0, r1, r2, r3, r4⟩ := HT4.out.parts; have HL4 := Lib.hid (HL3.out.later hb4); have Hres := HL4.out.res; clear hb4)
          | (refine VCell.store rfl rfl _ _ rfl w.heap.size .nil ⟨0, 0, 0, ⟨#[]⟩, ⟨none, 0, 0⟩, ⟨none, 0, 0⟩⟩ rfl rfl Hres ?_; intro wz HCz HKz HBz HZz))
        obtain ⟨g0, g1, g2, g3, g4, g5⟩ := HCz.out.at
        try dsimp only at g0 g1 g2 g3 g4 g5
        exact bodyPost_ret (v := .tuple #[.agg #[.int .i64 0, .int .i64 0, .int .i64 0, .string ⟨#[]⟩, .slice none 0 0, .slice none 0 0], .int .i64 0, .int .i64 c]) (by simp [results, Try.results26, go_sem, g0, g1, g2, g3, g4, g5]) rfl
          (by rw [HRe.out]; exact (show RTells (.err c) w _ _ from ⟨⟨0, 0, 0, ⟨#[]⟩, ⟨none, 0, 0⟩, ⟨none, 0, 0⟩⟩, rfl, rd_nil, HL4.out.bel.trans HBz.out⟩))
end
end Go.Proofs.Ytejgcnmbngdkiaa
/-
  The document's Value, Whole.
-/
namespace Go.Proofs.Ytejgcnmbngdkiaa
section
open Go.RowKit
set_option maxRecDepth 100000
attribute [local go_sem] undef Hv.arr

theorem rread_zero (s : ByteArray) (hs : s.size ≤ 100000000) : RReadC s 0 := by
  intro a k d w ha hk hd hc
  have hn : ¬ (nextN s.data.toList k).code = 0 := fun h => by rw [pread_ok h, begunP] at hc; exact absurd rfl hc
  have e : readP s.data.toList 0 k d = readP s.data.toList 1 k d := by rw [pread_err hn, pread_err hn]
  have hl : RListC s 0 := fun k d w _ _ h => by rw [listP] at h; exact absurd rfl h
  have hdc : RDictC s 0 := fun k d w _ _ h => by rw [dictP] at h; exact absurd rfl h
  rw [e] at hc ⊢
  exact rread_of s 0 hs hl hdc a k d w ha hk hd hc
theorem rread_all (s : ByteArray) (hs : s.size ≤ 100000000) (f : Nat) : RReadC s f := by
  induction f using Nat.strongRecOn with
  | _ f ih =>
    cases f with
    | zero => exact fun a k d w ha hk hd hc => rread_zero s hs a k d w ha hk hd hc
    | succ f => exact rread_of s f hs (rlist_of s f hs fun g hg => ih g (by omega)) (rdict_of s f hs fun g hg => ih g (by omega))

set_option maxHeartbeats 8000000 in
theorem rvalue18_any (s : ByteArray) (a : Int) (w : World) (hs : s.size ≤ 100000000) (hfit : (readP s.data.toList (2 * s.data.toList.length + 1) (placeN s.data.toList a) 0).code = 0 → Fit (readP s.data.toList (2 * s.data.toList.length + 1) (placeN s.data.toList a) 0).v 4000) :
    Calls Try.prog 7 #[.string s, .int .i64 a] w (RTells (valueP s.data.toList (placeN s.data.toList a)) w) := by
  have hk := placeN_le s.data.toList a
  obtain ⟨k, hka⟩ : ∃ k, placeN s.data.toList a = k := ⟨_, rfl⟩
  have ha : nextI s.data.toList a = nextN s.data.toList k := by unfold nextI; rw [hka]
  rw [hka] at hk hfit ⊢
  have hfuel := read_fuel s.data.toList k hk
  obtain ⟨w1, hw1⟩ : ∃ w1, w.alloc (.cells #[.int .i64 0, .int .i64 0, .int .i64 0, .string ⟨#[]⟩, .slice none 0 0, .slice none 0 0] 26) = w1 := ⟨_, rfl⟩
  have hb1 : Below w.heap.size w w1 := by rw [← hw1]; exact (Below.refl _ w).alloc (Nat.le_refl _) _
  have HV := Lib.hid (show VCell w1 w.heap.size .nil by rw [← hw1]; exact heap_alloc_new w _)
  have HB := Lib.hid hb1
  have HN := Lib.hid (rread_all s hs (2 * s.data.toList.length + 1) a k 0 w1 ha hk (by omega) hfuel)
  have Hw1 := Lib.hid hw1
  have hval := @value_ok s.data.toList k
  have hverr := @value_err s.data.toList k
  obtain ⟨P, hP⟩ : ∃ P, readP s.data.toList (2 * s.data.toList.length + 1) k 0 = P := ⟨_, rfl⟩
  rw [hP] at hfit HN hval hverr
  clear hw1 hb1 ha hka hfuel hP
  by_cases h0 : P.code = 0
  · rw [hval h0]
    have hfp := hfit h0
    have h0' := Lib.hid h0
    clear hval hverr hfit
    go_enter Try.func7, Try.ntmps7
    iterate 6 go_step
    rw [Hw1.out]
    go_wp2_with fail
    refine HN.out.mono ?_
    rintro e w5 ⟨⟨yk, yn, yg, ys, ⟨ylp, yll, ylc⟩, ⟨ydp, ydl, ydc⟩⟩, he, hy5, hb5⟩
    replace he : e = .returned (.tuple #[.agg #[.int .i64 yk, .int .i64 yn, .int .i64 yg, .string ys, .slice ylp yll ylc, .slice ydp ydl ydc], .int .i64 (P.fin : Int), .int .i64 P.code]) := he
    rw [h0'.out] at he
    subst he
    have HV5 := Lib.hid (HV.out.later hb5 HV.out.lt)
    have HB5 := Lib.hid (HB.out.trans (hb5.mono HB.out.size))
    have hz5 := HV5.out.lt
    have hpl := fun W (hb : Below w5.heap.size w5 W) => rplain_any P.v ⟨yk, yn, yg, ys, ⟨ylp, yll, ylc⟩, ⟨ydp, ydl, ydc⟩⟩ W (fun k => w1.heap.size ≤ k ∧ k < w5.heap.size) (hy5.bound.later (fun k hk => hb.block k hk.2)) (fun k hk => Nat.lt_of_lt_of_le hk.2 hb.size) hfp
    dsimp only [Hv.arr] at hpl
    have HPl := Lib.hid hpl
    clear hpl hb5 hy5 h0 hfp
    go_wp2_with (first
      | (refine VCell.store rfl rfl (.tmp 7) (.tmp 14) rfl w5.heap.size .nil ⟨yk, yn, yg, ys, ⟨ylp, yll, ylc⟩, ⟨ydp, ydl, ydc⟩⟩ rfl rfl (VCell.new w5 .nil) ?_; intro w6 HC6 HK6 HB6 HZ6; have hb56 : Below w5.heap.size w5 w6 := ((Below.refl _ w5).alloc (Nat.le_refl _) _).trans HB6.out; have HV6 := Lib.hid (HV5.out.later hb56 HV5.out.lt); have HB56 := Lib.hid (HB5.out.trans (hb56.mono HB5.out.size)))
      | (refine VCell.load rfl (.tmp 7) rfl w5.heap.size _ rfl HC6.out ?_)
      | (go_at_call 14; refine (HPl.out w6 hb56).mono ?_; rintro e w7 ⟨⟨zk, zn, zg, zs, ⟨zlp, zll, zlc⟩, ⟨zdp, zdl, zdc⟩⟩, he, hz, hb⟩; replace he : e = .returned (.agg #[.int .i64 zk, .int .i64 zn, .int .i64 zg, .string zs, .slice zlp zll zlc, .slice zdp zdl zdc]) := he; subst he; have HV7 := Lib.hid (HV6.out.later hb HV6.out.lt); have HB7 := Lib.hid (HB56.out.trans (hb.mono HB56.out.size)); have Hz := Lib.hid hz; have hlt6 := HV6.out.lt; clear hb hz)
      | (refine VCell.store rfl rfl _ _ rfl w.heap.size .nil ⟨zk, zn, zg, zs, ⟨zlp, zll, zlc⟩, ⟨zdp, zdl, zdc⟩⟩ rfl rfl HV7.out ?_; intro wz HCz HKz HBz HZz))
    obtain ⟨g0, g1, g2, g3, g4, g5⟩ := HCz.out.at
    try dsimp only at g0 g1 g2 g3 g4 g5
    exact bodyPost_ret (v := .tuple #[.agg #[.int .i64 zk, .int .i64 zn, .int .i64 zg, .string zs, .slice zlp zll zlc, .slice zdp zdl zdc], .int .i64 (P.fin : Int), .int .i64 0]) (by simp [results, Try.results7, go_sem, g0, g1, g2, g3, g4, g5]) rfl
      (show RTells ⟨plainV P.v, P.fin, 0⟩ w _ _ from ⟨⟨zk, zn, zg, zs, ⟨zlp, zll, zlc⟩, ⟨zdp, zdl, zdc⟩⟩, rfl, (Hz.out.later (fun k hk => HKz.out k (by omega))).mono (fun k hk => by omega), HB7.out.trans (HBz.out.mono (Nat.le_refl _))⟩)
  · rw [hverr h0]
    have hcd : (P.code != 0) = true := by simpa using h0
    clear hval hverr hfit h0
    generalize hPq : P.code = c at *
    go_enter Try.func7, Try.ntmps7
    iterate 6 go_step
    rw [Hw1.out]
    go_wp2_with fail
    refine HN.out.mono ?_
    rintro e w5 ⟨⟨yk, yn, yg, ys, ⟨ylp, yll, ylc⟩, ⟨ydp, ydl, ydc⟩⟩, he, hy5, hb5⟩
    replace he : e = .returned (.tuple #[.agg #[.int .i64 yk, .int .i64 yn, .int .i64 yg, .string ys, .slice ylp yll ylc, .slice ydp ydl ydc], .int .i64 (P.fin : Int), .int .i64 P.code]) := he
    rw [hPq] at he
    subst he
    have HV5 := Lib.hid (HV.out.later hb5 HV.out.lt)
    have HB5 := Lib.hid (HB.out.trans (hb5.mono HB.out.size))
    have hz5 := HV5.out.lt
    clear hb5 hy5
    go_wp2_with (first
      | (refine VCell.store rfl rfl (.tmp 7) (.tmp 14) rfl w5.heap.size .nil ⟨yk, yn, yg, ys, ⟨ylp, yll, ylc⟩, ⟨ydp, ydl, ydc⟩⟩ rfl rfl (VCell.new w5 .nil) ?_; intro w6 HC6 HK6 HB6 HZ6; have hb56 : Below w5.heap.size w5 w6 := ((Below.refl _ w5).alloc (Nat.le_refl _) _).trans HB6.out; have HV6 := Lib.hid (HV5.out.later hb56 HV5.out.lt); have HB56 := Lib.hid (HB5.out.trans (hb56.mono HB5.out.size)))
      | (refine VCell.store rfl rfl _ _ rfl w.heap.size .nil ⟨0, 0, 0, ⟨#[]⟩, ⟨none, 0, 0⟩, ⟨none, 0, 0⟩⟩ rfl rfl HV6.out ?_; intro wz HCz HKz HBz HZz))
    obtain ⟨g0, g1, g2, g3, g4, g5⟩ := HCz.out.at
    try dsimp only at g0 g1 g2 g3 g4 g5
    exact bodyPost_ret (v := .tuple #[.agg #[.int .i64 0, .int .i64 0, .int .i64 0, .string ⟨#[]⟩, .slice none 0 0, .slice none 0 0], .int .i64 0, .int .i64 c]) (by simp [results, Try.results7, go_sem, g0, g1, g2, g3, g4, g5]) rfl
      (show RTells (.err c) w _ _ from ⟨⟨0, 0, 0, ⟨#[]⟩, ⟨none, 0, 0⟩, ⟨none, 0, 0⟩⟩, rfl, rd_nil, HB56.out.trans (HBz.out.mono (Nat.le_refl _))⟩)

/-- What Whole tells. -/
def RWhoC (s : ByteArray) (w : World) : Prop :=
  Calls Try.prog 10 #[.string s] w fun e w' => ∃ y : Hv, e = .returned (.tuple #[.agg y.arr, .int .i64 (wholeV s.data.toList).2]) ∧ Rd w' (fun k => w.heap.size ≤ k) y (wholeV s.data.toList).1 ∧ Below w.heap.size w w'
set_option maxHeartbeats 8000000 in
theorem rwhole_any (s : ByteArray) (w : World) (hs : s.size ≤ 100000000) (hfit : (readP s.data.toList (2 * s.data.toList.length + 1) 0 0).code = 0 → Fit (readP s.data.toList (2 * s.data.toList.length + 1) 0 0).v 4000) : RWhoC s w := by
  obtain ⟨w1, hw1⟩ : ∃ w1, w.alloc (.cells #[.int .i64 0, .int .i64 0, .int .i64 0, .string ⟨#[]⟩, .slice none 0 0, .slice none 0 0] 26) = w1 := ⟨_, rfl⟩
  have hs1 : w1.heap.size = w.heap.size + 1 := by rw [← hw1]; simp
  have hb1 : Below w.heap.size w w1 := by rw [← hw1]; exact (Below.refl _ w).alloc (Nat.le_refl _) _
  have HV := Lib.hid (show VCell w1 w.heap.size .nil by rw [← hw1]; exact heap_alloc_new w _)
  have HB := Lib.hid hb1
  have Hw1 := Lib.hid hw1
  have hp0 : placeN s.data.toList 0 = 0 := by unfold placeN; omega
  have hv := rvalue18_any s 0 w1 hs (by rw [hp0]; exact hfit)
  rw [hp0] at hv
  obtain ⟨P, hP⟩ : ∃ P, valueP s.data.toList 0 = P := ⟨_, rfl⟩
  obtain ⟨W, hW⟩ : ∃ W, wholeV s.data.toList = W := ⟨_, rfl⟩
  unfold RWhoC
  rw [hP] at hv
  rw [hW]
  unfold wholeV at hW
  rw [hP] at hW
  have hpf : P.fin ≤ s.data.toList.length := by
    rw [← hP]
    by_cases h : (readP s.data.toList (2 * s.data.toList.length + 1) 0 0).code = 0
    · rw [value_ok h]; exact (read_fine (Nat.zero_le _) h).hi
    · rw [value_err h]; exact Nat.zero_le _
  unfold RTells at hv
  have HN := Lib.hid hv
  clear hw1 hb1 hfit hp0 hP hv
  by_cases h0 : P.code = 0
  · rw [if_neg (by simpa using h0)] at hW
    rw [h0] at HN
    obtain ⟨t, ht⟩ : ∃ t, nextN s.data.toList P.fin = t := ⟨_, rfl⟩
    have hn := fun W => rNext_any s (P.fin : Int) W hs
    rw [(nextI_nat hpf).trans ht] at hn
    have htg := (next_good s.data.toList P.fin hpf).1
    rw [ht] at hW htg
    unfold Sg.told Sg.tok at hn
    have HX := Lib.hid hn
    by_cases hc : t.code = 0
    · rw [if_neg (by simpa using hc)] at hW
      rw [hc] at HX
      by_cases hk : t.kind = 0
      · rw [if_neg (by simpa using hk)] at hW
        subst hW
        have hkd : (t.kind != 0) = false := by simpa using hk
        clear hn htg hc hk ht h0
        go_enter Try.func10, Try.ntmps10
        iterate 6 go_step
        rw [Hw1.out]
        go_wp2_with fail
        refine HN.out.mono ?_
        rintro e w5 ⟨⟨yk, yn, yg, ys, ⟨ylp, yll, ylc⟩, ⟨ydp, ydl, ydc⟩⟩, he, hr5, hb5⟩
        replace he : e = .returned (.tuple #[.agg #[.int .i64 yk, .int .i64 yn, .int .i64 yg, .string ys, .slice ylp yll ylc, .slice ydp ydl ydc], .int .i64 (P.fin : Int), .int .i64 0]) := he
        subst he
        have HV5 := Lib.hid (HV.out.later hb5 HV.out.lt)
        have HB5 := Lib.hid (HB.out.trans (hb5.mono HB.out.size))
        have Hr5 := Lib.hid hr5
        have hz5 := HV5.out.lt
        clear hr5 hb5
        go_wp2_with (refine VCell.store rfl rfl (.tmp 4) (.tmp 12) rfl w5.heap.size .nil ⟨yk, yn, yg, ys, ⟨ylp, yll, ylc⟩, ⟨ydp, ydl, ydc⟩⟩ rfl rfl (VCell.new w5 .nil) ?_; intro w6 HC6 HK6 HB6 HZ6; have hb56 : Below w5.heap.size w5 w6 := ((Below.refl _ w5).alloc (Nat.le_refl _) _).trans HB6.out; have HV6 := Lib.hid (HV5.out.later hb56 HV5.out.lt); have HB56 := Lib.hid (HB5.out.trans (hb56.mono HB5.out.size)))
        have Hr6 := Lib.hid (Hr5.out.bound.later (fun k hk => hb56.block k hk.2))
        have hlt6 := HC6.out.lt
        refine (HX.out w6).mono ?_
        rintro e w7 ⟨rfl, hb7⟩
        have HC7 := Lib.hid (HC6.out.later hb7 hlt6)
        have HV7 := Lib.hid (HV6.out.later hb7 HV6.out.lt)
        have HB7 := Lib.hid (HB56.out.trans (hb7.mono HB56.out.size))
        have Hr7 := Lib.hid (Hr6.out.bound.later (fun k hk => hb7.block k hk.2))
        clear hb7 hb56
        go_wp2_with (first
          | (refine TokCell.store rfl rfl _ _ rfl w7.heap.size #[.int .i64 0, .int .i64 0, .string ⟨#[]⟩, .int .i64 0, .int .i64 0] t.kind t.num (bytes t.str) t.beg t.fin rfl rfl (TokCell.new w7 _) rfl w7.heap.size _ (Below.refl _ _) (Nat.le_refl _) ?_; intro w8 HT8 HB8 HO8; have hb8 : Below w7.heap.size w7 w8 := ((Below.refl _ w7).alloc (Nat.le_refl _) _).trans HB8.out; obtain ⟨r0, r1, r2, r3, r4⟩ := HT8.out.parts; have HC8 := Lib.hid (HC7.out.later hb8 HC7.out.lt); have HV8 := Lib.hid (HV7.out.later hb8 HV7.out.lt); have HBe := Lib.hid (HB7.out.trans (hb8.mono HB7.out.size)); have Hr8 := Lib.hid (Hr7.out.bound.later (fun k hk => hb8.block k hk.2)))
          | (refine VCell.load rfl (.tmp 4) rfl w5.heap.size _ rfl HC8.out ?_)
          | (refine VCell.store rfl rfl _ _ rfl w.heap.size .nil ⟨yk, yn, yg, ys, ⟨ylp, yll, ylc⟩, ⟨ydp, ydl, ydc⟩⟩ rfl rfl HV8.out ?_; intro wz HCz HKz HBz HZz))
        obtain ⟨g0, g1, g2, g3, g4, g5⟩ := HCz.out.at
        try dsimp only at g0 g1 g2 g3 g4 g5
        exact bodyPost_ret (v := .tuple #[.agg #[.int .i64 yk, .int .i64 yn, .int .i64 yg, .string ys, .slice ylp yll ylc, .slice ydp ydl ydc], .int .i64 0]) (by simp [results, Try.results10, go_sem, g0, g1, g2, g3, g4, g5]) rfl
          ⟨⟨yk, yn, yg, ys, ⟨ylp, yll, ylc⟩, ⟨ydp, ydl, ydc⟩⟩, rfl, (Hr8.out.later (fun k hk => HKz.out k (by have := hk.1.1.1; omega))).mono (fun k hk => by have := hk.1.1.1; omega), HBe.out.trans (HBz.out.mono (by omega))⟩
      · rw [if_pos hk] at hW
        subst hW
        have hkd : (t.kind != 0) = true := by simpa using hk
        clear hn htg hc hk ht h0
        go_enter Try.func10, Try.ntmps10
        iterate 6 go_step
        rw [Hw1.out]
        go_wp2_with fail
        refine HN.out.mono ?_
        rintro e w5 ⟨⟨yk, yn, yg, ys, ⟨ylp, yll, ylc⟩, ⟨ydp, ydl, ydc⟩⟩, he, hr5, hb5⟩
        replace he : e = .returned (.tuple #[.agg #[.int .i64 yk, .int .i64 yn, .int .i64 yg, .string ys, .slice ylp yll ylc, .slice ydp ydl ydc], .int .i64 (P.fin : Int), .int .i64 0]) := he
        subst he
        have HV5 := Lib.hid (HV.out.later hb5 HV.out.lt)
        have HB5 := Lib.hid (HB.out.trans (hb5.mono HB.out.size))
        have Hr5 := Lib.hid hr5
        have hz5 := HV5.out.lt
        clear hr5 hb5
        go_wp2_with (refine VCell.store rfl rfl (.tmp 4) (.tmp 12) rfl w5.heap.size .nil ⟨yk, yn, yg, ys, ⟨ylp, yll, ylc⟩, ⟨ydp, ydl, ydc⟩⟩ rfl rfl (VCell.new w5 .nil) ?_; intro w6 HC6 HK6 HB6 HZ6; have hb56 : Below w5.heap.size w5 w6 := ((Below.refl _ w5).alloc (Nat.le_refl _) _).trans HB6.out; have HV6 := Lib.hid (HV5.out.later hb56 HV5.out.lt); have HB56 := Lib.hid (HB5.out.trans (hb56.mono HB5.out.size)))
        have Hr6 := Lib.hid (Hr5.out.bound.later (fun k hk => hb56.block k hk.2))
        have hlt6 := HC6.out.lt
        refine (HX.out w6).mono ?_
        rintro e w7 ⟨rfl, hb7⟩
        have HC7 := Lib.hid (HC6.out.later hb7 hlt6)
        have HV7 := Lib.hid (HV6.out.later hb7 HV6.out.lt)
        have HB7 := Lib.hid (HB56.out.trans (hb7.mono HB56.out.size))
        have Hr7 := Lib.hid (Hr6.out.bound.later (fun k hk => hb7.block k hk.2))
        clear hb7 hb56
        go_wp2_with (first
          | (refine TokCell.store rfl rfl _ _ rfl w7.heap.size #[.int .i64 0, .int .i64 0, .string ⟨#[]⟩, .int .i64 0, .int .i64 0] t.kind t.num (bytes t.str) t.beg t.fin rfl rfl (TokCell.new w7 _) rfl w7.heap.size _ (Below.refl _ _) (Nat.le_refl _) ?_; intro w8 HT8 HB8 HO8; have hb8 : Below w7.heap.size w7 w8 := ((Below.refl _ w7).alloc (Nat.le_refl _) _).trans HB8.out; obtain ⟨r0, r1, r2, r3, r4⟩ := HT8.out.parts; have HC8 := Lib.hid (HC7.out.later hb8 HC7.out.lt); have HV8 := Lib.hid (HV7.out.later hb8 HV7.out.lt); have HBe := Lib.hid (HB7.out.trans (hb8.mono HB7.out.size)); have Hr8 := Lib.hid (Hr7.out.bound.later (fun k hk => hb8.block k hk.2)))
          | (refine VCell.store rfl rfl _ _ rfl w.heap.size .nil ⟨0, 0, 0, ⟨#[]⟩, ⟨none, 0, 0⟩, ⟨none, 0, 0⟩⟩ rfl rfl HV8.out ?_; intro wz HCz HKz HBz HZz))
        obtain ⟨g0, g1, g2, g3, g4, g5⟩ := HCz.out.at
        try dsimp only at g0 g1 g2 g3 g4 g5
        exact bodyPost_ret (v := .tuple #[.agg #[.int .i64 0, .int .i64 0, .int .i64 0, .string ⟨#[]⟩, .slice none 0 0, .slice none 0 0], .int .i64 4]) (by simp [results, Try.results10, go_sem, g0, g1, g2, g3, g4, g5]) rfl
          ⟨⟨0, 0, 0, ⟨#[]⟩, ⟨none, 0, 0⟩, ⟨none, 0, 0⟩⟩, rfl, Rd.null _ _, HBe.out.trans (HBz.out.mono (by omega))⟩
    · rw [if_pos hc] at hW
      subst hW
      have hcd : (t.code != 0) = true := by simpa using hc
      replace HX : Hid (∀ W, Calls Try.prog 16 #[.string s, .int .i64 (P.fin : Int)] W fun e w' => e = .returned (.tuple #[.agg (tokC 0 0 ⟨#[]⟩ 0 0), .int .i64 t.code]) ∧ Below W.heap.size W w') := Lib.hid (by have h := hn; rw [htg.1 hc] at h; exact h)
      generalize t.code = c at *
      clear hn htg hc ht h0
      go_enter Try.func10, Try.ntmps10
      iterate 6 go_step
      rw [Hw1.out]
      go_wp2_with fail
      refine HN.out.mono ?_
      rintro e w5 ⟨⟨yk, yn, yg, ys, ⟨ylp, yll, ylc⟩, ⟨ydp, ydl, ydc⟩⟩, he, hr5, hb5⟩
      replace he : e = .returned (.tuple #[.agg #[.int .i64 yk, .int .i64 yn, .int .i64 yg, .string ys, .slice ylp yll ylc, .slice ydp ydl ydc], .int .i64 (P.fin : Int), .int .i64 0]) := he
      subst he
      have HV5 := Lib.hid (HV.out.later hb5 HV.out.lt)
      have HB5 := Lib.hid (HB.out.trans (hb5.mono HB.out.size))
      have Hr5 := Lib.hid hr5
      have hz5 := HV5.out.lt
      clear hr5 hb5
      go_wp2_with (refine VCell.store rfl rfl (.tmp 4) (.tmp 12) rfl w5.heap.size .nil ⟨yk, yn, yg, ys, ⟨ylp, yll, ylc⟩, ⟨ydp, ydl, ydc⟩⟩ rfl rfl (VCell.new w5 .nil) ?_; intro w6 HC6 HK6 HB6 HZ6; have hb56 : Below w5.heap.size w5 w6 := ((Below.refl _ w5).alloc (Nat.le_refl _) _).trans HB6.out; have HV6 := Lib.hid (HV5.out.later hb56 HV5.out.lt); have HB56 := Lib.hid (HB5.out.trans (hb56.mono HB5.out.size)))
      have Hr6 := Lib.hid (Hr5.out.bound.later (fun k hk => hb56.block k hk.2))
      have hlt6 := HC6.out.lt
      refine (HX.out w6).mono ?_
      rintro e w7 ⟨rfl, hb7⟩
      have HC7 := Lib.hid (HC6.out.later hb7 hlt6)
      have HV7 := Lib.hid (HV6.out.later hb7 HV6.out.lt)
      have HB7 := Lib.hid (HB56.out.trans (hb7.mono HB56.out.size))
      have Hr7 := Lib.hid (Hr6.out.bound.later (fun k hk => hb7.block k hk.2))
      clear hb7 hb56
      go_wp2_with (first
        | (refine TokCell.store rfl rfl _ _ rfl w7.heap.size #[.int .i64 0, .int .i64 0, .string ⟨#[]⟩, .int .i64 0, .int .i64 0] 0 0 ⟨#[]⟩ 0 0 rfl rfl (TokCell.new w7 _) rfl w7.heap.size _ (Below.refl _ _) (Nat.le_refl _) ?_; intro w8 HT8 HB8 HO8; have hb8 : Below w7.heap.size w7 w8 := ((Below.refl _ w7).alloc (Nat.le_refl _) _).trans HB8.out; obtain ⟨r0, r1, r2, r3, r4⟩ := HT8.out.parts; have HC8 := Lib.hid (HC7.out.later hb8 HC7.out.lt); have HV8 := Lib.hid (HV7.out.later hb8 HV7.out.lt); have HBe := Lib.hid (HB7.out.trans (hb8.mono HB7.out.size)); have Hr8 := Lib.hid (Hr7.out.bound.later (fun k hk => hb8.block k hk.2)))
        | (refine VCell.store rfl rfl _ _ rfl w.heap.size .nil ⟨0, 0, 0, ⟨#[]⟩, ⟨none, 0, 0⟩, ⟨none, 0, 0⟩⟩ rfl rfl HV8.out ?_; intro wz HCz HKz HBz HZz))
      obtain ⟨g0, g1, g2, g3, g4, g5⟩ := HCz.out.at
      try dsimp only at g0 g1 g2 g3 g4 g5
      exact bodyPost_ret (v := .tuple #[.agg #[.int .i64 0, .int .i64 0, .int .i64 0, .string ⟨#[]⟩, .slice none 0 0, .slice none 0 0], .int .i64 c]) (by simp [results, Try.results10, go_sem, g0, g1, g2, g3, g4, g5]) rfl
        ⟨⟨0, 0, 0, ⟨#[]⟩, ⟨none, 0, 0⟩, ⟨none, 0, 0⟩⟩, rfl, Rd.null _ _, HBe.out.trans (HBz.out.mono (by omega))⟩
  · rw [if_pos h0] at hW
    subst hW
    have hcd : (P.code != 0) = true := by simpa using h0
    generalize P.code = c at *
    clear h0
    go_enter Try.func10, Try.ntmps10
    iterate 6 go_step
    rw [Hw1.out]
    go_wp2_with fail
    refine HN.out.mono ?_
    rintro e w5 ⟨⟨yk, yn, yg, ys, ⟨ylp, yll, ylc⟩, ⟨ydp, ydl, ydc⟩⟩, he, hr5, hb5⟩
    replace he : e = .returned (.tuple #[.agg #[.int .i64 yk, .int .i64 yn, .int .i64 yg, .string ys, .slice ylp yll ylc, .slice ydp ydl ydc], .int .i64 (P.fin : Int), .int .i64 c]) := he
    subst he
    have HV5 := Lib.hid (HV.out.later hb5 HV.out.lt)
    have HB5 := Lib.hid (HB.out.trans (hb5.mono HB.out.size))
    have hz5 := HV5.out.lt
    clear hr5 hb5
    go_wp2_with (first
      | (refine VCell.store rfl rfl (.tmp 4) (.tmp 12) rfl w5.heap.size .nil ⟨yk, yn, yg, ys, ⟨ylp, yll, ylc⟩, ⟨ydp, ydl, ydc⟩⟩ rfl rfl (VCell.new w5 .nil) ?_; intro w6 HC6 HK6 HB6 HZ6; have hb56 : Below w5.heap.size w5 w6 := ((Below.refl _ w5).alloc (Nat.le_refl _) _).trans HB6.out; have HV6 := Lib.hid (HV5.out.later hb56 HV5.out.lt); have HB56 := Lib.hid (HB5.out.trans (hb56.mono HB5.out.size)))
      | (refine VCell.store rfl rfl _ _ rfl w.heap.size .nil ⟨0, 0, 0, ⟨#[]⟩, ⟨none, 0, 0⟩, ⟨none, 0, 0⟩⟩ rfl rfl HV6.out ?_; intro wz HCz HKz HBz HZz))
    obtain ⟨g0, g1, g2, g3, g4, g5⟩ := HCz.out.at
    try dsimp only at g0 g1 g2 g3 g4 g5
    exact bodyPost_ret (v := .tuple #[.agg #[.int .i64 0, .int .i64 0, .int .i64 0, .string ⟨#[]⟩, .slice none 0 0, .slice none 0 0], .int .i64 c]) (by simp [results, Try.results10, go_sem, g0, g1, g2, g3, g4, g5]) rfl
      ⟨⟨0, 0, 0, ⟨#[]⟩, ⟨none, 0, 0⟩, ⟨none, 0, 0⟩⟩, rfl, Rd.null _ _, HB56.out.trans (HBz.out.mono (by omega))⟩
end
end Go.Proofs.Ytejgcnmbngdkiaa
