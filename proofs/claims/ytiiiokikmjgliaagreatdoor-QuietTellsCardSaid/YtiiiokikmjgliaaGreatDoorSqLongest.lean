/-
  The contract of a window's longest.
-/
import Derived.Test.YtiiiokikmjgliaaGreatDoorKWin
namespace Go.Proofs.YtiiiokikmjgliaaGreatDoor
open Go.RowKit
set_option maxRecDepth 100000
theorem extract_take (s : ByteArray) (p k : Nat) : (s.extract p (p + k)).data.toList = (s.data.toList.drop p).take k := by
  simp
theorem like_iff {l : List UInt8} {p q k m : Nat} (hk : k ≤ m) : (l.drop p).take k = (l.drop q).take k ↔ k ≤ runN l p q m := by
  constructor
  · intro h
    rcases Nat.lt_or_ge (runN l p q m) k with c | c
    · have h1 := congrArg (·[runN l p q m]?) h
      simp only [List.getElem?_take, if_pos c, List.getElem?_drop] at h1
      exact absurd h1 (runN_stop l m p q (by omega))
    · exact c
  · intro h
    refine List.ext_getElem? fun i => ?_
    simp only [List.getElem?_take, List.getElem?_drop]
    split
    · exact runN_like l m p q i (by omega)
    · rfl
theorem piece_test {s : ByteArray} {p q k m : Nat} (hk : k ≤ m) : ((s.extract p (p + k)).toList == (s.extract q (q + k)).toList) = decide (k ≤ runN s.data.toList p q m) := by
  have h := like_iff (l := s.data.toList) (p := p) (q := q) hk
  rw [← extract_take, ← extract_take] at h
  rw [Lib.toList_data, Lib.toList_data]
  by_cases hc : k ≤ runN s.data.toList p q m
  · rw [decide_eq_true hc, h.2 hc]; simp
  · rw [decide_eq_false hc]
    have := fun e => hc (h.1 e)
    simpa using this
set_option maxHeartbeats 4000000 in
theorem longest_is (W : Nat) (s : ByteArray) (a m g : Nat) (w : World) (h : WinAt w W s a m g) (hs : s.size ≤ 100000) (ha : a < s.size) {n j : Nat} (hn : nextN s.data.toList a = (n, j)) :
    Calls Tryz.prog 135 #[.pointer (some ⟨W, 0, none⟩)] w fun e w' => e = .returned (.tuple #[.int .i64 (n : Int), .int .i64 (j : Int)]) ∧ Below w.heap.size w w' := by
  obtain ⟨cnt, f, A, h, hcnt, hl, hah, hA⟩ := h
  have H := Lib.hid h
  have c0 := h.cell.text
  have c1 := h.cell.at'
  have HN := Lib.hid hn
  have HAh := Lib.hid hah
  have HA := Lib.hid hA
  have HM : Hid (mostN s.data.toList a = min 258 (s.size - a)) := Lib.hid (by unfold mostN; rw [← size_data])
  have h1w : ∀ W', Below w.heap.size w W' → WinIs W' W s a m g cnt f A := fun W' hw => h.later hw
  have HO := Lib.hid (fun W' (hw : Below w.heap.size w W') (v : Int) hv hv2 => wholds_is W s a m g A.length W' (h1w W' hw).cell v hv hv2 (by omega))
  by_cases h3 : a + 3 ≤ s.size
  · obtain ⟨t, ht⟩ : ∃ t, threeAt s.data.toList a = some t := ⟨_, text_three h3⟩
    have HF := Lib.hid (fun W' (hw : Below w.heap.size w W') => first_is W s a m g W' (h.later hw) hs ha (v := placeZ (f t)) (by rw [ht]))
    have HCh := Lib.hid (hl.chase (t := t))
    have Ht := Lib.hid ht
    obtain ⟨x, hx⟩ : ∃ x, s.size - a = x := ⟨_, rfl⟩
    have hxz : (s.size : Int) - (a : Int) = (x : Int) := by omega
    by_cases hx258 : x ≤ 258
    · have hxz2 : ¬ (258 : Int) < (x : Int) := by omega
      have hxz3 : (x : Int) ≤ 258 := by omega
      have Hmo : Hid (mostN s.data.toList a = x) := Lib.hid (by rw [HM.out, hx]; omega)
      have HK := Lib.hid (fun W' (hw : Below w.heap.size w W') (q k : Nat) hk hq => walike_is W s a m g A.length W' q k x (h1w W' hw).cell hs hk hq (by omega))
      have hmo : a + x ≤ s.size := by omega
      clear h1w h hn hah hA ht hl hx hx258
      go_enter Tryz.func135, Tryz.ntmps135
      go_wp2_with fail
      go_region
      all_goals
        go_wp2_with fail
        refine (HF.out _ (below_same w).drew).mono ?_
        rintro e w1 ⟨rfl, hb⟩
        have HB1 : Hid (Below w.heap.size w w1) := Lib.hid ((below_same w).drew.trans hb)
        clear hb
        go_wp2_with fail
        go_loopg [4, 5, 7] (a + 1) (fun gg s4 s5 s7 wx => ∃ (n' j' d : Nat) (fr : Int), s4 = .int .i64 (n' : Int) ∧ s5 = .int .i64 (j' : Int) ∧ s7 = .int .i64 fr ∧ (fr + 1).toNat ≤ gg ∧ -1 ≤ fr ∧ fr < (a : Int) ∧ n' ≤ x ∧ Aside (Chase s.data.toList a t d n' j' fr) ∧ Below w.heap.size w wx)
        case atStart =>
          have hz := HCh.out
          have hlt : -1 ≤ placeZ (f t) ∧ placeZ (f t) < (a : Int) := by
            rcases hz.next with e | ⟨q, e, h1, _⟩
            · omega
            · omega
          exact ⟨0, 0, 0, _, rfl, rfl, rfl, by omega, by omega, by omega, by omega, HCh.out, HB1.out⟩
        case round =>
          obtain ⟨n', j', d, fr, rfl, rfl, rfl, hg, hf1, hf2, hnm, HC, hb⟩ := hrel
          have Hb := Lib.hid hb
          clear hb
          have HH := Lib.hid (HO.out wr Hb.out fr hf1 (by omega))
          by_cases hold : fr ≠ -1 ∧ (a : Int) - fr ≤ 32768
          · rw [decide_eq_true hold] at HH
            obtain ⟨q, rfl⟩ := Int.eq_ofNat_of_zero_le (show 0 ≤ fr by omega)
            by_cases hm : n' < x
            · have hmz : (n' : Int) < (x : Int) := by omega
              go_wp2_with fail
              refine HH.out.mono ?_
              rintro e w2 ⟨rfl, hb⟩
              have HB2 := Lib.hid (Hb.out.trans (hb.mono Hb.out.size))
              obtain ⟨v, hv, hpv⟩ : ∃ v, A[q % A.length]? = some v ∧ PrevIs s.data.toList q t v := by
                obtain ⟨q', e1, e2, e3⟩ : ∃ q' : Nat, (q : Int) = (q' : Int) ∧ q' + d < a ∧ threeAt s.data.toList q' = some t := by
                  rcases HC.out.next with e | e
                  · omega
                  · exact e
                obtain rfl : q = q' := by omega
                exact HAh.out q t (by omega) (by omega) e3
              obtain ⟨g1, g2, g3, g4⟩ := HC.out.step Ht.out (by omega) hpv
              have hless := hpv.less
              have HC2 := Lib.hid g4
              have hA0 : 0 < A.length := by have := HA.out; omega
              have H2 := Lib.hid (H.out.later HB2.out)
              have k0 := H2.out.cell.text
              have k1 := H2.out.cell.at'
              obtain ⟨u, hu⟩ : ∃ u, q + (n' + 1) = u := ⟨_, rfl⟩
              obtain ⟨y, hy⟩ : ∃ y, a + (n' + 1) = y := ⟨_, rfl⟩
              have huz : (q : Int) + (n' : Int) + 1 = (u : Int) := by omega
              have hyz : (a : Int) + (n' : Int) + 1 = (y : Int) := by omega
              have hus : u ≤ s.size := by omega
              have hys : y ≤ s.size := by omega
              have hqu : q ≤ u := by omega
              have hay : a ≤ y := by omega
              have hcmp := piece_test (s := s) (p := q) (q := a) (k := n' + 1) (m := x) (by omega)
              have Hlike : Hid (likeN s.data.toList a q = runN s.data.toList q a x) := Lib.hid (by unfold likeN; rw [Hmo.out])
              rw [Hlike.out] at HC2 g3
              rw [hu, hy] at hcmp
              have hrle := runN_le s.data.toList x q a
              have Hk := Lib.hid (fun W' (hw : Below w.heap.size w W') hk => HK.out W' hw q (n' + 1) hk (by omega))
              obtain ⟨r, hr⟩ : ∃ r, runN s.data.toList q a x = r := ⟨_, rfl⟩
              rw [hr] at HC2 g3 hcmp hrle Hk
              have Hhv := Lib.hid hv
              obtain ⟨N, hN⟩ : ∃ N, A.length = N := ⟨_, rfl⟩
              obtain ⟨z, hz⟩ : ∃ z, q % N = z := ⟨_, rfl⟩
              rw [hN] at hA0 Hhv
              rw [hz] at Hhv
              have hzN : z < N := by rw [← hz]; exact Nat.mod_lt _ hA0
              have hmz1 : (q : Int) % (N : Int) = (z : Int) := by omega
              have hmz2 : (q : Int).tmod (N : Int) = (z : Int) := by rw [Int.tmod_eq_emod_of_nonneg (by omega)]; exact hmz1
              have hNz : ((N : Int) == 0) = false := by rw [beq_eq_false_iff_ne]; omega
              have hzN2 : (z : Int) < (N : Int) := by omega
              have hN0 : ¬ N = 0 := by omega
              have HNN := Lib.hid hN
              have HZ := Lib.hid (And.intro hmz1 (And.intro hmz2 (And.intro hNz (And.intro hzN2 hzN))))
              clear hb hu hy hr hv g4 hN hz
              by_cases hnr : n' < r
              · rw [decide_eq_true (show n' + 1 ≤ r by omega)] at hcmp
                go_wp2_with fail
                go_quiet (fail)
                have HB3 := Lib.hid (below_drewN HB2.out nq)
                have H3 := Lib.hid (H.out.later HB3.out)
                have HK3 := Lib.hid (Hk.out _ HB3.out.drew (by omega))
                have HL1 : Hid (∀ w3, Below (w2.drewN nq).drew.heap.size (w2.drewN nq).drew w3 → w3.cell? ⟨W, 1, none⟩ = some (.int .i64 (a : Int))) := Lib.hid (fun w3 hb => (H.out.later (HB3.out.drew.trans (hb.mono HB3.out.drew.size))).cell.at')
                have hwr : ((n' + 1 : Nat) : Int) = IntKind.i64.wrap ((n' : Int) + 1) := by rw [IntWalk.i64_in _ (by omega)]; omega
                rw [hwr] at HK3
                clear k0 huz hyz hus hys hqu hay hcmp hwr
                go_wp2_with fail
                go_region_with (go_at_call 153; refine HK3.out.mono ?_; rintro e w3 ⟨rfl, hb⟩; have m1 := HL1.out _ hb)
                all_goals
                  have HB4 : Hid (Below w.heap.size w w3) := Lib.hid (HB3.out.drew.trans (hb.mono HB3.out.drew.size))
                  have H4 := Lib.hid (H.out.later HB4.out)
                  have m3 := H4.out.cell.ahead
                  rw [HNN.out] at m3
                  have mg := H4.out.row.cell Hhv.out
                  clear hmz1 hmz2 hNz hzN2 hzN
                  obtain ⟨hmz1, hmz2, hNz, hzN2, hzN⟩ := HZ.out
                  have hN0 : ¬ N = 0 := by omega
                  clear hb k1
                  go_wp2_with fail
                  go_quiet (fail)
                  have HB5 := Lib.hid (below_drewN HB4.out nq)
                  have HC3 : Hid (Chase s.data.toList a t (a - q) r (a - q) v) := Lib.hid (by have h := HC2.out; rwa [if_pos hnr, if_pos hnr] at h)
                  clear m1 m3 mg
                  go_wp2_with fail
                  go_roundg ((v + 1).toNat)
                  case measure => omega
                  case rel => exact ⟨r, a - q, a - q, v, rfl, by first | (congr 1; omega) | (congr 1; rw [IntWalk.i64_in _ (by omega)]; omega), rfl, by omega, by omega, by omega, hrle, HC3.out, HB5.out⟩
              · rw [decide_eq_false (show ¬ n' + 1 ≤ r by omega)] at hcmp
                have HC3 : Hid (Chase s.data.toList a t (a - q) n' j' v) := Lib.hid (by have h := HC2.out; rwa [if_neg hnr, if_neg hnr] at h)
                have k3 := H2.out.cell.ahead
                rw [HNN.out] at k3
                have kg := H2.out.row.cell Hhv.out
                go_wp2_with fail
                go_quiet (fail)
                have HB3 := Lib.hid (below_drewN HB2.out nq)
                clear k0 k1 huz hyz hus hys hqu hay hcmp
                go_wp2_with fail
                go_quiet (fail)
                have HB4 := Lib.hid (below_drewN HB3.out nq)
                go_wp2_with fail
                go_roundg ((v + 1).toNat)
                case measure => omega
                case rel => exact ⟨n', j', a - q, v, rfl, rfl, rfl, by omega, by omega, by omega, hnm, HC3.out, HB4.out⟩
            · have hmz : ¬ (n' : Int) < (x : Int) := by omega
              have HE : Hid (n = n' ∧ j = j') := Lib.hid (by
                have h1 := HC.out.done Ht.out (.inr (.inr (by rw [Hmo.out]; omega)))
                rw [HN.out] at h1
                exact Prod.mk.inj h1)
              go_wp2_with fail
              refine HH.out.mono ?_
              rintro e w2 ⟨rfl, hb⟩
              have HB2 := Lib.hid (Hb.out.trans (hb.mono Hb.out.size))
              clear hb
              go_wp2_with fail
              go_ret2
              exact ⟨by rw [HE.out.1, HE.out.2]; rfl, HB2.out⟩
          · rw [decide_eq_false hold] at HH
            have HE : Hid (n = n' ∧ j = j') := Lib.hid (by
              have h1 := HC.out.done Ht.out (by omega)
              rw [HN.out] at h1
              exact Prod.mk.inj h1)
            go_wp2_with fail
            refine HH.out.mono ?_
            rintro e w2 ⟨rfl, hb⟩
            have HB2 := Lib.hid (Hb.out.trans (hb.mono Hb.out.size))
            clear hb
            go_wp2_with fail
            go_ret2
            exact ⟨by rw [HE.out.1, HE.out.2]; rfl, HB2.out⟩

    · have hxz2 : (258 : Int) < (x : Int) := by omega
      have Hmo : Hid (mostN s.data.toList a = 258) := Lib.hid (by rw [HM.out, hx]; omega)
      have HK : Hid (∀ W' (_ : Below w.heap.size w W') (q k : Nat) (_ : k ≤ runN s.data.toList q a 258) (_ : q < a), Calls Tryz.prog 153 #[.pointer (some ⟨W, 0, none⟩), .int .i64 (q : Int), .int .i64 (k : Int), .int .i64 258] W' fun e w' => e = .returned (.int .i64 (runN s.data.toList q a 258 : Int)) ∧ Below W'.heap.size W' w') := Lib.hid (fun W' hw q k hk hq => walike_is W s a m g A.length W' q k 258 (h1w W' hw).cell hs hk hq (by omega))
      have hmo : a + 258 ≤ s.size := by omega
      clear h1w h hn hah hA ht hl hx hx258
      go_enter Tryz.func135, Tryz.ntmps135
      go_wp2_with fail
      go_region
      all_goals
        go_wp2_with fail
        refine (HF.out _ (below_same w).drew).mono ?_
        rintro e w1 ⟨rfl, hb⟩
        have HB1 : Hid (Below w.heap.size w w1) := Lib.hid ((below_same w).drew.trans hb)
        clear hb
        go_wp2_with fail
        go_loopg [4, 5, 7] (a + 1) (fun gg s4 s5 s7 wx => ∃ (n' j' d : Nat) (fr : Int), s4 = .int .i64 (n' : Int) ∧ s5 = .int .i64 (j' : Int) ∧ s7 = .int .i64 fr ∧ (fr + 1).toNat ≤ gg ∧ -1 ≤ fr ∧ fr < (a : Int) ∧ n' ≤ 258 ∧ Aside (Chase s.data.toList a t d n' j' fr) ∧ Below w.heap.size w wx)
        case atStart =>
          have hz := HCh.out
          have hlt : -1 ≤ placeZ (f t) ∧ placeZ (f t) < (a : Int) := by
            rcases hz.next with e | ⟨q, e, h1, _⟩
            · omega
            · omega
          exact ⟨0, 0, 0, _, rfl, rfl, rfl, by omega, by omega, by omega, by omega, HCh.out, HB1.out⟩
        case round =>
          obtain ⟨n', j', d, fr, rfl, rfl, rfl, hg, hf1, hf2, hnm, HC, hb⟩ := hrel
          have Hb := Lib.hid hb
          clear hb
          have HH := Lib.hid (HO.out wr Hb.out fr hf1 (by omega))
          by_cases hold : fr ≠ -1 ∧ (a : Int) - fr ≤ 32768
          · rw [decide_eq_true hold] at HH
            obtain ⟨q, rfl⟩ := Int.eq_ofNat_of_zero_le (show 0 ≤ fr by omega)
            by_cases hm : n' < 258
            · have hmz : (n' : Int) < 258 := by omega
              go_wp2_with fail
              refine HH.out.mono ?_
              rintro e w2 ⟨rfl, hb⟩
              have HB2 := Lib.hid (Hb.out.trans (hb.mono Hb.out.size))
              obtain ⟨v, hv, hpv⟩ : ∃ v, A[q % A.length]? = some v ∧ PrevIs s.data.toList q t v := by
                obtain ⟨q', e1, e2, e3⟩ : ∃ q' : Nat, (q : Int) = (q' : Int) ∧ q' + d < a ∧ threeAt s.data.toList q' = some t := by
                  rcases HC.out.next with e | e
                  · omega
                  · exact e
                obtain rfl : q = q' := by omega
                exact HAh.out q t (by omega) (by omega) e3
              obtain ⟨g1, g2, g3, g4⟩ := HC.out.step Ht.out (by omega) hpv
              have hless := hpv.less
              have HC2 := Lib.hid g4
              have hA0 : 0 < A.length := by have := HA.out; omega
              have H2 := Lib.hid (H.out.later HB2.out)
              have k0 := H2.out.cell.text
              have k1 := H2.out.cell.at'
              obtain ⟨u, hu⟩ : ∃ u, q + (n' + 1) = u := ⟨_, rfl⟩
              obtain ⟨y, hy⟩ : ∃ y, a + (n' + 1) = y := ⟨_, rfl⟩
              have huz : (q : Int) + (n' : Int) + 1 = (u : Int) := by omega
              have hyz : (a : Int) + (n' : Int) + 1 = (y : Int) := by omega
              have hus : u ≤ s.size := by omega
              have hys : y ≤ s.size := by omega
              have hqu : q ≤ u := by omega
              have hay : a ≤ y := by omega
              have hcmp := piece_test (s := s) (p := q) (q := a) (k := n' + 1) (m := 258) (by omega)
              have Hlike : Hid (likeN s.data.toList a q = runN s.data.toList q a 258) := Lib.hid (by unfold likeN; rw [Hmo.out])
              rw [Hlike.out] at HC2 g3
              rw [hu, hy] at hcmp
              have hrle := runN_le s.data.toList 258 q a
              have Hk := Lib.hid (fun W' (hw : Below w.heap.size w W') hk => HK.out W' hw q (n' + 1) hk (by omega))
              obtain ⟨r, hr⟩ : ∃ r, runN s.data.toList q a 258 = r := ⟨_, rfl⟩
              rw [hr] at HC2 g3 hcmp hrle Hk
              have Hhv := Lib.hid hv
              obtain ⟨N, hN⟩ : ∃ N, A.length = N := ⟨_, rfl⟩
              obtain ⟨z, hz⟩ : ∃ z, q % N = z := ⟨_, rfl⟩
              rw [hN] at hA0 Hhv
              rw [hz] at Hhv
              have hzN : z < N := by rw [← hz]; exact Nat.mod_lt _ hA0
              have hmz1 : (q : Int) % (N : Int) = (z : Int) := by omega
              have hmz2 : (q : Int).tmod (N : Int) = (z : Int) := by rw [Int.tmod_eq_emod_of_nonneg (by omega)]; exact hmz1
              have hNz : ((N : Int) == 0) = false := by rw [beq_eq_false_iff_ne]; omega
              have hzN2 : (z : Int) < (N : Int) := by omega
              have hN0 : ¬ N = 0 := by omega
              have HNN := Lib.hid hN
              have HZ := Lib.hid (And.intro hmz1 (And.intro hmz2 (And.intro hNz (And.intro hzN2 hzN))))
              clear hb hu hy hr hv g4 hN hz
              by_cases hnr : n' < r
              · rw [decide_eq_true (show n' + 1 ≤ r by omega)] at hcmp
                go_wp2_with fail
                go_quiet (fail)
                have HB3 := Lib.hid (below_drewN HB2.out nq)
                have H3 := Lib.hid (H.out.later HB3.out)
                have HK3 := Lib.hid (Hk.out _ HB3.out.drew (by omega))
                have HL1 : Hid (∀ w3, Below (w2.drewN nq).drew.heap.size (w2.drewN nq).drew w3 → w3.cell? ⟨W, 1, none⟩ = some (.int .i64 (a : Int))) := Lib.hid (fun w3 hb => (H.out.later (HB3.out.drew.trans (hb.mono HB3.out.drew.size))).cell.at')
                have hwr : ((n' + 1 : Nat) : Int) = IntKind.i64.wrap ((n' : Int) + 1) := by rw [IntWalk.i64_in _ (by omega)]; omega
                rw [hwr] at HK3
                clear k0 huz hyz hus hys hqu hay hcmp hwr
                go_wp2_with fail
                go_region_with (go_at_call 153; refine HK3.out.mono ?_; rintro e w3 ⟨rfl, hb⟩; have m1 := HL1.out _ hb)
                all_goals
                  have HB4 : Hid (Below w.heap.size w w3) := Lib.hid (HB3.out.drew.trans (hb.mono HB3.out.drew.size))
                  have H4 := Lib.hid (H.out.later HB4.out)
                  have m3 := H4.out.cell.ahead
                  rw [HNN.out] at m3
                  have mg := H4.out.row.cell Hhv.out
                  clear hmz1 hmz2 hNz hzN2 hzN
                  obtain ⟨hmz1, hmz2, hNz, hzN2, hzN⟩ := HZ.out
                  have hN0 : ¬ N = 0 := by omega
                  clear hb k1
                  go_wp2_with fail
                  go_quiet (fail)
                  have HB5 := Lib.hid (below_drewN HB4.out nq)
                  have HC3 : Hid (Chase s.data.toList a t (a - q) r (a - q) v) := Lib.hid (by have h := HC2.out; rwa [if_pos hnr, if_pos hnr] at h)
                  clear m1 m3 mg
                  go_wp2_with fail
                  go_roundg ((v + 1).toNat)
                  case measure => omega
                  case rel => exact ⟨r, a - q, a - q, v, rfl, by first | (congr 1; omega) | (congr 1; rw [IntWalk.i64_in _ (by omega)]; omega), rfl, by omega, by omega, by omega, hrle, HC3.out, HB5.out⟩
              · rw [decide_eq_false (show ¬ n' + 1 ≤ r by omega)] at hcmp
                have HC3 : Hid (Chase s.data.toList a t (a - q) n' j' v) := Lib.hid (by have h := HC2.out; rwa [if_neg hnr, if_neg hnr] at h)
                have k3 := H2.out.cell.ahead
                rw [HNN.out] at k3
                have kg := H2.out.row.cell Hhv.out
                go_wp2_with fail
                go_quiet (fail)
                have HB3 := Lib.hid (below_drewN HB2.out nq)
                clear k0 k1 huz hyz hus hys hqu hay hcmp
                go_wp2_with fail
                go_quiet (fail)
                have HB4 := Lib.hid (below_drewN HB3.out nq)
                go_wp2_with fail
                go_roundg ((v + 1).toNat)
                case measure => omega
                case rel => exact ⟨n', j', a - q, v, rfl, rfl, rfl, by omega, by omega, by omega, hnm, HC3.out, HB4.out⟩
            · have hmz : ¬ (n' : Int) < 258 := by omega
              have HE : Hid (n = n' ∧ j = j') := Lib.hid (by
                have h1 := HC.out.done Ht.out (.inr (.inr (by rw [Hmo.out]; omega)))
                rw [HN.out] at h1
                exact Prod.mk.inj h1)
              go_wp2_with fail
              refine HH.out.mono ?_
              rintro e w2 ⟨rfl, hb⟩
              have HB2 := Lib.hid (Hb.out.trans (hb.mono Hb.out.size))
              clear hb
              go_wp2_with fail
              go_ret2
              exact ⟨by rw [HE.out.1, HE.out.2]; rfl, HB2.out⟩
          · rw [decide_eq_false hold] at HH
            have HE : Hid (n = n' ∧ j = j') := Lib.hid (by
              have h1 := HC.out.done Ht.out (by omega)
              rw [HN.out] at h1
              exact Prod.mk.inj h1)
            go_wp2_with fail
            refine HH.out.mono ?_
            rintro e w2 ⟨rfl, hb⟩
            have HB2 := Lib.hid (Hb.out.trans (hb.mono Hb.out.size))
            clear hb
            go_wp2_with fail
            go_ret2
            exact ⟨by rw [HE.out.1, HE.out.2]; rfl, HB2.out⟩

  · have HF := Lib.hid (fun W' (hw : Below w.heap.size w W') => first_is W s a m g W' (h.later hw) hs ha (v := -1) (by rw [text_three_none (by omega)]))
    have hE := nextN_short (l := s.data.toList) (at' := a) (by rw [← size_data]; omega)
    rw [hn] at hE
    obtain ⟨rfl, rfl⟩ := Prod.mk.inj hE
    have HH := Lib.hid (fun W' (hw : Below w.heap.size w W') => HO.out W' hw (-1) (by omega) (by omega))
    have hxz2 : ¬ (258 : Int) < (s.size : Int) - (a : Int) := by omega
    clear h1w h hn hah hA hl hE
    go_enter Tryz.func135, Tryz.ntmps135
    go_wp2_with fail
    go_region
    all_goals
      go_wp2_with fail
      refine (HF.out _ (below_same w).drew).mono ?_
      rintro e w1 ⟨rfl, hb⟩
      have HB1 : Hid (Below w.heap.size w w1) := Lib.hid ((below_same w).drew.trans hb)
      clear hb
      go_wp2_with fail
      go_loopg [4, 5, 7] 0 (fun gg s4 s5 s7 wx => s4 = .int .i64 0 ∧ s5 = .int .i64 0 ∧ s7 = .int .i64 (-1) ∧ Below w.heap.size w wx)
      case atStart => exact ⟨rfl, rfl, rfl, HB1.out⟩
      case round =>
        obtain ⟨rfl, rfl, rfl, hb⟩ := hrel
        have Hb := Lib.hid hb
        clear hb
        have HH1 := Lib.hid (HH.out wr Hb.out)
        rw [show decide ((-1 : Int) ≠ -1 ∧ (a : Int) - -1 ≤ 32768) = false by simp] at HH1
        go_wp2_with fail
        refine HH1.out.mono ?_
        rintro e w2 ⟨rfl, hb⟩
        have HB2 := Lib.hid (Hb.out.trans (hb.mono Hb.out.size))
        clear hb
        go_wp2_with fail
        go_ret2
        exact ⟨rfl, HB2.out⟩
end Go.Proofs.YtiiiokikmjgliaaGreatDoor
