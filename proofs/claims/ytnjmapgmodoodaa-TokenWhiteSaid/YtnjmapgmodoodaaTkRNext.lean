/-
  The document's Next.
-/
import Derived.Test.YtnjmapgmodoodaaTkRWord
import Derived.Test.YtnjmapgmodoodaaTkRPlain
import Derived.Test.YtnjmapgmodoodaaTkRHex
namespace Go.Proofs.Ytnjmapgmodoodaa
open Go.RowKit
set_option maxRecDepth 100000

/-- A sign that a call hands back, in its parts. -/
theorem told_parts (r : Sg) : r.told = .tuple #[.agg (tokC r.kind r.num (bytes r.str) (r.beg : Int) (r.fin : Int)), .int .i64 r.code] := rfl
theorem two_pre (s : ByteArray) (j M : Nat) (a b : UInt8) (hj : j + 2 ≤ M ∨ M = s.size) (h2 : M ≤ j + 2) : ((s.extract j M).toList == [a, b]) = preB (s.data.toList.drop j) [a, b] := by
  rw [Lib.toList_data, Lib.extract_data, Bool.eq_iff_iff, beq_iff_eq]
  unfold preB
  rw [decide_eq_true_eq, List.prefix_iff_eq_take]
  have hl : (s.data.toList.drop j).length = s.size - j := by rw [List.length_drop, ← size_data]
  have e : (s.data.toList.drop j).take (M - j) = (s.data.toList.drop j).take 2 := by
    rcases hj with h' | h'
    · rw [show M - j = 2 by omega]
    · rw [List.take_of_length_le (by omega), List.take_of_length_le (by omega)]
  rw [e]
  exact eq_comm
theorem pre_off {c q : UInt8} {t : List UInt8} (h : ¬ c = q) : preB (c :: t) [q, q] = false := by
  refine decide_eq_false (fun hp => h ?_)
  exact (List.cons_prefix_cons.1 hp).1.symm
theorem kind_delims {c : UInt8} (h : c.toNat = 41 ∨ c.toNat = 123 ∨ c.toNat = 125 ∨ c.toNat = 62) : kindI (c.toNat : Int) = 1 := by
  unfold kindI; rw [if_neg (by omega), if_pos (by omega)]

set_option maxHeartbeats 8000000 in
theorem rNext_any (s : ByteArray) (a : Int) (w : World) (hs : s.size ≤ 100000000) :
    Calls Try.prog 9 #[.string s, .int .i64 a] w fun e w' => e = .returned (nextI s.data.toList a).told ∧ Below w.heap.size w w' := by
  have HW0 := Lib.hid ((Below.refl _ w).alloc (Nat.le_refl _) (.cells (tokC 0 0 ⟨#[]⟩ 0 0) 24))
  have HT0 := Lib.hid (TokCell.new w (tokC 0 0 ⟨#[]⟩ 0 0))
  unfold tokC at HW0 HT0
  obtain ⟨j, hj⟩ : ∃ j, skipI s.data.toList a = j := ⟨_, rfl⟩
  have hjl := (skipN_le (placeN_le s.data.toList a)).2
  rw [show skipN s.data.toList (placeN s.data.toList a) = j from hj, ← size_data] at hjl
  have hn : nextI s.data.toList a = (firstL (s.data.toList.drop j)).put j := by
    unfold nextI nextN
    rw [show skipN s.data.toList (placeN s.data.toList a) = j from hj]
  have hhead : ∀ c t, s.data.toList.drop j = c :: t → ¬ kindI (c.toNat : Int) = 0 ∧ ¬ c.toNat = 37 := fun c t h => by
    rw [← hj] at h
    unfold skipI skipN at h
    rw [← List.drop_drop] at h
    exact skip_head _ false c t h
  obtain ⟨r, hr⟩ : ∃ r, (firstL (s.data.toList.drop j)).put j = r := ⟨_, rfl⟩
  rw [hn, hr]
  have HSk := Lib.hid (fun W => rSkip_any s a W (by unfold maxLen; omega) hj)
  clear hj hn
  rcases Nat.lt_or_ge j s.size with hlt | hge
  · have hjz : ((j : Int) == (s.size : Int)) = false := by simp; omega
    have hj0 : (0 : Int) ≤ (j : Int) := by omega
    have hjs : (j : Int) < (s.size : Int) := by omega
    obtain ⟨c, hc⟩ : ∃ c, s[j] = c := ⟨_, rfl⟩
    obtain ⟨t, ht⟩ : ∃ t, s.data.toList.drop (j + 1) = t := ⟨_, rfl⟩
    have hdr : s.data.toList.drop j = c :: t := by rw [drop_byte s j hlt, hc, ht]
    obtain ⟨hk0, h37⟩ := hhead c t hdr
    clear hhead
    rw [hdr] at hr
    obtain ⟨M, hMd⟩ : ∃ M, min s.size (j + 2) = M := ⟨_, rfl⟩
    have hM1 : M ≤ s.size := by omega
    have hmin : min (s.size : Int) ((j : Int) + 2) = (M : Int) := by omega
    have hp6 := two_pre s j M 60 60 (by omega) (by omega)
    have hp7 := two_pre s j M 62 62 (by omega) (by omega)
    rw [hdr] at hp6 hp7
    obtain ⟨x2, hx2⟩ : ∃ x2, s.extract j M = x2 := ⟨_, rfl⟩
    rw [hx2] at hp6 hp7
    have hjM : j ≤ M := by omega
    have hjMi : (j : Int) ≤ (M : Int) := by omega
    have hM1i : (M : Int) ≤ (s.size : Int) := by omega
    clear hMd
    by_cases h91 : c.toNat = 91
    · have hz : (c.toNat : Int) = 91 := by omega
      have hf : firstL (c :: t) = Sg.bare 4 1 := by
        unfold firstL
        simp only
        rw [if_pos h91]
      rw [hf] at hr
      subst hr
      rw [pre_off (show ¬ c = 60 from fun e => absurd (congrArg UInt8.toNat e) (by show ¬ c.toNat = 60; omega))] at hp6
      rw [pre_off (show ¬ c = 62 from fun e => absurd (congrArg UInt8.toNat e) (by show ¬ c.toNat = 62; omega))] at hp7
      clear hf hdr h37 hk0 h91
      go_enter Try.func9, Try.ntmps9
      go_wp2_with fail
      refine (HSk.out _).mono ?_
      rintro e w1 ⟨rfl, rfl⟩
      go_wp2_with (refine TokCell.store rfl rfl _ _ rfl w.heap.size (tokC 0 0 ⟨#[]⟩ 0 0) _ _ _ _ _ rfl rfl (HT0.out) rfl w.heap.size w HW0.out (Nat.le_refl _) ?_; intro w2 HT HB HO; clear HO)
      obtain ⟨k0, k1, k2, k3, k4⟩ := HT.out.parts
      exact bodyPost_ret (v := .tuple #[.agg #[.int .i64 4, .int .i64 0, .string ⟨#[]⟩, .int .i64 (j : Int), .int .i64 ((j : Int) + 1)], .int .i64 0]) (by simp [results, Try.results9, go_sem, k0, k1, k2, k3, k4]) rfl ⟨by rw [Sg.put_ok rfl, show (j : Int) + 1 = ((1 + j : Nat) : Int) by omega]; rfl, HB.out⟩
    · have g91 : ((c.toNat : Int) == 91) = false := by simp; omega
      by_cases h93 : c.toNat = 93
      · have hz : (c.toNat : Int) = 93 := by omega
        have hf : firstL (c :: t) = Sg.bare 5 1 := by
          unfold firstL
          simp only
          rw [if_neg (by omega), if_pos h93]
        rw [hf] at hr
        subst hr
        rw [pre_off (show ¬ c = 60 from fun e => absurd (congrArg UInt8.toNat e) (by show ¬ c.toNat = 60; omega))] at hp6
        rw [pre_off (show ¬ c = 62 from fun e => absurd (congrArg UInt8.toNat e) (by show ¬ c.toNat = 62; omega))] at hp7
        clear hf hdr h37 hk0 h93
        go_enter Try.func9, Try.ntmps9
        go_wp2_with fail
        refine (HSk.out _).mono ?_
        rintro e w1 ⟨rfl, rfl⟩
        go_wp2_with (refine TokCell.store rfl rfl _ _ rfl w.heap.size (tokC 0 0 ⟨#[]⟩ 0 0) _ _ _ _ _ rfl rfl (HT0.out) rfl w.heap.size w HW0.out (Nat.le_refl _) ?_; intro w2 HT HB HO; clear HO)
        obtain ⟨k0, k1, k2, k3, k4⟩ := HT.out.parts
        exact bodyPost_ret (v := .tuple #[.agg #[.int .i64 5, .int .i64 0, .string ⟨#[]⟩, .int .i64 (j : Int), .int .i64 ((j : Int) + 1)], .int .i64 0]) (by simp [results, Try.results9, go_sem, k0, k1, k2, k3, k4]) rfl ⟨by rw [Sg.put_ok rfl, show (j : Int) + 1 = ((1 + j : Nat) : Int) by omega]; rfl, HB.out⟩
      · have g93 : ((c.toNat : Int) == 93) = false := by simp; omega
        by_cases h47 : c.toNat = 47
        · have hz : (c.toNat : Int) = 47 := by omega
          have hf : firstL (c :: t) = nameGo [] 1 t := by
            unfold firstL
            simp only
            rw [if_neg (by omega), if_neg (by omega), if_pos h47]
          rw [hf] at hr
          rw [pre_off (show ¬ c = 60 from fun e => absurd (congrArg UInt8.toNat e) (by show ¬ c.toNat = 60; omega))] at hp6
          rw [pre_off (show ¬ c = 62 from fun e => absurd (congrArg UInt8.toNat e) (by show ¬ c.toNat = 62; omega))] at hp7
          obtain ⟨q, hq⟩ : ∃ q, nameGo [] 1 t = q := ⟨_, rfl⟩
          have hkd : q.code = 0 → q.kind = 2 ∧ q.num = 0 := fun h => by
            rw [← hq] at h ⊢
            exact ⟨((name_good t.length t [] 1 (Nat.le_refl _) (by decide)).2 h).2, name_num t.length t [] 1 (Nat.le_refl _)⟩
          rw [hq] at hr
          rw [← ht] at hq
          have HC : Hid (∀ W, Calls Try.prog 17 #[.string s, .int .i64 ((j : Int) + 1)] W fun e w' => e = .returned (.tuple #[.string (bytes q.str), .int .i64 (if q.code = 0 then ((j + q.fin : Nat) : Int) else 0), .int .i64 q.code]) ∧ Below W.heap.size W w') := Lib.hid (fun W => rName_any s j W (by omega) hlt hq)
          have HS := Lib.hid (fun W => rSign_any 2 j q W hkd)
          rw [hr] at HS
          simp only [told_parts] at HS ⊢
          generalize bytes q.str = qs at HC HS
          generalize (if q.code = 0 then ((j + q.fin : Nat) : Int) else 0) = qe at HC HS
          generalize q.code = qc at HC HS
          clear hf hdr h37 hk0 h47 hkd hr hq
          go_enter Try.func9, Try.ntmps9
          go_wp2_with fail
          refine (HSk.out _).mono ?_
          rintro e w1 ⟨rfl, rfl⟩
          go_wp2_with fail
          refine (HC.out _).mono ?_
          rintro e w3 ⟨rfl, hb⟩
          have HT1 := Lib.hid (HT0.out.later hb (by simp))
          have HW1 := Lib.hid (HW0.out.trans (hb.mono (by simp)))
          clear hb
          go_wp2_with fail
          refine (HS.out _).mono ?_
          rintro e w4 ⟨rfl, hb⟩
          have HT3 := Lib.hid (HT1.out.later hb HT1.out.lt)
          have HW3 := Lib.hid (HW1.out.trans (hb.mono HW1.out.size))
          clear hb
          go_wp2_with (refine TokCell.store rfl rfl _ _ rfl w.heap.size (tokC 0 0 ⟨#[]⟩ 0 0) _ _ _ _ _ rfl rfl (HT3.out) rfl w.heap.size w HW3.out (Nat.le_refl _) ?_; intro w2 HT HB HO; clear HO)
          obtain ⟨k0, k1, k2, k3, k4⟩ := HT.out.parts
          exact bodyPost_ret (v := .tuple #[.agg #[.int .i64 r.kind, .int .i64 r.num, .string (bytes r.str), .int .i64 (r.beg : Int), .int .i64 (r.fin : Int)], .int .i64 r.code]) (by simp [results, Try.results9, go_sem, k0, k1, k2, k3, k4]) rfl ⟨rfl, HB.out⟩
        · have g47 : ((c.toNat : Int) == 47) = false := by simp; omega
          by_cases h40 : c.toNat = 40
          · have hz : (c.toNat : Int) = 40 := by omega
            have hf : firstL (c :: t) = textGo 1 [] 1 t := by
              unfold firstL
              simp only
              rw [if_neg (by omega), if_neg (by omega), if_neg (by omega), if_pos h40]
            rw [hf] at hr
            rw [pre_off (show ¬ c = 60 from fun e => absurd (congrArg UInt8.toNat e) (by show ¬ c.toNat = 60; omega))] at hp6
            rw [pre_off (show ¬ c = 62 from fun e => absurd (congrArg UInt8.toNat e) (by show ¬ c.toNat = 62; omega))] at hp7
            obtain ⟨q, hq⟩ : ∃ q, textGo 1 [] 1 t = q := ⟨_, rfl⟩
            have hkd : q.code = 0 → q.kind = 3 ∧ q.num = 0 := fun h => by
              rw [← hq] at h ⊢
              exact ⟨((text_good t.length t 1 [] 1 (Nat.le_refl _) (by decide)).2 h).2, text_num t.length t 1 [] 1 (Nat.le_refl _)⟩
            rw [hq] at hr
            rw [← ht] at hq
            have HC : Hid (∀ W, Calls Try.prog 19 #[.string s, .int .i64 ((j : Int) + 1)] W fun e w' => e = .returned (.tuple #[.string (bytes q.str), .int .i64 (if q.code = 0 then ((j + q.fin : Nat) : Int) else 0), .int .i64 q.code]) ∧ Below W.heap.size W w') := Lib.hid (fun W => rPlain_any s j W (by omega) hlt hq)
            have HS := Lib.hid (fun W => rSign_any 3 j q W hkd)
            rw [hr] at HS
            simp only [told_parts] at HS ⊢
            generalize bytes q.str = qs at HC HS
            generalize (if q.code = 0 then ((j + q.fin : Nat) : Int) else 0) = qe at HC HS
            generalize q.code = qc at HC HS
            clear hf hdr h37 hk0 h40 hkd hr hq
            go_enter Try.func9, Try.ntmps9
            go_wp2_with fail
            refine (HSk.out _).mono ?_
            rintro e w1 ⟨rfl, rfl⟩
            go_wp2_with fail
            refine (HC.out _).mono ?_
            rintro e w3 ⟨rfl, hb⟩
            have HT1 := Lib.hid (HT0.out.later hb (by simp))
            have HW1 := Lib.hid (HW0.out.trans (hb.mono (by simp)))
            clear hb
            go_wp2_with fail
            refine (HS.out _).mono ?_
            rintro e w4 ⟨rfl, hb⟩
            have HT3 := Lib.hid (HT1.out.later hb HT1.out.lt)
            have HW3 := Lib.hid (HW1.out.trans (hb.mono HW1.out.size))
            clear hb
            go_wp2_with (refine TokCell.store rfl rfl _ _ rfl w.heap.size (tokC 0 0 ⟨#[]⟩ 0 0) _ _ _ _ _ rfl rfl (HT3.out) rfl w.heap.size w HW3.out (Nat.le_refl _) ?_; intro w2 HT HB HO; clear HO)
            obtain ⟨k0, k1, k2, k3, k4⟩ := HT.out.parts
            exact bodyPost_ret (v := .tuple #[.agg #[.int .i64 r.kind, .int .i64 r.num, .string (bytes r.str), .int .i64 (r.beg : Int), .int .i64 (r.fin : Int)], .int .i64 r.code]) (by simp [results, Try.results9, go_sem, k0, k1, k2, k3, k4]) rfl ⟨rfl, HB.out⟩
          · have g40 : ((c.toNat : Int) == 40) = false := by simp; omega
            by_cases h60 : c.toNat = 60
            · have hz : (c.toNat : Int) = 60 := by omega
              cases hp : preB (c :: t) [60, 60] with
              | true =>
                have hf : firstL (c :: t) = Sg.bare 6 2 := by
                  unfold firstL
                  simp only
                  rw [if_neg (by omega), if_neg (by omega), if_neg (by omega), if_neg (by omega), if_pos h60, if_pos hp]
                rw [hf] at hr
                subst hr
                rw [hp] at hp6
                rw [pre_off (show ¬ c = 62 from fun e => absurd (congrArg UInt8.toNat e) (by show ¬ c.toNat = 62; omega))] at hp7
                clear hf hdr h37 hk0 h60 hp
                go_enter Try.func9, Try.ntmps9
                go_wp2_with fail
                refine (HSk.out _).mono ?_
                rintro e w1 ⟨rfl, rfl⟩
                go_wp2_with (refine TokCell.store rfl rfl _ _ rfl w.heap.size (tokC 0 0 ⟨#[]⟩ 0 0) _ _ _ _ _ rfl rfl (HT0.out) rfl w.heap.size w HW0.out (Nat.le_refl _) ?_; intro w2 HT HB HO; clear HO)
                obtain ⟨k0, k1, k2, k3, k4⟩ := HT.out.parts
                exact bodyPost_ret (v := .tuple #[.agg #[.int .i64 6, .int .i64 0, .string ⟨#[]⟩, .int .i64 (j : Int), .int .i64 ((j : Int) + 2)], .int .i64 0]) (by simp [results, Try.results9, go_sem, k0, k1, k2, k3, k4]) rfl ⟨by rw [Sg.put_ok rfl, show (j : Int) + 2 = ((2 + j : Nat) : Int) by omega]; rfl, HB.out⟩
              | false =>
                have hf : firstL (c :: t) = hexGo [] 1 t := by
                  unfold firstL
                  simp only
                  rw [if_neg (by omega), if_neg (by omega), if_neg (by omega), if_neg (by omega), if_pos h60, if_neg (by rw [hp]; decide)]
                rw [hf] at hr
                rw [hp] at hp6
                rw [pre_off (show ¬ c = 62 from fun e => absurd (congrArg UInt8.toNat e) (by show ¬ c.toNat = 62; omega))] at hp7
                obtain ⟨q, hq⟩ : ∃ q, hexGo [] 1 t = q := ⟨_, rfl⟩
                have hkd : q.code = 0 → q.kind = 3 ∧ q.num = 0 := fun h => by
                  rw [← hq] at h ⊢
                  exact ⟨((hex_good t [] 1 (by decide)).2 h).2, hex_num t [] 1⟩
                rw [hq] at hr
                rw [← ht] at hq
                have HC : Hid (∀ W, Calls Try.prog 20 #[.string s, .int .i64 ((j : Int) + 1)] W fun e w' => e = .returned (.tuple #[.string (bytes q.str), .int .i64 (if q.code = 0 then ((j + q.fin : Nat) : Int) else 0), .int .i64 q.code]) ∧ Below W.heap.size W w') := Lib.hid (fun W => rHexText_any s j W (by omega) hlt hq)
                have HS := Lib.hid (fun W => rSign_any 3 j q W hkd)
                rw [hr] at HS
                simp only [told_parts] at HS ⊢
                generalize bytes q.str = qs at HC HS
                generalize (if q.code = 0 then ((j + q.fin : Nat) : Int) else 0) = qe at HC HS
                generalize q.code = qc at HC HS
                clear hf hdr h37 hk0 h60 hkd hr hq hp
                go_enter Try.func9, Try.ntmps9
                go_wp2_with fail
                refine (HSk.out _).mono ?_
                rintro e w1 ⟨rfl, rfl⟩
                go_wp2_with fail
                refine (HC.out _).mono ?_
                rintro e w3 ⟨rfl, hb⟩
                have HT1 := Lib.hid (HT0.out.later hb (by simp))
                have HW1 := Lib.hid (HW0.out.trans (hb.mono (by simp)))
                clear hb
                go_wp2_with fail
                refine (HS.out _).mono ?_
                rintro e w4 ⟨rfl, hb⟩
                have HT3 := Lib.hid (HT1.out.later hb HT1.out.lt)
                have HW3 := Lib.hid (HW1.out.trans (hb.mono HW1.out.size))
                clear hb
                go_wp2_with (refine TokCell.store rfl rfl _ _ rfl w.heap.size (tokC 0 0 ⟨#[]⟩ 0 0) _ _ _ _ _ rfl rfl (HT3.out) rfl w.heap.size w HW3.out (Nat.le_refl _) ?_; intro w2 HT HB HO; clear HO)
                obtain ⟨k0, k1, k2, k3, k4⟩ := HT.out.parts
                exact bodyPost_ret (v := .tuple #[.agg #[.int .i64 r.kind, .int .i64 r.num, .string (bytes r.str), .int .i64 (r.beg : Int), .int .i64 (r.fin : Int)], .int .i64 r.code]) (by simp [results, Try.results9, go_sem, k0, k1, k2, k3, k4]) rfl ⟨rfl, HB.out⟩
            · have g60 : ((c.toNat : Int) == 60) = false := by simp; omega
              have hn6 := pre_off (t := t) (show ¬ c = 60 from fun e => absurd (congrArg UInt8.toNat e) (by show ¬ c.toNat = 60; omega))
              rw [hn6] at hp6
              cases hp : preB (c :: t) [62, 62] with
              | true =>
                have h62 : c.toNat = 62 := by
                  have := (List.cons_prefix_cons.1 (of_decide_eq_true hp)).1
                  rw [← this]; rfl
                have hf : firstL (c :: t) = Sg.bare 7 2 := by
                  unfold firstL
                  simp only
                  rw [if_neg (by omega), if_neg (by omega), if_neg (by omega), if_neg (by omega), if_neg (by omega), if_pos h62, if_pos hp]
                rw [hf] at hr
                subst hr
                rw [hp] at hp7
                have hz : (c.toNat : Int) = 62 := by omega
                clear hf hdr h37 hk0 h62 hp g91 g93 g47 g40 g60
                go_enter Try.func9, Try.ntmps9
                go_wp2_with fail
                refine (HSk.out _).mono ?_
                rintro e w1 ⟨rfl, rfl⟩
                go_wp2_with (refine TokCell.store rfl rfl _ _ rfl w.heap.size (tokC 0 0 ⟨#[]⟩ 0 0) _ _ _ _ _ rfl rfl (HT0.out) rfl w.heap.size w HW0.out (Nat.le_refl _) ?_; intro w2 HT HB HO; clear HO)
                obtain ⟨k0, k1, k2, k3, k4⟩ := HT.out.parts
                exact bodyPost_ret (v := .tuple #[.agg #[.int .i64 7, .int .i64 0, .string ⟨#[]⟩, .int .i64 (j : Int), .int .i64 ((j : Int) + 2)], .int .i64 0]) (by simp [results, Try.results9, go_sem, k0, k1, k2, k3, k4]) rfl ⟨by rw [Sg.put_ok rfl, show (j : Int) + 2 = ((2 + j : Nat) : Int) by omega]; rfl, HB.out⟩
              | false =>
                rw [hp] at hp7
                by_cases hq : c.toNat = 41 ∨ c.toNat = 123 ∨ c.toNat = 125 ∨ c.toNat = 62
                · have hf : firstL (c :: t) = Sg.err 4 := by
                    unfold firstL
                    simp only
                    rw [if_neg (by omega), if_neg (by omega), if_neg (by omega), if_neg (by omega), if_neg (by omega)]
                    by_cases h62 : c.toNat = 62
                    · rw [if_pos h62, if_neg (by rw [hp]; decide)]
                    · rw [if_neg h62, if_pos (by omega)]
                  rw [hf] at hr
                  subst hr
                  have HK := Lib.hid (fun W => rKind_is c (kind_delims hq) W)
                  clear hf hdr h37 hk0 hq hp
                  go_enter Try.func9, Try.ntmps9
                  go_wp2_with fail
                  refine (HSk.out _).mono ?_
                  rintro e w1 ⟨rfl, rfl⟩
                  go_wp2_with fail
                  refine (HK.out _).mono ?_
                  rintro e w3 ⟨rfl, rfl⟩
                  go_wp2_with (refine TokCell.store rfl rfl _ _ rfl w.heap.size (tokC 0 0 ⟨#[]⟩ 0 0) _ _ _ _ _ rfl rfl (HT0.out) rfl w.heap.size w HW0.out (Nat.le_refl _) ?_; intro w2 HT HB HO; clear HO)
                  obtain ⟨k0, k1, k2, k3, k4⟩ := HT.out.parts
                  exact bodyPost_ret (v := .tuple #[.agg #[.int .i64 0, .int .i64 0, .string ⟨#[]⟩, .int .i64 0, .int .i64 0], .int .i64 4]) (by simp [results, Try.results9, go_sem, k0, k1, k2, k3, k4]) rfl ⟨rfl, HB.out⟩
                · have hkd : kindI (c.toNat : Int) = 2 := kind_regs hk0 (by omega)
                  have hf : firstL (c :: t) = wordL (c :: t) := by
                    unfold firstL
                    simp only
                    rw [if_neg (by omega), if_neg (by omega), if_neg (by omega), if_neg (by omega), if_neg (by omega), if_neg (by omega), if_neg (by omega)]
                  rw [hf, ← hdr] at hr
                  have HK := Lib.hid (fun W => rKind_is c hkd W)
                  have HC := Lib.hid (fun W => rWord_any s j W (by omega) (by omega))
                  rw [hr] at HC
                  simp only [told_parts] at HC ⊢
                  clear hf hdr h37 hk0 hq hp hkd hr
                  go_enter Try.func9, Try.ntmps9
                  go_wp2_with fail
                  refine (HSk.out _).mono ?_
                  rintro e w1 ⟨rfl, rfl⟩
                  go_wp2_with fail
                  refine (HK.out _).mono ?_
                  rintro e w3 ⟨rfl, rfl⟩
                  go_wp2_with fail
                  refine (HC.out _).mono ?_
                  rintro e w3 ⟨rfl, hb⟩
                  have HT1 := Lib.hid (HT0.out.later hb (by simp))
                  have HW1 := Lib.hid (HW0.out.trans (hb.mono (by simp)))
                  clear hb
                  go_wp2_with (refine TokCell.store rfl rfl _ _ rfl w.heap.size (tokC 0 0 ⟨#[]⟩ 0 0) _ _ _ _ _ rfl rfl (HT1.out) rfl w.heap.size w HW1.out (Nat.le_refl _) ?_; intro w2 HT HB HO; clear HO)
                  obtain ⟨k0, k1, k2, k3, k4⟩ := HT.out.parts
                  exact bodyPost_ret (v := .tuple #[.agg #[.int .i64 r.kind, .int .i64 r.num, .string (bytes r.str), .int .i64 (r.beg : Int), .int .i64 (r.fin : Int)], .int .i64 r.code]) (by simp [results, Try.results9, go_sem, k0, k1, k2, k3, k4]) rfl ⟨rfl, HB.out⟩
  · obtain rfl : j = s.size := by omega
    rw [drop_end s _ (Nat.le_refl _)] at hr
    subst hr
    clear hhead
    go_enter Try.func9, Try.ntmps9
    go_wp2_with fail
    refine (HSk.out _).mono ?_
    rintro e w1 ⟨rfl, rfl⟩
    go_wp2_with (refine TokCell.store rfl rfl _ _ rfl w.heap.size (tokC 0 0 ⟨#[]⟩ 0 0) _ _ _ _ _ rfl rfl (HT0.out) rfl w.heap.size w HW0.out (Nat.le_refl _) ?_; intro w2 HT HB HO; clear HO)
    obtain ⟨k0, k1, k2, k3, k4⟩ := HT.out.parts
    exact bodyPost_ret (v := .tuple #[.agg #[.int .i64 0, .int .i64 0, .string ⟨#[]⟩, .int .i64 (s.size : Int), .int .i64 (s.size : Int)], .int .i64 0]) (by simp [results, Try.results9, go_sem, k0, k1, k2, k3, k4]) rfl ⟨by rw [show (firstL []).put s.size = ⟨0, 0, [], s.size, 0 + s.size, 0⟩ from rfl, Nat.zero_add]; rfl, HB.out⟩
end Go.Proofs.Ytnjmapgmodoodaa
