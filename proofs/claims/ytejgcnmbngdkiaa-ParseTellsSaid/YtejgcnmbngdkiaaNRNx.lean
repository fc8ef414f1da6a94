/-
  TkRHex, TkRNext: texts merged.
-/
import Derived.Test.YtejgcnmbngdkiaaNHex
import Derived.Test.YtejgcnmbngdkiaaTkRName
import Derived.Test.YtejgcnmbngdkiaaTkRWord
import Derived.Test.YtejgcnmbngdkiaaTkRPlain
/-
  The document's hex: a text of digits.
-/
namespace Go.Proofs.Ytejgcnmbngdkiaa
section
open Go.RowKit
set_option maxRecDepth 100000

set_option maxHeartbeats 4000000 in
theorem rHexText_any (s : ByteArray) (k : Nat) (w : World) (hs : s.size ≤ 1000000000) (hk : k < s.size) {r : Sg} (hr : hexGo [] 1 (s.data.toList.drop (k + 1)) = r) :
    Calls Try.prog 34 #[.string s, .int .i64 ((k + 1 : Nat) : Int)] w fun e w' => e = .returned (r.trip k) ∧ Below w.heap.size w w' := by
  have Hr := Lib.hid hr
  clear hr
  go_enter Try.func34, Try.ntmps34
  go_wp2_with fail
  go_loopg [1, 7, 8] (s.size - (k + 1)) (fun g v1 v7 v8 wx => ∃ (p n : Nat) (q : List Nat), p + g = s.size ∧ k + n = p ∧ q.length ≤ n ∧ q.length % 2 = 0 ∧ q.length / 2 ≤ 65535 ∧ v1 = .int .i64 p ∧ Aside (Own8 wx w.heap.size v7 (pairsH q)) ∧ Aside (Below w.heap.size w wx) ∧
    ((v8 = .int .i64 (-1) ∧ Aside (hexGo q n (s.data.toList.drop p) = r)) ∨ ∃ a : Nat, a < 16 ∧ q.length + 1 ≤ n ∧ v8 = .int .i64 a ∧ Aside (hexGo (q ++ [a]) n (s.data.toList.drop p) = r)))
  case atStart => exact ⟨k + 1, 1, [], by omega, rfl, by decide, rfl, by decide, rfl, Own8.made w 0 #[] (Nat.le_refl _) (by unfold maxLen; omega) rfl, (Below.refl _ w).alloc (Nat.le_refl _) _, .inl ⟨rfl, Hr.out⟩⟩
  case round =>
    obtain ⟨p, n, q, hp, hkn, hqn, hq2, hql, rfl, HO, HB, hcase⟩ := hrel
    clear Hr
    obtain ⟨gg, capg, hv7⟩ := HO.out.2
    subst hv7
    have hpl := pairsH_even q hq2
    have hpl6 : (pairsH q).length ≤ 65535 := by omega
    have hpl7 : (pairsH q).length ≤ 1000000 := by omega
    cases gk with
    | zero =>
      obtain rfl : p = s.size := by omega
      have hz : ¬ ((s.size : Int) < (s.size : Int)) := by omega
      have hr5 : Sg.err 5 = r := by
        rcases hcase with ⟨_, h⟩ | ⟨a, _, _, _, h⟩
        · have h := h.out
          rw [drop_end s _ (Nat.le_refl _)] at h
          exact h
        · have h := h.out
          rw [drop_end s _ (Nat.le_refl _)] at h
          exact h
      subst hr5
      clear hcase
      go_wp2_with fail
      exact bodyPost_ret (v := .tuple #[.string ⟨#[]⟩, .int .i64 0, .int .i64 5]) (by simp [results, Try.results34, go_sem]) rfl ⟨rfl, HB.out⟩
    | succ g =>
      have hlt : p < s.size := by omega
      have hz : (p : Int) < (s.size : Int) := by omega
      have hp0 : (0 : Int) ≤ (p : Int) := by omega
      have hlz : ¬ (65535 : Int) < ((pairsH q).length : Int) := by omega
      obtain ⟨c, hc⟩ : ∃ c, s[p] = c := ⟨_, rfl⟩
      have hx := hexI_range c
      have hdr := drop_byte s p hlt
      rw [hc] at hdr
      rw [hdr] at hcase
      obtain ⟨x, hxx⟩ : ∃ x, hexI (c.toNat : Int) = x := ⟨_, rfl⟩
      have HX := Lib.hid (fun W => rHex_is c hxx W)
      obtain ⟨y, hy⟩ : ∃ y, kindI (c.toNat : Int) = y := ⟨_, rfl⟩
      have HK := Lib.hid (fun W => rKind_is c hy W)
      have Hpl := Lib.hid hpl
      clear hpl hdr
      rcases hcase with ⟨rfl, h⟩ | ⟨a, ha, hqn1, rfl, h⟩
      · have h := h.out
        by_cases hend : c.toNat = 62
        · rw [hex_end hend, if_neg (by omega)] at h
          subst h
          have hcz : (c.toNat : Int) = 62 := by omega
          rw [hcz] at HX
          have htext := Own8.text HO.out
          clear hend hx hxx hy
          go_wp2_with fail
          refine (HX.out _).mono ?_
          rintro e w1 ⟨rfl, rfl⟩
          go_wp2_with fail
          exact bodyPost_ret (v := .tuple #[.string (bytes (pairsH q)), .int .i64 ((p : Int) + 1), .int .i64 0]) (by simp [results, Try.results34, go_sem]) rfl ⟨by rw [trip_ok (show k + (n + 1) = p + 1 by omega)]; rfl, HB.out⟩
        · have hcz : ((c.toNat : Int) == 62) = false := by simp; omega
          by_cases hh : 0 ≤ hexI (c.toNat : Int)
          · rw [hex_put hend hh, if_neg (by omega), hxx] at h
            obtain ⟨d, hd⟩ : ∃ d : Nat, x = (d : Int) := ⟨x.toNat, by omega⟩
            have hd16 : d < 16 := by omega
            subst hd
            rw [Int.toNat_natCast] at h
            have Hnext := Lib.hid h
            have hdn : ¬ (d : Int) < 0 := by omega
            have hdn' : decide ((d : Int) < 0) = false := decide_eq_false hdn
            have hdp : (0 : Int) ≤ (d : Int) := by omega
            have hdp' : decide ((0 : Int) ≤ (d : Int)) = true := decide_eq_true hdp
            clear h hend hx hxx hy hh
            go_wp2_with fail
            refine (HX.out _).mono ?_
            rintro e w1 ⟨rfl, rfl⟩
            go_wp2_with fail
            go_roundg g
            case measure => omega
            case rel => exact ⟨p + 1, n + 1, q, by omega, by omega, by omega, hq2, hql, by go_num, HO.out, HB.out, .inr ⟨d, hd16, by omega, rfl, Hnext.out⟩⟩
          · have hm1 : x = -1 := by omega
            subst hm1
            by_cases hw : kindI (c.toNat : Int) = 0
            · rw [hex_white hw] at h
              have Hnext := Lib.hid h
              obtain rfl : y = 0 := by omega
              clear h hend hx hxx hy hh hw
              go_wp2_with fail
              refine (HX.out _).mono ?_
              rintro e w1 ⟨rfl, rfl⟩
              go_wp2_with fail
              refine (HK.out _).mono ?_
              rintro e w1 ⟨rfl, rfl⟩
              go_wp2_with fail
              go_roundg g
              case measure => omega
              case rel => exact ⟨p + 1, n + 1, q, by omega, by omega, by omega, hq2, hql, by go_num, HO.out, HB.out, .inl ⟨rfl, Hnext.out⟩⟩
            · rw [hex_bad hend hh hw] at h
              subst h
              have hyz : (y != 0) = true := by rw [← hy]; simpa using hw
              clear hend hx hxx hy hh hw
              go_wp2_with fail
              refine (HX.out _).mono ?_
              rintro e w1 ⟨rfl, rfl⟩
              go_wp2_with fail
              refine (HK.out _).mono ?_
              rintro e w1 ⟨rfl, rfl⟩
              go_wp2_with fail
              exact bodyPost_ret (v := .tuple #[.string ⟨#[]⟩, .int .i64 0, .int .i64 4]) (by simp [results, Try.results34, go_sem]) rfl ⟨rfl, HB.out⟩
      · have h := h.out
        have hlen1 : ((q ++ [a]).length + 1) / 2 = (pairsH q).length + 1 := by rw [Hpl.out, List.length_append, List.length_singleton]; omega
        have han : ¬ (a : Int) < 0 := by omega
        have han' : decide ((a : Int) < 0) = false := decide_eq_false han
        by_cases hend : c.toNat = 62
        · rw [hex_end hend, hlen1] at h
          have hcz : (c.toNat : Int) = 62 := by omega
          rw [hcz] at HX
          obtain ⟨z, hzb⟩ : ∃ z : UInt8, UInt8.ofNat (16 * a + 0) = z := ⟨_, rfl⟩
          have hzn : (16 : Int) * (a : Int) = (z.toNat : Int) := by rw [← hzb, UInt8.toNat_ofNat']; omega
          have hpq : pairsH (q ++ [a]) = pairsH q ++ [z] := by
            rw [← pairsH_pad (q ++ [a]) (by rw [List.length_append, List.length_singleton]; omega), pairsH_snoc2 q a 0 hq2, hzb]
          rw [hpq] at h
          clear hend hx hxx hy hzb hpq
          by_cases hlong : 65535 < (pairsH q).length + 1
          · rw [if_pos hlong] at h
            subst h
            have hlo : (65535 : Int) < ((pairsH q).length : Int) + 1 := by omega
            clear hlong hpl6 hlz hql
            go_wp2_with fail
            refine (HX.out _).mono ?_
            rintro e w1 ⟨rfl, rfl⟩
            go_wp2_with (at_builtin; refine wpList_append8 rfl (.tmp 50) (.tmp 56) rfl w.heap.size _ (pairsH q) rfl (HO.out.alloc _) ⟨wr.heap.size, 0, none⟩ 1 [z] rfl (cells_new1 _ z _ rfl) (by simp) (by simp; omega) w (HB.out.alloc HB.out.size _) (by have := HB.out.size; simp; omega) ?_; intro v2 w2 Ho2 Hb2 hf2; obtain ⟨g2, cap2, rfl⟩ := hf2)
            exact bodyPost_ret (v := .tuple #[.string ⟨#[]⟩, .int .i64 0, .int .i64 8]) (by simp [results, Try.results34, go_sem]) rfl ⟨rfl, Hb2.out⟩
          · rw [if_neg hlong] at h
            subst h
            have hlo : decide ((65535 : Int) < ((pairsH q).length : Int) + 1) = false := decide_eq_false (by omega)
            have hlo2 : decide ((65535 : Int) ≤ ((pairsH q).length : Int)) = false := decide_eq_false (by omega)
            have hlo3 : decide (65535 ≤ (pairsH q).length) = false := decide_eq_false (by omega)
            have Hlo := Lib.hid hlong
            clear hlong hpl6 hlz hql
            go_wp2_with fail
            refine (HX.out _).mono ?_
            rintro e w1 ⟨rfl, rfl⟩
            go_wp2_with (at_builtin; refine wpList_append8 rfl (.tmp 50) (.tmp 56) rfl w.heap.size _ (pairsH q) rfl (HO.out.alloc _) ⟨wr.heap.size, 0, none⟩ 1 [z] rfl (cells_new1 _ z _ rfl) (by simp) (by simp; omega) w (HB.out.alloc HB.out.size _) (by have := HB.out.size; simp; omega) ?_; intro v2 w2 Ho2 Hb2 hf2; obtain ⟨g2, cap2, rfl⟩ := hf2; have htext : (convert 80 9 (.slice (some ⟨g2, 0, none⟩) ((pairsH q).length + 1) cap2)).run Try.prog w2 = .ok (.string (bytes (pairsH q ++ [z]))) w2 := Own8.text Ho2.out)
            exact bodyPost_ret (v := .tuple #[.string (bytes (pairsH q ++ [z])), .int .i64 ((p : Int) + 1), .int .i64 0]) (by simp [results, Try.results34, go_sem]) rfl ⟨by rw [trip_ok (show k + (n + 1) = p + 1 by omega)]; rfl, Hb2.out⟩
        · have hcz : ((c.toNat : Int) == 62) = false := by simp; omega
          by_cases hh : 0 ≤ hexI (c.toNat : Int)
          · rw [hex_put hend hh, hlen1, hxx] at h
            obtain ⟨d, hd⟩ : ∃ d : Nat, x = (d : Int) := ⟨x.toNat, by omega⟩
            have hd16 : d < 16 := by omega
            subst hd
            rw [Int.toNat_natCast] at h
            have hdn : ¬ (d : Int) < 0 := by omega
            have hdn' : decide ((d : Int) < 0) = false := decide_eq_false hdn
            have hdp : (0 : Int) ≤ (d : Int) := by omega
            have hdp' : decide ((0 : Int) ≤ (d : Int)) = true := decide_eq_true hdp
            obtain ⟨z, hzb⟩ : ∃ z : UInt8, UInt8.ofNat (16 * a + d) = z := ⟨_, rfl⟩
            have hzn : (16 : Int) * (a : Int) + (d : Int) = (z.toNat : Int) := by rw [← hzb, UInt8.toNat_ofNat']; omega
            have Hpq : Hid (pairsH (q ++ [a] ++ [d]) = pairsH q ++ [z]) := Lib.hid (by rw [pairsH_snoc2 q a d hq2, hzb])
            by_cases hlong : 65535 < (pairsH q).length + 1
            · rw [if_pos hlong] at h
              subst h
              have hlo : (65535 : Int) < ((pairsH q).length : Int) + 1 := by omega
              clear hlong hpl6 hlz hql hend hx hxx hy hh hzb
              go_wp2_with fail
              refine (HX.out _).mono ?_
              rintro e w1 ⟨rfl, rfl⟩
              go_wp2_with (at_builtin; refine wpList_append8 rfl (.tmp 50) (.tmp 56) rfl w.heap.size _ (pairsH q) rfl (HO.out.alloc _) ⟨wr.heap.size, 0, none⟩ 1 [z] rfl (cells_new1 _ z _ rfl) (by simp) (by simp; omega) w (HB.out.alloc HB.out.size _) (by have := HB.out.size; simp; omega) ?_; intro v2 w2 Ho2 Hb2 hf2; obtain ⟨g2, cap2, rfl⟩ := hf2)
              exact bodyPost_ret (v := .tuple #[.string ⟨#[]⟩, .int .i64 0, .int .i64 8]) (by simp [results, Try.results34, go_sem]) rfl ⟨rfl, Hb2.out⟩
            · rw [if_neg hlong] at h
              have Hnext := Lib.hid h
              have hlo : decide ((65535 : Int) < ((pairsH q).length : Int) + 1) = false := decide_eq_false (by omega)
              have hlo2 : decide ((65535 : Int) ≤ ((pairsH q).length : Int)) = false := decide_eq_false (by omega)
              have hlo3 : decide (65535 ≤ (pairsH q).length) = false := decide_eq_false (by omega)
              have Hlo := Lib.hid hlong
              clear hlong hpl6 hlz hql h hend hx hxx hy hh hzb
              go_wp2_with fail
              refine (HX.out _).mono ?_
              rintro e w1 ⟨rfl, rfl⟩
              go_wp2_with (at_builtin; refine wpList_append8 rfl (.tmp 50) (.tmp 56) rfl w.heap.size _ (pairsH q) rfl (HO.out.alloc _) ⟨wr.heap.size, 0, none⟩ 1 [z] rfl (cells_new1 _ z _ rfl) (by simp) (by simp; omega) w (HB.out.alloc HB.out.size _) (by have := HB.out.size; simp; omega) ?_; intro v2 w2 Ho2 Hb2 hf2; obtain ⟨g2, cap2, rfl⟩ := hf2)
              go_roundg g
              case measure => omega
              case rel => exact ⟨p + 1, n + 1, q ++ [a] ++ [d], by omega, by omega, by simp; omega, by simp; omega, by have := Hpl.out; have := Hlo.out; simp; omega, by go_num, by rw [Hpq.out]; exact Ho2.out, Hb2.out, .inl ⟨rfl, Hnext.out⟩⟩
          · have hm1 : x = -1 := by omega
            subst hm1
            by_cases hw : kindI (c.toNat : Int) = 0
            · rw [hex_white hw] at h
              have Hnext := Lib.hid h
              obtain rfl : y = 0 := by omega
              clear h hend hx hxx hy hh hw
              go_wp2_with fail
              refine (HX.out _).mono ?_
              rintro e w1 ⟨rfl, rfl⟩
              go_wp2_with fail
              refine (HK.out _).mono ?_
              rintro e w1 ⟨rfl, rfl⟩
              go_wp2_with fail
              go_roundg g
              case measure => omega
              case rel => exact ⟨p + 1, n + 1, q, by omega, by omega, by omega, hq2, hql, by go_num, HO.out, HB.out, .inr ⟨a, ha, by omega, rfl, Hnext.out⟩⟩
            · rw [hex_bad hend hh hw] at h
              subst h
              have hyz : (y != 0) = true := by rw [← hy]; simpa using hw
              clear hend hx hxx hy hh hw
              go_wp2_with fail
              refine (HX.out _).mono ?_
              rintro e w1 ⟨rfl, rfl⟩
              go_wp2_with fail
              refine (HK.out _).mono ?_
              rintro e w1 ⟨rfl, rfl⟩
              go_wp2_with fail
              exact bodyPost_ret (v := .tuple #[.string ⟨#[]⟩, .int .i64 0, .int .i64 4]) (by simp [results, Try.results34, go_sem]) rfl ⟨rfl, HB.out⟩
end
end Go.Proofs.Ytejgcnmbngdkiaa
/-
  The document's Next.
-/
namespace Go.Proofs.Ytejgcnmbngdkiaa
section
open Go.RowKit
set_option maxRecDepth 100000

/-- A sign that a call hands back, in its parts. -/
theorem told_parts (r : Sg) : r.told = .tuple #[.agg (tokC r.kind r.num (bytes r.str) (r.beg : Int) (r.fin : Int)), .int .i64 r.code] := rfl
theorem two_pre (s : ByteArray) (j M : Nat) (a b : UInt8) (hj : j + 2 ≤ M ∨ M = s.size) (h2 : M ≤ j + 2) : ((s.extract j M).toList == [a, b]) = preB (s.data.toList.drop j) [a, b] := by
  rw [Lib.toList_data, Lib.extract_data, Bool.eq_iff_iff, beq_iff_eq]
  unfold preB
  rw [decide_eq_true_eq, List.prefix_iff_eq_take]
  have hl : (s.data.toList.drop j).length = s.size - j := by rw [List.length_drop, ← size_data]
  have e : (s.data.toList.drop j).take (M - j) = (s.data.toList.drop j).take 2 := by
    rcases hj with h' | h'
    · rw [show M - j = 2 by omega]
    · rw [List.take_of_length_le (by omega), List.take_of_length_le (by omega)]
  rw [e]
  exact eq_comm
theorem pre_off {c q : UInt8} {t : List UInt8} (h : ¬ c = q) : preB (c :: t) [q, q] = false := by
  refine decide_eq_false (fun hp => h ?_)
  exact (List.cons_prefix_cons.1 hp).1.symm
theorem kind_delims {c : UInt8} (h : c.toNat = 41 ∨ c.toNat = 123 ∨ c.toNat = 125 ∨ c.toNat = 62) : kindI (c.toNat : Int) = 1 := by
  unfold kindI; rw [if_neg (by omega), if_pos (by omega)]

set_option maxHeartbeats 8000000 in
theorem rNext_any (s : ByteArray) (a : Int) (w : World) (hs : s.size ≤ 100000000) :
    Calls Try.prog 16 #[.string s, .int .i64 a] w fun e w' => e = .returned (nextI s.data.toList a).told ∧ Below w.heap.size w w' := by
  have HW0 := Lib.hid ((Below.refl _ w).alloc (Nat.le_refl _) (.cells (tokC 0 0 ⟨#[]⟩ 0 0) 49))
  have HT0 := Lib.hid (TokCell.new w (tokC 0 0 ⟨#[]⟩ 0 0))
  unfold tokC at HW0 HT0
  obtain ⟨j, hj⟩ : ∃ j, skipI s.data.toList a = j := ⟨_, rfl⟩
  have hjl := (skipN_le (placeN_le s.data.toList a)).2
  rw [show skipN s.data.toList (placeN s.data.toList a) = j from hj, ← size_data] at hjl
  have hn : nextI s.data.toList a = (firstL (s.data.toList.drop j)).put j := by
    unfold nextI nextN
    rw [show skipN s.data.toList (placeN s.data.toList a) = j from hj]
  have hhead : ∀ c t, s.data.toList.drop j = c :: t → ¬ kindI (c.toNat : Int) = 0 ∧ ¬ c.toNat = 37 := fun c t h => by
    rw [← hj] at h
    unfold skipI skipN at h
    rw [← List.drop_drop] at h
    exact skip_head _ false c t h
  obtain ⟨r, hr⟩ : ∃ r, (firstL (s.data.toList.drop j)).put j = r := ⟨_, rfl⟩
  rw [hn, hr]
  have HSk := Lib.hid (fun W => rSkip_any s a W (by unfold maxLen; omega) hj)
  clear hj hn
  rcases Nat.lt_or_ge j s.size with hlt | hge
  · have hjz : ((j : Int) == (s.size : Int)) = false := by simp; omega
    have hj0 : (0 : Int) ≤ (j : Int) := by omega
    have hjs : (j : Int) < (s.size : Int) := by omega
    obtain ⟨c, hc⟩ : ∃ c, s[j] = c := ⟨_, rfl⟩
    obtain ⟨t, ht⟩ : ∃ t, s.data.toList.drop (j + 1) = t := ⟨_, rfl⟩
    have hdr : s.data.toList.drop j = c :: t := by rw [drop_byte s j hlt, hc, ht]
    obtain ⟨hk0, h37⟩ := hhead c t hdr
    clear hhead
    rw [hdr] at hr
    obtain ⟨M, hMd⟩ : ∃ M, min s.size (j + 2) = M := ⟨_, rfl⟩
    have hM1 : M ≤ s.size := by omega
    have hmin : min (s.size : Int) ((j : Int) + 2) = (M : Int) := by omega
    have hp6 := two_pre s j M 60 60 (by omega) (by omega)
    have hp7 := two_pre s j M 62 62 (by omega) (by omega)
    rw [hdr] at hp6 hp7
    obtain ⟨x2, hx2⟩ : ∃ x2, s.extract j M = x2 := ⟨_, rfl⟩
    rw [hx2] at hp6 hp7
    have hjM : j ≤ M := by omega
    have hjMi : (j : Int) ≤ (M : Int) := by omega
    have hM1i : (M : Int) ≤ (s.size : Int) := by omega
    clear hMd
    by_cases h91 : c.toNat = 91
    · have hz : (c.toNat : Int) = 91 := by omega
      have hf : firstL (c :: t) = Sg.bare 4 1 := by
        unfold firstL
        simp only
        rw [if_pos h91]
      rw [hf] at hr
      subst hr
      rw [pre_off (show ¬ c = 60 from fun e => absurd (congrArg UInt8.toNat e) (by show ¬ c.toNat = 60; omega))] at hp6
      rw [pre_off (show ¬ c = 62 from fun e => absurd (congrArg UInt8.toNat e) (by show ¬ c.toNat = 62; omega))] at hp7
      clear hf hdr h37 hk0 h91
      go_enter Try.func16, Try.ntmps16
      go_wp2_with fail
      refine (HSk.out _).mono ?_
      rintro e w1 ⟨rfl, rfl⟩
      go_wp2_with (refine TokCell.store rfl rfl _ _ rfl w.heap.size (tokC 0 0 ⟨#[]⟩ 0 0) _ _ _ _ _ rfl rfl (HT0.out) rfl w.heap.size w HW0.out (Nat.le_refl _) ?_; intro w2 HT HB HO; clear HO)
      obtain ⟨k0, k1, k2, k3, k4⟩ := HT.out.parts
      exact bodyPost_ret (v := .tuple #[.agg #[.int .i64 4, .int .i64 0, .string ⟨#[]⟩, .int .i64 (j : Int), .int .i64 ((j : Int) + 1)], .int .i64 0]) (by simp [results, Try.results16, go_sem, k0, k1, k2, k3, k4]) rfl ⟨by rw [Sg.put_ok rfl, show (j : Int) + 1 = ((1 + j : Nat) : Int) by omega]; rfl, HB.out⟩
    · have g91 : ((c.toNat : Int) == 91) = false := by simp; omega
      by_cases h93 : c.toNat = 93
      · have hz : (c.toNat : Int) = 93 := by omega
        have hf : firstL (c :: t) = Sg.bare 5 1 := by
          unfold firstL
          simp only
          rw [if_neg (by omega), if_pos h93]
        rw [hf] at hr
        subst hr
        rw [pre_off (show ¬ c = 60 from fun e => absurd (congrArg UInt8.toNat e) (by show ¬ c.toNat = 60; omega))] at hp6
        rw [pre_off (show ¬ c = 62 from fun e => absurd (congrArg UInt8.toNat e) (by show ¬ c.toNat = 62; omega))] at hp7
        clear hf hdr h37 hk0 h93
        go_enter Try.func16, Try.ntmps16
        go_wp2_with fail
        refine (HSk.out _).mono ?_
        rintro e w1 ⟨rfl, rfl⟩
        go_wp2_with (refine TokCell.store rfl rfl _ _ rfl w.heap.size (tokC 0 0 ⟨#[]⟩ 0 0) _ _ _ _ _ rfl rfl (HT0.out) rfl w.heap.size w HW0.out (Nat.le_refl _) ?_; intro w2 HT HB HO; clear HO)
        obtain ⟨k0, k1, k2, k3, k4⟩ := HT.out.parts
        exact bodyPost_ret (v := .tuple #[.agg #[.int .i64 5, .int .i64 0, .string ⟨#[]⟩, .int .i64 (j : Int), .int .i64 ((j : Int) + 1)], .int .i64 0]) (by simp [results, Try.results16, go_sem, k0, k1, k2, k3, k4]) rfl ⟨by rw [Sg.put_ok rfl, show (j : Int) + 1 = ((1 + j : Nat) : Int) by omega]; rfl, HB.out⟩
      · have g93 : ((c.toNat : Int) == 93) = false := by simp; omega
        by_cases h47 : c.toNat = 47
        · have hz : (c.toNat : Int) = 47 := by omega
          have hf : firstL (c :: t) = nameGo [] 1 t := by
            unfold firstL
            simp only
            rw [if_neg (by omega), if_neg (by omega), if_pos h47]
          rw [hf] at hr
          rw [pre_off (show ¬ c = 60 from fun e => absurd (congrArg UInt8.toNat e) (by show ¬ c.toNat = 60; omega))] at hp6
          rw [pre_off (show ¬ c = 62 from fun e => absurd (congrArg UInt8.toNat e) (by show ¬ c.toNat = 62; omega))] at hp7
          obtain ⟨q, hq⟩ : ∃ q, nameGo [] 1 t = q := ⟨_, rfl⟩
          have hkd : q.code = 0 → q.kind = 2 ∧ q.num = 0 := fun h => by
            rw [← hq] at h ⊢
            exact ⟨((name_good t.length t [] 1 (Nat.le_refl _) (by decide)).2 h).2, name_num t.length t [] 1 (Nat.le_refl _)⟩
          rw [hq] at hr
          rw [← ht] at hq
          have HC : Hid (∀ W, Calls Try.prog 31 #[.string s, .int .i64 ((j : Int) + 1)] W fun e w' => e = .returned (.tuple #[.string (bytes q.str), .int .i64 (if q.code = 0 then ((j + q.fin : Nat) : Int) else 0), .int .i64 q.code]) ∧ Below W.heap.size W w') := Lib.hid (fun W => rName_any s j W (by omega) hlt hq)
          have HS := Lib.hid (fun W => rSign_any 2 j q W hkd)
          rw [hr] at HS
          simp only [told_parts] at HS ⊢
          generalize bytes q.str = qs at HC HS
          generalize (if q.code = 0 then ((j + q.fin : Nat) : Int) else 0) = qe at HC HS
          generalize q.code = qc at HC HS
          clear hf hdr h37 hk0 h47 hkd hr hq
          go_enter Try.func16, Try.ntmps16
          go_wp2_with fail
          refine (HSk.out _).mono ?_
          rintro e w1 ⟨rfl, rfl⟩
          go_wp2_with fail
          refine (HC.out _).mono ?_
          rintro e w3 ⟨rfl, hb⟩
          have HT1 := Lib.hid (HT0.out.later hb (by simp))
          have HW1 := Lib.hid (HW0.out.trans (hb.mono (by simp)))
          clear hb
          go_wp2_with fail
          refine (HS.out _).mono ?_
          rintro e w4 ⟨rfl, hb⟩
          have HT3 := Lib.hid (HT1.out.later hb HT1.out.lt)
          have HW3 := Lib.hid (HW1.out.trans (hb.mono HW1.out.size))
          clear hb
          go_wp2_with (refine TokCell.store rfl rfl _ _ rfl w.heap.size (tokC 0 0 ⟨#[]⟩ 0 0) _ _ _ _ _ rfl rfl (HT3.out) rfl w.heap.size w HW3.out (Nat.le_refl _) ?_; intro w2 HT HB HO; clear HO)
          obtain ⟨k0, k1, k2, k3, k4⟩ := HT.out.parts
          exact bodyPost_ret (v := .tuple #[.agg #[.int .i64 r.kind, .int .i64 r.num, .string (bytes r.str), .int .i64 (r.beg : Int), .int .i64 (r.fin : Int)], .int .i64 r.code]) (by simp [results, Try.results16, go_sem, k0, k1, k2, k3, k4]) rfl ⟨rfl, HB.out⟩
        · have g47 : ((c.toNat : Int) == 47) = false := by simp; omega
          by_cases h40 : c.toNat = 40
          · have hz : (c.toNat : Int) = 40 := by omega
            have hf : firstL (c :: t) = textGo 1 [] 1 t := by
              unfold firstL
              simp only
              rw [if_neg (by omega), if_neg (by omega), if_neg (by omega), if_pos h40]
            rw [hf] at hr
            rw [pre_off (show ¬ c = 60 from fun e => absurd (congrArg UInt8.toNat e) (by show ¬ c.toNat = 60; omega))] at hp6
            rw [pre_off (show ¬ c = 62 from fun e => absurd (congrArg UInt8.toNat e) (by show ¬ c.toNat = 62; omega))] at hp7
            obtain ⟨q, hq⟩ : ∃ q, textGo 1 [] 1 t = q := ⟨_, rfl⟩
            have hkd : q.code = 0 → q.kind = 3 ∧ q.num = 0 := fun h => by
              rw [← hq] at h ⊢
              exact ⟨((text_good t.length t 1 [] 1 (Nat.le_refl _) (by decide)).2 h).2, text_num t.length t 1 [] 1 (Nat.le_refl _)⟩
            rw [hq] at hr
            rw [← ht] at hq
            have HC : Hid (∀ W, Calls Try.prog 33 #[.string s, .int .i64 ((j : Int) + 1)] W fun e w' => e = .returned (.tuple #[.string (bytes q.str), .int .i64 (if q.code = 0 then ((j + q.fin : Nat) : Int) else 0), .int .i64 q.code]) ∧ Below W.heap.size W w') := Lib.hid (fun W => rPlain_any s j W (by omega) hlt hq)
            have HS := Lib.hid (fun W => rSign_any 3 j q W hkd)
            rw [hr] at HS
            simp only [told_parts] at HS ⊢
            generalize bytes q.str = qs at HC HS
            generalize (if q.code = 0 then ((j + q.fin : Nat) : Int) else 0) = qe at HC HS
            generalize q.code = qc at HC HS
            clear hf hdr h37 hk0 h40 hkd hr hq
            go_enter Try.func16, Try.ntmps16
            go_wp2_with fail
            refine (HSk.out _).mono ?_
            rintro e w1 ⟨rfl, rfl⟩
            go_wp2_with fail
            refine (HC.out _).mono ?_
            rintro e w3 ⟨rfl, hb⟩
            have HT1 := Lib.hid (HT0.out.later hb (by simp))
            have HW1 := Lib.hid (HW0.out.trans (hb.mono (by simp)))
            clear hb
            go_wp2_with fail
            refine (HS.out _).mono ?_
            rintro e w4 ⟨rfl, hb⟩
            have HT3 := Lib.hid (HT1.out.later hb HT1.out.lt)
            have HW3 := Lib.hid (HW1.out.trans (hb.mono HW1.out.size))
            clear hb
            go_wp2_with (refine TokCell.store rfl rfl _ _ rfl w.heap.size (tokC 0 0 ⟨#[]⟩ 0 0) _ _ _ _ _ rfl rfl (HT3.out) rfl w.heap.size w HW3.out (Nat.le_refl _) ?_; intro w2 HT HB HO; clear HO)
            obtain ⟨k0, k1, k2, k3, k4⟩ := HT.out.parts
            exact bodyPost_ret (v := .tuple #[.agg #[.int .i64 r.kind, .int .i64 r.num, .string (bytes r.str), .int .i64 (r.beg : Int), .int .i64 (r.fin : Int)], .int .i64 r.code]) (by simp [results, Try.results16, go_sem, k0, k1, k2, k3, k4]) rfl ⟨rfl, HB.out⟩
          · have g40 : ((c.toNat : Int) == 40) = false := by simp; omega
            by_cases h60 : c.toNat = 60
            · have hz : (c.toNat : Int) = 60 := by omega
              cases hp : preB (c :: t) [60, 60] with
              | true =>
                have hf : firstL (c :: t) = Sg.bare 6 2 := by
                  unfold firstL
                  simp only
                  rw [if_neg (by omega), if_neg (by omega), if_neg (by omega), if_neg (by omega), if_pos h60, if_pos hp]
                rw [hf] at hr
                subst hr
                rw [hp] at hp6
                rw [pre_off (show ¬ c = 62 from fun e => absurd (congrArg UInt8.toNat e) (by show ¬ c.toNat = 62; omega))] at hp7
                clear hf hdr h37 hk0 h60 hp
                go_enter Try.func16, Try.ntmps16
                go_wp2_with fail
                refine (HSk.out _).mono ?_
                rintro e w1 ⟨rfl, rfl⟩
                go_wp2_with (refine TokCell.store rfl rfl _ _ rfl w.heap.size (tokC 0 0 ⟨#[]⟩ 0 0) _ _ _ _ _ rfl rfl (HT0.out) rfl w.heap.size w HW0.out (Nat.le_refl _) ?_; intro w2 HT HB HO; clear HO)
                obtain ⟨k0, k1, k2, k3, k4⟩ := HT.out.parts
                exact bodyPost_ret (v := .tuple #[.agg #[.int .i64 6, .int .i64 0, .string ⟨#[]⟩, .int .i64 (j : Int), .int .i64 ((j : Int) + 2)], .int .i64 0]) (by simp [results, Try.results16, go_sem, k0, k1, k2, k3, k4]) rfl ⟨by rw [Sg.put_ok rfl, show (j : Int) + 2 = ((2 + j : Nat) : Int) by omega]; rfl, HB.out⟩
              | false =>
                have hf : firstL (c :: t) = hexGo [] 1 t := by
                  unfold firstL
                  simp only
                  rw [if_neg (by omega), if_neg (by omega), if_neg (by omega), if_neg (by omega), if_pos h60, if_neg (by rw [hp]; decide)]
                rw [hf] at hr
                rw [hp] at hp6
                rw [pre_off (show ¬ c = 62 from fun e => absurd (congrArg UInt8.toNat e) (by show ¬ c.toNat = 62; omega))] at hp7
                obtain ⟨q, hq⟩ : ∃ q, hexGo [] 1 t = q := ⟨_, rfl⟩
                have hkd : q.code = 0 → q.kind = 3 ∧ q.num = 0 := fun h => by
                  rw [← hq] at h ⊢
                  exact ⟨((hex_good t [] 1 (by decide)).2 h).2, hex_num t [] 1⟩
                rw [hq] at hr
                rw [← ht] at hq
                have HC : Hid (∀ W, Calls Try.prog 34 #[.string s, .int .i64 ((j : Int) + 1)] W fun e w' => e = .returned (.tuple #[.string (bytes q.str), .int .i64 (if q.code = 0 then ((j + q.fin : Nat) : Int) else 0), .int .i64 q.code]) ∧ Below W.heap.size W w') := Lib.hid (fun W => rHexText_any s j W (by omega) hlt hq)
                have HS := Lib.hid (fun W => rSign_any 3 j q W hkd)
                rw [hr] at HS
                simp only [told_parts] at HS ⊢
                generalize bytes q.str = qs at HC HS
                generalize (if q.code = 0 then ((j + q.fin : Nat) : Int) else 0) = qe at HC HS
                generalize q.code = qc at HC HS
                clear hf hdr h37 hk0 h60 hkd hr hq hp
                go_enter Try.func16, Try.ntmps16
                go_wp2_with fail
                refine (HSk.out _).mono ?_
                rintro e w1 ⟨rfl, rfl⟩
                go_wp2_with fail
                refine (HC.out _).mono ?_
                rintro e w3 ⟨rfl, hb⟩
                have HT1 := Lib.hid (HT0.out.later hb (by simp))
                have HW1 := Lib.hid (HW0.out.trans (hb.mono (by simp)))
                clear hb
                go_wp2_with fail
                refine (HS.out _).mono ?_
                rintro e w4 ⟨rfl, hb⟩
                have HT3 := Lib.hid (HT1.out.later hb HT1.out.lt)
                have HW3 := Lib.hid (HW1.out.trans (hb.mono HW1.out.size))
                clear hb
                go_wp2_with (refine TokCell.store rfl rfl _ _ rfl w.heap.size (tokC 0 0 ⟨#[]⟩ 0 0) _ _ _ _ _ rfl rfl (HT3.out) rfl w.heap.size w HW3.out (Nat.le_refl _) ?_; intro w2 HT HB HO; clear HO)
                obtain ⟨k0, k1, k2, k3, k4⟩ := HT.out.parts
                exact bodyPost_ret (v := .tuple #[.agg #[.int .i64 r.kind, .int .i64 r.num, .string (bytes r.str), .int .i64 (r.beg : Int), .int .i64 (r.fin : Int)], .int .i64 r.code]) (by simp [results, Try.results16, go_sem, k0, k1, k2, k3, k4]) rfl ⟨rfl, HB.out⟩
            · have g60 : ((c.toNat : Int) == 60) = false := by simp; omega
              have hn6 := pre_off (t := t) (show ¬ c = 60 from fun e => absurd (congrArg UInt8.toNat e) (by show ¬ c.toNat = 60; omega))
              rw [hn6] at hp6
              cases hp : preB (c :: t) [62, 62] with
              | true =>
                have h62 : c.toNat = 62 := by
                  have := (List.cons_prefix_cons.1 (of_decide_eq_true hp)).1
                  rw [← this]; rfl
                have hf : firstL (c :: t) = Sg.bare 7 2 := by
                  unfold firstL
                  simp only
                  rw [if_neg (by omega), if_neg (by omega), if_neg (by omega), if_neg (by omega), if_neg (by omega), if_pos h62, if_pos hp]
                rw [hf] at hr
                subst hr
                rw [hp] at hp7
                have hz : (c.toNat : Int) = 62 := by omega
                clear hf hdr h37 hk0 h62 hp g91 g93 g47 g40 g60
                go_enter Try.func16, Try.ntmps16
                go_wp2_with fail
                refine (HSk.out _).mono ?_
                rintro e w1 ⟨rfl, rfl⟩
                go_wp2_with (refine TokCell.store rfl rfl _ _ rfl w.heap.size (tokC 0 0 ⟨#[]⟩ 0 0) _ _ _ _ _ rfl rfl (HT0.out) rfl w.heap.size w HW0.out (Nat.le_refl _) ?_; intro w2 HT HB HO; clear HO)
                obtain ⟨k0, k1, k2, k3, k4⟩ := HT.out.parts
                exact bodyPost_ret (v := .tuple #[.agg #[.int .i64 7, .int .i64 0, .string ⟨#[]⟩, .int .i64 (j : Int), .int .i64 ((j : Int) + 2)], .int .i64 0]) (by simp [results, Try.results16, go_sem, k0, k1, k2, k3, k4]) rfl ⟨by rw [Sg.put_ok rfl, show (j : Int) + 2 = ((2 + j : Nat) : Int) by omega]; rfl, HB.out⟩
              | false =>
                rw [hp] at hp7
                by_cases hq : c.toNat = 41 ∨ c.toNat = 123 ∨ c.toNat = 125 ∨ c.toNat = 62
                · have hf : firstL (c :: t) = Sg.err 4 := by
                    unfold firstL
                    simp only
                    rw [if_neg (by omega), if_neg (by omega), if_neg (by omega), if_neg (by omega), if_neg (by omega)]
                    by_cases h62 : c.toNat = 62
                    · rw [if_pos h62, if_neg (by rw [hp]; decide)]
                    · rw [if_neg h62, if_pos (by omega)]
                  rw [hf] at hr
                  subst hr
                  have HK := Lib.hid (fun W => rKind_is c (kind_delims hq) W)
                  clear hf hdr h37 hk0 hq hp
                  go_enter Try.func16, Try.ntmps16
                  go_wp2_with fail
                  refine (HSk.out _).mono ?_
                  rintro e w1 ⟨rfl, rfl⟩
                  go_wp2_with fail
                  refine (HK.out _).mono ?_
                  rintro e w3 ⟨rfl, rfl⟩
                  go_wp2_with (refine TokCell.store rfl rfl _ _ rfl w.heap.size (tokC 0 0 ⟨#[]⟩ 0 0) _ _ _ _ _ rfl rfl (HT0.out) rfl w.heap.size w HW0.out (Nat.le_refl _) ?_; intro w2 HT HB HO; clear HO)
                  obtain ⟨k0, k1, k2, k3, k4⟩ := HT.out.parts
                  exact bodyPost_ret (v := .tuple #[.agg #[.int .i64 0, .int .i64 0, .string ⟨#[]⟩, .int .i64 0, .int .i64 0], .int .i64 4]) (by simp [results, Try.results16, go_sem, k0, k1, k2, k3, k4]) rfl ⟨rfl, HB.out⟩
                · have hkd : kindI (c.toNat : Int) = 2 := kind_regs hk0 (by omega)
                  have hf : firstL (c :: t) = wordL (c :: t) := by
                    unfold firstL
                    simp only
                    rw [if_neg (by omega), if_neg (by omega), if_neg (by omega), if_neg (by omega), if_neg (by omega), if_neg (by omega), if_neg (by omega)]
                  rw [hf, ← hdr] at hr
                  have HK := Lib.hid (fun W => rKind_is c hkd W)
                  have HC := Lib.hid (fun W => rWord_any s j W (by omega) (by omega))
                  rw [hr] at HC
                  simp only [told_parts] at HC ⊢
                  clear hf hdr h37 hk0 hq hp hkd hr
                  go_enter Try.func16, Try.ntmps16
                  go_wp2_with fail
                  refine (HSk.out _).mono ?_
                  rintro e w1 ⟨rfl, rfl⟩
                  go_wp2_with fail
                  refine (HK.out _).mono ?_
                  rintro e w3 ⟨rfl, rfl⟩
                  go_wp2_with fail
                  refine (HC.out _).mono ?_
                  rintro e w3 ⟨rfl, hb⟩
                  have HT1 := Lib.hid (HT0.out.later hb (by simp))
                  have HW1 := Lib.hid (HW0.out.trans (hb.mono (by simp)))
                  clear hb
                  go_wp2_with (refine TokCell.store rfl rfl _ _ rfl w.heap.size (tokC 0 0 ⟨#[]⟩ 0 0) _ _ _ _ _ rfl rfl (HT1.out) rfl w.heap.size w HW1.out (Nat.le_refl _) ?_; intro w2 HT HB HO; clear HO)
                  obtain ⟨k0, k1, k2, k3, k4⟩ := HT.out.parts
                  exact bodyPost_ret (v := .tuple #[.agg #[.int .i64 r.kind, .int .i64 r.num, .string (bytes r.str), .int .i64 (r.beg : Int), .int .i64 (r.fin : Int)], .int .i64 r.code]) (by simp [results, Try.results16, go_sem, k0, k1, k2, k3, k4]) rfl ⟨rfl, HB.out⟩
  · obtain rfl : j = s.size := by omega
    rw [drop_end s _ (Nat.le_refl _)] at hr
    subst hr
    clear hhead
    go_enter Try.func16, Try.ntmps16
    go_wp2_with fail
    refine (HSk.out _).mono ?_
    rintro e w1 ⟨rfl, rfl⟩
    go_wp2_with (refine TokCell.store rfl rfl _ _ rfl w.heap.size (tokC 0 0 ⟨#[]⟩ 0 0) _ _ _ _ _ rfl rfl (HT0.out) rfl w.heap.size w HW0.out (Nat.le_refl _) ?_; intro w2 HT HB HO; clear HO)
    obtain ⟨k0, k1, k2, k3, k4⟩ := HT.out.parts
    exact bodyPost_ret (v := .tuple #[.agg #[.int .i64 0, .int .i64 0, .string ⟨#[]⟩, .int .i64 (s.size : Int), .int .i64 (s.size : Int)], .int .i64 0]) (by simp [results, Try.results16, go_sem, k0, k1, k2, k3, k4]) rfl ⟨by rw [show (firstL []).put s.size = ⟨0, 0, [], s.size, 0 + s.size, 0⟩ from rfl, Nat.zero_add]; rfl, HB.out⟩
end
end Go.Proofs.Ytejgcnmbngdkiaa
