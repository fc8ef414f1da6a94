/-
  The document's hex: a text of digits.
-/
import Derived.Test.YtnjmapgmodoodaaTkPut
import Derived.Test.YtnjmapgmodoodaaTkRName
namespace Go.Proofs.Ytnjmapgmodoodaa
open Go.RowKit
set_option maxRecDepth 100000

set_option maxHeartbeats 4000000 in
theorem rHexText_any (s : ByteArray) (k : Nat) (w : World) (hs : s.size ≤ 1000000000) (hk : k < s.size) {r : Sg} (hr : hexGo [] 1 (s.data.toList.drop (k + 1)) = r) :
    Calls Try.prog 20 #[.string s, .int .i64 ((k + 1 : Nat) : Int)] w fun e w' => e = .returned (r.trip k) ∧ Below w.heap.size w w' := by
  have Hr := Lib.hid hr
  clear hr
  go_enter Try.func20, Try.ntmps20
  go_wp2_with fail
  go_loopg [1, 7, 8] (s.size - (k + 1)) (fun g v1 v7 v8 wx => ∃ (p n : Nat) (q : List Nat), p + g = s.size ∧ k + n = p ∧ q.length ≤ n ∧ q.length % 2 = 0 ∧ q.length / 2 ≤ 65535 ∧ v1 = .int .i64 p ∧ Aside (Own8 wx w.heap.size v7 (pairsH q)) ∧ Aside (Below w.heap.size w wx) ∧
    ((v8 = .int .i64 (-1) ∧ Aside (hexGo q n (s.data.toList.drop p) = r)) ∨ ∃ a : Nat, a < 16 ∧ q.length + 1 ≤ n ∧ v8 = .int .i64 a ∧ Aside (hexGo (q ++ [a]) n (s.data.toList.drop p) = r)))
  case atStart => exact ⟨k + 1, 1, [], by omega, rfl, by decide, rfl, by decide, rfl, Own8.made w 0 #[] (Nat.le_refl _) (by unfold maxLen; omega) rfl, (Below.refl _ w).alloc (Nat.le_refl _) _, .inl ⟨rfl, Hr.out⟩⟩
  case round =>
    obtain ⟨p, n, q, hp, hkn, hqn, hq2, hql, rfl, HO, HB, hcase⟩ := hrel
    clear Hr
    obtain ⟨gg, capg, hv7⟩ := HO.out.2
    subst hv7
    have hpl := pairsH_even q hq2
    have hpl6 : (pairsH q).length ≤ 65535 := by omega
    have hpl7 : (pairsH q).length ≤ 1000000 := by omega
    cases gk with
    | zero =>
      obtain rfl : p = s.size := by omega
      have hz : ¬ ((s.size : Int) < (s.size : Int)) := by omega
      have hr5 : Sg.err 5 = r := by
        rcases hcase with ⟨_, h⟩ | ⟨a, _, _, _, h⟩
        · have h := h.out
          rw [drop_end s _ (Nat.le_refl _)] at h
          exact h
        · have h := h.out
          rw [drop_end s _ (Nat.le_refl _)] at h
          exact h
      subst hr5
      clear hcase
      go_wp2_with fail
      exact bodyPost_ret (v := .tuple #[.string ⟨#[]⟩, .int .i64 0, .int .i64 5]) (by simp [results, Try.results20, go_sem]) rfl ⟨rfl, HB.out⟩
    | succ g =>
      have hlt : p < s.size := by omega
      have hz : (p : Int) < (s.size : Int) := by omega
      have hp0 : (0 : Int) ≤ (p : Int) := by omega
      have hlz : ¬ (65535 : Int) < ((pairsH q).length : Int) := by omega
      obtain ⟨c, hc⟩ : ∃ c, s[p] = c := ⟨_, rfl⟩
      have hx := hexI_range c
      have hdr := drop_byte s p hlt
      rw [hc] at hdr
      rw [hdr] at hcase
      obtain ⟨x, hxx⟩ : ∃ x, hexI (c.toNat : Int) = x := ⟨_, rfl⟩
      have HX := Lib.hid (fun W => rHex_is c hxx W)
      obtain ⟨y, hy⟩ : ∃ y, kindI (c.toNat : Int) = y := ⟨_, rfl⟩
      have HK := Lib.hid (fun W => rKind_is c hy W)
      have Hpl := Lib.hid hpl
      clear hpl hdr
      rcases hcase with ⟨rfl, h⟩ | ⟨a, ha, hqn1, rfl, h⟩
      · have h := h.out
        by_cases hend : c.toNat = 62
        · rw [hex_end hend, if_neg (by omega)] at h
          subst h
          have hcz : (c.toNat : Int) = 62 := by omega
          rw [hcz] at HX
          have htext := Own8.text HO.out
          clear hend hx hxx hy
          go_wp2_with fail
          refine (HX.out _).mono ?_
          rintro e w1 ⟨rfl, rfl⟩
          go_wp2_with fail
          exact bodyPost_ret (v := .tuple #[.string (bytes (pairsH q)), .int .i64 ((p : Int) + 1), .int .i64 0]) (by simp [results, Try.results20, go_sem]) rfl ⟨by rw [trip_ok (show k + (n + 1) = p + 1 by omega)]; rfl, HB.out⟩
        · have hcz : ((c.toNat : Int) == 62) = false := by simp; omega
          by_cases hh : 0 ≤ hexI (c.toNat : Int)
          · rw [hex_put hend hh, if_neg (by omega), hxx] at h
            obtain ⟨d, hd⟩ : ∃ d : Nat, x = (d : Int) := ⟨x.toNat, by omega⟩
            have hd16 : d < 16 := by omega
            subst hd
            rw [Int.toNat_natCast] at h
            have Hnext := Lib.hid h
            have hdn : ¬ (d : Int) < 0 := by omega
            have hdn' : decide ((d : Int) < 0) = false := decide_eq_false hdn
            have hdp : (0 : Int) ≤ (d : Int) := by omega
            have hdp' : decide ((0 : Int) ≤ (d : Int)) = true := decide_eq_true hdp
            clear h hend hx hxx hy hh
            go_wp2_with fail
            refine (HX.out _).mono ?_
            rintro e w1 ⟨rfl, rfl⟩
            go_wp2_with fail
            go_roundg g
            case measure => omega
            case rel => exact ⟨p + 1, n + 1, q, by omega, by omega, by omega, hq2, hql, by go_num, HO.out, HB.out, .inr ⟨d, hd16, by omega, rfl, Hnext.out⟩⟩
          · have hm1 : x = -1 := by omega
            subst hm1
            by_cases hw : kindI (c.toNat : Int) = 0
            · rw [hex_white hw] at h
              have Hnext := Lib.hid h
              obtain rfl : y = 0 := by omega
              clear h hend hx hxx hy hh hw
              go_wp2_with fail
              refine (HX.out _).mono ?_
              rintro e w1 ⟨rfl, rfl⟩
              go_wp2_with fail
              refine (HK.out _).mono ?_
              rintro e w1 ⟨rfl, rfl⟩
              go_wp2_with fail
              go_roundg g
              case measure => omega
              case rel => exact ⟨p + 1, n + 1, q, by omega, by omega, by omega, hq2, hql, by go_num, HO.out, HB.out, .inl ⟨rfl, Hnext.out⟩⟩
            · rw [hex_bad hend hh hw] at h
              subst h
              have hyz : (y != 0) = true := by rw [← hy]; simpa using hw
              clear hend hx hxx hy hh hw
              go_wp2_with fail
              refine (HX.out _).mono ?_
              rintro e w1 ⟨rfl, rfl⟩
              go_wp2_with fail
              refine (HK.out _).mono ?_
              rintro e w1 ⟨rfl, rfl⟩
              go_wp2_with fail
              exact bodyPost_ret (v := .tuple #[.string ⟨#[]⟩, .int .i64 0, .int .i64 4]) (by simp [results, Try.results20, go_sem]) rfl ⟨rfl, HB.out⟩
      · have h := h.out
        have hlen1 : ((q ++ [a]).length + 1) / 2 = (pairsH q).length + 1 := by rw [Hpl.out, List.length_append, List.length_singleton]; omega
        have han : ¬ (a : Int) < 0 := by omega
        have han' : decide ((a : Int) < 0) = false := decide_eq_false han
        by_cases hend : c.toNat = 62
        · rw [hex_end hend, hlen1] at h
          have hcz : (c.toNat : Int) = 62 := by omega
          rw [hcz] at HX
          obtain ⟨z, hzb⟩ : ∃ z : UInt8, UInt8.ofNat (16 * a + 0) = z := ⟨_, rfl⟩
          have hzn : (16 : Int) * (a : Int) = (z.toNat : Int) := by rw [← hzb, UInt8.toNat_ofNat']; omega
          have hpq : pairsH (q ++ [a]) = pairsH q ++ [z] := by
            rw [← pairsH_pad (q ++ [a]) (by rw [List.length_append, List.length_singleton]; omega), pairsH_snoc2 q a 0 hq2, hzb]
          rw [hpq] at h
          clear hend hx hxx hy hzb hpq
          by_cases hlong : 65535 < (pairsH q).length + 1
          · rw [if_pos hlong] at h
            subst h
            have hlo : (65535 : Int) < ((pairsH q).length : Int) + 1 := by omega
            clear hlong hpl6 hlz hql
            go_wp2_with fail
            refine (HX.out _).mono ?_
            rintro e w1 ⟨rfl, rfl⟩
            go_wp2_with (at_builtin; refine wpList_append8 rfl (.tmp 50) (.tmp 56) rfl w.heap.size _ (pairsH q) rfl (HO.out.alloc _) ⟨wr.heap.size, 0, none⟩ 1 [z] rfl (cells_new1 _ z _ rfl) (by simp) (by simp; omega) w (HB.out.alloc HB.out.size _) (by have := HB.out.size; simp; omega) ?_; intro v2 w2 Ho2 Hb2 hf2; obtain ⟨g2, cap2, rfl⟩ := hf2)
            exact bodyPost_ret (v := .tuple #[.string ⟨#[]⟩, .int .i64 0, .int .i64 8]) (by simp [results, Try.results20, go_sem]) rfl ⟨rfl, Hb2.out⟩
          · rw [if_neg hlong] at h
            subst h
            have hlo : decide ((65535 : Int) < ((pairsH q).length : Int) + 1) = false := decide_eq_false (by omega)
            have hlo2 : decide ((65535 : Int) ≤ ((pairsH q).length : Int)) = false := decide_eq_false (by omega)
            have hlo3 : decide (65535 ≤ (pairsH q).length) = false := decide_eq_false (by omega)
            have Hlo := Lib.hid hlong
            clear hlong hpl6 hlz hql
            go_wp2_with fail
            refine (HX.out _).mono ?_
            rintro e w1 ⟨rfl, rfl⟩
            go_wp2_with (at_builtin; refine wpList_append8 rfl (.tmp 50) (.tmp 56) rfl w.heap.size _ (pairsH q) rfl (HO.out.alloc _) ⟨wr.heap.size, 0, none⟩ 1 [z] rfl (cells_new1 _ z _ rfl) (by simp) (by simp; omega) w (HB.out.alloc HB.out.size _) (by have := HB.out.size; simp; omega) ?_; intro v2 w2 Ho2 Hb2 hf2; obtain ⟨g2, cap2, rfl⟩ := hf2; have htext : (convert 52 9 (.slice (some ⟨g2, 0, none⟩) ((pairsH q).length + 1) cap2)).run Try.prog w2 = .ok (.string (bytes (pairsH q ++ [z]))) w2 := Own8.text Ho2.out)
            exact bodyPost_ret (v := .tuple #[.string (bytes (pairsH q ++ [z])), .int .i64 ((p : Int) + 1), .int .i64 0]) (by simp [results, Try.results20, go_sem]) rfl ⟨by rw [trip_ok (show k + (n + 1) = p + 1 by omega)]; rfl, Hb2.out⟩
        · have hcz : ((c.toNat : Int) == 62) = false := by simp; omega
          by_cases hh : 0 ≤ hexI (c.toNat : Int)
          · rw [hex_put hend hh, hlen1, hxx] at h
            obtain ⟨d, hd⟩ : ∃ d : Nat, x = (d : Int) := ⟨x.toNat, by omega⟩
            have hd16 : d < 16 := by omega
            subst hd
            rw [Int.toNat_natCast] at h
            have hdn : ¬ (d : Int) < 0 := by omega
            have hdn' : decide ((d : Int) < 0) = false := decide_eq_false hdn
            have hdp : (0 : Int) ≤ (d : Int) := by omega
            have hdp' : decide ((0 : Int) ≤ (d : Int)) = true := decide_eq_true hdp
            obtain ⟨z, hzb⟩ : ∃ z : UInt8, UInt8.ofNat (16 * a + d) = z := ⟨_, rfl⟩
            have hzn : (16 : Int) * (a : Int) + (d : Int) = (z.toNat : Int) := by rw [← hzb, UInt8.toNat_ofNat']; omega
            have Hpq : Hid (pairsH (q ++ [a] ++ [d]) = pairsH q ++ [z]) := Lib.hid (by rw [pairsH_snoc2 q a d hq2, hzb])
            by_cases hlong : 65535 < (pairsH q).length + 1
            · rw [if_pos hlong] at h
              subst h
              have hlo : (65535 : Int) < ((pairsH q).length : Int) + 1 := by omega
              clear hlong hpl6 hlz hql hend hx hxx hy hh hzb
              go_wp2_with fail
              refine (HX.out _).mono ?_
              rintro e w1 ⟨rfl, rfl⟩
              go_wp2_with (at_builtin; refine wpList_append8 rfl (.tmp 50) (.tmp 56) rfl w.heap.size _ (pairsH q) rfl (HO.out.alloc _) ⟨wr.heap.size, 0, none⟩ 1 [z] rfl (cells_new1 _ z _ rfl) (by simp) (by simp; omega) w (HB.out.alloc HB.out.size _) (by have := HB.out.size; simp; omega) ?_; intro v2 w2 Ho2 Hb2 hf2; obtain ⟨g2, cap2, rfl⟩ := hf2)
              exact bodyPost_ret (v := .tuple #[.string ⟨#[]⟩, .int .i64 0, .int .i64 8]) (by simp [results, Try.results20, go_sem]) rfl ⟨rfl, Hb2.out⟩
            · rw [if_neg hlong] at h
              have Hnext := Lib.hid h
              have hlo : decide ((65535 : Int) < ((pairsH q).length : Int) + 1) = false := decide_eq_false (by omega)
              have hlo2 : decide ((65535 : Int) ≤ ((pairsH q).length : Int)) = false := decide_eq_false (by omega)
              have hlo3 : decide (65535 ≤ (pairsH q).length) = false := decide_eq_false (by omega)
              have Hlo := Lib.hid hlong
              clear hlong hpl6 hlz hql h hend hx hxx hy hh hzb
              go_wp2_with fail
              refine (HX.out _).mono ?_
              rintro e w1 ⟨rfl, rfl⟩
              go_wp2_with (at_builtin; refine wpList_append8 rfl (.tmp 50) (.tmp 56) rfl w.heap.size _ (pairsH q) rfl (HO.out.alloc _) ⟨wr.heap.size, 0, none⟩ 1 [z] rfl (cells_new1 _ z _ rfl) (by simp) (by simp; omega) w (HB.out.alloc HB.out.size _) (by have := HB.out.size; simp; omega) ?_; intro v2 w2 Ho2 Hb2 hf2; obtain ⟨g2, cap2, rfl⟩ := hf2)
              go_roundg g
              case measure => omega
              case rel => exact ⟨p + 1, n + 1, q ++ [a] ++ [d], by omega, by omega, by simp; omega, by simp; omega, by have := Hpl.out; have := Hlo.out; simp; omega, by go_num, by rw [Hpq.out]; exact Ho2.out, Hb2.out, .inl ⟨rfl, Hnext.out⟩⟩
          · have hm1 : x = -1 := by omega
            subst hm1
            by_cases hw : kindI (c.toNat : Int) = 0
            · rw [hex_white hw] at h
              have Hnext := Lib.hid h
              obtain rfl : y = 0 := by omega
              clear h hend hx hxx hy hh hw
              go_wp2_with fail
              refine (HX.out _).mono ?_
              rintro e w1 ⟨rfl, rfl⟩
              go_wp2_with fail
              refine (HK.out _).mono ?_
              rintro e w1 ⟨rfl, rfl⟩
              go_wp2_with fail
              go_roundg g
              case measure => omega
              case rel => exact ⟨p + 1, n + 1, q, by omega, by omega, by omega, hq2, hql, by go_num, HO.out, HB.out, .inr ⟨a, ha, by omega, rfl, Hnext.out⟩⟩
            · rw [hex_bad hend hh hw] at h
              subst h
              have hyz : (y != 0) = true := by rw [← hy]; simpa using hw
              clear hend hx hxx hy hh hw
              go_wp2_with fail
              refine (HX.out _).mono ?_
              rintro e w1 ⟨rfl, rfl⟩
              go_wp2_with fail
              refine (HK.out _).mono ?_
              rintro e w1 ⟨rfl, rfl⟩
              go_wp2_with fail
              exact bodyPost_ret (v := .tuple #[.string ⟨#[]⟩, .int .i64 0, .int .i64 4]) (by simp [results, Try.results20, go_sem]) rfl ⟨rfl, HB.out⟩
end Go.Proofs.Ytnjmapgmodoodaa
