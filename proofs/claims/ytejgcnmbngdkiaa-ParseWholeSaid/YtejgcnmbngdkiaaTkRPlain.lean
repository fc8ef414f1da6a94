/-
  The document's plain: a text in brackets.
-/
import Derived.Test.YtejgcnmbngdkiaaNRMe
import Derived.Test.YtejgcnmbngdkiaaTkRName
namespace Go.Proofs.Ytejgcnmbngdkiaa
open Go.RowKit
set_option maxRecDepth 100000

theorem depth_open {d : Nat} {c : UInt8} (h : c.toNat = 40) : depthT d c = d + 1 := if_pos h
theorem depth_close {d : Nat} {c : UInt8} (h : c.toNat = 41) : depthT d c = d - 1 := by unfold depthT; rw [if_neg (by omega), if_pos h]
theorem depth_same {d : Nat} {c : UInt8} (h : ¬ c.toNat = 40) (h2 : ¬ c.toNat = 41) : depthT d c = d := by unfold depthT; rw [if_neg h, if_neg h2]

set_option maxHeartbeats 4000000 in
theorem rPlain_any (s : ByteArray) (k : Nat) (w : World) (hs : s.size ≤ 1000000000) (hk : k < s.size) {r : Sg} (hr : textGo 1 [] 1 (s.data.toList.drop (k + 1)) = r) :
    Calls Try.prog 33 #[.string s, .int .i64 ((k + 1 : Nat) : Int)] w fun e w' => e = .returned (r.trip k) ∧ Below w.heap.size w w' := by
  have Hr := Lib.hid hr
  clear hr
  go_enter Try.func33, Try.ntmps33
  go_wp2_with fail
  go_loopg [1, 7, 8] (s.size - (k + 1)) (fun g v1 v7 v8 wx => ∃ (p n d : Nat) (t : ByteArray) (out : List UInt8), p + g = s.size ∧ k + n = p ∧ 1 ≤ d ∧ d ≤ n ∧ v1 = .int .i64 p ∧ v7 = .string t ∧ v8 = .int .i64 d ∧ t.data.toList = out ∧ out.length ≤ 65535 ∧ Aside (textGo d out n (s.data.toList.drop p) = r) ∧ Aside (Below w.heap.size w wx))
  case atStart => exact ⟨k + 1, 1, 1, ⟨#[]⟩, [], by omega, rfl, by omega, by omega, rfl, rfl, rfl, rfl, by decide, Hr.out, Below.refl _ _⟩
  case round =>
    obtain ⟨p, n, d, t, out, hp, hkn, hd1, hdn, rfl, rfl, rfl, htd, ho, HR, HB⟩ := hrel
    clear Hr
    cases gk with
    | zero =>
      obtain rfl : p = s.size := by omega
      have hz : ¬ ((s.size : Int) < (s.size : Int)) := by omega
      have h := HR.out
      rw [drop_end s _ (Nat.le_refl _), text_nil] at h
      subst h
      go_wp2_with fail
      exact bodyPost_ret (v := .tuple #[.string ⟨#[]⟩, .int .i64 0, .int .i64 5]) (by simp [results, Try.results33, go_sem]) rfl ⟨rfl, HB.out⟩
    | succ g =>
      have hlt : p < s.size := by omega
      have hz : (p : Int) < (s.size : Int) := by omega
      have hp0 : (0 : Int) ≤ (p : Int) := by omega
      have hts : t.size = out.length := by rw [size_data, htd]
      obtain ⟨c, hc⟩ : ∃ c, s[p] = c := ⟨_, rfl⟩
      have h := HR.out
      have hdr : s.data.toList.drop p = c :: s.data.toList.drop (p + 1) := by rw [drop_byte s p hlt, hc]
      rw [hdr] at h
      clear HR
      obtain ⟨x1, hx1⟩ : ∃ x1, s.extract p (p + 1) = x1 := ⟨_, rfl⟩
      have hone : x1 = bytes [c] := by rw [← hx1, one_text s p hlt, hc]
      have Hone := Lib.hid hone
      obtain ⟨m, hm⟩ : ∃ m, endsN s.data.toList p = m := ⟨_, rfl⟩
      have HE := Lib.hid (fun W => rEnds_is s p hm W)
      have hmd : endsN (c :: s.data.toList.drop (p + 1)) 0 = m := by rw [← hdr, endsN_drop, hm]
      have hmz := (endsN_zero (c :: s.data.toList.drop (p + 1))).1
      rw [hmd, ← hdr, List.length_drop, ← size_data] at hmz
      have hd0 : ¬ (d : Int) = 0 := by omega
      have hd0' : ((d : Int) == 0) = false := by simpa using hd0
      clear hone
      rcases Nat.eq_zero_or_pos m with rfl | hm0
      · by_cases h92 : c.toNat = 92
        · have hcz : (c.toNat : Int) = 92 := by omega
          have hend : ¬ (c.toNat = 41 ∧ d = 1) := by omega
          have hdep : depthT d c = d := depth_same (by omega) (by omega)
          have hw0 := within_esc hmd h92
          rcases Nat.lt_or_ge (p + 1) s.size with hin | hfar
          · obtain ⟨q, j, hq⟩ : ∃ q j, escL (s.data.toList.drop (p + 1)) = (q, j) := ⟨_, _, rfl⟩
            have HM : Hid (∀ W, Calls Try.prog 58 #[.string s, .int .i64 ((p : Int) + 1)] W fun e w' => e = .returned (.tuple #[.string (bytes q), .int .i64 ((p + 1 + j : Nat) : Int)]) ∧ Below W.heap.size W w') := Lib.hid (fun W => rMeant_any s (p + 1) W hs hin hq)
            have hjl := (esc_len (s.data.toList.drop (p + 1))).1
            have hql := (esc_len (s.data.toList.drop (p + 1))).2
            rw [hq, List.length_drop, ← size_data] at hjl
            rw [hq] at hql
            simp only at hjl hql
            rw [hq] at hw0
            have hw : withinL (c :: s.data.toList.drop (p + 1)) = (q, 1 + j) := hw0
            clear hw0
            obtain ⟨x, hx⟩ : ∃ x, bytes q = x := ⟨_, rfl⟩
            have hxd : x.data.toList = q := by rw [← hx, bytes_data]
            have hxs : x.size = q.length := by rw [size_data, hxd]
            obtain ⟨jj, hjj⟩ : ∃ jj, p + 1 + j = jj := ⟨_, rfl⟩
            have hnn : ¬ (jj : Int) < 0 := by omega
            rw [hx, hjj] at HM
            clear hx hq hmd hm h92
            have hpl : (q).length ≤ 1000000000 := by omega
            by_cases hlong : 65535 < out.length + (q).length
            · rw [text_long hend hw hlong] at h
              subst h
              have hlz : (65535 : Int) < (t.size : Int) + (x.size : Int) := by rw [hts, hxs, ← Int.natCast_add]; omega
              have hsz : t.size + x.size ≤ 9223372036854775807 := by rw [hts, hxs]; omega
              clear hpl
              clear hw hlong hts hxs hxd htd
              go_wp2_with fail
              refine (HE.out _).mono ?_
              rintro e w1 ⟨rfl, rfl⟩
              go_wp2_with fail
              refine (HM.out _).mono ?_
              rintro e w1 ⟨rfl, hb⟩
              have HB1 := Lib.hid (HB.out.trans (hb.mono HB.out.size))
              clear hb
              go_wp2_with fail
              exact bodyPost_ret (v := .tuple #[.string ⟨#[]⟩, .int .i64 0, .int .i64 8]) (by simp [results, Try.results33, go_sem]) rfl ⟨rfl, HB1.out⟩
            · rw [text_step hend hw hlong, hdep, ← hdr, List.drop_drop] at h
              have Hnext := Lib.hid h
              have hlz : ¬ (65535 : Int) < (t.size : Int) + (x.size : Int) := by rw [hts, hxs, ← Int.natCast_add]; omega
              have Hto : Hid ((jj : Int) = ((p + (1 + j) : Nat) : Int)) := Lib.hid (by omega)
              have Hln : Hid ((out ++ q).length ≤ 65535) := Lib.hid (by rw [List.length_append]; omega)
              have Htx : Hid ((t ++ x).data.toList = out ++ q) := Lib.hid (by rw [app_data, htd, hxd])
              have hsz : t.size + x.size ≤ 9223372036854775807 := by rw [hts, hxs]; omega
              clear hpl
              clear hw hlong h hts hxs hxd htd
              go_wp2_with fail
              refine (HE.out _).mono ?_
              rintro e w1 ⟨rfl, rfl⟩
              go_wp2_with fail
              refine (HM.out _).mono ?_
              rintro e w1 ⟨rfl, hb⟩
              have HB1 := Lib.hid (HB.out.trans (hb.mono HB.out.size))
              clear hb
              go_wp2_with fail
              go_roundg (s.size - (p + (1 + j)))
              case measure => omega
              case rel => exact ⟨p + (1 + j), n + (1 + j), d, t ++ x, out ++ q, by omega, by omega, by omega, by omega, by rw [← Hto.out], rfl, by first | rfl | go_num, Htx.out, Hln.out, Hnext.out, HB1.out⟩
          · have hdn1 : s.data.toList.drop (p + 1) = [] := drop_end s _ hfar
            rw [hdn1] at hw0 h
            have hw : withinL [c] = ([], 1) := hw0
            rw [text_step hend hw (by simp; omega)] at h
            have hn0 : [c].drop 1 = [] := rfl
            rw [hn0, text_nil] at h
            subst h
            have HM : Hid (∀ W, Calls Try.prog 58 #[.string s, .int .i64 ((p : Int) + 1)] W fun e w' => e = .returned (.tuple #[.string ⟨#[]⟩, .int .i64 (-1)]) ∧ W = w') := Lib.hid (fun W => rMeant_far s (p + 1) W hfar)
            clear hw hw0 hdn1 hmd hm h92 hdep
            go_wp2_with fail
            refine (HE.out _).mono ?_
            rintro e w1 ⟨rfl, rfl⟩
            go_wp2_with fail
            refine (HM.out _).mono ?_
            rintro e w1 ⟨rfl, rfl⟩
            go_wp2_with fail
            exact bodyPost_ret (v := .tuple #[.string ⟨#[]⟩, .int .i64 0, .int .i64 5]) (by simp [results, Try.results33, go_sem]) rfl ⟨rfl, HB.out⟩
        · have hw : withinL (c :: s.data.toList.drop (p + 1)) = ([c], 1) := within_one hmd h92
          have hcz : ((c.toNat : Int) == 92) = false := by simp; omega
          have hxd : x1.data.toList = [c] := by rw [Hone.out, bytes_data]
          have hxs : x1.size = [c].length := by rw [size_data, hxd]
          by_cases h40 : c.toNat = 40
          · have hc4 : (c.toNat : Int) = 40 := by omega
            have hend : ¬ (c.toNat = 41 ∧ d = 1) := by omega
            have hdep : depthT d c = d + 1 := depth_open h40
            have hdz : ((d : Int) + 1 == 0) = false := by simp; omega
            clear hmd hm h92 h40
            have hpl : ([c]).length ≤ 1000000000 := by simp
            by_cases hlong : 65535 < out.length + ([c]).length
            · rw [text_long hend hw hlong] at h
              subst h
              have hlz : (65535 : Int) < (t.size : Int) + (x1.size : Int) := by rw [hts, hxs, ← Int.natCast_add]; omega
              have hsz : t.size + x1.size ≤ 9223372036854775807 := by rw [hts, hxs]; omega
              clear hpl
              clear hw hlong hts hxs hxd htd hcz
              go_wp2_with fail
              refine (HE.out _).mono ?_
              rintro e w1 ⟨rfl, rfl⟩
              go_wp2_with fail
              exact bodyPost_ret (v := .tuple #[.string ⟨#[]⟩, .int .i64 0, .int .i64 8]) (by simp [results, Try.results33, go_sem]) rfl ⟨rfl, HB.out⟩
            · rw [text_step hend hw hlong, hdep, ← hdr, List.drop_drop] at h
              have Hnext := Lib.hid h
              have hlz : ¬ (65535 : Int) < (t.size : Int) + (x1.size : Int) := by rw [hts, hxs, ← Int.natCast_add]; omega
              have Hto : Hid (((p : Int) + 1) = ((p + 1 : Nat) : Int)) := Lib.hid (by omega)
              have Hln : Hid ((out ++ [c]).length ≤ 65535) := Lib.hid (by rw [List.length_append]; omega)
              have Htx : Hid ((t ++ x1).data.toList = out ++ [c]) := Lib.hid (by rw [app_data, htd, hxd])
              have hsz : t.size + x1.size ≤ 9223372036854775807 := by rw [hts, hxs]; omega
              clear hpl
              clear hw hlong h hts hxs hxd htd hcz
              go_wp2_with fail
              refine (HE.out _).mono ?_
              rintro e w1 ⟨rfl, rfl⟩
              go_wp2_with fail
              go_roundg (s.size - (p + 1))
              case measure => omega
              case rel => exact ⟨p + 1, n + 1, d + 1, t ++ x1, out ++ [c], by omega, by omega, by omega, by omega, by rw [← Hto.out], rfl, by first | rfl | go_num, Htx.out, Hln.out, Hnext.out, HB.out⟩
          · have hc4 : ((c.toNat : Int) == 40) = false := by simp; omega
            by_cases h41 : c.toNat = 41
            · have hc5 : (c.toNat : Int) = 41 := by omega
              by_cases hd : d = 1
              · subst hd
                rw [text_end h41 rfl] at h
                subst h
                clear hmd hm h92 h41 h40 hcz hc4 hw
                go_wp2_with fail
                refine (HE.out _).mono ?_
                rintro e w1 ⟨rfl, rfl⟩
                go_wp2_with fail
                exact bodyPost_ret (v := .tuple #[.string t, .int .i64 ((p : Int) + 1), .int .i64 0]) (by simp [results, Try.results33, go_sem]) rfl ⟨by rw [trip_ok (show k + (n + 1) = p + 1 by omega), ← htd, bytes_of]; rfl, HB.out⟩
              · have hend : ¬ (c.toNat = 41 ∧ d = 1) := by omega
                have hdep : depthT d c = d - 1 := depth_close h41
                have hdz : ((d : Int) - 1 == 0) = false := by simp; omega
                have hdi : (d : Int) - 1 = ((d - 1 : Nat) : Int) := by omega
                have Hdi := Lib.hid hdi
                have hd2 : 2 ≤ d := by omega
                clear hmd hm h92 h41 h40 hcz hc4 hdi hd
                have hpl : ([c]).length ≤ 1000000000 := by simp
                by_cases hlong : 65535 < out.length + ([c]).length
                · rw [text_long hend hw hlong] at h
                  subst h
                  have hlz : (65535 : Int) < (t.size : Int) + (x1.size : Int) := by rw [hts, hxs, ← Int.natCast_add]; omega
                  have hsz : t.size + x1.size ≤ 9223372036854775807 := by rw [hts, hxs]; omega
                  clear hpl
                  clear hw hlong hts hxs hxd htd
                  go_wp2_with fail
                  refine (HE.out _).mono ?_
                  rintro e w1 ⟨rfl, rfl⟩
                  go_wp2_with fail
                  exact bodyPost_ret (v := .tuple #[.string ⟨#[]⟩, .int .i64 0, .int .i64 8]) (by simp [results, Try.results33, go_sem]) rfl ⟨rfl, HB.out⟩
                · rw [text_step hend hw hlong, hdep, ← hdr, List.drop_drop] at h
                  have Hnext := Lib.hid h
                  have hlz : ¬ (65535 : Int) < (t.size : Int) + (x1.size : Int) := by rw [hts, hxs, ← Int.natCast_add]; omega
                  have Hto : Hid (((p : Int) + 1) = ((p + 1 : Nat) : Int)) := Lib.hid (by omega)
                  have Hln : Hid ((out ++ [c]).length ≤ 65535) := Lib.hid (by rw [List.length_append]; omega)
                  have Htx : Hid ((t ++ x1).data.toList = out ++ [c]) := Lib.hid (by rw [app_data, htd, hxd])
                  have hsz : t.size + x1.size ≤ 9223372036854775807 := by rw [hts, hxs]; omega
                  clear hpl
                  clear hw hlong h hts hxs hxd htd
                  go_wp2_with fail
                  refine (HE.out _).mono ?_
                  rintro e w1 ⟨rfl, rfl⟩
                  go_wp2_with fail
                  go_roundg (s.size - (p + 1))
                  case measure => omega
                  case rel => exact ⟨p + 1, n + 1, d - 1, t ++ x1, out ++ [c], by omega, by omega, by omega, by omega, by rw [← Hto.out], rfl, by rw [← Hdi.out], Htx.out, Hln.out, Hnext.out, HB.out⟩
            · have hc5 : ((c.toNat : Int) == 41) = false := by simp; omega
              have hend : ¬ (c.toNat = 41 ∧ d = 1) := by omega
              have hdep : depthT d c = d := depth_same h40 h41
              clear hmd hm h92 h41 h40
              have hpl : ([c]).length ≤ 1000000000 := by simp
              by_cases hlong : 65535 < out.length + ([c]).length
              · rw [text_long hend hw hlong] at h
                subst h
                have hlz : (65535 : Int) < (t.size : Int) + (x1.size : Int) := by rw [hts, hxs, ← Int.natCast_add]; omega
                have hsz : t.size + x1.size ≤ 9223372036854775807 := by rw [hts, hxs]; omega
                clear hpl
                clear hw hlong hts hxs hxd htd
                go_wp2_with fail
                refine (HE.out _).mono ?_
                rintro e w1 ⟨rfl, rfl⟩
                go_wp2_with fail
                exact bodyPost_ret (v := .tuple #[.string ⟨#[]⟩, .int .i64 0, .int .i64 8]) (by simp [results, Try.results33, go_sem]) rfl ⟨rfl, HB.out⟩
              · rw [text_step hend hw hlong, hdep, ← hdr, List.drop_drop] at h
                have Hnext := Lib.hid h
                have hlz : ¬ (65535 : Int) < (t.size : Int) + (x1.size : Int) := by rw [hts, hxs, ← Int.natCast_add]; omega
                have Hto : Hid (((p : Int) + 1) = ((p + 1 : Nat) : Int)) := Lib.hid (by omega)
                have Hln : Hid ((out ++ [c]).length ≤ 65535) := Lib.hid (by rw [List.length_append]; omega)
                have Htx : Hid ((t ++ x1).data.toList = out ++ [c]) := Lib.hid (by rw [app_data, htd, hxd])
                have hsz : t.size + x1.size ≤ 9223372036854775807 := by rw [hts, hxs]; omega
                clear hpl
                clear hw hlong h hts hxs hxd htd
                go_wp2_with fail
                refine (HE.out _).mono ?_
                rintro e w1 ⟨rfl, rfl⟩
                go_wp2_with fail
                go_roundg (s.size - (p + 1))
                case measure => omega
                case rel => exact ⟨p + 1, n + 1, d, t ++ x1, out ++ [c], by omega, by omega, by omega, by omega, by rw [← Hto.out], rfl, by first | rfl | go_num, Htx.out, Hln.out, Hnext.out, HB.out⟩
      · have hcc : c.toNat = 10 ∨ c.toNat = 13 := by
          rcases Nat.decEq c.toNat 10 with a | a
          · rcases Nat.decEq c.toNat 13 with b | b
            · exfalso
              have := (ends_byte s p hlt).2 (by rw [hc]; omega)
              omega
            · exact .inr b
          · exact .inl a
        have hw : withinL (c :: s.data.toList.drop (p + 1)) = ([10], m) := within_ends hmd hm0
        have hend : ¬ (c.toNat = 41 ∧ d = 1) := by omega
        have hdep : depthT d c = d := depth_same (by omega) (by omega)
        have hmz0 : (0 : Int) < (m : Int) := by omega
        obtain ⟨x, hx⟩ : ∃ x : ByteArray, (⟨#[10]⟩ : ByteArray) = x := ⟨_, rfl⟩
        have hxd : x.data.toList = [10] := by rw [← hx]
        have hxs : x.size = [10].length := by rw [size_data, hxd]; rfl
        clear hmd hm hcc
        have hpl : ([10]).length ≤ 1000000000 := by simp
        by_cases hlong : 65535 < out.length + ([10]).length
        · rw [text_long hend hw hlong] at h
          subst h
          have hlz : (65535 : Int) < (t.size : Int) + (x.size : Int) := by rw [hts, hxs, ← Int.natCast_add]; omega
          have hsz : t.size + x.size ≤ 9223372036854775807 := by rw [hts, hxs]; omega
          clear hpl
          clear hw hlong hts hxs hxd htd
          go_wp2_with fail
          refine (HE.out _).mono ?_
          rintro e w1 ⟨rfl, rfl⟩
          go_wp2_with fail
          exact bodyPost_ret (v := .tuple #[.string ⟨#[]⟩, .int .i64 0, .int .i64 8]) (by simp [results, Try.results33, go_sem]) rfl ⟨rfl, HB.out⟩
        · rw [text_step hend hw hlong, hdep, ← hdr, List.drop_drop] at h
          have Hnext := Lib.hid h
          have hlz : ¬ (65535 : Int) < (t.size : Int) + (x.size : Int) := by rw [hts, hxs, ← Int.natCast_add]; omega
          have Hto : Hid (((p : Int) + (m : Int)) = ((p + m : Nat) : Int)) := Lib.hid (by omega)
          have Hln : Hid ((out ++ [10]).length ≤ 65535) := Lib.hid (by rw [List.length_append]; omega)
          have Htx : Hid ((t ++ x).data.toList = out ++ [10]) := Lib.hid (by rw [app_data, htd, hxd])
          have hsz : t.size + x.size ≤ 9223372036854775807 := by rw [hts, hxs]; omega
          clear hpl
          clear hw hlong h hts hxs hxd htd
          go_wp2_with fail
          refine (HE.out _).mono ?_
          rintro e w1 ⟨rfl, rfl⟩
          go_wp2_with fail
          go_roundg (s.size - (p + m))
          case measure => omega
          case rel => exact ⟨p + m, n + m, d, t ++ x, out ++ [10], by omega, by omega, by omega, by omega, by rw [← Hto.out], rfl, by first | rfl | go_num, Htx.out, Hln.out, Hnext.out, HB.out⟩
end Go.Proofs.Ytejgcnmbngdkiaa
