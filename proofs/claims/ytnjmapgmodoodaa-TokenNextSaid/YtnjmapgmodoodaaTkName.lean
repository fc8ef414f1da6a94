/-
  token.name: a name, from its / on.
-/
import Derived.Test.YtnjmapgmodoodaaTkHid
import Derived.Test.YtnjmapgmodoodaaTkSkip
import Derived.Test.YtnjmapgmodoodaaTkSay
namespace Go.Proofs.Ytnjmapgmodoodaa
open Go.RowKit
set_option maxRecDepth 100000

set_option maxHeartbeats 2000000 in
theorem name_any (u : ByteArray) (w : World) (hs : u.size ≤ 1000000000) (h0 : 0 < u.size) :
    Calls Try.prog 26 #[.string u] w fun e w' => e = .returned (nameGo [] 1 (u.data.toList.drop 1)).told ∧ Below w.heap.size w w' := by
  obtain ⟨r, hr⟩ : ∃ r, nameGo [] 1 (u.data.toList.drop 1) = r := ⟨_, rfl⟩
  rw [hr]
  have Hr := Lib.hid hr
  clear hr
  have HS0 := Lib.hid (SayAt.new w)
  unfold tokC at HS0
  go_enter Try.func26, Try.ntmps26
  go_wp2_with fail
  go_loopg [5] (u.size - 1) (fun g v5 wx => ∃ (k : Nat) (out : List UInt8), k + g = u.size ∧ v5 = .int .i64 k ∧ out.length ≤ 127 ∧ Aside (nameGo out k (u.data.toList.drop k) = r) ∧ Aside (SayAt w out wx))
  case atStart => exact ⟨1, [], by omega, rfl, by decide, Hr.out, HS0.out⟩
  case round =>
    obtain ⟨k, out, hk, rfl, ho, HR, HS⟩ := hrel
    clear Hr HS0
    have HLen := Lib.hid (say_len HS.out)
    cases gk with
    | zero =>
      obtain rfl : k = u.size := by omega
      have hz : ¬ ((u.size : Int) < (u.size : Int)) := by omega
      have h := HR.out
      rw [drop_end u _ (Nat.le_refl _), name_nil] at h
      subst h
      go_wp2_with fail
      refine (say_string HS.out).mono ?_
      rintro e w1 ⟨rfl, hn⟩
      have HN := Lib.hid hn
      clear hn
      go_wp2_with (refine TokCell.store rfl rfl _ _ rfl w.heap.size (tokC 0 0 ⟨#[]⟩ 0 0) _ _ _ _ _ rfl rfl HN.out.1 rfl w.heap.size w HN.out.2.2.1 (Nat.le_refl _) ?_; intro w2 HT HB HO; clear HO)
      obtain ⟨k0, k1, k2, k3, k4⟩ := HT.out.parts
      exact bodyPost_ret (v := .tuple #[.agg #[.int .i64 2, .int .i64 0, .string (bytes out), .int .i64 0, .int .i64 u.size], .int .i64 0]) (by simp [results, Try.results26, go_sem, k0, k1, k2, k3, k4]) rfl ⟨rfl, HB.out⟩
    | succ g =>
      have hlt : k < u.size := by omega
      have hz : (k : Int) < (u.size : Int) := by omega
      have hk0 : (0 : Int) ≤ (k : Int) := by omega
      obtain ⟨c, hc⟩ : ∃ c, u[k] = c := ⟨_, rfl⟩
      have h := HR.out
      rw [drop_byte u k hlt, hc] at h
      by_cases hkd : kindI (c.toNat : Int) = 2
      · have HK := Lib.hid (fun W => kind_is c hkd W)
        by_cases h35 : c.toNat = 35
        · have h35' : ((c.toNat : Int) == 35) = true := by simp; omega
          have hcut : (u.extract k u.size).data.toList = c :: u.data.toList.drop (k + 1) := by rw [Lib.extract_to_end, drop_byte u k hlt, hc]
          have HH := Lib.hid (fun W => hidden_any (u.extract k u.size) W (by rw [ByteArray.size_extract]; unfold maxLen; omega))
          rw [hcut] at HH
          cases hb : hidL (c :: u.data.toList.drop (k + 1)) with
          | none =>
            rw [name_form hkd h35 hb] at h
            subst h
            rw [hb] at HH
            unfold hidV at HH
            clear hb hcut hkd h35
            go_wp2_with fail
            refine (HK.out _).mono ?_
            rintro e w1 ⟨rfl, rfl⟩
            go_wp2_with fail
            refine (HH.out _).mono ?_
            rintro e w1 ⟨rfl, hb⟩
            have HN := Lib.hid (HS.out.later hb)
            clear hb
            go_wp2_with (refine TokCell.store rfl rfl _ _ rfl w.heap.size (tokC 0 0 ⟨#[]⟩ 0 0) _ _ _ _ _ rfl rfl HN.out.1 rfl w.heap.size w HN.out.2.2.1 (Nat.le_refl _) ?_; intro w2 HT HB HO; clear HO)
            obtain ⟨k0, k1, k2, k3, k4⟩ := HT.out.parts
            exact bodyPost_ret (v := .tuple #[.agg #[.int .i64 0, .int .i64 0, .string ⟨#[]⟩, .int .i64 0, .int .i64 0], .int .i64 4]) (by simp [results, Try.results26, go_sem, k0, k1, k2, k3, k4]) rfl ⟨rfl, HB.out⟩
          | some b =>
            rw [name_hid hkd h35 hb] at h
            rw [hb] at HH
            unfold hidV at HH
            have hl3 := hidL_length hb
            rw [List.length_cons, List.length_drop, ← size_data] at hl3
            have hk3 : k + 3 ≤ u.size := by omega
            by_cases hlong : 127 ≤ out.length
            · rw [if_pos hlong] at h
              subst h
              have hol : ((out.length : Int) == 127) = true := by simp; omega
              clear hb hcut hkd h35 hl3
              go_wp2_with fail
              refine (HK.out _).mono ?_
              rintro e w1 ⟨rfl, rfl⟩
              go_wp2_with fail
              refine (HH.out _).mono ?_
              rintro e w1 ⟨rfl, hb⟩
              have HN := Lib.hid (HS.out.later hb)
              clear hb
              go_wp2_with fail
              refine (say_len HN.out).mono ?_
              rintro e w1 ⟨rfl, rfl⟩
              go_wp2_with (refine TokCell.store rfl rfl _ _ rfl w.heap.size (tokC 0 0 ⟨#[]⟩ 0 0) _ _ _ _ _ rfl rfl HN.out.1 rfl w.heap.size w HN.out.2.2.1 (Nat.le_refl _) ?_; intro w2 HT HB HO; clear HO)
              obtain ⟨k0, k1, k2, k3, k4⟩ := HT.out.parts
              exact bodyPost_ret (v := .tuple #[.agg #[.int .i64 0, .int .i64 0, .string ⟨#[]⟩, .int .i64 0, .int .i64 0], .int .i64 8]) (by simp [results, Try.results26, go_sem, k0, k1, k2, k3, k4]) rfl ⟨rfl, HB.out⟩
            · rw [if_neg hlong, List.drop_drop] at h
              have Hnext := Lib.hid h
              have hol : ((out.length : Int) == 127) = false := by simp; omega
              clear hb hcut hkd h35 hl3 h
              go_wp2_with fail
              refine (HK.out _).mono ?_
              rintro e w1 ⟨rfl, rfl⟩
              go_wp2_with fail
              refine (HH.out _).mono ?_
              rintro e w1 ⟨rfl, hb⟩
              have HN := Lib.hid (HS.out.later hb)
              clear hb
              go_wp2_with fail
              refine (say_len HN.out).mono ?_
              rintro e w1 ⟨rfl, rfl⟩
              go_wp2_with fail
              refine (say_byte b HN.out (by omega)).mono ?_
              rintro e w1 ⟨rfl, hn⟩
              have HN2 := Lib.hid hn
              clear hn
              go_wp2_with fail
              go_roundg (u.size - (k + 3))
              case measure => omega
              case rel => exact ⟨k + 3, out ++ [b], by omega, by go_num, by simp; omega, Hnext.out, HN2.out⟩
        · have h35' : ((c.toNat : Int) == 35) = false := by simp; omega
          rw [name_plain hkd h35] at h
          by_cases hlong : 127 ≤ out.length
          · rw [if_pos hlong] at h
            subst h
            have hol : ((out.length : Int) == 127) = true := by simp; omega
            clear hkd h35
            go_wp2_with fail
            refine (HK.out _).mono ?_
            rintro e w1 ⟨rfl, rfl⟩
            go_wp2_with fail
            refine HLen.out.mono ?_
            rintro e w1 ⟨rfl, rfl⟩
            go_wp2_with (refine TokCell.store rfl rfl _ _ rfl w.heap.size (tokC 0 0 ⟨#[]⟩ 0 0) _ _ _ _ _ rfl rfl HS.out.1 rfl w.heap.size w HS.out.2.2.1 (Nat.le_refl _) ?_; intro w2 HT HB HO; clear HO)
            obtain ⟨k0, k1, k2, k3, k4⟩ := HT.out.parts
            exact bodyPost_ret (v := .tuple #[.agg #[.int .i64 0, .int .i64 0, .string ⟨#[]⟩, .int .i64 0, .int .i64 0], .int .i64 8]) (by simp [results, Try.results26, go_sem, k0, k1, k2, k3, k4]) rfl ⟨rfl, HB.out⟩
          · rw [if_neg hlong] at h
            have Hnext := Lib.hid h
            have hol : ((out.length : Int) == 127) = false := by simp; omega
            clear hkd h35 h
            go_wp2_with fail
            refine (HK.out _).mono ?_
            rintro e w1 ⟨rfl, rfl⟩
            go_wp2_with fail
            refine HLen.out.mono ?_
            rintro e w1 ⟨rfl, rfl⟩
            go_wp2_with fail
            refine (say_byte c HS.out (by omega)).mono ?_
            rintro e w1 ⟨rfl, hn⟩
            have HN2 := Lib.hid hn
            clear hn
            go_wp2_with fail
            go_roundg g
            case measure => omega
            case rel => exact ⟨k + 1, out ++ [c], by omega, by go_num, by simp; omega, Hnext.out, HN2.out⟩
      · rw [name_end hkd] at h
        subst h
        obtain ⟨x, hx⟩ : ∃ x, kindI (c.toNat : Int) = x := ⟨_, rfl⟩
        have HK := Lib.hid (fun W => kind_is c hx W)
        rw [hx] at hkd
        have hkd' : (x == 2) = false := by simpa using hkd
        clear hkd hx
        go_wp2_with fail
        refine (HK.out _).mono ?_
        rintro e w1 ⟨rfl, rfl⟩
        go_wp2_with fail
        refine (say_string HS.out).mono ?_
        rintro e w1 ⟨rfl, hn⟩
        have HN := Lib.hid hn
        clear hn
        go_wp2_with (refine TokCell.store rfl rfl _ _ rfl w.heap.size (tokC 0 0 ⟨#[]⟩ 0 0) _ _ _ _ _ rfl rfl HN.out.1 rfl w.heap.size w HN.out.2.2.1 (Nat.le_refl _) ?_; intro w2 HT HB HO; clear HO)
        obtain ⟨k0, k1, k2, k3, k4⟩ := HT.out.parts
        exact bodyPost_ret (v := .tuple #[.agg #[.int .i64 2, .int .i64 0, .string (bytes out), .int .i64 0, .int .i64 k], .int .i64 0]) (by simp [results, Try.results26, go_sem, k0, k1, k2, k3, k4]) rfl ⟨rfl, HB.out⟩
end Go.Proofs.Ytnjmapgmodoodaa
