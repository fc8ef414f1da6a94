/-
  token.text: a text in brackets.
-/
import Derived.Test.YtnjmapgmodoodaaTkWithin
import Derived.Test.YtnjmapgmodoodaaTkSay
namespace Go.Proofs.Ytnjmapgmodoodaa
open Go.RowKit
set_option maxRecDepth 100000

set_option maxHeartbeats 2000000 in
theorem text_any (u : ByteArray) (w : World) (hs : u.size ≤ 100000000) (h0 : 0 < u.size) :
    Calls Try.prog 27 #[.string u] w fun e w' => e = .returned (textGo 1 [] 1 (u.data.toList.drop 1)).told ∧ Below w.heap.size w w' := by
  obtain ⟨r, hr⟩ : ∃ r, textGo 1 [] 1 (u.data.toList.drop 1) = r := ⟨_, rfl⟩
  rw [hr]
  have Hr := Lib.hid hr
  clear hr
  have HS0 := Lib.hid (SayAt.new w)
  unfold tokC at HS0
  go_enter Try.func27, Try.ntmps27
  go_wp2_with fail
  go_step3
  go_wp2_with fail
  go_step3
  go_wp2_with fail
  go_loopg [5, 6] (u.size - 1) (fun g v5 v6 wx => ∃ (k d : Nat) (out : List UInt8), k + g = u.size ∧ 1 ≤ d ∧ d ≤ k ∧ v5 = .int .i64 d ∧ v6 = .int .i64 k ∧ out.length ≤ 65535 ∧ Aside (textGo d out k (u.data.toList.drop k) = r) ∧ Aside (SayAt w out wx))
  case atStart => exact ⟨1, 1, [], by omega, by omega, by omega, rfl, rfl, by decide, Hr.out, HS0.out⟩
  case round =>
    obtain ⟨k, d, out, hk, hd1, hdk, rfl, rfl, ho, HR, HS⟩ := hrel
    clear Hr HS0
    cases gk with
    | zero =>
      obtain rfl : k = u.size := by omega
      have hz : ¬ ((u.size : Int) < (u.size : Int)) := by omega
      have h := HR.out
      rw [drop_end u _ (Nat.le_refl _), text_nil] at h
      subst h
      go_wp2_with (refine TokCell.store rfl rfl _ _ rfl w.heap.size (tokC 0 0 ⟨#[]⟩ 0 0) _ _ _ _ _ rfl rfl HS.out.1 rfl w.heap.size w HS.out.2.2.1 (Nat.le_refl _) ?_; intro w2 HT HB HO; clear HO)
      obtain ⟨k0, k1, k2, k3, k4⟩ := HT.out.parts
      try rw [Exit.noGoto_ret]
      exact bodyPost_ret (v := .tuple #[.agg #[.int .i64 0, .int .i64 0, .string ⟨#[]⟩, .int .i64 0, .int .i64 0], .int .i64 5]) (by simp [results, Try.results27, go_sem, k0, k1, k2, k3, k4]) rfl ⟨rfl, HB.out⟩
    | succ g =>
      have hlt : k < u.size := by omega
      have hz : (k : Int) < (u.size : Int) := by omega
      have hk0 : (0 : Int) ≤ (k : Int) := by omega
      have hks : ((k : Int) == (u.size : Int)) = false := by simp; omega
      obtain ⟨c, hc⟩ : ∃ c, u[k] = c := ⟨_, rfl⟩
      have h := HR.out
      rw [drop_byte u k hlt, hc] at h
      have hcut : (u.extract k u.size).data.toList = c :: u.data.toList.drop (k + 1) := by rw [Lib.extract_to_end, drop_byte u k hlt, hc]
      by_cases hend : c.toNat = 41 ∧ d = 1
      · obtain ⟨h41, rfl⟩ := hend
        rw [text_end h41 rfl] at h
        subst h
        have hc1 : (c.toNat : Int) = 41 := by omega
        clear h41 hcut
        go_wp2_with fail
        refine (say_string HS.out).mono ?_
        rintro e w1 ⟨rfl, hn⟩
        have HN := Lib.hid hn
        clear hn
        go_wp2_with (refine TokCell.store rfl rfl _ _ rfl w.heap.size (tokC 0 0 ⟨#[]⟩ 0 0) _ _ _ _ _ rfl rfl HN.out.1 rfl w.heap.size w HN.out.2.2.1 (Nat.le_refl _) ?_; intro w2 HT HB HO; clear HO)
        obtain ⟨k0, k1, k2, k3, k4⟩ := HT.out.parts
        try rw [Exit.noGoto_ret]
        exact bodyPost_ret (v := .tuple #[.agg #[.int .i64 3, .int .i64 0, .string (bytes out), .int .i64 0, .int .i64 ((k : Int) + 1)], .int .i64 0]) (by simp [results, Try.results27, go_sem, k0, k1, k2, k3, k4]) rfl ⟨rfl, HB.out⟩
      · obtain ⟨p, n, hw⟩ : ∃ p n, withinL (c :: u.data.toList.drop (k + 1)) = (p, n) := ⟨_, _, rfl⟩
        have HW := Lib.hid (fun W => within_any (u.extract k u.size) c _ W (by rw [ByteArray.size_extract]; unfold maxLen; omega) hcut hw)
        have hwl := within_len (c :: u.data.toList.drop (k + 1))
        have hwp := within_pos c (u.data.toList.drop (k + 1))
        rw [hw] at hwl hwp
        have hdl : (c :: u.data.toList.drop (k + 1)).length = u.size - k := by rw [← hcut, ← size_data, ByteArray.size_extract]; omega
        rw [hdl] at hwl
        simp only at hwl hwp
        obtain ⟨x, hx⟩ : ∃ x, bytes p = x := ⟨_, rfl⟩
        have hxd : x.data.toList = p := by rw [← hx, bytes_data]
        have hxs : x.size = p.length := by rw [size_data, hxd]
        rw [hx] at HW
        have hcase : (c.toNat = 40 ∧ depthL d c = d + 1) ∨ (c.toNat = 41 ∧ 2 ≤ d ∧ depthL d c = d - 1) ∨ (¬ c.toNat = 40 ∧ ¬ c.toNat = 41 ∧ depthL d c = d) := by
          unfold depthL
          by_cases h40 : c.toNat = 40
          · exact .inl ⟨h40, if_pos h40⟩
          · by_cases h41 : c.toNat = 41
            · exact .inr (.inl ⟨h41, by omega, by rw [if_neg h40, if_pos h41]⟩)
            · exact .inr (.inr ⟨h40, h41, by rw [if_neg h40, if_neg h41]⟩)
        obtain ⟨dd, hdd⟩ : ∃ dd, depthL d c = dd := ⟨_, rfl⟩
        by_cases hlong : 65535 < out.length + p.length
        · rw [text_long hend hw hlong] at h
          subst h
          have hlen : (65535 : Int) < ((out ++ x.data.toList).length : Int) := by rw [hxd, List.length_append]; omega
          have Hxs : Hid (out.length + x.size ≤ 1000000000) := Lib.hid (by omega)
          have hcase' : (c.toNat : Int) = 40 ∨ ((c.toNat : Int) = 41 ∧ ((d : Int) - 1 == 0) = false) ∨ (((c.toNat : Int) == 40) = false ∧ ((c.toNat : Int) == 41) = false) := by
            rcases hcase with h | h | h
            · exact .inl (by omega)
            · exact .inr (.inl ⟨by omega, by simp; omega⟩)
            · exact .inr (.inr ⟨by simp; omega, by simp; omega⟩)
          obtain ⟨len, hl⟩ : ∃ len, (out ++ x.data.toList).length = len := ⟨_, rfl⟩
          rw [hl] at hlen
          have Hl := Lib.hid hl
          clear hcase hcut hend hw hwl hwp hdl hx hxd hxs hdd hlong hl
          rcases hcase' with h40 | ⟨h41, hd2⟩ | ⟨h40, h41⟩
          all_goals
            go_wp2_with fail
            refine (HW.out _).mono ?_
            rintro e w1 ⟨rfl, hb⟩
            have HN := Lib.hid (HS.out.later hb)
            clear hb
            go_wp2_with fail
            refine (say_text x HN.out Hxs.out).mono ?_
            rintro e w1 ⟨rfl, hn⟩
            have HN2 := Lib.hid hn
            clear hn
            go_wp2_with fail
            refine (say_len HN2.out).mono ?_
            rintro e w1 ⟨rfl, rfl⟩
            rw [Hl.out]
            go_wp2_with (refine TokCell.store rfl rfl _ _ rfl w.heap.size (tokC 0 0 ⟨#[]⟩ 0 0) _ _ _ _ _ rfl rfl HN2.out.1 rfl w.heap.size w HN2.out.2.2.1 (Nat.le_refl _) ?_; intro w2 HT HB HO; clear HO)
            obtain ⟨k0, k1, k2, k3, k4⟩ := HT.out.parts
            try rw [Exit.noGoto_ret]
            exact bodyPost_ret (v := .tuple #[.agg #[.int .i64 0, .int .i64 0, .string ⟨#[]⟩, .int .i64 0, .int .i64 0], .int .i64 8]) (by simp [results, Try.results27, go_sem, k0, k1, k2, k3, k4]) rfl ⟨rfl, HB.out⟩
        · rw [text_step hend hw hlong, hdd, ← hcut, Lib.extract_to_end, List.drop_drop, ← hxd] at h
          have Hnext := Lib.hid h
          have Hlo : Hid ((out ++ x.data.toList).length ≤ 65535) := Lib.hid (by rw [hxd, List.length_append]; omega)
          have hlen : ¬ (65535 : Int) < ((out ++ x.data.toList).length : Int) := by have := Hlo.out; omega
          have Hxs : Hid (out.length + x.size ≤ 1000000000) := Lib.hid (by omega)
          have hcase' : ((c.toNat : Int) = 40 ∧ (d : Int) + 1 = (dd : Int)) ∨ ((c.toNat : Int) = 41 ∧ ((d : Int) - 1 == 0) = false ∧ (d : Int) - 1 = (dd : Int)) ∨ (((c.toNat : Int) == 40) = false ∧ ((c.toNat : Int) == 41) = false ∧ (d : Int) = (dd : Int)) := by
            rcases hcase with h | h | h
            · exact .inl ⟨by omega, by omega⟩
            · exact .inr (.inl ⟨by omega, by simp; omega, by omega⟩)
            · exact .inr (.inr ⟨by simp; omega, by simp; omega, by omega⟩)
          have hdd1 : 1 ≤ dd ∧ dd ≤ k + 1 := by rcases hcase with h | h | h <;> omega
          obtain ⟨len, hl⟩ : ∃ len, (out ++ x.data.toList).length = len := ⟨_, rfl⟩
          rw [hl] at hlen
          have Hl := Lib.hid hl
          clear h hcase hcut hend hw hdl hx hxd hxs hdd hlong hl
          rcases hcase' with ⟨h40, hde⟩ | ⟨h41, hd2, hde⟩ | ⟨h40, h41, hde⟩
          all_goals
            have Hde := Lib.hid hde
            clear hde
            go_wp2_with fail
            refine (HW.out _).mono ?_
            rintro e w1 ⟨rfl, hb⟩
            have HN := Lib.hid (HS.out.later hb)
            clear hb
            go_wp2_with fail
            refine (say_text x HN.out Hxs.out).mono ?_
            rintro e w1 ⟨rfl, hn⟩
            have HN2 := Lib.hid hn
            clear hn
            go_wp2_with fail
            refine (say_len HN2.out).mono ?_
            rintro e w1 ⟨rfl, rfl⟩
            rw [Hl.out]
            go_wp2_with fail
            go_roundg (u.size - (k + n))
            case measure => omega
            case rel => exact ⟨k + n, dd, out ++ x.data.toList, by omega, by omega, by omega, by rw [← Hde.out]; first | done | rfl | go_num, by go_num, Hlo.out, Hnext.out, HN2.out⟩
end Go.Proofs.Ytnjmapgmodoodaa
