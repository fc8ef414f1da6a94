/-
  token.hexText: a text of hexadecimal digits.
-/
import Derived.Test.YtnjmapgmodoodaaTkHid
import Derived.Test.YtnjmapgmodoodaaTkSkip
import Derived.Test.YtnjmapgmodoodaaTkSay
import Derived.Test.YtnjmapgmodoodaaTkPut
namespace Go.Proofs.Ytnjmapgmodoodaa
open Go.RowKit
set_option maxRecDepth 100000

/-- The sign that is to be told, the digits that were put, and all else as it was. -/
def HexAt (w : World) (ds : List Nat) (wx : World) : Prop :=
  TokCell wx w.heap.size (tokC 0 0 ⟨#[]⟩ 0 0) ∧ DigAt (w.heap.size + 1) ds wx ∧ Below w.heap.size w wx ∧ w.heap.size + 4 ≤ wx.heap.size
theorem HexAt.new (w : World) : HexAt w [] ((((w.alloc (.cells (tokC 0 0 ⟨#[]⟩ 0 0) 24)).alloc (.cells #[.pointer none, .slice none 0 0] 62)).alloc (.cells #[.pointer (some ⟨w.heap.size + 1, 0, none⟩)] 60)).alloc (.cells #[.int .i64 (-1)] 3)) := by
  have h := SayAt.new w
  obtain ⟨W, hW⟩ : ∃ W, (w.alloc (.cells (tokC 0 0 ⟨#[]⟩ 0 0) 24)).alloc (.cells #[.pointer none, .slice none 0 0] 62) = W := ⟨_, rfl⟩
  have hs : W.heap.size = w.heap.size + 2 := by rw [← hW]; simp
  rw [hW] at h ⊢
  clear hW
  have h2 := (h.later (w' := W.alloc (.cells #[.pointer (some ⟨w.heap.size + 1, 0, none⟩)] 60)) ((Below.refl _ W).alloc (Nat.le_refl _) _))
  have h3 := (h2.later (w' := (W.alloc (.cells #[.pointer (some ⟨w.heap.size + 1, 0, none⟩)] 60)).alloc (.cells #[.int .i64 (-1)] 3)) ((Below.refl _ _).alloc (Nat.le_refl _) _))
  refine ⟨h3.1, .inl ⟨rfl, h3.2.1, ?_, ?_⟩, h3.2.2.1, by simp; omega⟩
  · rw [Lib.alloc_old _ _ _ (by simp; omega)]
    have := heap_alloc_new W (.cells #[.pointer (some ⟨w.heap.size + 1, 0, none⟩)] 60)
    rw [hs] at this
    exact this
  · have := heap_alloc_new (W.alloc (.cells #[.pointer (some ⟨w.heap.size + 1, 0, none⟩)] 60)) (.cells #[.int .i64 (-1)] 3)
    rw [World.size_alloc, hs] at this
    exact this
theorem hex_digit_put {w wx : World} {ds : List Nat} (d : Nat) (h : HexAt w ds wx) (hd : d < 16) (hl : ds.length ≤ 1000000000) :
    Calls Try.prog 52 #[.int .i64 (d : Int), .pointer (some ⟨w.heap.size + 2 + 1, 0, none⟩), .pointer (some ⟨w.heap.size + 2, 0, none⟩)] wx fun e w' => e = .returned (.tuple #[]) ∧ HexAt w (ds ++ [d]) w' :=
  (put_any (w.heap.size + 1) ds d wx h.2.1 hd hl (by have := h.2.2.2; omega)).mono fun e w' ⟨he, hn, hb⟩ =>
    ⟨he, h.1.later hb (Nat.lt_succ_self _), hn, h.2.2.1.trans (hb.mono (Nat.le_succ _)), Nat.le_trans h.2.2.2 hb.size⟩
theorem hex_len {w wx : World} {ds : List Nat} (h : HexAt w ds wx) : Calls Try.prog 39 #[.pointer (some ⟨w.heap.size + 1, 0, none⟩)] wx fun e w' => e = .returned (.int .i64 ((ds.length / 2 : Nat) : Int)) ∧ wx = w' := by
  obtain ⟨l, hb, hl⟩ := h.2.1.some
  rw [← hl]; exact len_is _ _ _ _ hb
theorem hex_told {w wx : World} {ds : List Nat} (h : HexAt w (ds ++ [0]) wx) : SayAt w (pairsH ds) wx := ⟨h.1, h.2.1.told, h.2.2.1, by have := h.2.2.2; omega⟩

set_option maxHeartbeats 2000000 in
theorem hexText_any (u : ByteArray) (w : World) (hs : u.size ≤ 100000000) (h0 : 0 < u.size) :
    Calls Try.prog 29 #[.string u] w fun e w' => e = .returned (hexGo [] 1 (u.data.toList.drop 1)).told ∧ Below w.heap.size w w' := by
  obtain ⟨r, hr⟩ : ∃ r, hexGo [] 1 (u.data.toList.drop 1) = r := ⟨_, rfl⟩
  rw [hr]
  have Hr := Lib.hid hr
  clear hr
  have HS0 := Lib.hid (HexAt.new w)
  unfold tokC at HS0
  go_enter Try.func29, Try.ntmps29
  go_wp2_with fail
  go_step3
  go_wp2_with fail
  refine (pairing_is _ _).mono ?_
  rintro e w1 ⟨rfl, rfl⟩
  go_wp2_with fail
  go_step3
  go_wp2_with fail
  go_loopg [6] (u.size - 1) (fun g v6 wx => ∃ (k : Nat) (ds : List Nat), k + g = u.size ∧ v6 = .int .i64 k ∧ ds.length ≤ k ∧ Aside (hexGo ds k (u.data.toList.drop k) = r) ∧ Aside (HexAt w ds wx))
  case atStart => exact ⟨1, [], by omega, rfl, by decide, Hr.out, HS0.out⟩
  case round =>
    obtain ⟨k, ds, hk, rfl, hdk, HR, HS⟩ := hrel
    clear Hr HS0
    cases gk with
    | zero =>
      obtain rfl : k = u.size := by omega
      have hz : ¬ ((u.size : Int) < (u.size : Int)) := by omega
      have h := HR.out
      rw [drop_end u _ (Nat.le_refl _)] at h
      obtain rfl : Sg.err 5 = r := h
      go_wp2_with (refine TokCell.store rfl rfl _ _ rfl w.heap.size (tokC 0 0 ⟨#[]⟩ 0 0) _ _ _ _ _ rfl rfl HS.out.1 rfl w.heap.size w HS.out.2.2.1 (Nat.le_refl _) ?_; intro w2 HT HB HO; clear HO)
      obtain ⟨k0, k1, k2, k3, k4⟩ := HT.out.parts
      try rw [Exit.noGoto_ret]
      exact bodyPost_ret (v := .tuple #[.agg #[.int .i64 0, .int .i64 0, .string ⟨#[]⟩, .int .i64 0, .int .i64 0], .int .i64 5]) (by simp [results, Try.results29, go_sem, k0, k1, k2, k3, k4]) rfl ⟨rfl, HB.out⟩
    | succ g =>
      have hlt : k < u.size := by omega
      have hz : (k : Int) < (u.size : Int) := by omega
      have hk0 : (0 : Int) ≤ (k : Int) := by omega
      obtain ⟨c, hc⟩ : ∃ c, u[k] = c := ⟨_, rfl⟩
      have h := HR.out
      rw [drop_byte u k hlt, hc] at h
      have hx := hexI_range c
      by_cases hend : c.toNat = 62
      · rw [hex_end hend] at h
        have hlen : (pairsH ds).length = (ds.length + 1) / 2 := by
          rcases Nat.mod_two_eq_zero_or_one ds.length with e | e
          · rw [pairsH_even ds e]; omega
          · rw [pairsH_odd ds e]; omega
        obtain ⟨x, hxx⟩ : ∃ x, hexI (c.toNat : Int) = x := ⟨_, rfl⟩
        have HX := Lib.hid (fun W => hex_is c hxx W)
        have hcz : (c.toNat : Int) = 62 := by omega
        rw [hcz] at HX
        obtain ⟨m, hm⟩ : ∃ m, (pairsH ds).length = m := ⟨_, rfl⟩
        have Hm := Lib.hid hm
        rw [hm] at hlen
        by_cases hlong : 65535 < m
        · rw [if_pos (by omega)] at h
          subst h
          have hlz : (65535 : Int) < (m : Int) := by omega
          clear hm hx hxx hend hlen
          go_wp2_with fail
          refine (HX.out _).mono ?_
          rintro e w1 ⟨rfl, rfl⟩
          go_wp2_with fail
          refine (hex_digit_put 0 HS.out (by decide) (by omega)).mono ?_
          rintro e w1 ⟨rfl, hn⟩
          have HN := Lib.hid (hex_told hn)
          clear hn
          go_wp2_with fail
          refine (say_len HN.out).mono ?_
          rintro e w1 ⟨rfl, rfl⟩
          rw [Hm.out]
          go_wp2_with (refine TokCell.store rfl rfl _ _ rfl w.heap.size (tokC 0 0 ⟨#[]⟩ 0 0) _ _ _ _ _ rfl rfl HN.out.1 rfl w.heap.size w HN.out.2.2.1 (Nat.le_refl _) ?_; intro w2 HT HB HO; clear HO)
          obtain ⟨k0, k1, k2, k3, k4⟩ := HT.out.parts
          try rw [Exit.noGoto_ret]
          exact bodyPost_ret (v := .tuple #[.agg #[.int .i64 0, .int .i64 0, .string ⟨#[]⟩, .int .i64 0, .int .i64 0], .int .i64 8]) (by simp [results, Try.results29, go_sem, k0, k1, k2, k3, k4]) rfl ⟨rfl, HB.out⟩
        · rw [if_neg (by omega)] at h
          subst h
          have hlz : ¬ (65535 : Int) < (m : Int) := by omega
          clear hm hx hxx hend hlen
          go_wp2_with fail
          refine (HX.out _).mono ?_
          rintro e w1 ⟨rfl, rfl⟩
          go_wp2_with fail
          refine (hex_digit_put 0 HS.out (by decide) (by omega)).mono ?_
          rintro e w1 ⟨rfl, hn⟩
          have HN := Lib.hid (hex_told hn)
          clear hn
          go_wp2_with fail
          refine (say_len HN.out).mono ?_
          rintro e w1 ⟨rfl, rfl⟩
          rw [Hm.out]
          go_wp2_with fail
          refine (say_string HN.out).mono ?_
          rintro e w1 ⟨rfl, hn⟩
          have HN2 := Lib.hid hn
          clear hn
          go_wp2_with (refine TokCell.store rfl rfl _ _ rfl w.heap.size (tokC 0 0 ⟨#[]⟩ 0 0) _ _ _ _ _ rfl rfl HN2.out.1 rfl w.heap.size w HN2.out.2.2.1 (Nat.le_refl _) ?_; intro w2 HT HB HO; clear HO)
          obtain ⟨k0, k1, k2, k3, k4⟩ := HT.out.parts
          try rw [Exit.noGoto_ret]
          exact bodyPost_ret (v := .tuple #[.agg #[.int .i64 3, .int .i64 0, .string (bytes (pairsH ds)), .int .i64 0, .int .i64 ((k : Int) + 1)], .int .i64 0]) (by simp [results, Try.results29, go_sem, k0, k1, k2, k3, k4]) rfl ⟨rfl, HB.out⟩
      · have hcz : ((c.toNat : Int) == 62) = false := by simp; omega
        by_cases hw : kindI (c.toNat : Int) = 0
        · rw [hex_white hw] at h
          have Hnext := Lib.hid h
          obtain ⟨x, hxx⟩ : ∃ x, hexI (c.toNat : Int) = x := ⟨_, rfl⟩
          have HX := Lib.hid (fun W => hex_is c hxx W)
          have HK := Lib.hid (fun W => kind_is c hw W)
          clear h hx hxx hend hw
          go_wp2_with fail
          refine (HX.out _).mono ?_
          rintro e w1 ⟨rfl, rfl⟩
          go_wp2_with fail
          refine (HK.out _).mono ?_
          rintro e w1 ⟨rfl, rfl⟩
          go_wp2_with fail
          go_roundg g
          case measure => omega
          case rel => exact ⟨k + 1, ds, by omega, by go_num, by omega, Hnext.out, HS.out⟩
        · obtain ⟨y, hy⟩ : ∃ y, kindI (c.toNat : Int) = y := ⟨_, rfl⟩
          have HK := Lib.hid (fun W => kind_is c hy W)
          have hyz : (y == 0) = false := by rw [← hy]; simpa using hw
          by_cases hh : 0 ≤ hexI (c.toNat : Int)
          · rw [hex_put hend hh] at h
            obtain ⟨d, hd⟩ : ∃ d : Nat, hexI (c.toNat : Int) = (d : Int) := ⟨(hexI (c.toNat : Int)).toNat, by omega⟩
            have HX := Lib.hid (fun W => hex_is c hd W)
            have hd16 : d < 16 := by omega
            rw [hd, Int.toNat_natCast] at h
            by_cases hlong : 65535 < (ds.length + 1) / 2
            · rw [if_pos hlong] at h
              subst h
              obtain ⟨m, hm⟩ : ∃ m, (ds ++ [d]).length / 2 = m := ⟨_, rfl⟩
              have Hm := Lib.hid hm
              have hlz : (65535 : Int) < (m : Int) := by rw [List.length_append, List.length_singleton] at hm; omega
              clear hm hx hend hw hy hh hd
              go_wp2_with fail
              refine (HX.out _).mono ?_
              rintro e w1 ⟨rfl, rfl⟩
              go_wp2_with fail
              refine (HK.out _).mono ?_
              rintro e w1 ⟨rfl, rfl⟩
              go_wp2_with fail
              refine (hex_digit_put d HS.out hd16 (by omega)).mono ?_
              rintro e w1 ⟨rfl, hn⟩
              have HN := Lib.hid hn
              clear hn
              go_wp2_with fail
              refine (hex_len HN.out).mono ?_
              rintro e w1 ⟨rfl, rfl⟩
              rw [Hm.out]
              go_wp2_with (refine TokCell.store rfl rfl _ _ rfl w.heap.size (tokC 0 0 ⟨#[]⟩ 0 0) _ _ _ _ _ rfl rfl HN.out.1 rfl w.heap.size w HN.out.2.2.1 (Nat.le_refl _) ?_; intro w2 HT HB HO; clear HO)
              obtain ⟨k0, k1, k2, k3, k4⟩ := HT.out.parts
              try rw [Exit.noGoto_ret]
              exact bodyPost_ret (v := .tuple #[.agg #[.int .i64 0, .int .i64 0, .string ⟨#[]⟩, .int .i64 0, .int .i64 0], .int .i64 8]) (by simp [results, Try.results29, go_sem, k0, k1, k2, k3, k4]) rfl ⟨rfl, HB.out⟩
            · rw [if_neg hlong] at h
              have Hnext := Lib.hid h
              obtain ⟨m, hm⟩ : ∃ m, (ds ++ [d]).length / 2 = m := ⟨_, rfl⟩
              have Hm := Lib.hid hm
              have hlz : ¬ (65535 : Int) < (m : Int) := by rw [List.length_append, List.length_singleton] at hm; omega
              clear h hm hx hend hw hy hh hd
              go_wp2_with fail
              refine (HX.out _).mono ?_
              rintro e w1 ⟨rfl, rfl⟩
              go_wp2_with fail
              refine (HK.out _).mono ?_
              rintro e w1 ⟨rfl, rfl⟩
              go_wp2_with fail
              refine (hex_digit_put d HS.out hd16 (by omega)).mono ?_
              rintro e w1 ⟨rfl, hn⟩
              have HN := Lib.hid hn
              clear hn
              go_wp2_with fail
              refine (hex_len HN.out).mono ?_
              rintro e w1 ⟨rfl, rfl⟩
              rw [Hm.out]
              go_wp2_with fail
              go_roundg g
              case measure => omega
              case rel => exact ⟨k + 1, ds ++ [d], by omega, by go_num, by simp; omega, Hnext.out, HN.out⟩
          · rw [hex_bad hend hh hw] at h
            subst h
            have hm1 : hexI (c.toNat : Int) = -1 := by omega
            have HX := Lib.hid (fun W => hex_is c hm1 W)
            clear hx hend hw hy hh hm1
            go_wp2_with fail
            refine (HX.out _).mono ?_
            rintro e w1 ⟨rfl, rfl⟩
            go_wp2_with fail
            refine (HK.out _).mono ?_
            rintro e w1 ⟨rfl, rfl⟩
            go_wp2_with (refine TokCell.store rfl rfl _ _ rfl w.heap.size (tokC 0 0 ⟨#[]⟩ 0 0) _ _ _ _ _ rfl rfl HS.out.1 rfl w.heap.size w HS.out.2.2.1 (Nat.le_refl _) ?_; intro w2 HT HB HO; clear HO)
            obtain ⟨k0, k1, k2, k3, k4⟩ := HT.out.parts
            try rw [Exit.noGoto_ret]
            exact bodyPost_ret (v := .tuple #[.agg #[.int .i64 0, .int .i64 0, .string ⟨#[]⟩, .int .i64 0, .int .i64 0], .int .i64 4]) (by simp [results, Try.results29, go_sem, k0, k1, k2, k3, k4]) rfl ⟨rfl, HB.out⟩
end Go.Proofs.Ytnjmapgmodoodaa
