/-
  hexa.Decode: the bytes of digits.
-/
import Derived.Test.YtjbdejkmmncmcaaHRef2
import Derived.Test.YtjbdejkmmncmcaaHOct
import Derived.Test.YtjbdejkmmncmcaaHPut
namespace Go.Proofs.Ytjbdejkmmncmcaa
open Go.RowKit

theorem put_here (B : Nat) (ds : List Nat) (d : Nat) (w : World) (h : DigAt B ds w) (hd : d < 16) (hl : ds.length ≤ 1000000) (hB : B ≤ w.heap.size) :
    Calls Try.prog 24 #[.int .i64 (d : Int), .pointer (some ⟨B + 1 + 1, 0, none⟩), .pointer (some ⟨B + 1, 0, none⟩)] w fun e w' => e = .returned (.tuple #[]) ∧ DigAt B (ds ++ [d]) w' ∧ Below B w w' :=
  put_any B ds d w h hd hl hB

set_option maxHeartbeats 1000000 in
theorem hexDec_any (s : ByteArray) (w : World) (hs : s.size ≤ 100000) :
    Calls Try.prog 10 #[.string s] w fun e w' => e = .returned (.tuple #[.string ⟨(decH s.data.toList).1.toArray⟩, .int .i64 (decH s.data.toList).2]) ∧ Below w.heap.size w w' := by
  obtain ⟨r, hr⟩ : ∃ r, decH s.data.toList = r := ⟨_, rfl⟩
  rw [hr]
  rw [← going_start] at hr
  have Hr := Lib.hid hr
  clear hr
  go_enter Try.func10, Try.ntmps10
  go_wp2_with fail
  refine (pairing_is _ _).mono ?_
  rintro e w1 ⟨rfl, rfl⟩
  go_wp2_with fail
  go_loopg [6, 13] s.size (fun g s6 s13 wx => ∃ (k : Nat) (e : Bool) (ds : List Nat), k + g = s.size ∧ s6 = .bool e ∧ s13 = .int .i64 k ∧ ds.length ≤ k ∧ Aside (goingH e ds (s.data.toList.drop k) = r) ∧ Aside (DigAt w.heap.size ds wx) ∧ Below w.heap.size w wx)
  case atStart =>
    refine ⟨0, false, [], by omega, rfl, rfl, Nat.le_refl _, Hr.out, Or.inl ⟨rfl, ?_⟩, (((Below.refl _ w).alloc (Nat.le_refl _) _).alloc (by simp) _).alloc (by simp; omega) _⟩
    refine ⟨((Bld.fresh w).alloc _).alloc _, ?_, ?_⟩
    · rw [Lib.alloc_old _ _ _ (by simp)]
      have := heap_alloc_new (w.alloc (.cells #[.pointer none, .slice none 0 0] 35)) (.cells #[.pointer (some ⟨w.heap.size, 0, none⟩)] 32)
      simpa using this
    · have := heap_alloc_new ((w.alloc (.cells #[.pointer none, .slice none 0 0] 35)).alloc (.cells #[.pointer (some ⟨w.heap.size, 0, none⟩)] 32)) (.cells #[.int .i64 (-1)] 3)
      simpa using this
  case round =>
    obtain ⟨k, e, ds, hkg, rfl, rfl, hdk, hr, HO, hb⟩ := hrel
    have Hb := Lib.hid hb
    clear hb Hr
    cases gk with
    | zero =>
      obtain rfl : k = s.size := by omega
      have hnil : s.data.toList.drop s.size = [] := List.drop_eq_nil_of_le (by rw [← size_data]; exact Nat.le_refl _)
      have hr' := hr.out
      rw [hnil] at hr'
      cases e
      · obtain rfl : (([], 5) : List UInt8 × Int) = r := hr'
        go_wp2_with fail
        exact bodyPost_ret (v := .tuple #[.string ⟨#[]⟩, .int .i64 5]) (by simp [results, Try.results10, go_sem]) rfl ⟨rfl, Hb.out⟩
      · obtain rfl : ((pairsH ds, 0) : List UInt8 × Int) = r := hr'
        go_wp2_with fail
        refine (put_here w.heap.size ds 0 _ HO.out (by decide) (by omega) Hb.out.size).mono ?_
        rintro e w1 ⟨rfl, hd, hb⟩
        have Hd := Lib.hid hd.told
        have Hb1 := Lib.hid (Hb.out.trans hb)
        clear hd hb
        go_wp2_with fail
        refine (string_is w.heap.size w.heap.size _ _ Hd.out Hb1.out.size).mono ?_
        rintro e w2 ⟨rfl, -, hb, -⟩
        have Hb2 := Lib.hid (Hb1.out.trans hb)
        clear hb
        go_wp2_with fail
        exact bodyPost_ret (v := .tuple #[.string ⟨(pairsH ds).toArray⟩, .int .i64 0]) (by simp [results, Try.results10, go_sem]) rfl ⟨rfl, Hb2.out⟩
    | succ g =>
      have hk : k < s.size := by omega
      have hkz : (k : Int) < (s.size : Int) := by omega
      have hc := s[k].toNat_lt
      have hdr : s.data.toList.drop k = s[k] :: s.data.toList.drop (k + 1) := by
        rw [List.drop_eq_getElem_cons (by rw [← size_data]; exact hk)]; rfl
      have hr' := hr.out
      rw [hdr] at hr'
      have hx := hexI_range s[k]
      have Hh := Lib.hid (fun W => hex_any (s[k].toNat : Int) W (by omega) (by omega))
      have Hk := Lib.hid (fun W => kind_any (s[k].toNat : Int) W)
      by_cases hw : kindI (s[k].toNat : Int) = 0
      · rw [going_white hw] at hr'
        have Hr' := Lib.hid hr'
        have hw' : (kindI (s[k].toNat : Int) == 0) = true := by simpa using hw
        clear hr' hw hdr
        go_wp2_with fail
        refine (Hh.out _).mono ?_
        rintro _ w1 ⟨rfl, rfl⟩
        go_wp2_with fail
        refine (Hk.out _).mono ?_
        rintro _ w1 ⟨rfl, rfl⟩
        go_wp2_with fail
        go_roundg g
        case measure => omega
        case rel => exact ⟨k + 1, e, ds, by omega, rfl, by go_num, by omega, Hr'.out, HO.out, Hb.out⟩
      · have hw' : (kindI (s[k].toNat : Int) == 0) = false := by simpa using hw
        cases e
        · by_cases hend : s[k].toNat = 62
          · rw [going_end hend] at hr'
            have Hr' := Lib.hid hr'
            have hend' : ((s[k].toNat : Int) == 62) = true := by simp; omega
            clear hr' hw hdr hend
            go_wp2_with fail
            refine (Hh.out _).mono ?_
            rintro _ w1 ⟨rfl, rfl⟩
            go_wp2_with fail
            refine (Hk.out _).mono ?_
            rintro _ w1 ⟨rfl, rfl⟩
            go_wp2_with fail
            go_roundg g
            case measure => omega
            case rel => exact ⟨k + 1, true, ds, by omega, rfl, by go_num, by omega, Hr'.out, HO.out, Hb.out⟩
          · have hend' : ((s[k].toNat : Int) == 62) = false := by simp; omega
            by_cases hh : 0 ≤ hexI (s[k].toNat : Int)
            · rw [going_digit hend hh] at hr'
              have Hr' := Lib.hid hr'
              obtain ⟨d, hd⟩ : ∃ d : Nat, hexI (s[k].toNat : Int) = (d : Int) := ⟨(hexI (s[k].toNat : Int)).toNat, by omega⟩
              have hd16 : d < 16 := by omega
              rw [hd] at Hr' Hh hh
              clear hr' hw hdr hend hx hd
              go_wp2_with fail
              refine (Hh.out _).mono ?_
              rintro _ w1 ⟨rfl, rfl⟩
              go_wp2_with fail
              refine (Hk.out _).mono ?_
              rintro _ w1 ⟨rfl, rfl⟩
              go_wp2_with fail
              refine (put_here w.heap.size ds d _ HO.out hd16 (by omega) Hb.out.size).mono ?_
              rintro _ w1 ⟨rfl, hd, hb⟩
              have Hd := Lib.hid hd
              have Hb1 := Lib.hid (Hb.out.trans hb)
              clear hd hb
              go_wp2_with fail
              go_roundg g
              case measure => omega
              case rel => exact ⟨k + 1, false, ds ++ [d], by omega, rfl, by go_num, by simp; omega, Hr'.out, Hd.out, Hb1.out⟩
            · rw [going_bad hend hh hw] at hr'
              subst hr'
              clear hw hdr hend
              go_wp2_with fail
              refine (Hh.out _).mono ?_
              rintro _ w1 ⟨rfl, rfl⟩
              go_wp2_with fail
              refine (Hk.out _).mono ?_
              rintro _ w1 ⟨rfl, rfl⟩
              go_wp2_with fail
              exact bodyPost_ret (v := .tuple #[.string ⟨#[]⟩, .int .i64 4]) (by simp [results, Try.results10, go_sem]) rfl ⟨rfl, Hb.out⟩
        · rw [going_over hw] at hr'
          subst hr'
          clear hw hdr
          go_wp2_with fail
          refine (Hh.out _).mono ?_
          rintro _ w1 ⟨rfl, rfl⟩
          go_wp2_with fail
          refine (Hk.out _).mono ?_
          rintro _ w1 ⟨rfl, rfl⟩
          go_wp2_with fail
          exact bodyPost_ret (v := .tuple #[.string ⟨#[]⟩, .int .i64 4]) (by simp [results, Try.results10, go_sem]) rfl ⟨rfl, Hb.out⟩

end Go.Proofs.Ytjbdejkmmncmcaa
