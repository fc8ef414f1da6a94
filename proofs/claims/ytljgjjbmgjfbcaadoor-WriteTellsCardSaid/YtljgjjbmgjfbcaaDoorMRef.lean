/-
  WrRef, WrRef2: texts merged.
-/
import Derived.Test.YtljgjjbmgjfbcaaDoorMWr
import Derived.Test.YtljgjjbmgjfbcaaDoorMHex
import Derived.Deep.LoopGhost
/-
  The document's Name and Bytes.
-/
namespace Go.Proofs.YtljgjjbmgjfbcaaDoor
section
open Go.RowKit
set_option maxRecDepth 100000

theorem ext_one {s : ByteArray} {k : Nat} (h : k < s.size) : (s.extract k (k + 1)).data.toList = [s[k]] := by
  rw [Lib.extract_data, List.drop_eq_getElem_cons (by rw [← size_data]; exact h)]
  simp
  rfl
theorem enc_one (c : UInt8) : encH [c] = [digB (c.toNat / 16), digB (c.toNat % 16), 62] := rfl
theorem ext_two {u : ByteArray} {a b c : UInt8} (h : u.data.toList = [a, b, c]) : (u.extract 0 2).data.toList = [a, b] := by
  rw [Lib.extract_data, h]; rfl
set_option maxHeartbeats 2000000 in
theorem rname_is (s : ByteArray) (w : World) (hs : s.size ≤ 100000) :
    Calls Tryd.prog 11 #[.string s] w fun e w' => e = .returned (.string (bytes (nameW s.data.toList))) ∧ Below w.heap.size w w' := by
  go_enter Tryd.func11, Tryd.ntmps11
  go_wp2_with fail
  go_loopg [3, 4] s.size (fun g s3 s4 wx => ∃ (k : Nat) (t : ByteArray), k + g = s.size ∧ s4 = .int .i64 k ∧ s3 = .string t ∧ Aside (t.data.toList = 47 :: nameG (s.data.toList.take k)) ∧ Aside (Below w.heap.size w wx))
  case atStart => exact ⟨0, ⟨#[47]⟩, by omega, rfl, rfl, rfl, Below.refl _ _⟩
  case round =>
    obtain ⟨k, t, hkg, rfl, rfl, HI, HB⟩ := hrel
    have htz : t.size ≤ 300001 := by
      have h1 := nameG_length (s.data.toList.take k)
      have h2 : (s.data.toList.take k).length ≤ s.size := by rw [List.length_take, ← size_data]; omega
      rw [size_data, HI.out, List.length_cons]; omega
    cases gk with
    | zero =>
      obtain rfl : k = s.size := by omega
      have Hend : Hid (t = bytes (nameW s.data.toList)) := Lib.hid (bytes_eq (by rw [HI.out, List.take_of_length_le (by rw [← size_data]; exact Nat.le_refl _)]; rfl))
      go_wp2_with fail
      go_ret
      exact ⟨by show Ending.returned (.string t) = _; rw [← Hend.out], HB.out⟩
    | succ g =>
      have hk : k < s.size := by omega
      have hkz : (k : Int) < (s.size : Int) := by omega
      have Hn : Hid (nameG (s.data.toList.take (k + 1)) = nameG (s.data.toList.take k) ++ nameB s[k]) := Lib.hid (by rw [take_snoc s k hk, nameG_snoc])
      have hx := ext_one hk
      obtain ⟨x, hxe⟩ : ∃ x, s.extract k (k + 1) = x := ⟨_, rfl⟩
      rw [hxe] at hx
      have hxs : x.size = 1 := by rw [size_data, hx]; rfl
      have Hx := Lib.hid hx
      have Hkind := Lib.hid (fun W => refKind_any (s[k].toNat : Int) W)
      obtain ⟨kd, hkd⟩ : ∃ kd, kindI (s[k].toNat : Int) = kd := ⟨_, rfl⟩
      simp only [hkd] at Hkind
      cases hbare : bareB s[k] with
      | true =>
        have hb := hbare
        unfold bareB shownB at hb
        rw [hkd] at hb
        simp only [Bool.and_eq_true, decide_eq_true_eq] at hb
        obtain ⟨⟨hb1, hb2⟩, hb3, hb4⟩ := hb
        subst hb3
        have h32 : ¬ s[k].toNat = 32 := fun e => by unfold kindI at hkd; rw [if_pos (by omega)] at hkd; cases hkd
        have Hnb : Hid (nameB s[k] = [s[k]]) := Lib.hid (by unfold nameB; rw [if_pos hbare])
        have f1 : (33 : Int) ≤ (s[k].toNat : Int) := by omega
        have f2 : (s[k].toNat : Int) ≤ 126 := by omega
        have f4 : ((s[k].toNat : Int) != 35) = true := by simp; omega
        clear hb1 hb2 hb4 h32 hkd hbare hx
        go_wp2_with (go_at_call 29; refine (Hkind.out _).mono ?_; rintro e w3 ⟨rfl, rfl⟩)
        go_roundg g
        case measure => omega
        case rel => exact ⟨k + 1, _, by omega, by go_num, rfl, by show _ = _; rw [app_data, HI.out, Hx.out, Hn.out, Hnb.out]; rfl, HB⟩
      | false =>
        have Hnb : Hid (nameB s[k] = [35, digB (s[k].toNat / 16), digB (s[k].toNat % 16)]) := Lib.hid (by unfold nameB; rw [hbare]; rfl)
        have He := Lib.hid (fun W => rEncH_any x W (by omega))
        rw [Hx.out] at He
        obtain ⟨u, hu⟩ : ∃ u, bytes (encH [s[k]]) = u := ⟨_, rfl⟩
        rw [hu] at He
        have hud : u.data.toList = [digB (s[k].toNat / 16), digB (s[k].toNat % 16), 62] := by rw [← hu, bytes_data]; rfl
        have hus : u.size = 3 := by rw [size_data, hud]; rfl
        have hz := ext_two hud
        obtain ⟨z, hze⟩ : ∃ z, u.extract 0 2 = z := ⟨_, rfl⟩
        rw [hze] at hz
        have Hz := Lib.hid hz
        have hzs : z.size = 2 := by rw [size_data, hz]; rfl
        clear hx hu hud hz
        have hcs : (s[k].toNat : Int) < 33 ∨ (33 ≤ (s[k].toNat : Int) ∧ 126 < (s[k].toNat : Int)) ∨ (33 ≤ (s[k].toNat : Int) ∧ (s[k].toNat : Int) ≤ 126 ∧ ¬ kd = 2) ∨ (33 ≤ (s[k].toNat : Int) ∧ (s[k].toNat : Int) ≤ 126 ∧ kd = 2 ∧ (s[k].toNat : Int) = 35) := by
          have hb := hbare
          unfold bareB shownB at hb
          rw [hkd] at hb
          simp only [Bool.and_eq_false_iff, decide_eq_false_iff_not] at hb
          omega
        clear hbare hkd
        rcases hcs with h | ⟨f1, h⟩ | ⟨f1, f2, h⟩ | ⟨f1, f2, rfl, h⟩
        · have f1 : ¬ (33 : Int) ≤ (s[k].toNat : Int) := by omega
          clear h
          go_wp2_with (first
            | (go_at_call 29; refine (Hkind.out _).mono ?_; rintro e w3 ⟨rfl, rfl⟩)
            | (go_at_call 30; refine (He.out _).mono ?_; rintro e w4 ⟨rfl, hb⟩; have HB4 : Aside (Below w.heap.size w w4) := HB.out.trans (hb.mono HB.out.size); clear hb))
          go_roundg g
          case measure => omega
          case rel => exact ⟨k + 1, _, by omega, by go_num, rfl, by show _ = _; rw [app_data, app_data, HI.out, Hz.out, Hn.out, Hnb.out]; simp, HB4⟩
        · have f2 : ¬ (s[k].toNat : Int) ≤ 126 := by omega
          clear h
          go_wp2_with (first
            | (go_at_call 29; refine (Hkind.out _).mono ?_; rintro e w3 ⟨rfl, rfl⟩)
            | (go_at_call 30; refine (He.out _).mono ?_; rintro e w4 ⟨rfl, hb⟩; have HB4 : Aside (Below w.heap.size w w4) := HB.out.trans (hb.mono HB.out.size); clear hb))
          go_roundg g
          case measure => omega
          case rel => exact ⟨k + 1, _, by omega, by go_num, rfl, by show _ = _; rw [app_data, app_data, HI.out, Hz.out, Hn.out, Hnb.out]; simp, HB4⟩
        · have f3 : (kd == 2) = false := by simpa using h
          go_wp2_with (first
            | (go_at_call 29; refine (Hkind.out _).mono ?_; rintro e w3 ⟨rfl, rfl⟩)
            | (go_at_call 30; refine (He.out _).mono ?_; rintro e w4 ⟨rfl, hb⟩; have HB4 : Aside (Below w.heap.size w w4) := HB.out.trans (hb.mono HB.out.size); clear hb))
          go_roundg g
          case measure => omega
          case rel => exact ⟨k + 1, _, by omega, by go_num, rfl, by show _ = _; rw [app_data, app_data, HI.out, Hz.out, Hn.out, Hnb.out]; simp, HB4⟩
        · have f4 : ((s[k].toNat : Int) != 35) = false := by simp [h]
          have f5 : decide ((s[k].toNat : Int) = 35) = true := by simp [h]
          clear h
          go_wp2_with (first
            | (go_at_call 29; refine (Hkind.out _).mono ?_; rintro e w3 ⟨rfl, rfl⟩)
            | (go_at_call 30; refine (He.out _).mono ?_; rintro e w4 ⟨rfl, hb⟩; have HB4 : Aside (Below w.heap.size w w4) := HB.out.trans (hb.mono HB.out.size); clear hb))
          go_roundg g
          case measure => omega
          case rel => exact ⟨k + 1, _, by omega, by go_num, rfl, by show _ = _; rw [app_data, app_data, HI.out, Hz.out, Hn.out, Hnb.out]; simp, HB4⟩
end
end Go.Proofs.YtljgjjbmgjfbcaaDoor
/-
  The document's Bytes.
-/
namespace Go.Proofs.YtljgjjbmgjfbcaaDoor
section
open Go.RowKit
set_option maxRecDepth 100000

set_option maxHeartbeats 2000000 in
theorem rbytes_is (s : ByteArray) (w : World) (hs : s.size ≤ 100000) :
    Calls Tryd.prog 13 #[.string s] w fun e w' => e = .returned (.string (bytes (bytesW s.data.toList))) ∧ Below w.heap.size w w' := by
  have He := Lib.hid (fun W => rEncH_any s W (by omega))
  obtain ⟨u, hu⟩ : ∃ u, bytes (encH s.data.toList) = u := ⟨_, rfl⟩
  simp only [hu] at He
  have hud : u.data.toList = encH s.data.toList := by rw [← hu, bytes_data]
  have hus : u.size ≤ 200001 := by rw [size_data, hud, encH_length, ← size_data]; omega
  have Hud := Lib.hid hud
  clear hu hud
  go_enter Tryd.func13, Tryd.ntmps13
  go_wp2_with fail
  go_loopg [3, 4] s.size (fun g s3 s4 wx => ∃ (k : Nat) (t : ByteArray), k + g = s.size ∧ s4 = .int .i64 k ∧ s3 = .string t ∧ Aside (t.data.toList = 40 :: escG (s.data.toList.take k)) ∧ Aside ((s.data.toList.take k).all shownB = true) ∧ Aside (Below w.heap.size w wx))
  case atStart => exact ⟨0, ⟨#[40]⟩, by omega, rfl, rfl, rfl, rfl, Below.refl _ _⟩
  case round =>
    obtain ⟨k, t, hkg, rfl, rfl, HI, HA, HB⟩ := hrel
    have htz : t.size ≤ 200001 := by
      have h1 := escG_length (s.data.toList.take k)
      have h2 : (s.data.toList.take k).length ≤ s.size := by rw [List.length_take, ← size_data]; omega
      rw [size_data, HI.out, List.length_cons]; omega
    cases gk with
    | zero =>
      obtain rfl : k = s.size := by omega
      have hfull : s.data.toList.take s.size = s.data.toList := List.take_of_length_le (by rw [← size_data]; exact Nat.le_refl _)
      have Hend : Hid (t.data.toList ++ [41] = bytesW s.data.toList) := Lib.hid (by have h := HA.out; rw [hfull] at h; unfold bytesW; rw [if_pos h, HI.out, hfull]; rfl)
      clear hfull
      go_wp2_with fail
      go_ret
      exact ⟨ret_str (by rw [app_data, ← Hend.out]), HB.out⟩
    | succ g =>
      have hk : k < s.size := by omega
      have hkz : (k : Int) < (s.size : Int) := by omega
      by_cases hsh : shownB s[k] = true
      · have hb := of_decide_eq_true hsh
        have Hn : Hid (escG (s.data.toList.take (k + 1)) = escG (s.data.toList.take k) ++ escB s[k]) := Lib.hid (by rw [take_snoc s k hk, escG_snoc])
        have Ha : Hid ((s.data.toList.take (k + 1)).all shownB = true) := Lib.hid (by rw [take_snoc s k hk, List.all_append, HA.out]; simp [hsh])
        have hx := ext_one hk
        obtain ⟨x, hxe⟩ : ∃ x, s.extract k (k + 1) = x := ⟨_, rfl⟩
        rw [hxe] at hx
        have hxs : x.size = 1 := by rw [size_data, hx]; rfl
        have Hx := Lib.hid hx
        have f1 : ¬ (s[k].toNat : Int) < 32 := by omega
        have f2 : ¬ (126 : Int) < (s[k].toNat : Int) := by omega
        have hcs : ((s[k].toNat : Int) = 40 ∨ (s[k].toNat : Int) = 41 ∨ (s[k].toNat : Int) = 92) ∨ (¬ (s[k].toNat : Int) = 40 ∧ ¬ (s[k].toNat : Int) = 41 ∧ ¬ (s[k].toNat : Int) = 92) := by omega
        clear hx hb hsh
        rcases hcs with hcs | ⟨h40, h41, h92⟩
        · have Hnb : Hid (escB s[k] = [92] ++ [s[k]]) := Lib.hid (by unfold escB; rw [if_pos (by omega)]; rfl)
          rcases hcs with hc | hc | hc
          · have h40 : ((s[k].toNat : Int) == 40) = true := by simp [hc]
            clear hc
            go_wp2_with fail
            go_roundg g
            case measure => omega
            case rel => exact ⟨k + 1, _, by omega, by go_num, rfl, by show _ = _; rw [app_data, app_data, HI.out, Hx.out, Hn.out, Hnb.out]; simp, Ha.out, HB⟩
          · have h40 : ((s[k].toNat : Int) == 40) = false := by simp [hc]
            have h41 : ((s[k].toNat : Int) == 41) = true := by simp [hc]
            clear hc
            go_wp2_with fail
            go_roundg g
            case measure => omega
            case rel => exact ⟨k + 1, _, by omega, by go_num, rfl, by show _ = _; rw [app_data, app_data, HI.out, Hx.out, Hn.out, Hnb.out]; simp, Ha.out, HB⟩
          · have h40 : ((s[k].toNat : Int) == 40) = false := by simp [hc]
            have h41 : ((s[k].toNat : Int) == 41) = false := by simp [hc]
            have h92 : ((s[k].toNat : Int) == 92) = true := by simp [hc]
            have d40 : decide ((s[k].toNat : Int) = 40) = false := by simp [hc]
            have d41 : decide ((s[k].toNat : Int) = 41) = false := by simp [hc]
            have d92 : decide ((s[k].toNat : Int) = 92) = true := by simp [hc]
            clear hc
            go_wp2_with fail
            go_roundg g
            case measure => omega
            case rel => exact ⟨k + 1, _, by omega, by go_num, rfl, by show _ = _; rw [app_data, app_data, HI.out, Hx.out, Hn.out, Hnb.out]; simp, Ha.out, HB⟩
        · have Hnb : Hid (escB s[k] = [s[k]]) := Lib.hid (by unfold escB; rw [if_neg (by omega)])
          have g40 : ((s[k].toNat : Int) == 40) = false := by simp [h40]
          have g41 : ((s[k].toNat : Int) == 41) = false := by simp [h41]
          have g92 : ((s[k].toNat : Int) == 92) = false := by simp [h92]
          have d40 : decide ((s[k].toNat : Int) = 40) = false := by simp [h40]
          have d41 : decide ((s[k].toNat : Int) = 41) = false := by simp [h41]
          have d92 : decide ((s[k].toNat : Int) = 92) = false := by simp [h92]
          clear h40 h41 h92
          go_wp2_with fail
          go_roundg g
          case measure => omega
          case rel => exact ⟨k + 1, _, by omega, by go_num, rfl, by show _ = _; rw [app_data, HI.out, Hx.out, Hn.out, Hnb.out]; rfl, Ha.out, HB⟩
      · have Hr : Hid (bytesW s.data.toList = 60 :: u.data.toList) := Lib.hid (by
          have : s.data.toList.all shownB = false := by
            rw [List.all_eq_false]
            exact ⟨s[k], byte_mem s k hk, by simpa using hsh⟩
          unfold bytesW
          rw [this, Hud.out]; rfl)
        have hcs : (s[k].toNat : Int) < 32 ∨ (32 ≤ (s[k].toNat : Int) ∧ 126 < (s[k].toNat : Int)) := by
          unfold shownB at hsh
          simp only [decide_eq_true_eq] at hsh
          omega
        clear hsh
        rcases hcs with f1 | ⟨h, f2⟩
        · go_wp2_with (go_at_call 30; refine (He.out _).mono ?_; rintro e w4 ⟨rfl, hb⟩; have HB4 := Lib.hid (HB.out.trans (hb.mono HB.out.size)); clear hb)
          go_ret
          exact ⟨ret_str (by rw [app_data, Hr.out]; rfl), HB4.out⟩
        · have f1 : ¬ (s[k].toNat : Int) < 32 := by omega
          clear h
          go_wp2_with (go_at_call 30; refine (He.out _).mono ?_; rintro e w4 ⟨rfl, hb⟩; have HB4 := Lib.hid (HB.out.trans (hb.mono HB.out.size)); clear hb)
          go_ret
          exact ⟨ret_str (by rw [app_data, Hr.out]; rfl), HB4.out⟩
end
end Go.Proofs.YtljgjjbmgjfbcaaDoor
