/-
  The contract of digits.Loose, where no more of digits is reached (strings.CutPrefix and TrimPrefix by the shelf).
-/
import Derived.Test.YtnjmapgmodoodaaShelf
import Derived.Test.YtnjmapgmodoodaaRows
import Derived.Test.YtnjmapgmodoodaaDCount
namespace Go.Proofs.Ytnjmapgmodoodaa
open Go.RowKit

theorem cut_yes (s : ByteArray) (w : World) {c : UInt8} {t : List UInt8} (hl : s.data.toList = c :: t) (hc : (c.toNat : Int) = 45) :
    Calls Try.prog 53 #[.string s, .string ⟨#[45]⟩] w fun e w' => e = .returned (.tuple #[.string (bytes t), .bool true]) ∧ w' = w := by
  have h : Calls Try.prog 53 #[.string s, .string ⟨#[45]⟩] w fun e w' => e = .returned (.tuple #[.string ⟨(Lib.trimPrefix s.data.toList [45]).toArray⟩, .bool (Lib.hasPrefix s.data.toList [45])]) ∧ w' = w := Any.strings_CutPrefix Try.lays103 s ⟨#[45]⟩ w
  have hc' : c = 45 := (byte_eq (n := 45) (by omega)).1 hc
  have e1 : Lib.hasPrefix s.data.toList [45] = true := by rw [hl, hc']; rfl
  have e2 : Lib.trimPrefix s.data.toList [45] = t := by unfold Lib.trimPrefix; rw [if_pos e1, hl]; rfl
  refine h.mono fun e w' ⟨he, hw⟩ => ⟨?_, hw⟩
  rw [he, e1, e2]; rfl
theorem not_prefix {l : List UInt8} {b : UInt8} (h : l = [] ∨ ∃ c t, l = c :: t ∧ ¬ c = b) : Lib.hasPrefix l [b] = false := by
  rcases h with rfl | ⟨c, t, rfl, hc⟩
  · rfl
  · have hc' : ¬ b = c := fun e => hc e.symm
    show (b == c && List.isPrefixOf [] t) = false
    simp [hc']
theorem cut_no (s : ByteArray) (w : World) (hl : s.data.toList = [] ∨ ∃ c t, s.data.toList = c :: t ∧ ¬ c = 45) :
    Calls Try.prog 53 #[.string s, .string ⟨#[45]⟩] w fun e w' => e = .returned (.tuple #[.string s, .bool false]) ∧ w' = w := by
  have h : Calls Try.prog 53 #[.string s, .string ⟨#[45]⟩] w fun e w' => e = .returned (.tuple #[.string ⟨(Lib.trimPrefix s.data.toList [45]).toArray⟩, .bool (Lib.hasPrefix s.data.toList [45])]) ∧ w' = w := Any.strings_CutPrefix Try.lays103 s ⟨#[45]⟩ w
  have e1 := not_prefix hl
  have e2 : Lib.trimPrefix s.data.toList [45] = s.data.toList := by unfold Lib.trimPrefix; rw [if_neg (by rw [e1]; decide)]
  refine h.mono fun e w' ⟨he, hw⟩ => ⟨?_, hw⟩
  rw [he, e1, e2]
theorem trim_yes (s : ByteArray) (w : World) {c : UInt8} {t : List UInt8} (hl : s.data.toList = c :: t) (hc : (c.toNat : Int) = 43) :
    Calls Try.prog 55 #[.string s, .string ⟨#[43]⟩] w fun e w' => e = .returned (.string (bytes t)) ∧ w' = w := by
  have h : Calls Try.prog 55 #[.string s, .string ⟨#[43]⟩] w fun e w' => e = .returned (.string ⟨(Lib.trimPrefix s.data.toList [43]).toArray⟩) ∧ w' = w := Any.strings_TrimPrefix Try.lays101 s ⟨#[43]⟩ w
  have hc' : c = 43 := (byte_eq (n := 43) (by omega)).1 hc
  have e1 : Lib.hasPrefix s.data.toList [43] = true := by rw [hl, hc']; rfl
  have e2 : Lib.trimPrefix s.data.toList [43] = t := by unfold Lib.trimPrefix; rw [if_pos e1, hl]; rfl
  refine h.mono fun e w' ⟨he, hw⟩ => ⟨?_, hw⟩
  rw [he, e2]; rfl
theorem trim_no (s : ByteArray) (w : World) (hl : s.data.toList = [] ∨ ∃ c t, s.data.toList = c :: t ∧ ¬ c = 43) :
    Calls Try.prog 55 #[.string s, .string ⟨#[43]⟩] w fun e w' => e = .returned (.string s) ∧ w' = w := by
  have h : Calls Try.prog 55 #[.string s, .string ⟨#[43]⟩] w fun e w' => e = .returned (.string ⟨(Lib.trimPrefix s.data.toList [43]).toArray⟩) ∧ w' = w := Any.strings_TrimPrefix Try.lays101 s ⟨#[43]⟩ w
  have e1 := not_prefix hl
  have e2 : Lib.trimPrefix s.data.toList [43] = s.data.toList := by unfold Lib.trimPrefix; rw [if_neg (by rw [e1]; decide)]
  refine h.mono fun e w' ⟨he, hw⟩ => ⟨?_, hw⟩
  rw [he, e2]

theorem fixed_is (s : ByteArray) (w : World) {a b : Int} (h : fixL s.data.toList = (a, b)) :
    Calls Try.prog 54 #[.string s] w fun e w' => e = .returned (.tuple #[.int .i64 a, .int .i64 b]) ∧ Below w.heap.size w w' := by
  have := fixed_any s w
  rw [h] at this; exact this

set_option maxRecDepth 100000 in
set_option maxHeartbeats 1000000 in
theorem loose_any (s : ByteArray) (w : World) :
    Calls Try.prog 47 #[.string s] w fun e w' => e = IntAnd (looseL s.data.toList) ∧ Below w.heap.size w w' := by
  by_cases hm : ∃ c t, s.data.toList = c :: t ∧ (c.toNat : Int) = 45
  · obtain ⟨c, t, hl, h45⟩ := hm
    obtain ⟨u, hu⟩ : ∃ u, bytes t = u := ⟨_, rfl⟩
    have hud : u.data.toList = t := by rw [← hu]; exact bytes_data _
    have hb := fixL_bound t
    obtain ⟨a, b, hf⟩ : ∃ a b, fixL t = (a, b) := ⟨_, _, rfl⟩
    rw [hf] at hb
    obtain ⟨hb0, hb1⟩ := hb
    have Hf : Hid (fixL u.data.toList = (a, b)) := Lib.hid (by rw [hud]; exact hf)
    have Hr : Hid (looseL s.data.toList = (-a, b)) := Lib.hid (by rw [hl]; show (if (c.toNat : Int) = 45 then _ else _) = _; rw [if_pos h45, hf])
    have Hc := Lib.hid (fun W => cut_yes s W hl h45)
    rw [hu] at Hc
    clear hl h45 hud hf hu
    go_enter Try.func47, Try.ntmps47
    go_wp2_with fail
    refine (Hc.out _).mono ?_
    rintro e w1 ⟨rfl, rfl⟩
    go_wp2_with fail
    refine (fixed_is u _ Hf.out).mono ?_
    rintro e w1 ⟨rfl, hb⟩
    have Hb := Lib.hid hb
    clear hb
    go_wp2_with fail
    go_ret2
    exact ⟨intAnd_mk (by rw [Hr.out]), Hb.out⟩
  · have hno : s.data.toList = [] ∨ ∃ c t, s.data.toList = c :: t ∧ ¬ (c.toNat : Int) = 45 := by
      cases hl : s.data.toList with
      | nil => exact .inl rfl
      | cons c t => exact .inr ⟨c, t, rfl, fun h => hm ⟨c, t, hl, h⟩⟩
    clear hm
    have hcut : s.data.toList = [] ∨ ∃ c t, s.data.toList = c :: t ∧ ¬ c = 45 := by
      rcases hno with h | ⟨c, t, h, h'⟩
      · exact .inl h
      · exact .inr ⟨c, t, h, fun e => h' (by rw [e]; rfl)⟩
    have Hc := Lib.hid (fun W => cut_no s W hcut)
    clear hcut
    by_cases hp : ∃ c t, s.data.toList = c :: t ∧ (c.toNat : Int) = 43
    · obtain ⟨c, t, hl, h43⟩ := hp
      obtain ⟨u, hu⟩ : ∃ u, bytes t = u := ⟨_, rfl⟩
      have hud : u.data.toList = t := by rw [← hu]; exact bytes_data _
      obtain ⟨a, b, hf⟩ : ∃ a b, fixL t = (a, b) := ⟨_, _, rfl⟩
      have Hf : Hid (fixL u.data.toList = (a, b)) := Lib.hid (by rw [hud]; exact hf)
      have Hr : Hid (looseL s.data.toList = (a, b)) := Lib.hid (by rw [hl]; show (if (c.toNat : Int) = 45 then _ else _) = _; rw [if_neg (by omega), if_pos h43, hf])
      have Ht := Lib.hid (fun W => trim_yes s W hl h43)
      rw [hu] at Ht
      clear hl h43 hud hf hu hno
      go_enter Try.func47, Try.ntmps47
      go_wp2_with fail
      refine (Hc.out _).mono ?_
      rintro e w1 ⟨rfl, rfl⟩
      go_wp2_with fail
      refine (Ht.out _).mono ?_
      rintro e w1 ⟨rfl, rfl⟩
      go_wp2_with fail
      refine (fixed_is u _ Hf.out).mono ?_
      rintro e w1 ⟨rfl, hb⟩
      have Hb := Lib.hid hb
      clear hb
      go_wp2_with fail
      go_ret2
      exact ⟨intAnd_mk (by rw [Hr.out]), Hb.out⟩
    · have hr : looseL s.data.toList = fixL s.data.toList := by
        rcases hno with h | ⟨c, t, h, h'⟩
        · rw [h]; rfl
        · rw [h]; show (if (c.toNat : Int) = 45 then _ else _) = _
          rw [if_neg h', if_neg (fun e => hp ⟨c, t, h, e⟩)]
      have htrim : s.data.toList = [] ∨ ∃ c t, s.data.toList = c :: t ∧ ¬ c = 43 := by
        rcases hno with h | ⟨c, t, h, _⟩
        · exact .inl h
        · exact .inr ⟨c, t, h, fun e => hp ⟨c, t, h, by rw [e]; rfl⟩⟩
      obtain ⟨a, b, hf⟩ : ∃ a b, fixL s.data.toList = (a, b) := ⟨_, _, rfl⟩
      have Hr : Hid (looseL s.data.toList = (a, b)) := Lib.hid (hr.trans hf)
      have Hf := Lib.hid hf
      have Ht := Lib.hid (fun W => trim_no s W htrim)
      clear hr htrim hf hno hp
      go_enter Try.func47, Try.ntmps47
      go_wp2_with fail
      refine (Hc.out _).mono ?_
      rintro e w1 ⟨rfl, rfl⟩
      go_wp2_with fail
      refine (Ht.out _).mono ?_
      rintro e w1 ⟨rfl, rfl⟩
      go_wp2_with fail
      refine (fixed_is s _ Hf.out).mono ?_
      rintro e w1 ⟨rfl, hb⟩
      have Hb := Lib.hid hb
      clear hb
      go_wp2_with fail
      go_ret2
      exact ⟨intAnd_mk (by rw [Hr.out]), Hb.out⟩

end Go.Proofs.Ytnjmapgmodoodaa
