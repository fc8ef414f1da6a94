/-
  The contracts of digits.Put, Pad, Read, Loose.
-/
import Derived.Test.YtccjpiomfngalaaDoorDLib
import Derived.Test.YtccjpiomfngalaaDoorDCount
import Derived.WalkSmall
namespace Go.Proofs.YtccjpiomfngalaaDoor
open Go.RowKit

set_option maxHeartbeats 1000000 in
theorem put_any (n : Int) (w : World) (hl : Laid w) (h0 : -9223372036854775808 ≤ n) (h1 : n ≤ 9223372036854775807) :
    Calls Tryd.prog 9 #[.int .i64 n] w fun e w' => e = .returned (.string (bytes (putL n))) ∧ Below w.heap.size w w' := by
  have HL := Lib.hid hl
  clear hl
  go_enter Tryd.func9, Tryd.ntmps9
  go_wp2_with fail
  refine (itoa_any n _ HL.out h0 h1).mono ?_
  rintro e w1 ⟨rfl, hb⟩
  have Hb := Lib.hid hb
  clear hb
  go_wp2_with fail
  go_ret
  exact ⟨rfl, Hb.out⟩
theorem put_is (n : Int) (w : World) (hl : Laid w) (h0 : -9223372036854775808 ≤ n) (h1 : n ≤ 9223372036854775807) {u : ByteArray} (hu : bytes (putL n) = u) :
    Calls Tryd.prog 9 #[.int .i64 n] w fun e w' => e = .returned (.string u) ∧ Below w.heap.size w w' := by
  rw [← hu]; exact put_any n w hl h0 h1

set_option maxRecDepth 100000 in
set_option maxHeartbeats 1000000 in
theorem pad_any (n width : Int) (w : World) (hl : Laid w) (h0 : -9223372036854775808 ≤ n) (h1 : n ≤ 9223372036854775807) :
    Calls Tryd.prog 7 #[.int .i64 n, .int .i64 width] w fun e w' => e = TextAnd (padL n width) ∧ Below w.heap.size w w' := by
  have HLa := Lib.hid hl
  clear hl
  by_cases hw : width < 1 ∨ 20 < width
  · have Hr := Lib.hid (padL_arg (n := n) hw)
    rcases hw with h | h
    · go_enter Tryd.func7, Tryd.ntmps7
      go_wp2_with fail
      go_ret2
      exact ⟨textAnd_mk (by rw [Hr.out]; first | done | rfl), Below.refl _ _⟩
    · have h' : ¬ width < 1 := by omega
      go_enter Tryd.func7, Tryd.ntmps7
      go_wp2_with fail
      go_ret2
      exact ⟨textAnd_mk (by rw [Hr.out]; first | done | rfl), Below.refl _ _⟩
  · obtain ⟨k, rfl⟩ := Int.eq_ofNat_of_zero_le (show 0 ≤ width by omega)
    have hk1 : ¬ (k : Int) < 1 := by omega
    have hk2 : ¬ (20 : Int) < (k : Int) := by omega
    have hk3 : k ≤ 20 := by omega
    obtain ⟨u, hu⟩ : ∃ u, bytes (putL n) = u := ⟨_, rfl⟩
    have hud : u.data.toList = putL n := by rw [← hu]; exact bytes_data _
    have hus : u.size = (putL n).length := by rw [size_data, hud]
    have Hu := Lib.hid hu
    have Hud := Lib.hid hud
    clear hu hud
    by_cases hr : n < 0 ∨ (k : Int) < ((putL n).length : Int)
    · have Hr := Lib.hid (padL_range hw hr)
      rw [← hus] at hr
      clear hus hw
      by_cases hn : n < 0
      · clear hr
        go_enter Tryd.func7, Tryd.ntmps7
        go_wp2_with fail
        refine (put_is n _ HLa.out h0 h1 Hu.out).mono ?_
        rintro e w1 ⟨rfl, hb⟩
        have Hb := Lib.hid hb
        clear hb
        go_wp2_with fail
        go_ret2
        exact ⟨textAnd_mk (by rw [Hr.out]; first | done | rfl), Hb.out⟩
      · have hlt : (k : Int) < (u.size : Int) := by omega
        clear hr
        go_enter Tryd.func7, Tryd.ntmps7
        go_wp2_with fail
        refine (put_is n _ HLa.out h0 h1 Hu.out).mono ?_
        rintro e w1 ⟨rfl, hb⟩
        have Hb := Lib.hid hb
        clear hb
        go_wp2_with fail
        go_ret2
        exact ⟨textAnd_mk (by rw [Hr.out]; first | done | rfl), Hb.out⟩
    · have Hr := Lib.hid (padL_ok hw hr)
      have hn : ¬ n < 0 := by omega
      have hlt : ¬ (k : Int) < (u.size : Int) := by omega
      have hle : u.size ≤ k := by omega
      have Hus := Lib.hid hus
      have Hrep : Hid (∀ W, Calls Tryd.prog 20 #[.string ⟨#[48]⟩, .int .i64 ((k : Int) - (u.size : Int))] W fun e w' => e = .returned (.string (bytes (List.replicate (k - u.size) 48))) ∧ Below W.heap.size W w') := Lib.hid (fun W => by
        have h := repeat_nought (k - u.size) W (by omega)
        have e : (((k - u.size : Nat)) : Int) = (k : Int) - (u.size : Int) := by omega
        rw [e] at h; exact h)
      clear hr hw hus
      go_enter Tryd.func7, Tryd.ntmps7
      go_wp2_with fail
      refine (put_is n _ HLa.out h0 h1 Hu.out).mono ?_
      rintro e w1 ⟨rfl, hb⟩
      have Hb := Lib.hid hb
      clear hb
      go_wp2_with fail
      refine (Hrep.out _).mono ?_
      rintro e w2 ⟨rfl, hb⟩
      have Hb2 := Lib.hid (Hb.out.trans (hb.mono Hb.out.size))
      clear hb
      have hz : (bytes (List.replicate (k - u.size) 48)).size = k - u.size := by rw [bytes_size, List.length_replicate]
      obtain ⟨v, hv⟩ : ∃ v, bytes (List.replicate (k - u.size) 48) = v := ⟨_, rfl⟩
      rw [hv] at hz ⊢
      have Hv := Lib.hid hv
      clear hv
      go_wp2_with fail
      go_ret2
      exact ⟨textAnd_mk (by
        rw [Hr.out, app_data, ← Hv.out, bytes_data, Hud.out, Hus.out]
        rfl), Hb2.out⟩

theorem text_eq {u s : ByteArray} (h : u.data.toList = s.data.toList) : (u.toList == s.toList) = true := by rw [Lib.toList_data, Lib.toList_data, h]; simp
theorem text_ne {u s : ByteArray} (h : ¬ u.data.toList = s.data.toList) : (u.toList == s.toList) = false := by rw [Lib.toList_data, Lib.toList_data]; simpa using h

set_option maxRecDepth 100000 in
set_option maxHeartbeats 1000000 in
theorem read_any (s : ByteArray) (w : World) (hl : Laid w) (hs : s.size ≤ 281474976710656) :
    Calls Tryd.prog 12 #[.string s] w fun e w' => e = IntAnd (readL s.data.toList) ∧ Below w.heap.size w w' := by
  have HLa := Lib.hid hl
  clear hl
  by_cases hx : ∃ v, Lib.atoiAll s.data.toList = .ok v
  · obtain ⟨v, hv⟩ := hx
    obtain ⟨b0, b1⟩ := Lib.atoiAll_bounds hv
    obtain ⟨u, hu⟩ : ∃ u, bytes (putL v) = u := ⟨_, rfl⟩
    have hud : u.data.toList = putL v := by rw [← hu]; exact bytes_data _
    have Hu := Lib.hid hu
    have Hv := Lib.hid hv
    clear hu hv
    by_cases hp : putL v = s.data.toList
    · have heq := text_eq (hud.trans hp)
      by_cases h1 : v < -2147483647
      · have Hr := Lib.hid (read_far b0 b1 (.inl h1) hp)
        clear hp hud
        go_enter Tryd.func12, Tryd.ntmps12
        go_wp2_with fail
        refine (atoi_ok s _ hs Hv.out).mono ?_
        rintro e w1 ⟨rfl, hb⟩
        have Hb := Lib.hid hb
        clear hb
        go_wp2_with fail
        refine (put_is v _ (HLa.out.later Hb.out) b0 b1 Hu.out).mono ?_
        rintro e w2 ⟨rfl, hb⟩
        have Hb2 := Lib.hid (Hb.out.trans (hb.mono Hb.out.size))
        clear hb
        go_wp2_with fail
        go_ret2
        exact ⟨intAnd_mk (by rw [Hr.out]), Hb2.out⟩
      · by_cases h2 : 2147483647 < v
        · have Hr := Lib.hid (read_far b0 b1 (.inr h2) hp)
          clear hp hud
          go_enter Tryd.func12, Tryd.ntmps12
          go_wp2_with fail
          refine (atoi_ok s _ hs Hv.out).mono ?_
          rintro e w1 ⟨rfl, hb⟩
          have Hb := Lib.hid hb
          clear hb
          go_wp2_with fail
          refine (put_is v _ (HLa.out.later Hb.out) b0 b1 Hu.out).mono ?_
          rintro e w2 ⟨rfl, hb⟩
          have Hb2 := Lib.hid (Hb.out.trans (hb.mono Hb.out.size))
          clear hb
          go_wp2_with fail
          go_ret2
          exact ⟨intAnd_mk (by rw [Hr.out]), Hb2.out⟩
        · have Hr := Lib.hid (read_ok (v := v) (by omega) (by omega) hp)
          clear hp hud
          go_enter Tryd.func12, Tryd.ntmps12
          go_wp2_with fail
          refine (atoi_ok s _ hs Hv.out).mono ?_
          rintro e w1 ⟨rfl, hb⟩
          have Hb := Lib.hid hb
          clear hb
          go_wp2_with fail
          refine (put_is v _ (HLa.out.later Hb.out) b0 b1 Hu.out).mono ?_
          rintro e w2 ⟨rfl, hb⟩
          have Hb2 := Lib.hid (Hb.out.trans (hb.mono Hb.out.size))
          clear hb
          go_wp2_with fail
          go_ret2
          exact ⟨intAnd_mk (by rw [Hr.out]), Hb2.out⟩
    · have heq := text_ne (u := u) (s := s) (by rw [hud]; exact hp)
      have Hr := Lib.hid (read_other Hv.out hp)
      clear hp hud
      go_enter Tryd.func12, Tryd.ntmps12
      go_wp2_with fail
      refine (atoi_ok s _ hs Hv.out).mono ?_
      rintro e w1 ⟨rfl, hb⟩
      have Hb := Lib.hid hb
      clear hb
      go_wp2_with fail
      refine (put_is v _ (HLa.out.later Hb.out) b0 b1 Hu.out).mono ?_
      rintro e w2 ⟨rfl, hb⟩
      have Hb2 := Lib.hid (Hb.out.trans (hb.mono Hb.out.size))
      clear hb
      go_wp2_with fail
      go_ret2
      exact ⟨intAnd_mk (by rw [Hr.out]), Hb2.out⟩
  · have hno : ∀ v, Lib.atoiAll s.data.toList ≠ .ok v := fun v e => hx ⟨v, e⟩
    have Hr := Lib.hid (read_syntax hno)
    have Hno := Lib.hid hno
    clear hno hx
    go_enter Tryd.func12, Tryd.ntmps12
    go_wp2_with fail
    refine (atoi_bad s _ HLa.out hs Hno.out).mono ?_
    rintro e w1 ⟨m, N, rfl, hb⟩
    have Hb := Lib.hid hb
    clear hb
    go_wp2_with fail
    go_ret2
    exact ⟨intAnd_mk (by rw [Hr.out]), Hb.out⟩

theorem fixed_is (s : ByteArray) (w : World) {a b : Int} (h : fixL s.data.toList = (a, b)) :
    Calls Tryd.prog 18 #[.string s] w fun e w' => e = .returned (.tuple #[.int .i64 a, .int .i64 b]) ∧ Below w.heap.size w w' := by
  have := fixed_any s w
  rw [h] at this; exact this

set_option maxRecDepth 100000 in
set_option maxHeartbeats 1000000 in
theorem loose_any (s : ByteArray) (w : World) :
    Calls Tryd.prog 14 #[.string s] w fun e w' => e = IntAnd (looseL s.data.toList) ∧ Below w.heap.size w w' := by
  by_cases hm : ∃ c t, s.data.toList = c :: t ∧ (c.toNat : Int) = 45
  · obtain ⟨c, t, hl, h45⟩ := hm
    obtain ⟨u, hu⟩ : ∃ u, bytes t = u := ⟨_, rfl⟩
    have hud : u.data.toList = t := by rw [← hu]; exact bytes_data _
    have hb := fixL_bound t
    obtain ⟨a, b, hf⟩ : ∃ a b, fixL t = (a, b) := ⟨_, _, rfl⟩
    rw [hf] at hb
    obtain ⟨hb0, hb1⟩ := hb
    have Hf : Hid (fixL u.data.toList = (a, b)) := Lib.hid (by rw [hud]; exact hf)
    have Hr : Hid (looseL s.data.toList = (-a, b)) := Lib.hid (by rw [hl]; show (if (c.toNat : Int) = 45 then _ else _) = _; rw [if_pos h45, hf])
    have Hc := Lib.hid (fun W => cut_yes s W hl h45)
    rw [hu] at Hc
    clear hl h45 hud hf hu
    go_enter Tryd.func14, Tryd.ntmps14
    go_wp2_with fail
    refine (Hc.out _).mono ?_
    rintro e w1 ⟨rfl, rfl⟩
    go_wp2_with fail
    refine (fixed_is u _ Hf.out).mono ?_
    rintro e w1 ⟨rfl, hb⟩
    have Hb := Lib.hid hb
    clear hb
    go_wp2_with fail
    go_ret2
    exact ⟨intAnd_mk (by rw [Hr.out]), Hb.out⟩
  · have hno : s.data.toList = [] ∨ ∃ c t, s.data.toList = c :: t ∧ ¬ (c.toNat : Int) = 45 := by
      cases hl : s.data.toList with
      | nil => exact .inl rfl
      | cons c t => exact .inr ⟨c, t, rfl, fun h => hm ⟨c, t, hl, h⟩⟩
    clear hm
    have hcut : s.data.toList = [] ∨ ∃ c t, s.data.toList = c :: t ∧ ¬ c = 45 := by
      rcases hno with h | ⟨c, t, h, h'⟩
      · exact .inl h
      · exact .inr ⟨c, t, h, fun e => h' (by rw [e]; rfl)⟩
    have Hc := Lib.hid (fun W => cut_no s W hcut)
    clear hcut
    by_cases hp : ∃ c t, s.data.toList = c :: t ∧ (c.toNat : Int) = 43
    · obtain ⟨c, t, hl, h43⟩ := hp
      obtain ⟨u, hu⟩ : ∃ u, bytes t = u := ⟨_, rfl⟩
      have hud : u.data.toList = t := by rw [← hu]; exact bytes_data _
      obtain ⟨a, b, hf⟩ : ∃ a b, fixL t = (a, b) := ⟨_, _, rfl⟩
      have Hf : Hid (fixL u.data.toList = (a, b)) := Lib.hid (by rw [hud]; exact hf)
      have Hr : Hid (looseL s.data.toList = (a, b)) := Lib.hid (by rw [hl]; show (if (c.toNat : Int) = 45 then _ else _) = _; rw [if_neg (by omega), if_pos h43, hf])
      have Ht := Lib.hid (fun W => trim_yes s W hl h43)
      rw [hu] at Ht
      clear hl h43 hud hf hu hno
      go_enter Tryd.func14, Tryd.ntmps14
      go_wp2_with fail
      refine (Hc.out _).mono ?_
      rintro e w1 ⟨rfl, rfl⟩
      go_wp2_with fail
      refine (Ht.out _).mono ?_
      rintro e w1 ⟨rfl, rfl⟩
      go_wp2_with fail
      refine (fixed_is u _ Hf.out).mono ?_
      rintro e w1 ⟨rfl, hb⟩
      have Hb := Lib.hid hb
      clear hb
      go_wp2_with fail
      go_ret2
      exact ⟨intAnd_mk (by rw [Hr.out]), Hb.out⟩
    · have hr : looseL s.data.toList = fixL s.data.toList := by
        rcases hno with h | ⟨c, t, h, h'⟩
        · rw [h]; rfl
        · rw [h]; show (if (c.toNat : Int) = 45 then _ else _) = _
          rw [if_neg h', if_neg (fun e => hp ⟨c, t, h, e⟩)]
      have htrim : s.data.toList = [] ∨ ∃ c t, s.data.toList = c :: t ∧ ¬ c = 43 := by
        rcases hno with h | ⟨c, t, h, _⟩
        · exact .inl h
        · exact .inr ⟨c, t, h, fun e => hp ⟨c, t, h, by rw [e]; rfl⟩⟩
      obtain ⟨a, b, hf⟩ : ∃ a b, fixL s.data.toList = (a, b) := ⟨_, _, rfl⟩
      have Hr : Hid (looseL s.data.toList = (a, b)) := Lib.hid (hr.trans hf)
      have Hf := Lib.hid hf
      have Ht := Lib.hid (fun W => trim_no s W htrim)
      clear hr htrim hf hno hp
      go_enter Tryd.func14, Tryd.ntmps14
      go_wp2_with fail
      refine (Hc.out _).mono ?_
      rintro e w1 ⟨rfl, rfl⟩
      go_wp2_with fail
      refine (Ht.out _).mono ?_
      rintro e w1 ⟨rfl, rfl⟩
      go_wp2_with fail
      refine (fixed_is s _ Hf.out).mono ?_
      rintro e w1 ⟨rfl, hb⟩
      have Hb := Lib.hid hb
      clear hb
      go_wp2_with fail
      go_ret2
      exact ⟨intAnd_mk (by rw [Hr.out]), Hb.out⟩

end Go.Proofs.YtccjpiomfngalaaDoor
