/-
  The law TokenWhite.
-/
import Derived.Test.YtnjmapgmodoodaaTkEx
import Derived.Test.YtnjmapgmodoodaaTkLaw2
namespace Go.Proofs.Ytnjmapgmodoodaa
open Go.RowKit
set_option maxRecDepth 100000

theorem white_at (k : Nat) (h : k < 6) : ∃ c : UInt8, (ByteArray.mk #[0, 9, 10, 12, 13, 32]).extract k (k + 1) = ⟨#[c]⟩ ∧ kindI (c.toNat : Int) = 0 := by
  match k, h with
  | 0, _ => exact ⟨0, by decide, by decide⟩
  | 1, _ => exact ⟨9, by decide, by decide⟩
  | 2, _ => exact ⟨10, by decide, by decide⟩
  | 3, _ => exact ⟨12, by decide, by decide⟩
  | 4, _ => exact ⟨13, by decide, by decide⟩
  | 5, _ => exact ⟨32, by decide, by decide⟩

set_option maxHeartbeats 4000000 in
theorem twhite_walk (a s : ByteArray) (q : Nat) (w : World) (ha : a.size ≤ maxLen) (hs : s.size ≤ maxLen) (hq : q ≤ 255) :
    Calls Try.prog 6 #[.string a, .string s, .int .u8 (q : Int)] w (Yes w) := by
  unfold maxLen at hs ha
  by_cases hbig : (1000 : Int) < (a.size : Int)
  · go_enter Try.func6, Try.ntmps6
    go_wp2_with fail
    refine (signs_any _).mono ?_
    rintro e w1 ⟨rfl, hb⟩
    have Hb := Lib.hid hb
    clear hb
    go_wp2_with fail
    go_ret
    exact ⟨rfl, Hb.out⟩
  · by_cases hbig2 : (1000 : Int) < (s.size : Int)
    · go_enter Try.func6, Try.ntmps6
      go_wp2_with fail
      refine (signs_any _).mono ?_
      rintro e w1 ⟨rfl, hb⟩
      have Hb := Lib.hid hb
      clear hb
      go_wp2_with fail
      go_ret
      exact ⟨rfl, Hb.out⟩
    · have ha2 : a.size ≤ 1000 := by omega
      have hs2 : s.size ≤ 1000 := by omega
      have hk2 : q % 6 < 6 := by omega
      have hk1 : (q : Int).tmod 6 = ((q % 6 : Nat) : Int) := by rw [Int.tmod_eq_emod_of_nonneg (by omega)]; simp
      have hk3 : (q : Int) % 6 = ((q % 6 : Nat) : Int) := by simp
      obtain ⟨k, hk⟩ : ∃ k, q % 6 = k := ⟨_, rfl⟩
      rw [hk] at hk1 hk2 hk3
      obtain ⟨c, hc, hcw⟩ := white_at k hk2
      have hq3 : IntKind.i64.wrap ((k : Int) + 1) = (k : Int) + 1 := by rw [IntKind.wrap_i64]; omega
      have hq4 : ((k : Int) + 1).toNat = k + 1 := by omega
      clear hk ha hs
      go_enter Try.func6, Try.ntmps6
      go_wp2_with fail
      go_loopg [10] a.size (fun g v10 wy => ∃ i : Nat, i + g = a.size ∧ v10 = .int .i64 i ∧ Aside (∀ d ∈ a.data.toList.take i, ¬ (d.toNat = 10 ∨ d.toNat = 13)) ∧ w = wy)
      case atStart => exact ⟨0, by omega, rfl, (by intro d hd; simp at hd), rfl⟩
      case round =>
        obtain ⟨i, hi, rfl, HA, rfl⟩ := hrel
        cases gk with
        | zero =>
          obtain rfl : i = a.size := by omega
          have HA2 : Hid (∀ d ∈ a.data.toList, ¬ (d.toNat = 10 ∨ d.toNat = 13)) := Lib.hid (by
            have h := HA.out
            rwa [List.take_of_length_le (by rw [← size_data]; exact Nat.le_refl _)] at h)
          clear hi HA
          have hz : ¬ ((a.size : Int) < (a.size : Int)) := by omega
          have hDl : (⟨#[c]⟩ ++ ⟨#[37]⟩ ++ a ++ ⟨#[10]⟩ ++ ⟨#[c]⟩ : ByteArray).data.toList = [c, 37] ++ a.data.toList ++ [10, c] := by simp
          obtain ⟨b, hb⟩ : ∃ b : ByteArray, (⟨#[c]⟩ ++ ⟨#[37]⟩ ++ a ++ ⟨#[10]⟩ ++ ⟨#[c]⟩ : ByteArray) = b := ⟨_, rfl⟩
          rw [hb] at hDl
          have hbs : b.size = a.size + 4 := by rw [size_data, hDl]; simp
          obtain ⟨x, hx⟩ : ∃ x, nextN s.data.toList 0 = x := ⟨_, rfl⟩
          have hg := next_good s.data.toList 0 (Nat.zero_le _)
          rw [hx, ← size_data] at hg
          obtain ⟨t, ht⟩ : ∃ t, b ++ s = t := ⟨_, rfl⟩
          have hts : t.size = b.size + s.size := by rw [← ht]; simp
          have hty : nextN t.data.toList 0 = x.off b.size := by
            rw [← ht, append_list, hDl, next_over c a.data.toList s.data.toList hcw HA2.out, hx, ← hDl, ← size_data]
          have hb3 : b.size ≤ 1004 := by omega
          have Hbs := Lib.hid hbs
          by_cases hc0 : x.code = 0
          · have hoff : x.off b.size = ⟨x.kind, x.num, x.str, x.beg + b.size, x.fin + b.size, 0⟩ := if_pos hc0
            have HM : Hid (∀ W, Calls Try.prog 8 #[.string t, .int .i64 0] W fun e w' => e = .returned (.tuple #[.agg (tokC x.kind x.num (bytes x.str) ((x.beg : Int) + (b.size : Int)) ((x.fin : Int) + (b.size : Int))), .int .i64 0]) ∧ Below W.heap.size W w') :=
              Lib.hid fun W => by
                have h := next_is t 0 W (by omega) (by omega) (hty.trans hoff)
                simp only [Int.natCast_add] at h
                exact h
            have HN : Hid (∀ W, Calls Try.prog 8 #[.string s, .int .i64 0] W fun e w' => e = .returned (.tuple #[.agg (tokC x.kind x.num (bytes x.str) (x.beg : Int) (x.fin : Int)), .int .i64 0]) ∧ Below W.heap.size W w') :=
              Lib.hid fun W => by
                have h := next_is s 0 W (by omega) (by omega) hx
                rw [hc0] at h
                exact h
            have hfin := hg.1.2.1
            have hbeg := (hg.2 hc0).2.1
            have Ht := Lib.hid ht
            clear hx hty hoff hg hts ht hc0 hDl hcw hbs
            go_wp2_with fail
            refine (HN.out _).mono ?_
            rintro e w1 ⟨rfl, hb⟩
            have HB1 := Lib.hid (hb.alloc hb.size (.cells (tokC 0 0 ⟨#[]⟩ 0 0) 24))
            have hsz1 := hb.size
            clear hb
            have ht := Ht.out
            go_wp2_with (refine TokCell.store rfl rfl _ _ rfl w1.heap.size (tokC 0 0 ⟨#[]⟩ 0 0) _ _ _ _ _ rfl rfl (TokCell.new w1 _) rfl w.heap.size w HB1.out hsz1 ?_; intro w2 HT2 HB2 HO2; clear HO2)
            refine (HM.out _).mono ?_
            rintro e w3 ⟨rfl, hb⟩
            have HT3 := Lib.hid (HT2.out.later hb HT2.out.lt)
            have hsz3 := (HB2.out.trans (hb.mono HB2.out.size)).size
            have HB3 := Lib.hid ((HB2.out.trans (hb.mono HB2.out.size)).alloc hsz3 (.cells (tokC 0 0 ⟨#[]⟩ 0 0) 24))
            clear hb
            go_wp2_with (refine TokCell.store rfl rfl _ _ rfl w3.heap.size (tokC 0 0 ⟨#[]⟩ 0 0) _ _ _ _ _ rfl rfl (TokCell.new w3 _) rfl w.heap.size w HB3.out hsz3 ?_; intro w4 HT4 HB4 HO4; have HU4 := Lib.hid (show TokCell w4 _ _ from (HO4.out _ (Nat.ne_of_lt HT3.out.lt)).trans ((heap_alloc_old w3 _ _ HT3.out.lt).trans HT3.out)); clear HO4; obtain ⟨k0, k1, k2, k3, k4⟩ := HT4.out.parts; obtain ⟨j0, j1, j2, j3, j4⟩ := HU4.out.parts; have n1 : ¬ w3.heap.size = w1.heap.size := Nat.ne_of_gt HT3.out.lt; have n2 : ¬ w1.heap.size = w3.heap.size := fun e => n1 e.symm; have f3 := HU4.out.free 3; have f4 := HU4.out.free 4)
            refine (signs_any _).mono ?_
            rintro e w5 ⟨rfl, hb⟩
            have HB5 := Lib.hid (((HB4.out.setCell (p := ⟨w1.heap.size, 3, none⟩) hsz1 _).setCell (p := ⟨w1.heap.size, 4, none⟩) hsz1 _).trans (hb.mono (by have := HB4.out.size; simp [World.setCell]; omega)))
            clear hb
            go_wp2_with fail
            go_ret
            exact ⟨rfl, HB5.out⟩
          · have hoff : x.off b.size = Sg.err x.code := if_neg hc0
            have he : x = Sg.err x.code := hg.1.1 hc0
            obtain ⟨cc, hcc⟩ : ∃ cc, x.code = cc := ⟨_, rfl⟩
            rw [hcc] at hoff he hc0
            have HM : Hid (∀ W, Calls Try.prog 8 #[.string t, .int .i64 0] W fun e w' => e = .returned (.tuple #[.agg #[.int .i64 0, .int .i64 0, .string ⟨#[]⟩, .int .i64 0, .int .i64 0], .int .i64 cc]) ∧ Below W.heap.size W w') :=
              Lib.hid fun W => by
                have h := next_is t 0 W (by omega) (by omega) (hty.trans hoff)
                exact h
            have HN : Hid (∀ W, Calls Try.prog 8 #[.string s, .int .i64 0] W fun e w' => e = .returned (.tuple #[.agg #[.int .i64 0, .int .i64 0, .string ⟨#[]⟩, .int .i64 0, .int .i64 0], .int .i64 cc]) ∧ Below W.heap.size W w') :=
              Lib.hid fun W => by
                have h := next_is s 0 W (by omega) (by omega) (hx.trans he)
                exact h
            have hcb : (cc == 0) = false := by simpa using hc0
            have Ht := Lib.hid ht
            clear hx hty hoff hg hts ht hcc hc0 he hDl hcw hbs
            go_wp2_with fail
            refine (HN.out _).mono ?_
            rintro e w1 ⟨rfl, hb⟩
            have HB1 := Lib.hid (hb.alloc hb.size (.cells (tokC 0 0 ⟨#[]⟩ 0 0) 24))
            have hsz1 := hb.size
            clear hb
            have ht := Ht.out
            go_wp2_with (refine TokCell.store rfl rfl _ _ rfl w1.heap.size (tokC 0 0 ⟨#[]⟩ 0 0) 0 0 ⟨#[]⟩ 0 0 rfl rfl (TokCell.new w1 _) rfl w.heap.size w HB1.out hsz1 ?_; intro w2 HT2 HB2 HO2; clear HO2)
            refine (HM.out _).mono ?_
            rintro e w3 ⟨rfl, hb⟩
            have HT3 := Lib.hid (HT2.out.later hb HT2.out.lt)
            have hsz3 := (HB2.out.trans (hb.mono HB2.out.size)).size
            have HB3 := Lib.hid ((HB2.out.trans (hb.mono HB2.out.size)).alloc hsz3 (.cells (tokC 0 0 ⟨#[]⟩ 0 0) 24))
            clear hb
            go_wp2_with (refine TokCell.store rfl rfl _ _ rfl w3.heap.size (tokC 0 0 ⟨#[]⟩ 0 0) 0 0 ⟨#[]⟩ 0 0 rfl rfl (TokCell.new w3 _) rfl w.heap.size w HB3.out hsz3 ?_; intro w4 HT4 HB4 HO4; have HU4 := Lib.hid (show TokCell w4 _ _ from (HO4.out _ (Nat.ne_of_lt HT3.out.lt)).trans ((heap_alloc_old w3 _ _ HT3.out.lt).trans HT3.out)); clear HO4; obtain ⟨k0, k1, k2, k3, k4⟩ := HT4.out.parts; obtain ⟨j0, j1, j2, j3, j4⟩ := HU4.out.parts; have n1 : ¬ w3.heap.size = w1.heap.size := Nat.ne_of_gt HT3.out.lt; have n2 : ¬ w1.heap.size = w3.heap.size := fun e => n1 e.symm; have f3 := HU4.out.free 3; have f4 := HU4.out.free 4)
            refine (signs_any _).mono ?_
            rintro e w5 ⟨rfl, hb⟩
            have HB5 := Lib.hid (HB4.out.trans (hb.mono HB4.out.size))
            clear hb
            go_wp2_with fail
            go_ret
            exact ⟨rfl, HB5.out⟩
        | succ g =>
          have him : i < a.size := by omega
          have hz : ((i : Int) < (a.size : Int)) := by omega
          obtain ⟨d, hd⟩ : ∃ d, a[i] = d := ⟨_, rfl⟩
          have Hd := Lib.hid hd
          by_cases h10 : d.toNat = 10
          · have g10 : ((d.toNat : Int) == 10) = true := by simp [h10]
            clear h10
            go_wp2_with fail
            refine (signs_any _).mono ?_
            rintro e w1 ⟨rfl, hb⟩
            have Hb := Lib.hid hb
            clear hb
            go_wp2_with fail
            go_ret
            exact ⟨rfl, Hb.out⟩
          · have g10 : ((d.toNat : Int) == 10) = false := by simp; omega
            by_cases h13 : d.toNat = 13
            · have g13 : ((d.toNat : Int) == 13) = true := by simp [h13]
              clear h10 h13
              go_wp2_with fail
              refine (signs_any _).mono ?_
              rintro e w1 ⟨rfl, hb⟩
              have Hb := Lib.hid hb
              clear hb
              go_wp2_with fail
              go_ret
              exact ⟨rfl, Hb.out⟩
            · have g13 : ((d.toNat : Int) == 13) = false := by simp; omega
              have HA2 : Hid (∀ d ∈ a.data.toList.take (i + 1), ¬ (d.toNat = 10 ∨ d.toNat = 13)) := Lib.hid (by
                intro z hz
                have hil : i < a.data.toList.length := by rw [← size_data]; exact him
                have hb := byte_at a i him
                rw [List.take_add_one, hb, Hd.out] at hz
                rcases List.mem_append.1 hz with hz | hz
                · exact HA.out z hz
                · obtain rfl : z = d := by simpa using hz
                  omega)
              clear h10 h13
              go_wp2_with fail
              go_roundg g
              case measure => omega
              case rel => exact ⟨i + 1, by omega, by go_num, HA2.out, rfl⟩
end Go.Proofs.Ytnjmapgmodoodaa
