/-
  runs.Decode: the bytes of runs.
-/
import Derived.Test.YtaoeaadgcdoldaaRunEnc
import Derived.Test.YtaoeaadgcdoldaaRunRef2
namespace Go.Proofs.Ytaoeaadgcdoldaa
open Go.RowKit

theorem rep_is (s : ByteArray) (c : Nat) (w : World) (hc : c ≤ 1000) (hs : s.size ≤ 1000000) :
    Calls Try.prog 20 #[.string s, .int .i64 (c : Int)] w fun e w' => e = .returned (.string (bytes (Lib.repeatL s.data.toList c))) ∧ Below w.heap.size w w' :=
  Any.strings_Repeat Try.lays105 Try.Builder_Extra_105 s c w (by omega) (by
    have : s.size * c ≤ 1000000 * 1000 := Nat.mul_le_mul hs hc
    omega)
theorem rep_one (s : ByteArray) (w : World) (hs : s.size ≤ 1000000) :
    Calls Try.prog 20 #[.string s, .int .i64 1] w fun e w' => e = .returned (.string s) ∧ Below w.heap.size w w' := by
  have := rep_is s 1 w (by decide) hs
  rw [Lib.repeatL_one, bytes_of] at this
  exact this
theorem rep_byte (s : ByteArray) (k c : Nat) (w : World) (hk : k < s.size) (hc : c ≤ 1000) :
    Calls Try.prog 20 #[.string (s.extract k (k + 1)), .int .i64 (c : Int)] w fun e w' => e = .returned (.string (bytes (List.replicate c s[k]))) ∧ Below w.heap.size w w' := by
  have := rep_is (s.extract k (k + 1)) c w hc (by rw [ext_size (by omega)]; decide)
  rw [ext_take, drop_at hk] at this
  have e : Lib.repeatL (List.take 1 (s[k] :: List.drop (k + 1) s.data.toList)) c = List.replicate c s[k] := by
    have := Lib.repeatL_replicate s[k] 1 c
    simpa using this
  rwa [e] at this
theorem ownsF_later {w w' : World} {B : Nat} {e : TypeId} {size : Nat} {v : Value} {n : Nat} {xs : List Value} (h : w.ownsRowF B e size v n xs) (hb : Below w.heap.size w w') : w'.ownsRowF B e size v n xs := by
  refine ⟨h.1, ?_⟩
  rcases h.2 with h2 | ⟨g, cap, cur, fz, hv, hB, hg, hr⟩
  · exact .inl h2
  · exact .inr ⟨g, cap, cur, fz, hv, hB, (hb.block g (Array.getElem?_eq_some_iff.1 hg).1).trans hg, hr⟩
theorem Bld.later {B b : Nat} {l : List UInt8} {w w' : World} (h : Bld B b l w) (hb : Below w.heap.size w w') : Bld B b l w' := by
  have key : ∀ p, Lib.BuilderAtF 35 5 B b p (Lib.byteCells l) w → Lib.BuilderAtF 35 5 B b p (Lib.byteCells l) w' := by
    rintro p ⟨hB, x, hbk, hown, hne⟩
    exact ⟨hB, x, (hb.block b (Array.getElem?_eq_some_iff.1 hbk).1).trans hbk, ownsF_later hown hb, hne⟩
  exact h.imp (key _) (key _)

set_option maxRecDepth 100000 in
set_option maxHeartbeats 2000000 in
theorem pDec_any (s : ByteArray) (most : Int) (w : World) (hs : s.size ≤ 100000) (hm0 : -9223372036854775808 ≤ most) (hm1 : most ≤ 9223372036854775807) {a : List UInt8} {b : Int} (h : decAll s.data.toList most = (a, b)) :
    Calls Try.prog 10 #[.string s, .int .i64 most] w fun e w' => e = .returned (.tuple #[.string (bytes a), .int .i64 b]) ∧ Below w.heap.size w w' := by
  by_cases hm : most < 0
  · have Hr : Hid ((a, b) = ([], 2)) := Lib.hid (by rw [← h]; unfold decAll; rw [if_pos hm])
    clear h
    go_enter Try.func10, Try.ntmps10
    go_wp2_with fail
    go_ret2
    obtain ⟨rfl, rfl⟩ := Prod.mk.inj Hr.out
    exact ⟨rfl, Below.refl _ _⟩
  · have H : Hid ((a, b) = decR most (s.size + 1) [] s.data.toList) := Lib.hid (by rw [← h]; unfold decAll; rw [if_neg hm, ← size_data])
    clear h
    go_enter Try.func10, Try.ntmps10
    go_wp2_with fail
    go_loopg [7] s.size (fun g s7 wx => ∃ (k : Nat) (out : List UInt8) (f : Nat), k + g = s.size ∧ s7 = .int .i64 k ∧ Aside (Bld w.heap.size w.heap.size out wx) ∧ (out.length : Int) ≤ most ∧ out.length ≤ 128 * k ∧ Aside (s.size < k + f ∧ (a, b) = decR most f out (s.data.toList.drop k)) ∧ Below w.heap.size w wx)
    case atStart => exact ⟨0, [], s.size + 1, by omega, rfl, Bld.fresh w, by simp; omega, by simp, ⟨by omega, H.out⟩, (Below.refl _ w).alloc (Nat.le_refl _) _⟩
    case round =>
      obtain ⟨k, out, f, hkg, rfl, HO, hom, hol, HD, hb⟩ := hrel
      have Hb := Lib.hid hb
      clear hb
      cases gk with
      | zero =>
        obtain rfl : k = s.size := by omega
        have Hr : Hid ((a, b) = ([], 5)) := Lib.hid (by rw [HD.out.2, List.drop_of_length_le (by rw [← size_data]; exact Nat.le_refl _)]; exact decR_nil)
        clear hkg
        go_wp2_with fail
        go_ret2
        obtain ⟨rfl, rfl⟩ := Prod.mk.inj Hr.out
        exact ⟨rfl, Hb.out⟩
      | succ g =>
        have hk : k < s.size := by omega
        have hkz : (k : Int) < (s.size : Int) := by omega
        obtain ⟨f, rfl⟩ : ∃ g, f = g + 1 := ⟨f - 1, by have := HD.out.1; omega⟩
        have hdat := HD.out.2
        rw [drop_at hk] at hdat
        obtain ⟨c, hc⟩ : ∃ c : UInt8, s[k] = c := ⟨_, rfl⟩
        rw [hc] at hdat
        have hc256 := c.toNat_lt
        have Hf : Hid (s.size < k + (f + 1)) := Lib.hid HD.out.1
        have hdl : (s.data.toList.drop (k + 1)).length = s.size - (k + 1) := by rw [List.length_drop, ← size_data]
        clear HD
        by_cases h128 : c.toNat = 128
        · have h128' : ((c.toNat : Int) == 128) = true := beq_iff_eq.2 (by omega)
          rw [decR_end h128] at hdat
          by_cases h1 : k + 1 < s.size
          · have h1z : (k : Int) + 1 < (s.size : Int) := by omega
            rw [if_neg (by intro e; rw [e] at hdl; simp at hdl; omega)] at hdat
            have Hr := Lib.hid hdat
            clear hdat hdl h128
            go_wp2_with fail
            go_ret2
            obtain ⟨rfl, rfl⟩ := Prod.mk.inj Hr.out
            exact ⟨rfl, Hb.out⟩
          · have h1z : ¬ (k : Int) + 1 < (s.size : Int) := by omega
            rw [if_pos (List.eq_nil_of_length_eq_zero (by omega))] at hdat
            have Hr := Lib.hid hdat
            clear hdat hdl h128
            go_wp2_with fail
            refine (string_is w.heap.size w.heap.size out _ HO.out Hb.out.size).mono ?_
            rintro e w3 ⟨rfl, -, hb3, -⟩
            have Hb3 := Lib.hid (Hb.out.trans hb3)
            clear hb3
            go_wp2_with fail
            go_ret2
            obtain ⟨rfl, rfl⟩ := Prod.mk.inj Hr.out
            exact ⟨rfl, Hb3.out⟩
        · have h128' : ((c.toNat : Int) == 128) = false := beq_eq_false_iff_ne.2 (by omega)
          have Ho := Lib.hid hom
          by_cases hlt : c.toNat < 128
          · have hltz : (c.toNat : Int) < 128 := by omega
            obtain ⟨L, hL⟩ : ∃ L, c.toNat + 1 = L := ⟨_, rfl⟩
            have hLz : (c.toNat : Int) + 1 = (L : Int) := by omega
            by_cases hsh : s.size - (k + 1) < L
            · rw [decR_raw_short hlt (by rw [hdl]; omega)] at hdat
              have Hr := Lib.hid hdat
              have hshz : (s.size : Int) - ((k : Int) + 1) < (L : Int) := by omega
              clear hdat h128 hdl
              go_wp2_with fail
              go_ret2
              obtain ⟨rfl, rfl⟩ := Prod.mk.inj Hr.out
              exact ⟨rfl, Hb.out⟩
            · have hshz : ¬ (s.size : Int) - ((k : Int) + 1) < (L : Int) := by omega
              have hlen2 : (out ++ (s.data.toList.drop (k + 1)).take L).length = out.length + L := by rw [List.length_append, List.length_take, hdl]; omega
              by_cases hbig : most < ((out.length + L : Nat) : Int)
              · rw [decR_raw_big hlt (by rw [hdl]; omega) (by rw [hL, hlen2]; exact hbig)] at hdat
                have Hr := Lib.hid hdat
                have hbigz : most - (out.length : Int) < (L : Int) := by omega
                clear hdat h128 hdl hlen2 hbig
                go_wp2_with fail
                refine (len_is w.heap.size w.heap.size out _ HO.out).mono ?_
                rintro e w1 ⟨rfl, rfl⟩
                go_wp2_with fail
                go_ret2
                obtain ⟨rfl, rfl⟩ := Prod.mk.inj Hr.out
                exact ⟨rfl, Hb.out⟩
              · rw [decR_raw hlt (by rw [hdl]; omega) (by rw [hL, hlen2]; exact hbig), hL, List.drop_drop] at hdat
                have Hr := Lib.hid hdat
                have hbigz : ¬ most - (out.length : Int) < (L : Int) := by omega
                have q2 : ((k : Int) + 1 + (L : Int)).toNat = k + 1 + L := by omega
                have q3 : (k : Int) + 1 ≤ (k : Int) + 1 + (L : Int) := by omega
                have q4 : (k : Int) + 1 + (L : Int) ≤ (s.size : Int) := by omega
                clear hdat h128 hdl hlen2 hbig
                go_wp2_with fail
                refine (len_is w.heap.size w.heap.size out _ HO.out).mono ?_
                rintro e w1 ⟨rfl, rfl⟩
                go_wp2_with fail
                refine (rep_one _ _ (by rw [ByteArray.size_extract]; omega)).mono ?_
                rintro e w1 ⟨rfl, hb1⟩
                have HO1 := Lib.hid (HO.out.later hb1)
                have Hb1 := Lib.hid (Hb.out.trans (hb1.mono Hb.out.size))
                clear hb1
                go_wp2_with fail
                refine (wstr_is w.heap.size w.heap.size out _ w1 HO1.out (by rw [ByteArray.size_extract]; omega) Hb1.out.size).mono ?_
                rintro e w2 ⟨rfl, hB2, hb2, -⟩
                rw [ext_take] at hB2
                have HB2 := Lib.hid hB2
                have Hb2 := Lib.hid (Hb1.out.trans hb2)
                clear hB2 hb2
                go_wp2_with fail
                go_roundg (g - L)
                case measure => omega
                case rel =>
                  have hf := Hf.out
                  have ho := Ho.out
                  have htl : ((s.data.toList.drop (k + 1)).take L).length = L := by rw [List.length_take, List.length_drop, ← size_data]; omega
                  exact ⟨k + 1 + L, _, f, by omega, by go_num, HB2.out, by rw [List.length_append, htl]; omega, by rw [List.length_append, htl]; omega, ⟨by omega, Hr.out⟩, Hb2.out⟩
          · have hgt : 128 < c.toNat := by omega
            have hltz : ¬ (c.toNat : Int) < 128 := by omega
            obtain ⟨K, hK⟩ : ∃ K, 257 - c.toNat = K := ⟨_, rfl⟩
            have hKz : 257 - (c.toNat : Int) = (K : Int) := by omega
            by_cases hsh : s.size ≤ k + 1
            · rw [List.eq_nil_of_length_eq_zero (show (s.data.toList.drop (k + 1)).length = 0 by omega), decR_run_short hgt] at hdat
              have Hr := Lib.hid hdat
              have hshz : (s.size : Int) - ((k : Int) + 1) < 1 := by omega
              clear hdat h128 hdl
              go_wp2_with fail
              go_ret2
              obtain ⟨rfl, rfl⟩ := Prod.mk.inj Hr.out
              exact ⟨rfl, Hb.out⟩
            · have hk1 : k + 1 < s.size := by omega
              have hshz : ¬ (s.size : Int) - ((k : Int) + 1) < 1 := by omega
              rw [drop_at hk1] at hdat
              have hlen2 : (out ++ List.replicate K s[k + 1]).length = out.length + K := by rw [List.length_append, List.length_replicate]
              by_cases hbig : most < ((out.length + K : Nat) : Int)
              · rw [decR_run_big hgt (by rw [hK, hlen2]; exact hbig)] at hdat
                have Hr := Lib.hid hdat
                have hbigz : most - (out.length : Int) < (K : Int) := by omega
                clear hdat h128 hdl hlen2 hbig
                go_wp2_with fail
                refine (len_is w.heap.size w.heap.size out _ HO.out).mono ?_
                rintro e w1 ⟨rfl, rfl⟩
                go_wp2_with fail
                go_ret2
                obtain ⟨rfl, rfl⟩ := Prod.mk.inj Hr.out
                exact ⟨rfl, Hb.out⟩
              · rw [decR_run hgt (by rw [hK, hlen2]; exact hbig), hK] at hdat
                have Hr := Lib.hid hdat
                have hbigz : ¬ most - (out.length : Int) < (K : Int) := by omega
                have q2 : ((k : Int) + 1 + 1).toNat = k + 1 + 1 := by omega
                have q4 : (k : Int) + 1 + 1 ≤ (s.size : Int) := by omega
                have hK128 : K ≤ 1000 := by omega
                have hKg : K ≤ 128 := by omega
                have Hrep := Lib.hid (fun W => rep_byte s (k + 1) K W hk1 hK128)
                clear hdat h128 hdl hlen2 hbig
                go_wp2_with fail
                refine (len_is w.heap.size w.heap.size out _ HO.out).mono ?_
                rintro e w1 ⟨rfl, rfl⟩
                go_wp2_with fail
                refine (Hrep.out _).mono ?_
                rintro e w1 ⟨rfl, hb1⟩
                have HO1 := Lib.hid (HO.out.later hb1)
                have Hb1 := Lib.hid (Hb.out.trans (hb1.mono Hb.out.size))
                clear hb1
                go_wp2_with fail
                refine (wstr_is w.heap.size w.heap.size out _ w1 HO1.out (by rw [bytes_size, List.length_replicate]; omega) Hb1.out.size).mono ?_
                rintro e w2 ⟨rfl, hB2, hb2, -⟩
                rw [bytes_data] at hB2
                have HB2 := Lib.hid hB2
                have Hb2 := Lib.hid (Hb1.out.trans hb2)
                clear hB2 hb2
                go_wp2_with fail
                go_roundg (g - 1)
                case measure => omega
                case rel =>
                  have hf := Hf.out
                  have ho := Ho.out
                  exact ⟨k + 1 + 1, _, f, by omega, by go_num, HB2.out, by rw [List.length_append, List.length_replicate]; omega, by rw [List.length_append, List.length_replicate]; omega, ⟨by omega, Hr.out⟩, Hb2.out⟩

end Go.Proofs.Ytaoeaadgcdoldaa
