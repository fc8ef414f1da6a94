/-
  The walk of the law ZwrapBack.
-/
import Derived.Test.YtboiljclenikbaaDoorZwEx
import Derived.Test.YtboiljclenikbaaDoorSqLaw4
import Derived.Test.YtboiljclenikbaaDoorBytesRow
namespace Go.Proofs.YtboiljclenikbaaDoor
open Go.RowKit
set_option maxRecDepth 100000
theorem fixed_two (l : List UInt8) : 2 ≤ (fixedZ l).length := by
  have ht : 8 * (fixedZ l).length = (fixedR l).length + padN (fixedR l).length := textB_length _
  have h1 : headB.length = 3 := by decide +kernel
  have h2 : (symB 256).length = 7 := by decide +kernel
  have h3 : (fixedR l).length = headB.length + (codedN l l.length 0).length + (symB 256).length := by
    unfold fixedR
    rw [List.length_append, List.length_append]
  omega
theorem best_two (l : List UInt8) : 2 ≤ (bestZ l).length := by
  unfold bestZ
  split
  · exact fixed_two l
  · rw [storedZ_length]; omega
/-- A byte of the sum, in what is wrapped. -/
theorem wrapZ_tail (l : List UInt8) {k : Nat} (hk : k < 4) : (wrapZ l)[(wrapZ l).length - 1 - k]? = (tailZ l)[3 - k]? := by
  rw [wrapZ_length, show (bestZ l).length + 6 - 1 - k = ((bestZ l).length + (3 - k)) + 1 + 1 by omega]
  show (120 :: 1 :: (bestZ l ++ tailZ l))[_]? = _
  rw [List.getElem?_cons_succ, List.getElem?_cons_succ, List.getElem?_append_right (by omega), Nat.add_sub_cancel_left]
/-- What comes of wrapped bytes with a byte of the sum turned. -/
theorem wturned_is {l : List UInt8} (hl : l.length ≤ 65535) {U : ByteArray} (hU : wrapZ l = U.data.toList) {k i : Nat} (hk : k < 4) (hi : i = U.size - 1 - k) (hlt : i < U.size) {d : UInt8} {m : Nat} (hd : d.toNat = U[i].toNat ^^^ m) :
    unwrapZ (U.data.toList.set i d) (l.length : Int) = if m = 0 then (l, 0) else ([], 6) := by
  have h := wrap_turned hl hk d
  have hw := wrapZ_tail l hk
  rw [hU, ← size_data, ← hi] at h hw
  rw [h, ← hw]
  have hget : U.data.toList[i]? = some U[i] := by rw [List.getElem?_eq_getElem (by rw [← size_data]; exact hlt)]; rfl
  rw [hget]
  by_cases hm : m = 0
  · rw [if_pos hm, if_pos]
    rw [hm, Nat.xor_zero] at hd
    rw [UInt8.toNat_inj.1 hd]
  · rw [if_neg hm, if_neg]
    intro e
    have e2 : U[i] = d := Option.some.inj e
    rw [← e2] at hd
    have h0 : U[i].toNat ^^^ U[i].toNat = U[i].toNat ^^^ (U[i].toNat ^^^ m) := congrArg (fun x => U[i].toNat ^^^ x) hd
    rw [← Nat.xor_assoc, Nat.xor_self, Nat.zero_xor] at h0
    exact hm h0.symm
set_option maxHeartbeats 4000000 in
theorem zback_walk (s : ByteArray) (cut at' by' : Nat) (w : World) (hs : s.size ≤ maxLen) (_hc : cut < 65536) (_ha : at' < 256) (hby : by' < 256) (hl : LaidQ w) (hi : Laid w) :
    Calls Tryd.prog 3 #[.string s, .int .u16 (cut : Int), .int .u8 (at' : Int), .int .u8 (by' : Int)] w (YesZ w) := by
  unfold maxLen at hs
  have HL := Lib.hid hl
  have HI := Lib.hid hi
  clear hl hi
  by_cases hbig : (3000 : Int) < (s.size : Int)
  · have HS := Lib.hid (wrapped_is w HL.out HI.out)
    go_enter Tryd.func3, Tryd.ntmps3
    go_wp2_with fail
    refine HS.out.mono ?_
    rintro e w1 ⟨rfl, hb⟩
    have Hb1 := Lib.hid hb
    clear hb
    go_wp2_with fail
    go_ret
    exact ⟨rfl, Hb1.out⟩
  have hs3 : s.size ≤ 3000 := by omega
  have hll : s.data.toList.length ≤ 65535 := by rw [← size_data]; omega
  have hsl : (s.data.toList.length : Int) = (s.size : Int) := by rw [← size_data]
  obtain ⟨U, hU⟩ : ∃ U : ByteArray, wrapZ s.data.toList = U.data.toList := ⟨bytes (wrapZ s.data.toList), by rw [bytes_data]⟩
  have hUs : 8 ≤ U.size ∧ U.size ≤ 4000 := by
    have h1 := best_two s.data.toList
    have h2 := (bestZ_le s.data.toList).2
    have h3 := storedZ_length s.data.toList
    have h4 := wrapZ_length s.data.toList
    rw [hU, ← size_data] at h4
    rw [← size_data] at h3
    omega
  have h8 : ¬ (U.size : Int) < 8 := by omega
  have hU0 : (0 : Int) < (U.size : Int) := by omega
  obtain ⟨j, hj⟩ : ∃ j, cut % U.size = j := ⟨_, rfl⟩
  have hjlt : j < U.size := by rw [← hj]; exact Nat.mod_lt _ (by omega)
  have hmod : (cut : Int) % (U.size : Int) = (j : Int) := by rw [← hj]; rfl
  obtain ⟨k, hk⟩ : ∃ k, at' % 4 = k := ⟨_, rfl⟩
  have hk4 : k < 4 := by omega
  obtain ⟨i, hii⟩ : ∃ i, U.size - 1 - k = i := ⟨_, rfl⟩
  have hilt : i < U.size := by omega
  have hiz : (U.size : Int) - 1 - (at' : Int) % 4 = (i : Int) := by omega
  obtain ⟨d, hd⟩ : ∃ d : UInt8, d.toNat = U[i].toNat ^^^ by' := ⟨UInt8.ofNat (U[i].toNat ^^^ by'), by
    have hx256 : U[i].toNat ^^^ by' < 256 := Nat.xor_lt_two_pow (n := 8) U[i].toNat_lt hby
    rw [UInt8.toNat_ofNat']; omega⟩
  have hxor := u8_xor_nat U[i].toNat by' U[i].toNat_lt hby
  rw [← hd] at hxor
  obtain ⟨V, hV⟩ : ∃ V, bytes (U.data.toList.set i d) = V := ⟨_, rfl⟩
  have hVs : V.size ≤ 4000 := by rw [← hV, bytes_size, List.length_set, ← size_data]; omega
  have H1 := Lib.hid (wrap_is s w (by omega) HL.out hU)
  have hw1 := wrap_back hll
  rw [hU, hsl] at hw1
  have H2 := Lib.hid (fun W (hW : Below w.heap.size w W) => unwrap_is U s (s.size : Int) W (by omega) (by omega) (HI.out.later hW) hw1)
  have hw2 := wrap_cut hll (k := j) (by rw [hU, ← size_data]; exact hjlt)
  rw [hU, hsl] at hw2
  have H3 := Lib.hid (fun W (hW : Below w.heap.size w W) => unwrap_is (U.extract 0 j) ⟨#[]⟩ (s.size : Int) W (by rw [ByteArray.size_extract]; omega) (by omega) (HI.out.later hW) (e := 5) (by rw [ext_first]; exact hw2))
  have hw3 := wturned_is hll hU hk4 hii.symm hilt hd
  obtain ⟨z, g, hz, hg⟩ : ∃ (z : ByteArray) (g : Int), unwrapZ V.data.toList (s.size : Int) = (z.data.toList, g) ∧ ((by' = 0 ∧ g = 0) ∨ (¬ by' = 0 ∧ g = 6)) := by
    rw [← hV, bytes_data, ← hsl, hw3]
    by_cases h : by' = 0
    · rw [if_pos h]; exact ⟨s, 0, rfl, .inl ⟨h, rfl⟩⟩
    · rw [if_neg h]; exact ⟨⟨#[]⟩, 6, rfl, .inr ⟨h, rfl⟩⟩
  have H4 := Lib.hid (fun W (hW : Below w.heap.size w W) => unwrap_is V z (s.size : Int) W (by omega) (by omega) (HI.out.later hW) hz)
  have hw4 : 1 ≤ s.size → unwrapZ U.data.toList ((s.size : Int) - 1) = ((⟨#[]⟩ : ByteArray).data.toList, 7) := fun h1 => by
    have h := wrap_big hll (by rw [← size_data]; exact h1)
    rw [hU, ← size_data, show (((s.size - 1 : Nat)) : Int) = (s.size : Int) - 1 by omega] at h
    exact h
  have H5 := Lib.hid (fun (h1 : 1 ≤ s.size) W (hW : Below w.heap.size w W) => unwrap_is U ⟨#[]⟩ ((s.size : Int) - 1) W (by omega) (by omega) (HI.out.later hW) (hw4 h1))
  have HS := Lib.hid (fun W (hW : Below w.heap.size w W) => wrapped_is W (HL.out.later hW) (HI.out.later hW))
  have HV := Lib.hid hV
  have Hd := Lib.hid hd
  have hjz : (j : Int) ≤ (U.size : Int) := by omega
  clear hj hjlt hk hk4 hii hU hw1 hw2 hw3 hw4 hz hV hd hll hsl
  go_enter Tryd.func3, Tryd.ntmps3
  go_wp2_with fail
  refine H1.out.mono ?_
  rintro e w1 ⟨rfl, hb⟩
  have Hb1 := Lib.hid hb
  clear hb
  go_wp2_with fail
  refine (H2.out _ Hb1.out).mono ?_
  rintro e w2 ⟨rfl, hb⟩
  have Hb2 := Lib.hid (Hb1.out.trans (hb.mono Hb1.out.size))
  clear hb
  go_wp2_with fail
  refine (H3.out _ Hb2.out).mono ?_
  rintro e w3 ⟨rfl, hb⟩
  have Hb3 := Lib.hid (Hb2.out.trans (hb.mono Hb2.out.size))
  clear hb
  have hconv := Lib.run_convert_string_bytes (P := Tryd.prog) w3 9 28 5 U (u := .string) Tryd.underlying9 Tryd.underlying28 Tryd.underlying5
  have hrow := row_new w3 5 U
  have hbel : Below w3.heap.size w3 (Lib.bytesWorld w3 5 U) := Lib.bytesWorld_below w3 5 U
  obtain ⟨cap, hcap⟩ : ∃ cap, grownCap w3 U.size 0 5 = cap := ⟨_, rfl⟩
  rw [hcap] at hconv
  clear hcap
  generalize Lib.bytesWorld w3 5 U = W1 at hconv hrow hbel
  have hcell := hrow.cell_at hilt
  have hfz := hrow.2 i (by simpa using hilt)
  have hrow2 := hrow.set i d
  have hback := hrow2.back cap U.size (by simp)
  rw [HV.out] at hback
  have Hb4 := Lib.hid (Hb3.out.trans ((below_set hbel (Nat.le_refl _) i (.int .u8 (d.toNat : Int))).mono Hb3.out.size))
  clear hrow hrow2 hbel
  go_wp2_with fail
  refine (H4.out _ Hb4.out).mono ?_
  rintro e w4 ⟨rfl, hb⟩
  have Hb5 := Lib.hid (Hb4.out.trans (hb.mono Hb4.out.size))
  clear hb hcell hfz hback hconv hxor hiz hmod
  by_cases h1 : 1 ≤ s.size
  · have hse : (s.toList == []) = false := by
      rw [Lib.toList_data]
      cases h : s.data.toList with
      | nil => rw [size_data, h] at h1; exact absurd h1 (by simp)
      | cons a t => rfl
    have H6 := Lib.hid (H5.out h1 _ Hb5.out)
    rcases hg with ⟨g1, rfl⟩ | ⟨g1, rfl⟩
    · have gz : ((by' : Int) != 0) = false := by rw [bne_eq_false_iff_eq]; omega
      clear g1
      go_wp2_with fail
      refine H6.out.mono ?_
      rintro e w5 ⟨rfl, hb⟩
      have Hb6 := Lib.hid (Hb5.out.trans (hb.mono Hb5.out.size))
      clear hb
      go_wp2_with fail
      refine (HS.out _ Hb6.out).mono ?_
      rintro e w6 ⟨rfl, hb⟩
      have Hb7 := Lib.hid (Hb6.out.trans (hb.mono Hb6.out.size))
      clear hb
      go_wp2_with fail
      go_ret
      exact ⟨rfl, Hb7.out⟩
    · have gz : ((by' : Int) != 0) = true := by rw [bne_iff_ne]; omega
      clear g1
      go_wp2_with fail
      refine H6.out.mono ?_
      rintro e w5 ⟨rfl, hb⟩
      have Hb6 := Lib.hid (Hb5.out.trans (hb.mono Hb5.out.size))
      clear hb
      go_wp2_with fail
      refine (HS.out _ Hb6.out).mono ?_
      rintro e w6 ⟨rfl, hb⟩
      have Hb7 := Lib.hid (Hb6.out.trans (hb.mono Hb6.out.size))
      clear hb
      go_wp2_with fail
      go_ret
      exact ⟨rfl, Hb7.out⟩
  · have hse : (s.toList == []) = true := by
      rw [Lib.toList_data]
      cases h : s.data.toList with
      | nil => rfl
      | cons a t => exact absurd (by rw [size_data, h]; simp) h1
    rcases hg with ⟨g1, rfl⟩ | ⟨g1, rfl⟩
    · have gz : ((by' : Int) != 0) = false := by rw [bne_eq_false_iff_eq]; omega
      clear g1
      go_wp2_with fail
      refine (HS.out _ Hb5.out).mono ?_
      rintro e w6 ⟨rfl, hb⟩
      have Hb7 := Lib.hid (Hb5.out.trans (hb.mono Hb5.out.size))
      clear hb
      go_wp2_with fail
      go_ret
      exact ⟨rfl, Hb7.out⟩
    · have gz : ((by' : Int) != 0) = true := by rw [bne_iff_ne]; omega
      clear g1
      go_wp2_with fail
      refine (HS.out _ Hb5.out).mono ?_
      rintro e w6 ⟨rfl, hb⟩
      have Hb7 := Lib.hid (Hb5.out.trans (hb.mono Hb5.out.size))
      clear hb
      go_wp2_with fail
      go_ret
      exact ⟨rfl, Hb7.out⟩
end Go.Proofs.YtboiljclenikbaaDoor
