/-
  The contract of package predict's Encode.
-/
import Derived.Test.YtjkppdgakokelaaPrTake
import Derived.Test.YtjkppdgakokelaaBuilder
import Derived.Test.YtjkppdgakokelaaPrPlain3
import Derived.Deep.RegionWith
import Derived.IntWalk
namespace Go.Proofs.Ytjkppdgakokelaa
open Go.RowKit

theorem ownsF_later {w w' : World} {B : Nat} {e : TypeId} {size : Nat} {v : Value} {n : Nat} {xs : List Value} (h : w.ownsRowF B e size v n xs) (hb : Below w.heap.size w w') : w'.ownsRowF B e size v n xs := by
  refine ⟨h.1, ?_⟩
  rcases h.2 with h2 | ⟨g, cap, cur, fz, hv, hB, hg, hr⟩
  · exact .inl h2
  · exact .inr ⟨g, cap, cur, fz, hv, hB, (hb.block g (Array.getElem?_eq_some_iff.1 hg).1).trans hg, hr⟩
theorem Bld.later {B b : Nat} {l : List UInt8} {w w' : World} (h : Bld B b l w) (hb : Below w.heap.size w w') : Bld B b l w' := by
  have key : ∀ p, Lib.BuilderAtF 34 5 B b p (Lib.byteCells l) w → Lib.BuilderAtF 34 5 B b p (Lib.byteCells l) w' := by
    rintro p ⟨hB, x, hbk, hown, hne⟩
    exact ⟨hB, x, (hb.block b (Array.getElem?_eq_some_iff.1 hbk).1).trans hbk, ownsF_later hown hb, hne⟩
  exact h.imp (key _) (key _)
theorem zeros_is (n : Nat) (w : World) (hn : n ≤ 1000) :
    Calls Try.prog 12 #[.string ⟨#[0]⟩, .int .i64 (n : Int)] w fun e w' => e = .returned (.string (bytes (List.replicate n 0))) ∧ Below w.heap.size w w' := by
  have h := Any.strings_Repeat Try.lays105 Try.Builder_Extra_105 ⟨#[0]⟩ n w (by omega) (by show 1 * n ≤ _; omega)
  have e : Lib.repeatL (ByteArray.mk #[0]).data.toList n = List.replicate n 0 := by
    have := Lib.repeatL_replicate (0 : UInt8) 1 n
    simpa using this
  rw [e] at h
  exact h
theorem empty_yes2 {t : ByteArray} (h : t.size = 0) : t = ByteArray.mk #[] := by
  cases t with
  | mk d => have : d = #[] := Array.eq_empty_of_size_eq_zero h
            rw [this]
theorem sub_byte (x y : UInt8) : IntKind.u8.wrap ((x.toNat : Int) - (y.toNat : Int)) = ((x - y).toNat : Int) := by
  have h1 := x.toNat_lt
  have h2 := y.toNat_lt
  rw [IntKind.wrap_u8, UInt8.toNat_sub]
  omega

set_option maxRecDepth 100000 in
set_option maxHeartbeats 4000000 in
theorem enc_is (s : ByteArray) (columns : Int) (w : World) (hs : s.size ≤ 100000) (hc0 : -9223372036854775808 ≤ columns) (hc1 : columns ≤ 9223372036854775807) {a : List UInt8} {b : Int} (h : encP s.data.toList columns = (a, b)) :
    Calls Try.prog 7 #[.string s, .int .i64 columns] w fun e w' => e = .returned (.tuple #[.string (bytes a), .int .i64 b]) ∧ Below w.heap.size w w' := by
  by_cases hw : columns < 1 ∨ 256 < columns
  · obtain ⟨rfl, rfl⟩ : [] = a ∧ 2 = b := by unfold encP at h; rw [if_pos hw] at h; exact Prod.mk.inj h
    have Hw := Lib.hid (fun W => width_no columns W hw)
    clear h hw
    go_enter Try.func7, Try.ntmps7
    go_wp2_with fail
    refine (Hw.out _).mono ?_
    rintro e w1 ⟨rfl, rfl⟩
    go_wp2_with fail
    go_ret2
    exact ⟨rfl, Below.refl _ _⟩
  · obtain ⟨n, rfl⟩ := Int.eq_ofNat_of_zero_le (show 0 ≤ columns by omega)
    have h1 : 1 ≤ n := by omega
    have h2 : n ≤ 256 := by omega
    have Hw := Lib.hid (fun W => width_yes n W h1 h2)
    have hsz := size_data s
    have hn0 : ¬ (n : Int) = 0 := by omega
    have hmod : (s.size : Int) % (n : Int) = ((s.size % n : Nat) : Int) := (Int.natCast_emod s.size n).symm
    clear hw
    by_cases hm : s.size % n = 0
    · have hmz : ((s.size : Int) % (n : Int) != 0) = false := by
        rw [bne_eq_false_iff_eq, hmod, hm]; rfl
      obtain ⟨M, hM⟩ : ∃ M, s.size = M * n := ⟨s.size / n, by have := Nat.div_add_mod s.size n; rw [hm, Nat.mul_comm] at this; omega⟩
      have HD : Hid ((a, b) = (encUpto s.data.toList n s.size, 0)) := Lib.hid (by
        rw [← h, encP_end h1 h2 (by rw [← hsz]; exact hm), ← hsz])
      have HM := Lib.hid hM
      have Hsz := Lib.hid hsz
      have H1 := Lib.hid h1
      have H2 := Lib.hid h2
      have HF := Lib.hid (Bld.fresh w)
      have Hb0 : Hid (Below w.heap.size w (w.alloc (.cells #[.pointer none, .slice none 0 0] 34))) := Lib.hid ((Below.refl _ w).alloc (Nat.le_refl _) _)
      have Hzs := Lib.hid (fun W => zeros_is n W (by omega))
      clear h hm hmod hsz hM
      go_enter Try.func7, Try.ntmps7
      go_wp2_with fail
      refine (Hw.out _).mono ?_
      rintro e w1 ⟨rfl, rfl⟩
      go_wp2_with fail
      refine (Hzs.out _).mono ?_
      rintro e w1 ⟨rfl, hb1⟩
      have HB1 := Lib.hid (HF.out.later hb1)
      have Hb1 := Lib.hid (Hb0.out.trans (hb1.mono Hb0.out.size))
      clear hb1
      go_wp2_with fail
      go_loopg [0, 7] M (fun g s0 s7 wx => ∃ (t ah : ByteArray) (r : Nat), s0 = .string t ∧ s7 = .string ah ∧ t.size ≤ 100000 ∧ ah.size = n ∧ Aside (t.size = g * n ∧ r + g = M ∧ t.data.toList = s.data.toList.drop (r * n) ∧ ah.data.toList = aboveRow s.data.toList n r) ∧ Aside (Bld w.heap.size w.heap.size (encUpto s.data.toList n (r * n)) wx) ∧ Aside (Below w.heap.size w wx))
      case atStart => exact ⟨s, _, 0, rfl, rfl, hs, by rw [bytes_size]; simp, ⟨HM.out, by omega, by simp, by rw [bytes_data, aboveRow_zero]⟩, by rw [Nat.zero_mul]; exact HB1.out, Hb1.out⟩
      case round =>
        obtain ⟨t, ah, r, rfl, rfl, hts, has, HS, HB, hb⟩ := hrel
        have Hb := Lib.hid hb
        clear hb
        cases gk with
        | zero =>
          have h0 : t.size = 0 := by rw [HS.out.1, Nat.zero_mul]
          obtain rfl := empty_yes2 h0
          have Hr : Hid ((a, b) = (encUpto s.data.toList n (r * n), 0)) := Lib.hid (by rw [HD.out, HM.out, show r = M by have := HS.out.2.1; omega])
          clear h0
          go_wp2_with fail
          refine (string_is w.heap.size w.heap.size _ _ HB.out Hb.out.size).mono ?_
          rintro e w3 ⟨rfl, -, hb3, -⟩
          have Hb3 := Lib.hid (Hb.out.trans hb3)
          clear hb3
          go_wp2_with fail
          go_ret2
          obtain ⟨rfl, rfl⟩ := Prod.mk.inj Hr.out
          exact ⟨rfl, Hb3.out⟩
        | succ g =>
          have hsg : t.size = g * n + n := by rw [HS.out.1, Nat.add_mul, Nat.one_mul]
          have hpos : 0 < t.size := by have := H1.out; omega
          have he := isEmpty_not (show ¬ t.data.toList = [] from fun e => by rw [size_data, e] at hpos; exact absurd hpos (by decide))
          have hrb : r * n + t.size = s.size := by rw [hsg, HM.out, ← HS.out.2.1, Nat.add_mul, Nat.add_mul]; omega
          have hrow : (r + 1) * n ≤ s.data.toList.length := by rw [← Hsz.out, Nat.add_mul, Nat.one_mul]; omega
          have hlen := encPart_length s.data.toList n r n
          have Hlen : Hid (2 * (r * n) + 1 + n ≤ 1000000) := Lib.hid (by omega)
          obtain ⟨t2, ht2⟩ : ∃ t2, t.extract n t.size = t2 := ⟨_, rfl⟩
          obtain ⟨a2, ha2⟩ : ∃ a2, t.extract 0 n = a2 := ⟨_, rfl⟩
          have Hs2 : Hid (t2.size = g * n) := Lib.hid (by rw [← ht2, ByteArray.size_extract]; omega)
          have Ha2 : Hid (a2.size = n) := Lib.hid (by rw [← ha2, ByteArray.size_extract]; omega)
          have Hd2 : Hid (t2.data.toList = s.data.toList.drop ((r + 1) * n)) := Lib.hid (by rw [← ht2, Lib.extract_to_end, HS.out.2.2.1, List.drop_drop, Nat.add_mul, Nat.one_mul])
          have Hda : Hid (a2.data.toList = aboveRow s.data.toList n (r + 1)) := Lib.hid (by rw [← ha2, Lib.extract_data, HS.out.2.2.1, aboveRow_succ hrow]; simp)
          have q1 : (n : Int) ≤ (t.size : Int) := by omega
          have Hxs : Hid (∀ k (hk : k < n) (hk2 : k < t.size), s.data.toList[r * n + k]?.getD 0 = t[k]) := Lib.hid fun k hk hk2 => by
            have h5 : t.data.toList[k]? = s.data.toList[r * n + k]? := by rw [HS.out.2.2.1, List.getElem?_drop]
            rw [← h5, List.getElem?_eq_getElem (by rw [← size_data]; exact hk2)]; rfl
          have Hys : Hid (∀ k (hk : k < n) (hk2 : k < ah.size), aboveP s.data.toList n (r * n + k) = ah[k]) := Lib.hid fun k hk hk2 => by
            have h5 : ah.data.toList[k]? = some (aboveP s.data.toList n (r * n + k)) := by rw [HS.out.2.2.2, aboveRow_at hk]
            have h6 : k < ah.data.toList.length := by rw [← size_data]; exact hk2
            rw [List.getElem?_eq_getElem h6] at h5
            exact (Option.some.inj h5).symm
          have Hts := Lib.hid hts
          have Hnt : Hid (n ≤ t.size) := Lib.hid (by omega)
          clear hsg hrb hrow hlen
          go_wp2_with fail
          refine (wbyte_is w.heap.size w.heap.size _ 2 _ HB.out (by have := encUpto_length s.data.toList n (r * n); have := Hlen.out; omega) Hb.out.size).mono ?_
          rintro e w2 ⟨rfl, hB2, hb2, -⟩
          have HB2 := Lib.hid hB2
          have Hb2 := Lib.hid (Hb.out.trans hb2)
          clear hB2 hb2
          go_wp2_with fail
          go_loopg [8, 26] n (fun gi s8 s26 wx => ∃ k : Nat, k + gi = n ∧ s26 = .int .i64 (k : Int) ∧ Aside (Bld w.heap.size w.heap.size (encPart s.data.toList n r k) wx) ∧ Aside (Below w.heap.size w wx))
          case atStart => exact ⟨0, by omega, rfl, HB2.out, Hb2.out⟩
          case round =>
            obtain ⟨k, hki, rfl, HBk, hbk⟩ := hrel
            have Hbk := Lib.hid hbk
            clear hbk
            cases gk with
            | zero =>
              obtain rfl : k = n := by omega
              have HB3 : Hid (Bld w.heap.size w.heap.size (encUpto s.data.toList k ((r + 1) * k)) wr) := Lib.hid (by rw [← encPart_all H1.out]; exact HBk)
              clear hki
              go_wp2_with fail
              go_roundg g
              case measure => omega
              case rel => exact ⟨t2, a2, r + 1, rfl, rfl, by have h5 := HS.out.1; rw [Nat.add_mul, Nat.one_mul] at h5; have := Hts.out; have := Hs2.out; omega, Ha2.out, ⟨Hs2.out, by have := HS.out.2.1; omega, Hd2.out, Hda.out⟩, HB3.out, Hbk.out⟩
            | succ gi =>
              have hkn : k < n := by omega
              have hkz : (k : Int) < (n : Int) := by omega
              have hkt : k < t.size := by have := Hnt.out; omega
              have hka : k < ah.size := by omega
              have hktz : (k : Int) < (t.size : Int) := by omega
              have hkaz : (k : Int) < (ah.size : Int) := by omega
              obtain ⟨x, hx⟩ : ∃ x, t[k] = x := ⟨_, rfl⟩
              obtain ⟨y, hy⟩ : ∃ y, ah[k] = y := ⟨_, rfl⟩
              have Hnext : Hid (encPart s.data.toList n r (k + 1) = encPart s.data.toList n r k ++ [x - y]) := Lib.hid (by rw [encPart_succ, Hxs.out k hkn hkt, Hys.out k hkn hka, hx, hy])
              have hsub := sub_byte x y
              have Hk6 : Hid ((encPart s.data.toList n r k).length + 1 ≤ 140737488355328) := Lib.hid (by have := encPart_length s.data.toList n r k; have := Hlen.out; omega)
              have HWb := Lib.hid (wbyte_is w.heap.size w.heap.size (encPart s.data.toList n r k) (x - y) wr.drew (Bld.drew HBk.out) Hk6.out Hbk.out.size)
              go_wp2_with fail
              go_region_with (go_at_call 13; refine HWb.out.mono ?_; rintro e w4 ⟨rfl, hB4, hb4, -⟩)
              all_goals
                have HB4 := Lib.hid hB4
                have Hb4 := Lib.hid (Hbk.out.drew.trans hb4)
                clear hB4 hb4
                go_wp2_with fail
                go_roundg gi
                case measure => omega
                case rel => exact ⟨k + 1, by omega, by go_num, by show Bld _ _ _ _; rw [Hnext.out]; exact HB4.out, Hb4.out⟩
    · obtain ⟨rfl, rfl⟩ : [] = a ∧ 4 = b := by
        unfold encP at h; rw [if_neg (by omega), Int.toNat_natCast, if_pos (by rw [← hsz]; exact hm)] at h; exact Prod.mk.inj h
      have hmz : ((s.size : Int) % (n : Int) != 0) = true := by
        rw [bne_iff_ne, hmod]; omega
      clear h hm hmod hsz
      go_enter Try.func7, Try.ntmps7
      go_wp2_with fail
      refine (Hw.out _).mono ?_
      rintro e w1 ⟨rfl, rfl⟩
      go_wp2_with fail
      go_ret2
      exact ⟨rfl, Below.refl _ _⟩

end Go.Proofs.Ytjkppdgakokelaa
