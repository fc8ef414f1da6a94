/-
  PrRef, PrRef2: texts merged.
-/
import Derived.Test.YtiiiokikmjgliaaGreatDoorKPlain
import Derived.Test.YtiiiokikmjgliaaGreatDoorKRows
import Derived.WalkSpells
import Derived.WalkLawsBesides
import Derived.Deep.LoopGhost
import Derived.IntWalk
/-
  The contracts of the document's small functions: how far two numbers are apart, what is added, the byte of a place.
-/
namespace Go.Proofs.YtiiiokikmjgliaaGreatDoor
section
open Go.RowKit
set_option maxRecDepth 100000
end
end Go.Proofs.YtiiiokikmjgliaaGreatDoor
/-
  The contract of the document's Encode of rows.
-/
namespace Go.Proofs.YtiiiokikmjgliaaGreatDoor
section
open Go.RowKit
set_option maxRecDepth 100000
theorem sub_byte2 (x y : UInt8) : IntKind.u8.wrap ((x.toNat : Int) - (y.toNat : Int)) = ((x - y).toNat : Int) := by
  have h1 := x.toNat_lt
  have h2 := y.toNat_lt
  rw [IntKind.wrap_u8, UInt8.toNat_sub]
  omega
theorem encOne_first {l : List UInt8} {n i : Nat} {x y : UInt8} (h : i % n = 0) (hx : l[i]? = some x) (hy : aboveP l n i = y) (out : List UInt8) (ho : encUpto l n i = out) : encUpto l n (i + 1) = out ++ [2] ++ [x - y] := by
  rw [encUpto, ho]; unfold encOne; rw [if_pos h, hx, hy, Option.getD_some, List.append_assoc]
theorem encOne_next {l : List UInt8} {n i : Nat} {x y : UInt8} (h : ¬ i % n = 0) (hx : l[i]? = some x) (hy : aboveP l n i = y) (out : List UInt8) (ho : encUpto l n i = out) : encUpto l n (i + 1) = out ++ [x - y] := by
  rw [encUpto, ho]; unfold encOne; rw [if_neg h, hx, hy, Option.getD_some, List.nil_append]
set_option maxRecDepth 100000 in
set_option maxHeartbeats 4000000 in
theorem rEncP_is (s : ByteArray) (columns : Int) (w : World) (hs : s.size ≤ 100000) (hc0 : -9223372036854775808 ≤ columns) (hc1 : columns ≤ 9223372036854775807) {a : List UInt8} {b : Int} (h : encP s.data.toList columns = (a, b)) :
    Calls Tryz.prog 26 #[.string s, .int .i64 columns] w fun e w' => e = .returned (.tuple #[.string (bytes a), .int .i64 b]) ∧ Below w.heap.size w w' := by
  by_cases hw : columns < 1 ∨ 256 < columns
  · obtain ⟨rfl, rfl⟩ : [] = a ∧ 2 = b := by unfold encP at h; rw [if_pos hw] at h; exact Prod.mk.inj h
    clear h
    by_cases hw1 : columns < 1
    · clear hw
      go_enter Tryz.func26, Tryz.ntmps26
      go_wp2_with fail
      go_ret2
      exact ⟨rfl, Below.refl _ _⟩
    · have hw2 : 256 < columns := by omega
      clear hw
      go_enter Tryz.func26, Tryz.ntmps26
      go_wp2_with fail
      go_ret2
      exact ⟨rfl, Below.refl _ _⟩
  · obtain ⟨n, rfl⟩ := Int.eq_ofNat_of_zero_le (show 0 ≤ columns by omega)
    have h1 : 1 ≤ n := by omega
    have h2 : n ≤ 256 := by omega
    have hw1 : ¬ (n : Int) < 1 := by omega
    have hw2 : ¬ 256 < (n : Int) := by omega
    have hsz := size_data s
    have hn0 : ¬ (n : Int) = 0 := by omega
    have hmod : (s.size : Int) % (n : Int) = ((s.size % n : Nat) : Int) := (Int.natCast_emod s.size n).symm
    clear hw
    by_cases hm : s.size % n = 0
    · have hmz : ((s.size : Int) % (n : Int) != 0) = false := by
        rw [bne_eq_false_iff_eq, hmod, hm]; rfl
      have HD : Hid ((a, b) = (encUpto s.data.toList n s.size, 0)) := Lib.hid (by
        rw [← h, encP_end h1 h2 (by rw [← hsz]; exact hm), ← hsz])
      have Hsz := Lib.hid hsz
      have H1 := Lib.hid h1
      clear h hm hmod hsz
      go_enter Tryz.func26, Tryz.ntmps26
      go_wp2_with fail
      go_loopg [6, 7] s.size (fun g s6 s7 wx => ∃ (i : Nat) (out : List UInt8), i + g = s.size ∧ s7 = .int .i64 (i : Int) ∧ Aside (Own8 wx w.heap.size s6 out) ∧ out.length ≤ 2 * i ∧ Aside (encUpto s.data.toList n i = out) ∧ Aside (Below w.heap.size w wx))
      case atStart => exact ⟨0, [], by omega, rfl, Own8.made w 0 #[] (Nat.le_refl _) (by decide) rfl, by simp, rfl, (Below.refl _ w).alloc (Nat.le_refl _) _⟩
      case round =>
        obtain ⟨i, out, hig, rfl, HO, hol, HE, hb⟩ := hrel
        have Hb := Lib.hid hb
        clear hb
        cases gk with
        | zero =>
          obtain rfl : i = s.size := by omega
          have Hr : Hid ((a, b) = (out, 0)) := Lib.hid (by rw [HD.out, HE])
          have htext := Own8.text HO
          clear hig
          go_wp2_with fail
          go_ret2
          obtain ⟨rfl, rfl⟩ := Prod.mk.inj Hr.out
          exact ⟨rfl, Hb.out⟩
        | succ g =>
          have hi : i < s.size := by omega
          have hiz : (i : Int) < (s.size : Int) := by omega
          have hmodi : (i : Int) % (n : Int) = ((i % n : Nat) : Int) := (Int.natCast_emod i n).symm
          obtain ⟨x, hx⟩ : ∃ x, s[i] = x := ⟨_, rfl⟩
          have hxs : s.data.toList[i]? = some x := by rw [List.getElem?_eq_getElem (by rw [← size_data]; exact hi), ← hx]; rfl
          by_cases him : i % n = 0
          · have himz : ((i : Int) % (n : Int) == 0) = true := by rw [beq_iff_eq, hmodi, him]; rfl
            by_cases hin : n ≤ i
            · have hinz : (n : Int) ≤ (i : Int) := by omega
              obtain ⟨j, hj⟩ : ∃ j, i - n = j := ⟨_, rfl⟩
              have hjz : (i : Int) - (n : Int) = (j : Int) := by omega
              have hjs : j < s.size := by omega
              have hjsz : (j : Int) < (s.size : Int) := by omega
              have hw64 : IntKind.i64.wrap (j : Int) = (j : Int) := IntWalk.i64_in _ (by omega)
              obtain ⟨y, hy⟩ : ∃ y, s[j] = y := ⟨_, rfl⟩
              have hab : aboveP s.data.toList n i = y := by
                unfold aboveP
                rw [if_pos hin, hj, List.getElem?_eq_getElem (by rw [← size_data]; exact hjs), ← hy]; rfl
              have hsub := sub_byte2 x y
              have Hnx := Lib.hid (encOne_first him hxs hab out HE)
              clear hab hxs him hmodi hj
              go_wp2_with (at_builtin; first
                | (refine wpList_append8 rfl (.tmp 31) (.tmp 32) rfl w.heap.size _ out rfl (HO.alloc _) ⟨wr.heap.size, 0, none⟩ 1 [2] rfl (cells_new1 _ 2 2 rfl) (by simp) (by simp; omega) w (Hb.out.alloc Hb.out.size _) (by have := Hb.out.size; simp; omega) ?_; intro v2 w2 Ho2 Hb2 hf2; obtain ⟨g2, cap2, rfl⟩ := hf2)
                | (refine wpList_append8 rfl (.tmp 42) (.tmp 48) rfl w.heap.size _ (out ++ [2]) rfl (Ho2.out.alloc _) ⟨w2.heap.size, 0, none⟩ 1 [x - y] rfl (cells_new1 _ (x - y) _ rfl) (by simp) (by simp; omega) w (Hb2.out.alloc Hb2.out.size _) (by have := Hb2.out.size; simp; omega) ?_; intro v3 w3 Ho3 Hb3 hf3; obtain ⟨g3, cap3, rfl⟩ := hf3))
              go_roundg g
              case measure => omega
              case rel => exact ⟨i + 1, out ++ [2] ++ [x - y], by omega, by go_num, by have h := Ho3.out; simp only [List.length_append, List.length_cons, List.length_nil, Nat.zero_add] at h; exact h, by simp; omega, Hnx.out, Hb3.out⟩
            · have hinz : ¬ (n : Int) ≤ (i : Int) := by omega
              have hab : aboveP s.data.toList n i = 0 := by
                unfold aboveP
                rw [if_neg hin]
              have hsub := sub_byte2 x 0
              rw [show ((0 : UInt8).toNat : Int) = 0 from rfl, Int.sub_zero, UInt8.sub_zero] at hsub
              have hnx := encOne_first him hxs hab out HE
              rw [UInt8.sub_zero] at hnx
              have Hnx := Lib.hid hnx
              clear hnx hab hxs him hmodi hin
              go_wp2_with (at_builtin; first
                | (refine wpList_append8 rfl (.tmp 31) (.tmp 32) rfl w.heap.size _ out rfl (HO.alloc _) ⟨wr.heap.size, 0, none⟩ 1 [2] rfl (cells_new1 _ 2 2 rfl) (by simp) (by simp; omega) w (Hb.out.alloc Hb.out.size _) (by have := Hb.out.size; simp; omega) ?_; intro v2 w2 Ho2 Hb2 hf2; obtain ⟨g2, cap2, rfl⟩ := hf2)
                | (refine wpList_append8 rfl (.tmp 42) (.tmp 48) rfl w.heap.size _ (out ++ [2]) rfl (Ho2.out.alloc _) ⟨w2.heap.size, 0, none⟩ 1 [x] rfl (cells_new1 _ x _ rfl) (by simp) (by simp; omega) w (Hb2.out.alloc Hb2.out.size _) (by have := Hb2.out.size; simp; omega) ?_; intro v3 w3 Ho3 Hb3 hf3; obtain ⟨g3, cap3, rfl⟩ := hf3))
              go_roundg g
              case measure => omega
              case rel => exact ⟨i + 1, out ++ [2] ++ [x], by omega, by go_num, by have h := Ho3.out; simp only [List.length_append, List.length_cons, List.length_nil, Nat.zero_add] at h; exact h, by simp; omega, Hnx.out, Hb3.out⟩
          · have himz : ((i : Int) % (n : Int) == 0) = false := by rw [beq_eq_false_iff_ne, hmodi]; omega
            by_cases hin : n ≤ i
            · have hinz : (n : Int) ≤ (i : Int) := by omega
              obtain ⟨j, hj⟩ : ∃ j, i - n = j := ⟨_, rfl⟩
              have hjz : (i : Int) - (n : Int) = (j : Int) := by omega
              have hjs : j < s.size := by omega
              have hjsz : (j : Int) < (s.size : Int) := by omega
              have hw64 : IntKind.i64.wrap (j : Int) = (j : Int) := IntWalk.i64_in _ (by omega)
              obtain ⟨y, hy⟩ : ∃ y, s[j] = y := ⟨_, rfl⟩
              have hab : aboveP s.data.toList n i = y := by
                unfold aboveP
                rw [if_pos hin, hj, List.getElem?_eq_getElem (by rw [← size_data]; exact hjs), ← hy]; rfl
              have hsub := sub_byte2 x y
              have Hnx := Lib.hid (encOne_next him hxs hab out HE)
              clear hab hxs him hmodi hj
              go_wp2_with (at_builtin; refine wpList_append8 rfl (.tmp 42) (.tmp 48) rfl w.heap.size _ out rfl (HO.alloc _) ⟨wr.heap.size, 0, none⟩ 1 [x - y] rfl (cells_new1 _ (x - y) _ rfl) (by simp) (by simp; omega) w (Hb.out.alloc Hb.out.size _) (by have := Hb.out.size; simp; omega) ?_; intro v3 w3 Ho3 Hb3 hf3; obtain ⟨g3, cap3, rfl⟩ := hf3)
              go_roundg g
              case measure => omega
              case rel => exact ⟨i + 1, out ++ [x - y], by omega, by go_num, by have h := Ho3.out; simp only [List.length_cons, List.length_nil, Nat.zero_add] at h; exact h, by simp; omega, Hnx.out, Hb3.out⟩
            · have hinz : ¬ (n : Int) ≤ (i : Int) := by omega
              have hab : aboveP s.data.toList n i = 0 := by
                unfold aboveP
                rw [if_neg hin]
              have hsub := sub_byte2 x 0
              rw [show ((0 : UInt8).toNat : Int) = 0 from rfl, Int.sub_zero, UInt8.sub_zero] at hsub
              have hnx := encOne_next him hxs hab out HE
              rw [UInt8.sub_zero] at hnx
              have Hnx := Lib.hid hnx
              clear hnx hab hxs him hmodi hin
              go_wp2_with (at_builtin; refine wpList_append8 rfl (.tmp 42) (.tmp 48) rfl w.heap.size _ out rfl (HO.alloc _) ⟨wr.heap.size, 0, none⟩ 1 [x] rfl (cells_new1 _ x _ rfl) (by simp) (by simp; omega) w (Hb.out.alloc Hb.out.size _) (by have := Hb.out.size; simp; omega) ?_; intro v3 w3 Ho3 Hb3 hf3; obtain ⟨g3, cap3, rfl⟩ := hf3)
              go_roundg g
              case measure => omega
              case rel => exact ⟨i + 1, out ++ [x], by omega, by go_num, by have h := Ho3.out; simp only [List.length_cons, List.length_nil, Nat.zero_add] at h; exact h, by simp; omega, Hnx.out, Hb3.out⟩
    · obtain ⟨rfl, rfl⟩ : [] = a ∧ 4 = b := by
        unfold encP at h; rw [if_neg (by omega), Int.toNat_natCast, if_pos (by rw [← hsz]; exact hm)] at h; exact Prod.mk.inj h
      have hmz : ((s.size : Int) % (n : Int) != 0) = true := by
        rw [bne_iff_ne, hmod]; omega
      clear h hm hmod hsz
      go_enter Tryz.func26, Tryz.ntmps26
      go_wp2_with fail
      go_ret2
      exact ⟨rfl, Below.refl _ _⟩
end
end Go.Proofs.YtiiiokikmjgliaaGreatDoor
