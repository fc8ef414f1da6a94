/-
  HOne, HRef, HRef2, HOct, Builder, HEnc, HPut, HDec, HContracts: texts merged.
-/
import Derived.Test.YtiiiokikmjgliaaGreatDoorRows
import Derived.Test.YtiiiokikmjgliaaGreatDoorKPlain
import Derived.WalkKit
import Derived.WalkSpells
import Derived.WalkLawsBesides
import Derived.Lib.Hide
import Derived.Deep.QuietTactic
import Derived.BigQuiet
import Derived.Test.YtiiiokikmjgliaaGreatDoorKRows
import Derived.Deep.LoopGhost
import Derived.Deep.RegionWith
import Derived.Test.YtiiiokikmjgliaaGreatDoorShelf
/-
  The contracts of the document's Kind, Hex, Digit of one byte, where the program's own are not reached.
-/
namespace Go.Proofs.YtiiiokikmjgliaaGreatDoor
section
open Go.RowKit
set_option maxHeartbeats 1000000 in
theorem refDigit_any (n : Int) (w : World) (h0 : -9223372036854775808 ≤ n) (h1 : n ≤ 9223372036854775807) :
    Calls Tryz.prog 44 #[.int .i64 n] w fun e w' => e = .returned (.int .u8 (digitI n)) ∧ w = w' := by
  by_cases h : n < 0 ∨ 15 < n
  · rcases h with h | h
    all_goals
      go_enter Tryz.func44, Tryz.ntmps44
      go_wp2
      go_ret
      exact ⟨ret_int (by unfold digitI; repeat (first | rw [if_pos (by omega)] | rw [if_neg (by omega)])), rfl⟩
  · have hc : n = 0 ∨ n = 1 ∨ n = 2 ∨ n = 3 ∨ n = 4 ∨ n = 5 ∨ n = 6 ∨ n = 7 ∨ n = 8 ∨ n = 9 ∨ n = 10 ∨ n = 11 ∨ n = 12 ∨ n = 13 ∨ n = 14 ∨ n = 15 := by omega
    clear h h0 h1
    rcases hc with rfl | rfl | rfl | rfl | rfl | rfl | rfl | rfl | rfl | rfl | rfl | rfl | rfl | rfl | rfl | rfl
    all_goals
      go_enter Tryz.func44, Tryz.ntmps44
      go_wp2
      go_ret
      exact ⟨ret_int (by decide), rfl⟩
end
end Go.Proofs.YtiiiokikmjgliaaGreatDoor
/-
  The contracts of the document's Encode and Decode of hexadecimal digits.
-/
namespace Go.Proofs.YtiiiokikmjgliaaGreatDoor
section
open Go.RowKit
set_option maxRecDepth 100000
theorem rDigit_is (n : Nat) (w : World) (h : n < 16) : Calls Tryz.prog 44 #[.int .i64 (n : Int)] w fun e w' => e = .returned (.int .u8 ((digB n).toNat : Int)) ∧ w = w' := by
  rw [digB_nat h]
  exact refDigit_any (n : Int) w (by omega) (by omega)
theorem encD_take {s : ByteArray} {k : Nat} (h : k < s.size) : encD (s.data.toList.take (k + 1)) = encD (s.data.toList.take k) ++ [digB (s[k].toNat / 16), digB (s[k].toNat % 16)] := by
  rw [take_snoc s k h, encD_snoc]
set_option maxHeartbeats 1000000 in
theorem rEncH_any (s : ByteArray) (w : World) (hs : s.size ≤ 1000000) :
    Calls Tryz.prog 28 #[.string s] w fun e w' => e = .returned (.string (bytes (encH s.data.toList))) ∧ Below w.heap.size w w' := by
  go_enter Tryz.func28, Tryz.ntmps28
  go_wp2_with fail
  go_loopg [3, 4] s.size (fun g s3 s4 wx => ∃ (k : Nat), k + g = s.size ∧ s4 = .int .i64 k ∧ Aside (Own8 wx w.heap.size s3 (encD (s.data.toList.take k))) ∧ Below w.heap.size w wx)
  case atStart => exact ⟨0, by omega, rfl, Own8.made w 0 #[] (Nat.le_refl _) (by decide) rfl, (Below.refl _ w).alloc (Nat.le_refl _) _⟩
  case round =>
    obtain ⟨k, hkg, rfl, HO, hb⟩ := hrel
    have Hb := Lib.hid hb
    clear hb
    cases gk with
    | zero =>
      obtain rfl : k = s.size := by omega
      have Hl : Hid (encD (s.data.toList.take s.size) = encD s.data.toList) := Lib.hid (by rw [List.take_of_length_le (by rw [← size_data]; exact Nat.le_refl _)])
      have hlen : (encD s.data.toList).length ≤ 2000000 := by rw [encD_length, ← size_data]; omega
      rw [Hl.out] at HO
      go_wp2_with (at_builtin; refine wpList_append8 rfl (.tmp 27) (.tmp 28) rfl w.heap.size _ (encD s.data.toList) rfl (HO.out.alloc _) ⟨wr.heap.size, 0, none⟩ 1 [62] rfl (cells_new1 _ 62 62 rfl) (by simp) (by simp; omega) w (Hb.out.alloc Hb.out.size _) (by have := Hb.out.size; simp; omega) ?_; intro v2 w2 Ho2 Hb2 _; have htext := Ho2.out.text)
      go_ret
      exact ⟨rfl, Hb2.out⟩
    | succ g =>
      have hk : k < s.size := by omega
      have hkz : (k : Int) < (s.size : Int) := by omega
      have hc := s[k].toNat_lt
      have hw0 : IntKind.i64.wrap (s[k].toNat : Int) = (s[k].toNat : Int) := by rw [IntKind.wrap_i64]; omega
      have hw1 : IntKind.i64.wrap ((s[k].toNat : Int) / 16) = ((s[k].toNat / 16 : Nat) : Int) := by rw [IntKind.wrap_i64]; omega
      have hw2 : (s[k].toNat : Int).tmod 16 = ((s[k].toNat % 16 : Nat) : Int) := by rw [Int.tmod_eq_emod_of_nonneg (by omega)]; omega
      have hd1 := fun W => rDigit_is (s[k].toNat / 16) W (by omega)
      have hd2 := fun W => rDigit_is (s[k].toNat % 16) W (by omega)
      have hlen : (encD (s.data.toList.take k)).length ≤ 2000000 := by rw [encD_length, List.length_take, ← size_data]; omega
      have Hnext := Lib.hid (encD_take hk)
      obtain ⟨d1, e1⟩ : ∃ d, s[k].toNat / 16 = d := ⟨_, rfl⟩
      obtain ⟨d2, e2⟩ : ∃ d, s[k].toNat % 16 = d := ⟨_, rfl⟩
      rw [e1] at hw1 hd1 Hnext
      rw [e2] at hw2 hd2 Hnext
      have Hd1 := Lib.hid hd1
      have Hd2 := Lib.hid hd2
      have Hc := Lib.hid hc
      clear hd1 hd2 e1 e2 hc
      go_wp2_with fail
      go_region_law (first
        | (refine step_append8 rfl (.tmp 12) (.tmp 25) rfl w.heap.size _ (encD (s.data.toList.take k)) rfl (HO.out.drew.alloc _) ⟨wr.heap.size, 0, none⟩ 2 [digB d1, digB d2] rfl (cells_new2 _ _ _ _ _ rfl rfl) (by simp) (by simp; omega) w (Hb.out.drew.alloc Hb.out.size _) (by have := Hb.out.size; simp; omega) ?_; intro v2 w2 Ho2 Hb2 _)
        | (go_simp; go_at_call_of 44 (d1 : Int); refine (Hd1.out _).mono ?_; rintro e w1 ⟨rfl, rfl⟩; go_wp2_with fail)
        | (go_simp; go_at_call_of 44 (d2 : Int); refine (Hd2.out _).mono ?_; rintro e w1 ⟨rfl, rfl⟩; go_wp2_with fail))
      all_goals
        go_wp2_with fail
        go_roundg g
        case measure => omega
        case rel => exact ⟨k + 1, by omega, by go_num, by show Own8 _ _ _ _; rw [Hnext.out]; exact Ho2.out, Hb2.out⟩
end
end Go.Proofs.YtiiiokikmjgliaaGreatDoor
/-
  The contract of the document's Decode of hexadecimal digits.
-/
namespace Go.Proofs.YtiiiokikmjgliaaGreatDoor
section
open Go.RowKit
set_option maxRecDepth 100000
end
end Go.Proofs.YtiiiokikmjgliaaGreatDoor
/-
  The contracts of octet's Kind, Hex, Digit, where no more of octet is reached.
-/
namespace Go.Proofs.YtiiiokikmjgliaaGreatDoor
section
open Go.RowKit
set_option maxRecDepth 100000
set_option maxHeartbeats 1000000 in
theorem kind_any (c : Int) (w : World) :
    Calls Tryz.prog 91 #[.int .u8 c] w fun e w' => e = .returned (.int .i64 (kindI c)) ∧ w = w' := by
  go_enter Tryz.func91, Tryz.ntmps91
  go_wp2
  all_goals (go_ret; exact ⟨ret_int (by simp_all [kindI]), rfl⟩)
set_option maxHeartbeats 1000000 in
theorem hex_any (c : Int) (w : World) (h0 : 0 ≤ c) (h1 : c ≤ 255) :
    Calls Tryz.prog 90 #[.int .u8 c] w fun e w' => e = .returned (.int .i64 (hexI c)) ∧ w = w' := by
  have hcases : c < 48 ∨ (48 ≤ c ∧ c ≤ 57) ∨ (57 < c ∧ c < 65) ∨ (65 ≤ c ∧ c ≤ 70) ∨ (70 < c ∧ c < 97) ∨ (97 ≤ c ∧ c ≤ 102) ∨ 102 < c := by omega
  rcases hcases with h | ⟨h, h'⟩ | ⟨h, h'⟩ | ⟨h, h'⟩ | ⟨h, h'⟩ | ⟨h, h'⟩ | h
  all_goals
    go_enter Tryz.func90, Tryz.ntmps90
    go_wp2
    go_ret
    exact ⟨ret_int (by unfold hexI; repeat (first | rw [if_pos (by omega)] | rw [if_neg (by omega)]); try omega), rfl⟩
set_option maxHeartbeats 1000000 in
theorem digit_any (n : Int) (w : World) (h0 : -9223372036854775808 ≤ n) (h1 : n ≤ 9223372036854775807) :
    Calls Tryz.prog 88 #[.int .i64 n] w fun e w' => e = .returned (.int .u8 (digitI n)) ∧ w = w' := by
  have hcases : n < 0 ∨ (0 ≤ n ∧ n ≤ 9) ∨ (10 ≤ n ∧ n ≤ 15) ∨ 15 < n := by omega
  rcases hcases with h | ⟨h, h'⟩ | ⟨h, h'⟩ | h
  all_goals
    go_enter Tryz.func88, Tryz.ntmps88
    go_wp2
    go_ret
    exact ⟨ret_int (by unfold digitI; repeat (first | rw [if_pos (by omega)] | rw [if_neg (by omega)]); try omega), rfl⟩
end
end Go.Proofs.YtiiiokikmjgliaaGreatDoor
/-
  (*strings.Builder).WriteByte's contract laid over this translation (the shelf's own command does not find a type that the contract lists and no body names), and the contracts that the walks use.
-/
namespace Go.Proofs
open Go.Shelf
def Tryz.lays167_ren : Go.Shelf.Ren := ⟨fun | 167 => 37 | 240 => 53 | 276 => 68 | n => n, fun | 0 => 0 | 4 => 4 | 5 => 5 | 9 => 9 | 20 => 20 | 37 => 64 | 70 => 63 | 72 => 66 | 75 => 69 | 164 => 97 | 80 => 48 | n => n, fun | n => n⟩
theorem Tryz.lays167 : Go.Proofs.Lays.n167 Tryz.prog Tryz.lays167_ren := {
  mixed := by kernel_rfl
  f167 := Tryz.func37.trans (congrArg some (by kernel_rfl))
  f240 := Tryz.func53.trans (congrArg some (by kernel_rfl))
  f276 := Tryz.func68.trans (congrArg some (by kernel_rfl))
  t0 := Tryz.underlying0
  a0 := Tryz.isAgg0
  z0 := Tryz.sizeOf0
  v0 := Tryz.zeroValue0
  t4 := Tryz.underlying4
  a4 := Tryz.isAgg4
  z4 := Tryz.sizeOf4
  v4 := Tryz.zeroValue4
  t5 := Tryz.underlying5
  a5 := Tryz.isAgg5
  z5 := Tryz.sizeOf5
  v5 := Tryz.zeroValue5
  t9 := Tryz.underlying9
  a9 := Tryz.isAgg9
  z9 := Tryz.sizeOf9
  v9 := Tryz.zeroValue9
  t20 := Tryz.underlying20
  a20 := Tryz.isAgg20
  z20 := Tryz.sizeOf20
  v20 := Tryz.zeroValue20
  t37 := Tryz.underlying64
  a37 := Tryz.isAgg64
  z37 := Tryz.sizeOf64
  v37 := Tryz.zeroValue64
  t70 := Tryz.underlying63
  a70 := Tryz.isAgg63
  z70 := Tryz.sizeOf63
  v70 := Tryz.zeroValue63
  t72 := Tryz.underlying66
  a72 := Tryz.isAgg66
  z72 := Tryz.sizeOf66
  v72 := Tryz.zeroValue66
  t75 := Tryz.underlying69
  a75 := Tryz.isAgg69
  z75 := Tryz.sizeOf69
  v75 := Tryz.zeroValue69
  t164 := Tryz.underlying97
  a164 := Tryz.isAgg97
  z164 := Tryz.sizeOf97
  v164 := Tryz.zeroValue97 }
theorem Tryz.Builder_Extra_167 : Builder.Extra Tryz.prog Tryz.lays167_ren := {
  sizeBuilder := by kernel_rfl
  liesBuilder := by kernel_rfl
  t5 := Tryz.underlying5
  a5 := Tryz.isAgg5
  z5 := Tryz.sizeOf5
  v5 := Tryz.zeroValue5
  infoByte := by kernel_rfl
  cellsByte := by kernel_rfl
  sizeByte := by kernel_rfl
  neB5 := by decide }
end Go.Proofs
namespace Go.Proofs.YtiiiokikmjgliaaGreatDoor
open Go.RowKit
set_option maxRecDepth 100000
def Bld (B b : Nat) (l : List UInt8) (w : World) : Prop := Lib.IsBuilderF 66 5 B b (Lib.byteCells l) w
theorem Bld.fresh (w : World) : Bld w.heap.size w.heap.size [] (w.alloc (.cells #[.pointer none, .slice none 0 0] 66)) :=
  Lib.IsBuilderF.of (Lib.fresh_isBuilder 66 5 w)
theorem Bld.alloc {B b : Nat} {l : List UInt8} {w : World} (h : Bld B b l w) (o : Obj) : Bld B b l (w.alloc o) := Lib.IsBuilderF.alloc h o
theorem Bld.drew {B b : Nat} {l : List UInt8} {w : World} (h : Bld B b l w) : Bld B b l w.drew := h
abbrev Kept (b : Nat) (w w' : World) : Prop := Lib.OthersKept 5 (some b) w w'
theorem grow_is (B b n : Nat) (w : World) (hbk : w.heap[b]? = some (.cells #[.pointer none, .slice none 0 0] 66 (0, 0))) (hB : B ≤ b) (hBw : B ≤ w.heap.size) (hn : n ≤ 281474976710656) :
    Calls Tryz.prog 50 #[.pointer (some ⟨b, 0, none⟩), .int .i64 n] w fun e w' => e = .returned (.tuple #[]) ∧ Bld B b [] w' ∧ Below B w w' := by
  refine (Any.Builder_Grow_fresh Tryz.lays165 Tryz.Builder_Extra_165 B b n w hB hbk hBw hn).mono ?_
  rintro e w' ⟨h, h1, h2⟩
  exact ⟨h, Lib.IsBuilderF.of (Or.inr h1), h2⟩
theorem wbyte_is (B b : Nat) (l : List UInt8) (c : UInt8) (w : World) (h : Bld B b l w) (hl : l.length + 1 ≤ 140737488355328) (hBw : B ≤ w.heap.size) :
    Calls Tryz.prog 37 #[.pointer (some ⟨b, 0, none⟩), .int .u8 (c.toNat : Int)] w fun e w' => e = .returned .nilIface ∧ Bld B b (l ++ [c]) w' ∧ Below B w w' ∧ Kept b w w' := by
  refine (Any.Builder_WriteByte_k Tryz.lays167 Tryz.Builder_Extra_167 B b (Lib.byteCells l) (c.toNat : Int) w h (by rw [Lib.byteCells_length]; exact hl) hBw).mono ?_
  rintro e w' ⟨h1, h2, h3, h4⟩
  refine ⟨h1, ?_, h3, h4⟩
  unfold Bld
  rw [Lib.byteCells_append]
  exact Or.inr h2
theorem string_is (B b : Nat) (l : List UInt8) (w : World) (h : Bld B b l w) (hBw : B ≤ w.heap.size) :
    Calls Tryz.prog 38 #[.pointer (some ⟨b, 0, none⟩)] w fun e w' => e = .returned (.string ⟨l.toArray⟩) ∧ Bld B b l w' ∧ Below B w w' ∧ Kept b w w' :=
  Any.Builder_String_any_k Tryz.lays169 Tryz.Builder_Extra_169 B b l w h hBw
theorem ownsF_later {w w' : World} {B : Nat} {e : TypeId} {size : Nat} {v : Value} {n : Nat} {xs : List Value} (h : w.ownsRowF B e size v n xs) (hb : Below w.heap.size w w') : w'.ownsRowF B e size v n xs := by
  refine ⟨h.1, ?_⟩
  rcases h.2 with h2 | ⟨g, cap, cur, fz, hv, hB, hg, hr⟩
  · exact .inl h2
  · exact .inr ⟨g, cap, cur, fz, hv, hB, (hb.block g (Array.getElem?_eq_some_iff.1 hg).1).trans hg, hr⟩
theorem Bld.later {B b : Nat} {l : List UInt8} {w w' : World} (h : Bld B b l w) (hb : Below w.heap.size w w') : Bld B b l w' := by
  have key : ∀ p, Lib.BuilderAtF 66 5 B b p (Lib.byteCells l) w → Lib.BuilderAtF 66 5 B b p (Lib.byteCells l) w' := by
    rintro p ⟨hB, x, hbk, hown, hne⟩
    exact ⟨hB, x, (hb.block b (Array.getElem?_eq_some_iff.1 hbk).1).trans hbk, ownsF_later hown hb, hne⟩
  exact h.imp (key _) (key _)
end Go.Proofs.YtiiiokikmjgliaaGreatDoor
/-
  hexa.Encode: the digits of bytes, written into a builder.
-/
namespace Go.Proofs.YtiiiokikmjgliaaGreatDoor
section
open Go.RowKit
set_option maxRecDepth 100000
theorem pDigit_is (n : Nat) (w : World) (h : n < 16) : Calls Tryz.prog 88 #[.int .i64 (n : Int)] w fun e w' => e = .returned (.int .u8 ((digB n).toNat : Int)) ∧ w = w' := by
  rw [digB_nat h]
  exact digit_any (n : Int) w (by omega) (by omega)
theorem pDigit_hi (c : UInt8) (w : World) : Calls Tryz.prog 88 #[.int .i64 ((c.toNat : Int) / 16)] w fun e w' => e = .returned (.int .u8 ((digB (c.toNat / 16)).toNat : Int)) ∧ w = w' := by
  have h1 := c.toNat_lt
  exact pDigit_is (c.toNat / 16) w (by omega)
theorem pDigit_lo (c : UInt8) (w : World) : Calls Tryz.prog 88 #[.int .i64 ((c.toNat : Int) % 16)] w fun e w' => e = .returned (.int .u8 ((digB (c.toNat % 16)).toNat : Int)) ∧ w = w' := by
  have h1 := c.toNat_lt
  exact pDigit_is (c.toNat % 16) w (by omega)
set_option maxHeartbeats 1000000 in
theorem hexEnc_any (s : ByteArray) (w : World) (hs : s.size ≤ 100000) :
    Calls Tryz.prog 69 #[.string s] w fun e w' => e = .returned (.string ⟨(encH s.data.toList).toArray⟩) ∧ Below w.heap.size w w' := by
  go_enter Tryz.func69, Tryz.ntmps69
  go_wp2_with fail
  refine (grow_is w.heap.size w.heap.size (2 * s.size + 1) _ (heap_alloc_new w _) (Nat.le_refl _) (by simp) (by omega)).mono ?_
  rintro e w1 ⟨rfl, hB, hb⟩
  have HB := Lib.hid hB
  have Hb := Lib.hid (((Below.refl _ w).alloc (Nat.le_refl _) _).trans hb)
  clear hB hb
  go_wp2_with fail
  go_loopg [12] s.size (fun g s12 wx => ∃ (k : Nat), k + g = s.size ∧ s12 = .int .i64 k ∧ Aside (Bld w.heap.size w.heap.size (encD (s.data.toList.take k)) wx) ∧ Below w.heap.size w wx)
  case atStart => exact ⟨0, by omega, rfl, HB.out, Hb.out⟩
  case round =>
    obtain ⟨k, hkg, rfl, HO, hb⟩ := hrel
    have Hb := Lib.hid hb
    clear hb
    cases gk with
    | zero =>
      obtain rfl : k = s.size := by omega
      have Hl : Hid (encD (s.data.toList.take s.size) = encD s.data.toList) := Lib.hid (by rw [List.take_of_length_le (by rw [← size_data]; exact Nat.le_refl _)])
      have hlen : (encD s.data.toList).length ≤ 2000000 := by rw [encD_length, ← size_data]; omega
      rw [Hl.out] at HO
      go_wp2_with fail
      refine (wbyte_is w.heap.size w.heap.size _ 62 _ HO.out (by omega) Hb.out.size).mono ?_
      rintro e w2 ⟨rfl, hB, hb, -⟩
      have HB2 := Lib.hid hB
      have Hb2 := Lib.hid (Hb.out.trans hb)
      clear hB hb
      go_wp2_with fail
      refine (string_is w.heap.size w.heap.size _ _ HB2.out Hb2.out.size).mono ?_
      rintro e w3 ⟨rfl, -, hb, -⟩
      have Hb3 := Lib.hid (Hb2.out.trans hb)
      clear hb
      go_wp2_with fail
      go_ret
      exact ⟨rfl, Hb3.out⟩
    | succ g =>
      have hk : k < s.size := by omega
      have hkz : (k : Int) < (s.size : Int) := by omega
      have hc := s[k].toNat_lt
      have Hd := Lib.hid (fun W => pDigit_hi s[k] W)
      have Hl := Lib.hid (fun W => pDigit_lo s[k] W)
      have hlen : (encD (s.data.toList.take k)).length ≤ 2000000 := by rw [encD_length, List.length_take, ← size_data]; omega
      have Hnext := Lib.hid (encD_take hk)
      go_wp2_with fail
      refine (Hd.out _).mono ?_
      rintro e w2 ⟨rfl, rfl⟩
      go_wp2_with fail
      refine (wbyte_is w.heap.size w.heap.size _ (digB (s[k].toNat / 16)) _ HO.out (by omega) Hb.out.size).mono ?_
      rintro e w2 ⟨rfl, hB, hb, -⟩
      have HB2 := Lib.hid hB
      have Hb2 := Lib.hid (Hb.out.trans hb)
      clear hB hb
      go_wp2_with fail
      refine (Hl.out _).mono ?_
      rintro e w3 ⟨rfl, rfl⟩
      go_wp2_with fail
      refine (wbyte_is w.heap.size w.heap.size _ (digB (s[k].toNat % 16)) _ HB2.out (by simp; omega) Hb2.out.size).mono ?_
      rintro e w3 ⟨rfl, hB, hb, -⟩
      have HB3 := Lib.hid hB
      have Hb3 := Lib.hid (Hb2.out.trans hb)
      clear hB hb
      go_wp2_with fail
      go_roundg g
      case measure => omega
      case rel => exact ⟨k + 1, by omega, by go_num, by show Bld _ _ _ _; rw [Hnext.out]; simpa using HB3.out, Hb3.out⟩
end
end Go.Proofs.YtiiiokikmjgliaaGreatDoor
/-
  hexa.pairing: the function that puts digits together.
-/
namespace Go.Proofs.YtiiiokikmjgliaaGreatDoor
section
open Go.RowKit
set_option maxRecDepth 100000
theorem pairing_is (b : Nat) (w : World) :
    Calls Tryz.prog 89 #[.pointer (some ⟨b, 0, none⟩)] w fun e w' =>
      e = .returned (.func (.func 107) #[] #[.pointer (some ⟨w.heap.size + 1, 0, none⟩), .pointer (some ⟨w.heap.size, 0, none⟩)]) ∧
      (w.alloc (.cells #[.pointer (some ⟨b, 0, none⟩)] 63)).alloc (.cells #[.int .i64 (-1)] 3) = w' := by
  go_enter Tryz.func89, Tryz.ntmps89
  go_wp2_with fail
  go_ret
  exact ⟨rfl, rfl⟩
def PairAt (B : Nat) (a : Int) (l : List UInt8) (w : World) : Prop :=
  Bld B B l w ∧ w.heap[B + 1]? = some (.cells #[.pointer (some ⟨B, 0, none⟩)] 63 (0, 0)) ∧ w.heap[B + 2]? = some (.cells #[.int .i64 a] 3 (0, 0))
theorem Bld.set {B : Nat} {l : List UInt8} {w : World} (h : Bld B B l w) {a : Int} (h2 : w.heap[B + 2]? = some (.cells #[.int .i64 a] 3 (0, 0))) (v : Value) : Bld B B l (w.setCell ⟨B + 2, 0, none⟩ v) := by
  have key : ∀ p, Lib.BuilderAtF 66 5 B B p (Lib.byteCells l) w → Lib.BuilderAtF 66 5 B B p (Lib.byteCells l) (w.setCell ⟨B + 2, 0, none⟩ v) := by
    rintro p ⟨hB, x, hb, hown, hne⟩
    refine ⟨hB, x, ?_, ?_, hne⟩
    · rw [Below.heap_setCell _ _ _ _ (by simp)]; exact hb
    · exact hown.kept (row := some (B + 2)) ⟨rfl, rfl, rfl, by simp [World.setCell], fun k _ hk => Below.heap_setCell _ _ _ _ (fun e => hk (by simp [e]))⟩ (Or.inr (Lib.ownBlock_neF hown h2 (by decide)))
  exact h.imp (key _) (key _)
theorem PairAt.set {B : Nat} {a : Int} {l : List UInt8} {w : World} (h : PairAt B a l w) (d : Int) : PairAt B d l (w.setCell ⟨B + 2, 0, none⟩ (.int .i64 d)) := by
  obtain ⟨h0, h1, h2⟩ := h
  refine ⟨h0.set h2 _, ?_, ?_⟩
  · rw [Below.heap_setCell _ _ _ _ (by simp)]; exact h1
  · simp [World.setCell, Array.getElem?_modify, h2]
set_option maxHeartbeats 1000000 in
theorem put_wait (B : Nat) (d : Nat) (l : List UInt8) (w : World) (h : PairAt B (-1) l w) :
    Calls Tryz.prog 107 #[.int .i64 (d : Int), .pointer (some ⟨B + 2, 0, none⟩), .pointer (some ⟨B + 1, 0, none⟩)] w fun e w' => e = .returned (.tuple #[]) ∧ PairAt B (d : Int) l w' ∧ Below B w w' := by
  have H := Lib.hid h
  obtain ⟨-, -, h2⟩ := h
  have c2 : w.cell? ⟨B + 2, 0, none⟩ = some (.int .i64 (-1)) := by rw [Lib.cell_of_heap h2]; rfl
  have f2 : w.frozen? ⟨B + 2, 0, none⟩ = false := Lib.frozen_of_heap h2 0
  clear h2
  go_enter Tryz.func107, Tryz.ntmps107
  go_wp2_with fail
  refine bodyPost_ret (v := .tuple #[]) (by simp [results, go_sem]) rfl ⟨rfl, H.out.set _, (Below.refl B w).setCell (p := ⟨B + 2, 0, none⟩) (by simp) _⟩
theorem or_byteH {a d : Nat} (ha : a < 16) (hd : d < 16) : bits BinOp.or IntKind.i64 ((a : Int) * 16) (d : Int) % 256 = ((UInt8.ofNat (16 * a + d)).toNat : Int) := by
  have : ∀ a d : Fin 16, bits BinOp.or IntKind.i64 ((a.1 : Int) * 16) (d.1 : Int) % 256 = ((UInt8.ofNat (16 * a.1 + d.1)).toNat : Int) := by decide +kernel
  exact this ⟨a, ha⟩ ⟨d, hd⟩
set_option maxHeartbeats 1000000 in
theorem put_pair (B : Nat) (a d : Nat) (l : List UInt8) (w : World) (h : PairAt B (a : Int) l w) (ha : a < 16) (hd : d < 16) (hl : l.length ≤ 1000000) (hB : B ≤ w.heap.size) :
    Calls Tryz.prog 107 #[.int .i64 (d : Int), .pointer (some ⟨B + 2, 0, none⟩), .pointer (some ⟨B + 1, 0, none⟩)] w fun e w' => e = .returned (.tuple #[]) ∧ PairAt B (-1) (l ++ [UInt8.ofNat (16 * a + d)]) w' ∧ Below B w w' := by
  have H := Lib.hid h
  obtain ⟨-, h1, h2⟩ := h
  have c1 : w.cell? ⟨B + 1, 0, none⟩ = some (.pointer (some ⟨B, 0, none⟩)) := by rw [Lib.cell_of_heap h1]; rfl
  have c2 : w.cell? ⟨B + 2, 0, none⟩ = some (.int .i64 (a : Int)) := by rw [Lib.cell_of_heap h2]; rfl
  have f2 : w.frozen? ⟨B + 2, 0, none⟩ = false := Lib.frozen_of_heap h2 0
  clear h1 h2
  have hne : ¬ (a : Int) = -1 := by omega
  go_enter Tryz.func107, Tryz.ntmps107
  go_wp2_with fail
  have hor := or_byteH ha hd
  rw [hor]
  refine (wbyte_is B B l _ w H.out.1 (by omega) hB).mono ?_
  rintro e w2 ⟨rfl, hB2, hb, hk⟩
  have HB2 := Lib.hid hB2
  have Hb2 := Lib.hid hb
  have Hk2 := Lib.hid hk
  clear hB2 hb hk
  have h1 := H.out.2.1
  have h2 := H.out.2.2
  have g1 : w2.heap[B + 1]? = some (.cells #[.pointer (some ⟨B, 0, none⟩)] 63 (0, 0)) := Hk2.out _ _ h1 (by simp) (by simp)
  have g2 : w2.heap[B + 2]? = some (.cells #[.int .i64 (a : Int)] 3 (0, 0)) := Hk2.out _ _ h2 (by simp) (by simp)
  have H2 : Hid (PairAt B (a : Int) (l ++ [UInt8.ofNat (16 * a + d)]) w2) := Lib.hid ⟨HB2.out, g1, g2⟩
  have k2 : w2.cell? ⟨B + 2, 0, none⟩ = some (.int .i64 (a : Int)) := by rw [Lib.cell_of_heap g2]; rfl
  have kf2 : w2.frozen? ⟨B + 2, 0, none⟩ = false := Lib.frozen_of_heap g2 0
  clear h1 h2 g1 g2 c1 c2 f2
  go_wp2_with fail
  go_end0
  exact ⟨rfl, H2.out.set _, Hb2.out.setCell (p := ⟨B + 2, 0, none⟩) (by simp) _⟩
theorem pairsH_short : ∀ ds : List Nat, (pairsH ds).length ≤ ds.length
  | [] => Nat.le_refl _
  | [_] => Nat.le_refl _
  | a :: b :: r => by
    show (pairsH r).length + 1 ≤ r.length + 1 + 1
    have := pairsH_short r
    omega
def DigAt (B : Nat) (ds : List Nat) (w : World) : Prop :=
  (ds.length % 2 = 0 ∧ PairAt B (-1) (pairsH ds) w) ∨ ∃ (p : List Nat) (d : Nat), ds = p ++ [d] ∧ p.length % 2 = 0 ∧ d < 16 ∧ PairAt B (d : Int) (pairsH p) w
theorem put_any (B : Nat) (ds : List Nat) (d : Nat) (w : World) (h : DigAt B ds w) (hd : d < 16) (hl : ds.length ≤ 1000000) (hB : B ≤ w.heap.size) :
    Calls Tryz.prog 107 #[.int .i64 (d : Int), .pointer (some ⟨B + 2, 0, none⟩), .pointer (some ⟨B + 1, 0, none⟩)] w fun e w' => e = .returned (.tuple #[]) ∧ DigAt B (ds ++ [d]) w' ∧ Below B w w' := by
  rcases h with ⟨h0, h⟩ | ⟨p, a, rfl, h0, ha, h⟩
  · refine (put_wait B d _ w h).mono ?_
    rintro e w' ⟨he, h1, h2⟩
    exact ⟨he, Or.inr ⟨ds, d, rfl, h0, hd, h1⟩, h2⟩
  · have := pairsH_short p
    refine (put_pair B a d _ w h ha hd (by simp at hl; omega) hB).mono ?_
    rintro e w' ⟨he, h1, h2⟩
    refine ⟨he, Or.inl ⟨by simp; omega, ?_⟩, h2⟩
    rw [pairsH_snoc2 p a d h0]
    exact h1
theorem DigAt.told {B : Nat} {ds : List Nat} {w : World} (h : DigAt B (ds ++ [0]) w) : Bld B B (pairsH ds) w := by
  rcases h with ⟨h0, h⟩ | ⟨p, d, e, h0, -, h⟩
  · rw [pairsH_pad ds (by simp at h0; omega)] at h
    exact h.1
  · obtain ⟨rfl, -⟩ := List.append_inj' e rfl
    exact h.1
def goingH (e : Bool) (ds : List Nat) (l : List UInt8) : List UInt8 × Int := if e then (if l.all whiteB then (pairsH ds, 0) else ([], 4)) else decGo ds l
theorem going_start (l : List UInt8) : goingH false [] l = decH l := rfl
theorem going_white {e : Bool} {ds : List Nat} {c : UInt8} {t : List UInt8} (h : kindI (c.toNat : Int) = 0) : goingH e ds (c :: t) = goingH e ds t := by
  cases e
  · have := white_not h
    exact decGo_white this.1 this.2 h
  · have : whiteB c = true := decide_eq_true h
    simp [goingH, this]
theorem going_over {ds : List Nat} {c : UInt8} {t : List UInt8} (h : ¬ kindI (c.toNat : Int) = 0) : goingH true ds (c :: t) = ([], 4) := by
  have : whiteB c = false := decide_eq_false h
  simp [goingH, this]
theorem going_end {ds : List Nat} {c : UInt8} {t : List UInt8} (h : c.toNat = 62) : goingH false ds (c :: t) = goingH true ds t := by
  simp [goingH, decGo_end h]
theorem going_digit {ds : List Nat} {c : UInt8} {t : List UInt8} (h : ¬ c.toNat = 62) (h2 : 0 ≤ hexI (c.toNat : Int)) : goingH false ds (c :: t) = goingH false (ds ++ [(hexI (c.toNat : Int)).toNat]) t := by
  simp [goingH, decGo_digit h h2]
theorem going_bad {ds : List Nat} {c : UInt8} {t : List UInt8} (h : ¬ c.toNat = 62) (h2 : ¬ 0 ≤ hexI (c.toNat : Int)) (h3 : ¬ kindI (c.toNat : Int) = 0) : goingH false ds (c :: t) = ([], 4) := by
  simp [goingH, decGo_bad h h2 h3]
end
end Go.Proofs.YtiiiokikmjgliaaGreatDoor
/-
  hexa.Decode: the bytes of digits.
-/
namespace Go.Proofs.YtiiiokikmjgliaaGreatDoor
section
open Go.RowKit
set_option maxRecDepth 100000
theorem put_here (B : Nat) (ds : List Nat) (d : Nat) (w : World) (h : DigAt B ds w) (hd : d < 16) (hl : ds.length ≤ 1000000) (hB : B ≤ w.heap.size) :
    Calls Tryz.prog 107 #[.int .i64 (d : Int), .pointer (some ⟨B + 1 + 1, 0, none⟩), .pointer (some ⟨B + 1, 0, none⟩)] w fun e w' => e = .returned (.tuple #[]) ∧ DigAt B (ds ++ [d]) w' ∧ Below B w w' :=
  put_any B ds d w h hd hl hB
set_option maxHeartbeats 1000000 in
theorem hexDec_any (s : ByteArray) (w : World) (hs : s.size ≤ 100000) :
    Calls Tryz.prog 70 #[.string s] w fun e w' => e = .returned (.tuple #[.string ⟨(decH s.data.toList).1.toArray⟩, .int .i64 (decH s.data.toList).2]) ∧ Below w.heap.size w w' := by
  obtain ⟨r, hr⟩ : ∃ r, decH s.data.toList = r := ⟨_, rfl⟩
  rw [hr]
  rw [← going_start] at hr
  have Hr := Lib.hid hr
  clear hr
  go_enter Tryz.func70, Tryz.ntmps70
  go_wp2_with fail
  refine (pairing_is _ _).mono ?_
  rintro e w1 ⟨rfl, rfl⟩
  go_wp2_with fail
  go_loopg [6, 13] s.size (fun g s6 s13 wx => ∃ (k : Nat) (e : Bool) (ds : List Nat), k + g = s.size ∧ s6 = .bool e ∧ s13 = .int .i64 k ∧ ds.length ≤ k ∧ Aside (goingH e ds (s.data.toList.drop k) = r) ∧ Aside (DigAt w.heap.size ds wx) ∧ Below w.heap.size w wx)
  case atStart =>
    refine ⟨0, false, [], by omega, rfl, rfl, Nat.le_refl _, Hr.out, Or.inl ⟨rfl, ?_⟩, (((Below.refl _ w).alloc (Nat.le_refl _) _).alloc (by simp) _).alloc (by simp; omega) _⟩
    refine ⟨((Bld.fresh w).alloc _).alloc _, ?_, ?_⟩
    · rw [Lib.alloc_old _ _ _ (by simp)]
      have := heap_alloc_new (w.alloc (.cells #[.pointer none, .slice none 0 0] 66)) (.cells #[.pointer (some ⟨w.heap.size, 0, none⟩)] 63)
      simpa using this
    · have := heap_alloc_new ((w.alloc (.cells #[.pointer none, .slice none 0 0] 66)).alloc (.cells #[.pointer (some ⟨w.heap.size, 0, none⟩)] 63)) (.cells #[.int .i64 (-1)] 3)
      simpa using this
  case round =>
    obtain ⟨k, e, ds, hkg, rfl, rfl, hdk, hr, HO, hb⟩ := hrel
    have Hb := Lib.hid hb
    clear hb Hr
    cases gk with
    | zero =>
      obtain rfl : k = s.size := by omega
      have hnil : s.data.toList.drop s.size = [] := List.drop_eq_nil_of_le (by rw [← size_data]; exact Nat.le_refl _)
      have hr' := hr.out
      rw [hnil] at hr'
      cases e
      · obtain rfl : (([], 5) : List UInt8 × Int) = r := hr'
        go_wp2_with fail
        exact bodyPost_ret (v := .tuple #[.string ⟨#[]⟩, .int .i64 5]) (by simp [results, Tryz.results70, go_sem]) rfl ⟨rfl, Hb.out⟩
      · obtain rfl : ((pairsH ds, 0) : List UInt8 × Int) = r := hr'
        go_wp2_with fail
        refine (put_here w.heap.size ds 0 _ HO.out (by decide) (by omega) Hb.out.size).mono ?_
        rintro e w1 ⟨rfl, hd, hb⟩
        have Hd := Lib.hid hd.told
        have Hb1 := Lib.hid (Hb.out.trans hb)
        clear hd hb
        go_wp2_with fail
        refine (string_is w.heap.size w.heap.size _ _ Hd.out Hb1.out.size).mono ?_
        rintro e w2 ⟨rfl, -, hb, -⟩
        have Hb2 := Lib.hid (Hb1.out.trans hb)
        clear hb
        go_wp2_with fail
        exact bodyPost_ret (v := .tuple #[.string ⟨(pairsH ds).toArray⟩, .int .i64 0]) (by simp [results, Tryz.results70, go_sem]) rfl ⟨rfl, Hb2.out⟩
    | succ g =>
      have hk : k < s.size := by omega
      have hkz : (k : Int) < (s.size : Int) := by omega
      have hc := s[k].toNat_lt
      have hdr : s.data.toList.drop k = s[k] :: s.data.toList.drop (k + 1) := by
        rw [List.drop_eq_getElem_cons (by rw [← size_data]; exact hk)]; rfl
      have hr' := hr.out
      rw [hdr] at hr'
      have hx := hexI_range s[k]
      have Hh := Lib.hid (fun W => hex_any (s[k].toNat : Int) W (by omega) (by omega))
      have Hk := Lib.hid (fun W => kind_any (s[k].toNat : Int) W)
      by_cases hw : kindI (s[k].toNat : Int) = 0
      · rw [going_white hw] at hr'
        have Hr' := Lib.hid hr'
        have hw' : (kindI (s[k].toNat : Int) == 0) = true := by simpa using hw
        clear hr' hw hdr
        go_wp2_with fail
        refine (Hh.out _).mono ?_
        rintro _ w1 ⟨rfl, rfl⟩
        go_wp2_with fail
        refine (Hk.out _).mono ?_
        rintro _ w1 ⟨rfl, rfl⟩
        go_wp2_with fail
        go_roundg g
        case measure => omega
        case rel => exact ⟨k + 1, e, ds, by omega, rfl, by go_num, by omega, Hr'.out, HO.out, Hb.out⟩
      · have hw' : (kindI (s[k].toNat : Int) == 0) = false := by simpa using hw
        cases e
        · by_cases hend : s[k].toNat = 62
          · rw [going_end hend] at hr'
            have Hr' := Lib.hid hr'
            have hend' : ((s[k].toNat : Int) == 62) = true := by simp; omega
            clear hr' hw hdr hend
            go_wp2_with fail
            refine (Hh.out _).mono ?_
            rintro _ w1 ⟨rfl, rfl⟩
            go_wp2_with fail
            refine (Hk.out _).mono ?_
            rintro _ w1 ⟨rfl, rfl⟩
            go_wp2_with fail
            go_roundg g
            case measure => omega
            case rel => exact ⟨k + 1, true, ds, by omega, rfl, by go_num, by omega, Hr'.out, HO.out, Hb.out⟩
          · have hend' : ((s[k].toNat : Int) == 62) = false := by simp; omega
            by_cases hh : 0 ≤ hexI (s[k].toNat : Int)
            · rw [going_digit hend hh] at hr'
              have Hr' := Lib.hid hr'
              obtain ⟨d, hd⟩ : ∃ d : Nat, hexI (s[k].toNat : Int) = (d : Int) := ⟨(hexI (s[k].toNat : Int)).toNat, by omega⟩
              have hd16 : d < 16 := by omega
              rw [hd] at Hr' Hh hh
              clear hr' hw hdr hend hx hd
              go_wp2_with fail
              refine (Hh.out _).mono ?_
              rintro _ w1 ⟨rfl, rfl⟩
              go_wp2_with fail
              refine (Hk.out _).mono ?_
              rintro _ w1 ⟨rfl, rfl⟩
              go_wp2_with fail
              refine (put_here w.heap.size ds d _ HO.out hd16 (by omega) Hb.out.size).mono ?_
              rintro _ w1 ⟨rfl, hd, hb⟩
              have Hd := Lib.hid hd
              have Hb1 := Lib.hid (Hb.out.trans hb)
              clear hd hb
              go_wp2_with fail
              go_roundg g
              case measure => omega
              case rel => exact ⟨k + 1, false, ds ++ [d], by omega, rfl, by go_num, by simp; omega, Hr'.out, Hd.out, Hb1.out⟩
            · rw [going_bad hend hh hw] at hr'
              subst hr'
              clear hw hdr hend
              go_wp2_with fail
              refine (Hh.out _).mono ?_
              rintro _ w1 ⟨rfl, rfl⟩
              go_wp2_with fail
              refine (Hk.out _).mono ?_
              rintro _ w1 ⟨rfl, rfl⟩
              go_wp2_with fail
              exact bodyPost_ret (v := .tuple #[.string ⟨#[]⟩, .int .i64 4]) (by simp [results, Tryz.results70, go_sem]) rfl ⟨rfl, Hb.out⟩
        · rw [going_over hw] at hr'
          subst hr'
          clear hw hdr
          go_wp2_with fail
          refine (Hh.out _).mono ?_
          rintro _ w1 ⟨rfl, rfl⟩
          go_wp2_with fail
          refine (Hk.out _).mono ?_
          rintro _ w1 ⟨rfl, rfl⟩
          go_wp2_with fail
          exact bodyPost_ret (v := .tuple #[.string ⟨#[]⟩, .int .i64 4]) (by simp [results, Tryz.results70, go_sem]) rfl ⟨rfl, Hb.out⟩
end
end Go.Proofs.YtiiiokikmjgliaaGreatDoor
/-
  The contracts of package hexa, in the form that the laws' walks ask for.
-/
namespace Go.Proofs.YtiiiokikmjgliaaGreatDoor
section
open Go.RowKit
set_option maxRecDepth 100000
theorem hexEnc_is (s u : ByteArray) (w : World) (hs : s.size ≤ 100000) (h : encH s.data.toList = u.data.toList) :
    Calls Tryz.prog 69 #[.string s] w fun e w' => e = .returned (.string u) ∧ Below w.heap.size w w' := by
  have := hexEnc_any s w hs
  rw [h] at this
  simpa using this
theorem hexDec_is (s u : ByteArray) (b : Int) (w : World) (hs : s.size ≤ 100000) (h : decH s.data.toList = (u.data.toList, b)) :
    Calls Tryz.prog 70 #[.string s] w fun e w' => e = .returned (.tuple #[.string u, .int .i64 b]) ∧ Below w.heap.size w w' := by
  have := hexDec_any s w hs
  rw [h] at this
  simpa using this
end
end Go.Proofs.YtiiiokikmjgliaaGreatDoor
