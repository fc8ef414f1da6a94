/-
  DRef, DRef2, DCount: texts merged.
-/
import Derived.Test.YtejgcnmbngdkiaaGreatDoorRows
import Derived.Test.YtejgcnmbngdkiaaGreatDoorNPlain
import Derived.WalkKit
import Derived.WalkSpells
import Derived.WalkLawsBesides
import Derived.Lib.Hide
import Derived.Deep.LoopGhost
import Derived.Lib.OthersKept
import Derived.WalkSmall
import Derived.Laws.Rows
/-
  The contracts of the document's Put, Pad, Count, Fixed, Loose, Read.
-/
namespace Go.Proofs.YtejgcnmbngdkiaaGreatDoor
section
open Go.RowKit

end
end Go.Proofs.YtejgcnmbngdkiaaGreatDoor
/-
  The contracts of the document's Pad, Fixed, Loose, Read.
-/
namespace Go.Proofs.YtejgcnmbngdkiaaGreatDoor
section
open Go.RowKit

/-- Two results: a text and a number. -/
def TextAnd (r : List UInt8 × Int) : Ending := .returned (.tuple #[.string (bytes r.1), .int .i64 r.2])
/-- Two results: two numbers. -/
def TwoInts (r : Int × Int) : Ending := .returned (.tuple #[.int .i64 r.1, .int .i64 r.2])
theorem textAnd_mk {u : ByteArray} {b : Int} {r : List UInt8 × Int} (h : (u.data.toList, b) = r) : Ending.returned (.tuple #[.string u, .int .i64 b]) = TextAnd r := by
  subst h; unfold TextAnd; rw [bytes_of]
theorem twoInts_mk {a b : Int} {r : Int × Int} (h : (a, b) = r) : Ending.returned (.tuple #[.int .i64 a, .int .i64 b]) = TwoInts r := by subst h; rfl

theorem padL_arg {n width : Int} (h : width < 1 ∨ 20 < width) : padL n width = ([], 2) := by unfold padL; rw [if_pos h]
theorem padL_range {n width : Int} (h : ¬ (width < 1 ∨ 20 < width)) (h' : n < 0 ∨ width < ((putL n).length : Int)) : padL n width = ([], 3) := by unfold padL; rw [if_neg h, if_pos h']
theorem padL_ok {n width : Int} (h : ¬ (width < 1 ∨ 20 < width)) (h' : ¬ (n < 0 ∨ width < ((putL n).length : Int))) : padL n width = (List.replicate (width.toNat - (putL n).length) 48 ++ putL n, 0) := by unfold padL; rw [if_neg h, if_neg h']

theorem first_byte {s : ByteArray} {c : UInt8} {t : List UInt8} (h : s.data.toList = c :: t) : 0 < s.size ∧ ∀ h0 : 0 < s.size, s[0] = c := by
  have h0 : 0 < s.size := by rw [size_data, h]; simp
  refine ⟨h0, fun _ => ?_⟩
  have := byte_at s 0 h0
  rw [h] at this
  exact (Option.some.inj this).symm
theorem rest_bytes {s : ByteArray} {c : UInt8} {t : List UInt8} (h : s.data.toList = c :: t) : (s.extract 1 s.size).data.toList = t := by
  rw [Lib.extract_to_end, h]; rfl

end
end Go.Proofs.YtejgcnmbngdkiaaGreatDoor
/-
  The contracts of digits.Count (with the function that it makes for a text) and digits.Fixed.
-/
namespace Go.Proofs.YtejgcnmbngdkiaaGreatDoor
section
open Go.RowKit

set_option maxHeartbeats 1000000 in
theorem digitsOf_is (s : ByteArray) (w : World) :
    Calls Tryz.prog 118 #[.string s] w fun e w' => e = .returned (.func (.func 121) #[] #[.pointer (some ⟨w.heap.size, 0, none⟩)]) ∧ w.alloc (.cells #[.string s] 9) = w' := by
  go_enter Tryz.func118, Tryz.ntmps118
  go_wp2_with fail
  go_ret
  exact ⟨rfl, rfl⟩

set_option maxHeartbeats 1000000 in
theorem digit_yes (s : ByteArray) (k B : Nat) (w : World) (hB : w.cell? ⟨B, 0, none⟩ = some (.string s)) (hk : k < s.size) (hd : isDig s[k] = true) :
    Calls Tryz.prog 121 #[.int .i64 (k : Int), .pointer (some ⟨B, 0, none⟩)] w fun e w' => e = .returned (.int .i32 (s[k].toNat : Int)) ∧ w = w' := by
  obtain ⟨h1, h2⟩ := isDig_of hd
  clear hd
  have h3 : s[k].toNat < 256 := s[k].toNat_lt
  go_enter Tryz.func121, Tryz.ntmps121
  go_wp2_with fail
  go_ret
  exact ⟨by go_num, rfl⟩

set_option maxHeartbeats 1000000 in
theorem digit_no (s : ByteArray) (k B : Nat) (w : World) (hB : w.cell? ⟨B, 0, none⟩ = some (.string s)) (hk : k < s.size) (hd : isDig s[k] = false) :
    Calls Tryz.prog 121 #[.int .i64 (k : Int), .pointer (some ⟨B, 0, none⟩)] w fun e w' => e = .returned (.int .i32 (-1)) ∧ w = w' := by
  have hn : ¬ (48 ≤ (s[k].toNat : Int) ∧ (s[k].toNat : Int) ≤ 57) := of_decide_eq_false hd
  clear hd
  have h3 : s[k].toNat < 256 := s[k].toNat_lt
  by_cases h1 : 48 ≤ (s[k].toNat : Int)
  · have h2 : ¬ (s[k].toNat : Int) ≤ 57 := fun h => hn ⟨h1, h⟩
    clear hn
    go_enter Tryz.func121, Tryz.ntmps121
    go_wp2_with fail
    go_ret
    exact ⟨rfl, rfl⟩
  · clear hn
    go_enter Tryz.func121, Tryz.ntmps121
    go_wp2_with fail
    go_ret
    exact ⟨rfl, rfl⟩

/-- What lies while a text is gone through: the text's own box, and the place. -/
def Goes (s : ByteArray) (w : World) (pos : Nat) (wr : World) : Prop :=
  wr.heap[w.heap.size + 1]? = some (.stringIter s pos) ∧ wr.cell? ⟨w.heap.size, 0, none⟩ = some (.string s) ∧ Below w.heap.size w wr
theorem Goes.first (s : ByteArray) (w : World) : Goes s w 0 ((w.alloc (.cells #[.string s] 9)).iter s 0) := by
  refine ⟨?_, ?_, ((Below.refl _ w).alloc (Nat.le_refl _) _).alloc (by simp) _⟩
  · have h5 := World.iter_heap (w.alloc (.cells #[.string s] 9)) s 0
    simpa using h5
  · unfold World.cell?
    have h6 : ((w.alloc (.cells #[.string s] 9)).iter s 0).heap[w.heap.size]? = some (.cells #[.string s] 9 (0, 0)) := by
      exact (Lib.alloc_old (w.alloc (.cells #[.string s] 9)) (.stringIter s 0) w.heap.size (by simp)).trans (Go.heap_alloc_new w (.cells #[.string s] 9))
    simp only [h6]
    rfl
theorem Goes.next {s : ByteArray} {w wr : World} {pos : Nat} (h : Goes s w pos wr) (pos' : Nat) : Goes s w pos' (wr.iterAt (w.heap.size + 1) s pos') := by
  refine ⟨Lib.iterAt_heap _ _ s pos pos' h.1, ?_, Lib.below_iterAt h.2.2 (by omega) s pos'⟩
  have h6 := Lib.iterAt_other wr (w.heap.size + 1) w.heap.size s pos' (by omega)
  have h7 := h.2.1
  unfold World.cell? at h7 ⊢
  simp only [h6]
  exact h7

set_option maxRecDepth 100000 in
set_option maxHeartbeats 1000000 in
theorem count_any (s : ByteArray) (w : World) :
    Calls Tryz.prog 109 #[.string s] w fun e w' => e = .returned (.int .i64 (countN s.data.toList)) ∧ Below w.heap.size w w' := by
  have Hsz := Lib.hid (size_data s)
  go_enter Tryz.func109, Tryz.ntmps109
  go_wp2_with fail
  refine (digitsOf_is s _).mono ?_
  rintro e w1 ⟨rfl, rfl⟩
  go_wp2_with fail
  go_loopw [2] (fun _ wr => ∃ pos : Nat, pos ≤ s.size ∧ Goes s w pos wr ∧ Aside (∀ j, j < pos → digAt s.data.toList j = true))
    (fun _ wr => s.size - wr.iterPos (w.heap.size + 1))
  case atStart => exact ⟨0, Nat.zero_le _, Goes.first s w, fun j hj => absurd hj (by omega)⟩
  case round =>
    obtain ⟨pos, hps, hG, HI⟩ := hrel
    have hmu : wr.iterPos (w.heap.size + 1) = pos := by simp [World.iterPos, hG.1]
    have Hmu := Lib.hid hmu
    have HG := Lib.hid hG
    clear hmu hG
    by_cases hlt : pos < s.size
    · have Hat := Lib.hid (digAt_at s pos hlt)
      cases hd : isDig s[pos]
      · have Hc : Hid (countN s.data.toList = pos) := Lib.hid (count_unique _ _ HI.out (by rw [Hat.out]; exact hd))
        have Hd := Lib.hid hd
        clear hd
        have hnext : ∀ ty, (Instr.next (.pointer (some ⟨w.heap.size + 1, 0, none⟩)) true ty).run Tryz.prog wr = _ := fun ty => Lib.run_next_any_at wr (w.heap.size + 1) s pos ty HG.out.1 hlt
        obtain ⟨p', hp'⟩ : ∃ p', pos + (Utf8.decode s pos).2 = p' := ⟨_, rfl⟩
        rw [hp'] at hnext
        have HG1 := Lib.hid (HG.out.next p')
        generalize wr.iterAt (w.heap.size + 1) s p' = W1 at hnext HG1
        go_wp2_with fail
        refine (digit_no s pos w.heap.size _ HG1.out.2.1 hlt Hd.out).mono ?_
        rintro e w2 ⟨rfl, rfl⟩
        go_wp2_with fail
        go_ret
        exact ⟨ret_int (by rw [Hc.out]), HG1.out.2.2⟩
      · have h128 : s[pos].toNat < 128 := by have := isDig_of hd; omega
        have hnext : ∀ ty, (Instr.next (.pointer (some ⟨w.heap.size + 1, 0, none⟩)) true ty).run Tryz.prog wr = _ := fun ty => Lib.run_next_ascii_at wr (w.heap.size + 1) s pos ty HG.out.1 hlt h128
        have HG1 := Lib.hid (HG.out.next (pos + 1))
        generalize wr.iterAt (w.heap.size + 1) s (pos + 1) = W1 at hnext HG1
        have hne : ((s[pos].toNat : Int) == -1) = false := beq_eq_false_iff_ne.2 (by omega)
        have Hd := Lib.hid hd
        clear hd h128
        go_wp2_with fail
        refine (digit_yes s pos w.heap.size _ HG1.out.2.1 hlt Hd.out).mono ?_
        rintro e w2 ⟨rfl, rfl⟩
        go_wp2_with fail
        go_roundw
        case rel => exact ⟨pos + 1, by omega, HG1.out, fun j hj => by by_cases e : j = pos; exact e ▸ Hat.out.trans Hd.out; exact HI.out j (by omega)⟩
        case measure =>
          have hmu2 : W1.iterPos (w.heap.size + 1) = pos + 1 := by simp [World.iterPos, HG1.out.1]
          rw [Hmu.out, hmu2]; omega
    · obtain rfl : pos = s.size := by omega
      have Hc : Hid (countN s.data.toList = s.size) := Lib.hid (count_unique _ _ HI.out (digAt_far _ _ (by rw [Hsz.out]; exact Nat.le_refl _)))
      have hnext : ∀ ty, (Instr.next (.pointer (some ⟨w.heap.size + 1, 0, none⟩)) true ty).run Tryz.prog wr = _ := fun ty => Lib.run_next_end_at wr (w.heap.size + 1) s s.size ty HG.out.1 (by omega)
      go_wp2_with fail
      go_ret
      exact ⟨ret_int (by rw [Hc.out]), HG.out.2.2⟩

theorem count_is (s : ByteArray) (w : World) {n : Nat} (h : countN s.data.toList = n) :
    Calls Tryz.prog 109 #[.string s] w fun e w' => e = .returned (.int .i64 (n : Int)) ∧ Below w.heap.size w w' := by
  rw [← h]; exact count_any s w

/-- Two results: a number and an error. -/
def IntAnd (r : Int × Int) : Ending := .returned (.tuple #[.int .i64 r.1, .int .i64 r.2])
theorem intAnd_mk {a b : Int} {r : Int × Int} (h : (a, b) = r) : Ending.returned (.tuple #[.int .i64 a, .int .i64 b]) = IntAnd r := by subst h; rfl

set_option maxRecDepth 100000 in
set_option maxHeartbeats 1000000 in
theorem fixed_any (s : ByteArray) (w : World) :
    Calls Tryz.prog 96 #[.string s] w fun e w' => e = IntAnd (fixL s.data.toList) ∧ Below w.heap.size w w' := by
  by_cases h0 : s.data.toList = []
  · have he := isEmpty_of h0
    have Hr : Hid (fixL s.data.toList = (0, 4)) := Lib.hid (by rw [h0]; exact fixL_empty)
    clear h0
    go_enter Tryz.func96, Tryz.ntmps96
    go_wp2_with fail
    go_ret2
    exact ⟨intAnd_mk (by rw [Hr.out]), Below.refl _ _⟩
  · have he := isEmpty_not h0
    have H0 := Lib.hid h0
    clear h0
    have Hsz := Lib.hid (size_data s)
    by_cases hc : countN s.data.toList = s.size
    · have hq : ¬ ((s.size : Int) < (s.size : Int)) := by omega
      have Hc := Lib.hid hc
      clear hc
      have Hc' : Hid (countN s.data.toList = s.data.toList.length) := Lib.hid (by rw [Hc.out, Hsz.out])
      go_enter Tryz.func96, Tryz.ntmps96
      go_wp2_with fail
      refine (count_is s _ Hc.out).mono ?_
      rintro e w1 ⟨rfl, hb⟩
      have Hb := Lib.hid hb
      clear hb
      go_wp2_with fail
      have hit0 : (w1.iter s 0).heap[w1.heap.size]? = some (.stringIter s 0) := World.iter_heap w1 s 0
      have hb0 : Below w1.heap.size w1 (w1.iter s 0) := (Below.refl _ w1).alloc (Nat.le_refl _) _
      go_loopw [2, 3, 4] (fun _ _ x wr => ∃ pos : Nat, pos ≤ s.size ∧ x = .int .i64 (valN (s.data.toList.take pos) : Nat) ∧ valN (s.data.toList.take pos) ≤ 2147483647 ∧ wr.heap[w1.heap.size]? = some (.stringIter s pos) ∧ Below w1.heap.size w1 wr)
        (fun _ _ _ wr => s.size - wr.iterPos w1.heap.size)
      case atStart => exact ⟨0, Nat.zero_le _, rfl, by simp [valN], hit0, hb0⟩
      case round =>
        obtain ⟨pos, hps, rfl, hv, hit, hbr⟩ := hrel
        clear hit0 hb0
        have hmu : wr.iterPos w1.heap.size = pos := by simp [World.iterPos, hit]
        have Hmu := Lib.hid hmu
        have Hit := Lib.hid hit
        have Hbr := Lib.hid hbr
        clear hmu hit hbr
        by_cases hlt : pos < s.size
        · have hdg := isDig_of (count_full Hc'.out s[pos] (byte_mem s pos hlt))
          have hst : valN (s.data.toList.take (pos + 1)) = 10 * valN (s.data.toList.take pos) + (s[pos].toNat - 48) := by rw [take_snoc s pos hlt, valN_snoc]
          have hmono := valN_take s.data.toList (pos + 1)
          obtain ⟨v, hvv⟩ : ∃ v, valN (s.data.toList.take pos) = v := ⟨_, rfl⟩
          obtain ⟨v', hvv'⟩ : ∃ v', valN (s.data.toList.take (pos + 1)) = v' := ⟨_, rfl⟩
          rw [hvv] at hv hst
          rw [hvv'] at hst hmono
          rw [hvv]
          obtain ⟨hd1, hd2⟩ := hdg
          have h128 : s[pos].toNat < 128 := by omega
          have hnext : ∀ ty, (Instr.next (.pointer (some ⟨w1.heap.size, 0, none⟩)) true ty).run Tryz.prog wr = _ := fun ty => Lib.run_next_ascii_at wr w1.heap.size s pos ty Hit.out hlt h128
          have Hit1 := Lib.hid (Lib.iterAt_heap wr w1.heap.size s pos (pos + 1) Hit.out)
          have Hbr1 := Lib.hid (Lib.below_iterAt Hbr.out (Nat.le_refl _) s (pos + 1))
          generalize wr.iterAt w1.heap.size s (pos + 1) = W1 at hnext Hit1 Hbr1
          have hst' : (v' : Int) = 10 * (v : Int) + (s[pos].toNat : Int) - 48 := by omega
          have Hst := Lib.hid hst'
          have Hv' := Lib.hid hvv'
          clear hst hst' hvv hvv' h128
          by_cases hbig : 2147483647 < v'
          · have Hr := Lib.hid (fixL_big H0.out Hc'.out (show 2147483647 < valN s.data.toList by omega))
            have hb' : (2147483647 : Int) < 10 * (v : Int) + (s[pos].toNat : Int) - 48 := by have := Hst.out; omega
            clear hmono hbig
            go_wp2_with fail
            go_ret2
            exact ⟨intAnd_mk (by rw [Hr.out]), Hb.out.trans (Hbr1.out.mono Hb.out.size)⟩
          · have hb' : ¬ (2147483647 : Int) < 10 * (v : Int) + (s[pos].toNat : Int) - 48 := by have := Hst.out; omega
            clear hmono
            go_wp2_with fail
            go_roundw
            case rel => exact ⟨pos + 1, by omega, by rw [Hv'.out, Hst.out]; go_num, by rw [Hv'.out]; omega, Hit1.out, Hbr1.out⟩
            case measure =>
              have hmu2 : W1.iterPos w1.heap.size = pos + 1 := by simp [World.iterPos, Hit1.out]
              rw [Hmu.out, hmu2]; omega
        · obtain rfl : pos = s.size := by omega
          have hall : s.data.toList.take s.size = s.data.toList := List.take_of_length_le (by rw [Hsz.out]; exact Nat.le_refl _)
          rw [hall] at hv ⊢
          have Hr := Lib.hid (fixL_ok H0.out Hc'.out hv)
          clear hall
          have hnext : ∀ ty, (Instr.next (.pointer (some ⟨w1.heap.size, 0, none⟩)) true ty).run Tryz.prog wr = _ := fun ty => Lib.run_next_end_at wr w1.heap.size s s.size ty Hit.out (by omega)
          go_wp2_with fail
          go_ret2
          exact ⟨intAnd_mk (by rw [Hr.out]), Hb.out.trans (Hbr.out.mono Hb.out.size)⟩
    · have Hr : Hid (fixL s.data.toList = (0, 4)) := Lib.hid (fixL_form (by rw [← Hsz.out]; exact hc))
      have hq : ((countN s.data.toList : Int) < (s.size : Int)) := by have := countN_le s.data.toList; rw [← Hsz.out] at this; omega
      clear hc
      go_enter Tryz.func96, Tryz.ntmps96
      go_wp2_with fail
      refine (count_any s _).mono ?_
      rintro e w1 ⟨rfl, hb⟩
      have Hb := Lib.hid hb
      clear hb
      go_wp2_with fail
      go_ret2
      exact ⟨intAnd_mk (by rw [Hr.out]), Hb.out⟩

end
end Go.Proofs.YtejgcnmbngdkiaaGreatDoor
