/-
  The walks of the laws of the stage digits.
-/
import Derived.Test.YtccjpiomfngalaaDoorDProg
import Derived.Test.YtccjpiomfngalaaDoorDRead
import Derived.WalkSmall
namespace Go.Proofs.YtccjpiomfngalaaDoor
open Go.RowKit

/-- It answers yes, and leaves what lay. -/
def Yes (w : World) (e : Ending) (w' : World) : Prop := e = .returned (.bool true) ∧ Below w.heap.size w w'

theorem pad_is (n width : Int) (w : World) (hl : Laid w) (h0 : -9223372036854775808 ≤ n) (h1 : n ≤ 9223372036854775807) {u : ByteArray} {b : Int} (h : padL n width = (u.data.toList, b)) :
    Calls Tryd.prog 7 #[.int .i64 n, .int .i64 width] w fun e w' => e = .returned (.tuple #[.string u, .int .i64 b]) ∧ Below w.heap.size w w' := by
  have := pad_any n width w hl h0 h1
  rw [h] at this; unfold TextAnd at this; rw [bytes_of] at this; exact this
theorem rPad_is (n width : Int) (w : World) (h0 : -9223372036854775808 ≤ n) (h1 : n ≤ 9223372036854775807) {u : ByteArray} {b : Int} (h : padL n width = (u.data.toList, b)) :
    Calls Tryd.prog 8 #[.int .i64 n, .int .i64 width] w fun e w' => e = .returned (.tuple #[.string u, .int .i64 b]) ∧ w = w' := by
  have := rPad_any n width w h0 h1
  rw [h] at this; unfold TextAnd at this; rw [bytes_of] at this; exact this
theorem rPut_is (n : Int) (w : World) (h0 : -9223372036854775808 ≤ n) (h1 : n ≤ 9223372036854775807) {u : ByteArray} (hu : bytes (putL n) = u) :
    Calls Tryd.prog 10 #[.int .i64 n] w fun e w' => e = .returned (.string u) ∧ w = w' := by
  rw [← hu]; exact rPut_any n w h0 h1
theorem read_is (s : ByteArray) (w : World) (hl : Laid w) (hs : s.size ≤ 281474976710656) {a b : Int} (h : readL s.data.toList = (a, b)) :
    Calls Tryd.prog 12 #[.string s] w fun e w' => e = .returned (.tuple #[.int .i64 a, .int .i64 b]) ∧ Below w.heap.size w w' := by
  have := read_any s w hl hs
  rw [h] at this; exact this
theorem rRead_is (s : ByteArray) (w : World) (hs : s.size ≤ maxLen) {a b : Int} (h : readL s.data.toList = (a, b)) :
    Calls Tryd.prog 13 #[.string s] w fun e w' => e = .returned (.tuple #[.int .i64 a, .int .i64 b]) ∧ w = w' := by
  have := rRead_any s w hs
  rw [h] at this; exact this
theorem loose_is (s : ByteArray) (w : World) {a b : Int} (h : looseL s.data.toList = (a, b)) :
    Calls Tryd.prog 14 #[.string s] w fun e w' => e = .returned (.tuple #[.int .i64 a, .int .i64 b]) ∧ Below w.heap.size w w' := by
  have := loose_any s w
  rw [h] at this; exact this

theorem ex_pad : padL 7 3 = ((ByteArray.mk #[48, 48, 55]).data.toList, 0) := by unfold padL putL; rw [decN_low (by decide)]; rfl
theorem ex_put : bytes (putL (-12)) = ⟨#[45, 49, 50]⟩ := by
  unfold putL; rw [if_pos (by omega)]
  have e : (-12 : Int).natAbs = 12 := rfl
  rw [e, decN_high (by omega), decN_low (by omega)]; rfl

set_option maxRecDepth 100000 in
set_option maxHeartbeats 2000000 in
theorem numbers_any (w : World) (hl : Laid w) : Calls Tryd.prog 11 #[] w (Yes w) := by
  have HLa := Lib.hid hl
  clear hl
  go_enter Tryd.func11, Tryd.ntmps11
  go_wp2_with fail
  refine (pad_is 7 3 _ HLa.out (by decide) (by decide) ex_pad).mono ?_
  rintro e w1 ⟨rfl, hb⟩
  have Hb1 := Lib.hid hb
  clear hb
  go_wp2_with fail
  refine (loose_is _ _ (a := 7) (b := 0) (by decide)).mono ?_
  rintro e w2 ⟨rfl, hb⟩
  have Hb2 := Lib.hid (Hb1.out.trans (hb.mono Hb1.out.size))
  clear hb
  go_wp2_with fail
  refine (read_is _ _ (HLa.out.later Hb2.out) (by decide) (a := 0) (b := 4) (by decide)).mono ?_
  rintro e w3 ⟨rfl, hb⟩
  have Hb3 := Lib.hid (Hb2.out.trans (hb.mono Hb2.out.size))
  clear hb
  go_wp2_with fail
  refine (fixed_is _ _ (a := 10) (b := 0) (by decide)).mono ?_
  rintro e w4 ⟨rfl, hb⟩
  have Hb4 := Lib.hid (Hb3.out.trans (hb.mono Hb3.out.size))
  clear hb
  go_wp2_with fail
  refine (put_is (-12) _ (HLa.out.later Hb4.out) (by decide) (by decide) ex_put).mono ?_
  rintro e w5 ⟨rfl, hb⟩
  have Hb5 := Lib.hid (Hb4.out.trans (hb.mono Hb4.out.size))
  clear hb
  go_wp2_with fail
  refine (count_is _ _ (n := 2) (by decide)).mono ?_
  rintro e w6 ⟨rfl, hb⟩
  have Hb6 := Lib.hid (Hb5.out.trans (hb.mono Hb5.out.size))
  clear hb
  go_wp2_with fail
  go_ret
  exact ⟨rfl, Hb6.out⟩

set_option maxRecDepth 100000 in
set_option maxHeartbeats 2000000 in
theorem puts_walk (n width : Int) (w : World) (hl : Laid w) (h0 : -9223372036854775808 ≤ n) (h1 : n ≤ 9223372036854775807) :
    Calls Tryd.prog 3 #[.int .i64 n, .int .i64 width] w (Yes w) := by
  have HLa := Lib.hid hl
  clear hl
  obtain ⟨u, b, hp⟩ : ∃ (u : ByteArray) (b : Int), padL n width = (u.data.toList, b) := ⟨bytes (padL n width).1, (padL n width).2, by rw [bytes_data]⟩
  have Hp := Lib.hid hp
  clear hp
  obtain ⟨v, hv⟩ : ∃ v, bytes (putL n) = v := ⟨_, rfl⟩
  have Hv := Lib.hid hv
  clear hv
  go_enter Tryd.func3, Tryd.ntmps3
  go_wp2_with fail
  refine (pad_is n width _ HLa.out h0 h1 Hp.out).mono ?_
  rintro e w1 ⟨rfl, hb⟩
  have Hb1 := Lib.hid hb
  clear hb
  go_wp2_with fail
  refine (rPad_is n width _ h0 h1 Hp.out).mono ?_
  rintro e w1 ⟨rfl, rfl⟩
  go_wp2_with fail
  refine (put_is n _ (HLa.out.later Hb1.out) h0 h1 Hv.out).mono ?_
  rintro e w2 ⟨rfl, hb⟩
  have Hb2 := Lib.hid (Hb1.out.trans (hb.mono Hb1.out.size))
  clear hb
  go_wp2_with fail
  refine (rPut_is n _ h0 h1 Hv.out).mono ?_
  rintro e w1 ⟨rfl, rfl⟩
  go_wp2_with fail
  refine (numbers_any _ (HLa.out.later Hb2.out)).mono ?_
  rintro e w3 ⟨rfl, hb⟩
  have Hb3 := Lib.hid (Hb2.out.trans (hb.mono Hb2.out.size))
  clear hb
  go_wp2_with fail
  go_ret
  exact ⟨rfl, Hb3.out⟩

set_option maxRecDepth 100000 in
set_option maxHeartbeats 2000000 in
theorem fixes_walk (s : ByteArray) (w : World) (hl : Laid w) (hs : s.size ≤ maxLen) :
    Calls Tryd.prog 5 #[.string s] w (Yes w) := by
  have hs' := hs
  unfold maxLen at hs
  have HLa := Lib.hid hl
  clear hl
  by_cases hbig : (2000 : Int) < (s.size : Int)
  · go_enter Tryd.func5, Tryd.ntmps5
    go_wp2_with fail
    refine (numbers_any _ HLa.out).mono ?_
    rintro e w1 ⟨rfl, hb⟩
    have Hb := Lib.hid hb
    clear hb
    go_wp2_with fail
    go_ret
    exact ⟨rfl, Hb.out⟩
  · obtain ⟨a, b, hf⟩ : ∃ a b, fixL s.data.toList = (a, b) := ⟨_, _, rfl⟩
    have Hf := Lib.hid hf
    clear hf
    go_enter Tryd.func5, Tryd.ntmps5
    go_wp2_with fail
    refine (fixed_is s _ Hf.out).mono ?_
    rintro e w1 ⟨rfl, hb⟩
    have Hb1 := Lib.hid hb
    clear hb
    go_wp2_with fail
    refine (rFixed_is s _ hs' Hf.out).mono ?_
    rintro e w1 ⟨rfl, rfl⟩
    go_wp2_with fail
    refine (numbers_any _ (HLa.out.later Hb1.out)).mono ?_
    rintro e w2 ⟨rfl, hb⟩
    have Hb2 := Lib.hid (Hb1.out.trans (hb.mono Hb1.out.size))
    clear hb
    go_wp2_with fail
    go_ret
    exact ⟨rfl, Hb2.out⟩

set_option maxRecDepth 100000 in
set_option maxHeartbeats 2000000 in
theorem reads_walk (s : ByteArray) (w : World) (hl : Laid w) (hs : s.size ≤ maxLen) :
    Calls Tryd.prog 4 #[.string s] w (Yes w) := by
  have hs' := hs
  unfold maxLen at hs
  have HLa := Lib.hid hl
  clear hl
  by_cases hbig : (2000 : Int) < (s.size : Int)
  · go_enter Tryd.func4, Tryd.ntmps4
    go_wp2_with fail
    refine (numbers_any _ HLa.out).mono ?_
    rintro e w1 ⟨rfl, hb⟩
    have Hb := Lib.hid hb
    clear hb
    go_wp2_with fail
    go_ret
    exact ⟨rfl, Hb.out⟩
  · obtain ⟨a, b, hf⟩ : ∃ a b, readL s.data.toList = (a, b) := ⟨_, _, rfl⟩
    have Hf := Lib.hid hf
    clear hf
    obtain ⟨c, d, hg⟩ : ∃ c d, looseL s.data.toList = (c, d) := ⟨_, _, rfl⟩
    have Hg := Lib.hid hg
    clear hg
    obtain ⟨k, hk⟩ : ∃ k, countN s.data.toList = k := ⟨_, rfl⟩
    have Hk := Lib.hid hk
    clear hk
    go_enter Tryd.func4, Tryd.ntmps4
    go_wp2_with fail
    refine (read_is s _ HLa.out (by omega) Hf.out).mono ?_
    rintro e w1 ⟨rfl, hb⟩
    have Hb1 := Lib.hid hb
    clear hb
    go_wp2_with fail
    refine (rRead_is s _ hs' Hf.out).mono ?_
    rintro e w1 ⟨rfl, rfl⟩
    go_wp2_with fail
    refine (loose_is s _ Hg.out).mono ?_
    rintro e w2 ⟨rfl, hb⟩
    have Hb2 := Lib.hid (Hb1.out.trans (hb.mono Hb1.out.size))
    clear hb
    go_wp2_with fail
    refine (rLoose_is s _ hs' Hg.out).mono ?_
    rintro e w1 ⟨rfl, rfl⟩
    go_wp2_with fail
    refine (count_is s _ Hk.out).mono ?_
    rintro e w3 ⟨rfl, hb⟩
    have Hb3 := Lib.hid (Hb2.out.trans (hb.mono Hb2.out.size))
    clear hb
    go_wp2_with fail
    refine (rCount_is s _ hs' Hk.out).mono ?_
    rintro e w1 ⟨rfl, rfl⟩
    go_wp2_with fail
    refine (numbers_any _ (HLa.out.later Hb3.out)).mono ?_
    rintro e w4 ⟨rfl, hb⟩
    have Hb4 := Lib.hid (Hb3.out.trans (hb.mono Hb3.out.size))
    clear hb
    go_wp2_with fail
    go_ret
    exact ⟨rfl, Hb4.out⟩

end Go.Proofs.YtccjpiomfngalaaDoor
