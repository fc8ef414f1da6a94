/-
  The contracts of package bitrow, in the form in which the laws' walks ask for them.
-/
import Derived.Test.YtcnokejjpcpphaaBitReader
import Derived.Test.YtcnokejjpcpphaaBitRef2
import Derived.Test.YtcnokejjpcpphaaBitFoot
namespace Go.Proofs.Ytcnokejjpcpphaa
open Go.RowKit

theorem rGet_is (b : Nat) (s : ByteArray) (pos : Nat) (F : List Nat) (width : Int) (w : World) (h : ReaderAt w b s pos F) (_hp : pos ≤ 8 * s.size) (hs : s.size ≤ 100000) (_h0 : -9223372036854775808 ≤ width) (_h1 : width ≤ 9223372036854775807)
    {n e : Int} {to : Nat} (hr : getB s.data.toList pos width = (n, to, e)) :
    Calls Try.prog 16 #[.pointer (some ⟨b, 0, none⟩), .int .i64 width] w fun en w' => en = .returned (.tuple #[.int .i64 n, .int .i64 e]) ∧ ∃ F', ReaderAt w' b s to F' ∧ Touches F F' w w' := by
  by_cases hw : width < 0 ∨ 16 < width
  · rw [getB_arg hw] at hr
    obtain ⟨rfl, hr2⟩ := Prod.mk.inj hr
    obtain ⟨rfl, rfl⟩ := Prod.mk.inj hr2
    refine (rGet_arg ⟨b, 0, none⟩ width w hw).mono ?_
    rintro e w' ⟨rfl, rfl⟩
    exact ⟨rfl, F, h, Touches.refl _ _⟩
  · obtain ⟨k, rfl⟩ := Int.eq_ofNat_of_zero_le (show 0 ≤ width by omega)
    have hk : k ≤ 16 := by omega
    obtain ⟨next, L, rfl, hL, hH, hC⟩ := h
    have h8 := hH.2.1
    have hn := hH.2.2
    have hsz := size_data s
    by_cases hen : pos + k ≤ 8 * s.size
    · have hr2 := (getB_ok (l := s.data.toList) (pos := pos) hk (by rw [← hsz]; exact hen)).symm.trans hr
      obtain ⟨rfl, hr3⟩ := Prod.mk.inj hr2
      obtain ⟨rfl, rfl⟩ := Prod.mk.inj hr3
      exact rGet_ok b k pos next L s w hk hH hC hL hs hen
    · have hr2 := (getB_short (l := s.data.toList) (pos := pos) hk (by rw [← hsz]; omega)).symm.trans hr
      obtain ⟨rfl, hr3⟩ := Prod.mk.inj hr2
      obtain ⟨rfl, rfl⟩ := Prod.mk.inj hr3
      rw [← hsz] at hn
      refine (rGet_short b k next L s w hk hC hL hn hs (by omega)).mono ?_
      rintro e w' ⟨rfl, rfl⟩
      exact ⟨rfl, [b], ⟨next, L, rfl, hL, hH, hC⟩, (Touches.refl _ _).drew⟩

set_option maxHeartbeats 1000000 in
theorem rBytes_arg (b : Addr) (n : Int) (w : World) (hn : n < 0) :
    Calls Try.prog 18 #[.pointer (some b), .int .i64 n] w fun en w' => en = .returned (.tuple #[.string ⟨#[]⟩, .int .i64 2]) ∧ w = w' := by
  go_enter Try.func18, Try.ntmps18
  go_wp2_with fail
  go_ret2
  exact ⟨rfl, rfl⟩
set_option maxHeartbeats 1000000 in
theorem rBytes_short (b n next : Nat) (L : List Nat) (s : ByteArray) (w : World) (hC : RdCell w b s next L) (hn : next ≤ s.size) (_hs : s.size ≤ 100000) (hsh : s.size - next < n) (_hn : n ≤ 9223372036854775807) :
    Calls Try.prog 18 #[.pointer (some ⟨b, 0, none⟩), .int .i64 (n : Int)] w fun en w' => en = .returned (.tuple #[.string ⟨#[]⟩, .int .i64 5]) ∧ w' = w.drew := by
  have c2 := hC.text
  have c3 := hC.next
  have hz : (s.size : Int) - (next : Int) < (n : Int) := by omega
  clear hC hsh
  go_enter Try.func18, Try.ntmps18
  go_wp2_with fail
  go_region
  all_goals
    go_wp2_with fail
    go_ret2
    exact ⟨rfl, rfl⟩
theorem empty_of {u : ByteArray} (h : ([] : List UInt8) = u.data.toList) : u = ⟨#[]⟩ := bytes_eq h.symm

theorem rBytes_is (b : Nat) (s : ByteArray) (pos : Nat) (F : List Nat) (n : Int) (w : World) (h : ReaderAt w b s pos F) (hp : pos ≤ 8 * s.size) (hs : s.size ≤ 100000) (_h0 : -9223372036854775808 ≤ n) (h1 : n ≤ 9223372036854775807)
    {u : ByteArray} {e : Int} {to : Nat} (hr : bytesB s.data.toList pos n = (u.data.toList, to, e)) :
    Calls Try.prog 18 #[.pointer (some ⟨b, 0, none⟩), .int .i64 n] w fun en w' => en = .returned (.tuple #[.string u, .int .i64 e]) ∧ ∃ F', ReaderAt w' b s to F' ∧ Touches F F' w w' := by
  have hsz := size_data s
  unfold bytesB at hr
  by_cases hn : n < 0
  · rw [if_pos hn] at hr
    obtain ⟨hu, hr2⟩ := Prod.mk.inj hr
    obtain ⟨rfl, rfl⟩ := Prod.mk.inj hr2
    obtain rfl := empty_of hu
    refine (rBytes_arg ⟨b, 0, none⟩ n w hn).mono ?_
    rintro e w' ⟨rfl, rfl⟩
    exact ⟨rfl, F, h, Touches.refl _ _⟩
  · rw [if_neg hn] at hr
    obtain ⟨k, rfl⟩ := Int.eq_ofNat_of_zero_le (show 0 ≤ n by omega)
    by_cases hen : wholeN pos / 8 + k ≤ s.size
    · rw [if_neg (by omega), Int.toNat_natCast] at hr
      obtain ⟨hu, hr2⟩ := Prod.mk.inj hr
      obtain ⟨rfl, rfl⟩ := Prod.mk.inj hr2
      rw [bytes_eq hu.symm]
      exact rBytes_ok b k pos s F w h hp hs hen
    · rw [if_pos (by omega)] at hr
      obtain ⟨hu, hr2⟩ := Prod.mk.inj hr
      obtain ⟨rfl, rfl⟩ := Prod.mk.inj hr2
      obtain rfl := empty_of hu
      obtain ⟨next, L, rfl, hL, hH, hC⟩ := h
      have h8 := hH.2.1
      have hnx := hH.2.2
      rw [← hsz] at hnx
      refine (rBytes_short b k next L s w hC hnx hs (by unfold wholeN at hen; omega) (by omega)).mono ?_
      rintro e w' ⟨rfl, rfl⟩
      exact ⟨rfl, [b], ⟨next, L, rfl, hL, hH, hC⟩, (Touches.refl _ _).drew⟩

theorem WriterAt.later {w w' : World} {b : Nat} {row F : List Nat} (h : WriterAt w b row F) (hb : Below w.heap.size w w') : WriterAt w' b row F := h.move hb.size fun k hk => hb.block k (h.lt k hk)
theorem ReaderAt.later {w w' : World} {b : Nat} {s : ByteArray} {pos : Nat} {F : List Nat} (h : ReaderAt w b s pos F) (hb : Below w.heap.size w w') : ReaderAt w' b s pos F := h.move hb.size fun k hk => hb.block k (h.lt k hk)

end Go.Proofs.Ytcnokejjpcpphaa
