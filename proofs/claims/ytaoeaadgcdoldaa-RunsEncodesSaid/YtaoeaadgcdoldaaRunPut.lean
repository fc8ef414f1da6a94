/-
  runs.run, runs.plain: the functions that end a part.
-/
import Derived.Test.YtaoeaadgcdoldaaRunAlike
import Derived.Test.YtaoeaadgcdoldaaBuilderS
import Derived.StillTailTactics
import Derived.Deep.RegionWith
namespace Go.Proofs.Ytaoeaadgcdoldaa
open Go.RowKit

/-- A builder, and what a function that ends a part has caught: the pointer to it, and the bytes. -/
def PartAt (B p : Nat) (l : List UInt8) (t : ByteArray) (w : World) : Prop :=
  Bld B B l w ∧ B < p ∧ w.heap[p]? = some (.cells #[.pointer (some ⟨B, 0, none⟩)] 33 (0, 0)) ∧ w.heap[p + 1]? = some (.cells #[.string t] 9 (0, 0))
theorem PartAt.made {B : Nat} {l : List UInt8} {w : World} (h : Bld B B l w) (hB : B < w.heap.size) (t : ByteArray) :
    PartAt B w.heap.size l t ((w.alloc (.cells #[.pointer (some ⟨B, 0, none⟩)] 33)).alloc (.cells #[.string t] 9)) := by
  refine ⟨(h.alloc _).alloc _, hB, ?_, ?_⟩
  · rw [Lib.alloc_old _ _ _ (by simp)]
    have := heap_alloc_new w (.cells #[.pointer (some ⟨B, 0, none⟩)] 33)
    simpa using this
  · have := heap_alloc_new (w.alloc (.cells #[.pointer (some ⟨B, 0, none⟩)] 33)) (.cells #[.string t] 9)
    simpa using this

theorem run_is (b : Nat) (t : ByteArray) (w : World) :
    Calls Try.prog 13 #[.pointer (some ⟨b, 0, none⟩), .string t] w fun e w' =>
      e = .returned (.func (.func 21) #[] #[.pointer (some ⟨w.heap.size, 0, none⟩), .pointer (some ⟨w.heap.size + 1, 0, none⟩)]) ∧
      (w.alloc (.cells #[.pointer (some ⟨b, 0, none⟩)] 33)).alloc (.cells #[.string t] 9) = w' := by
  go_enter Try.func13, Try.ntmps13
  go_wp2_with fail
  go_ret
  exact ⟨rfl, rfl⟩
theorem plain_is (b : Nat) (t : ByteArray) (w : World) :
    Calls Try.prog 14 #[.pointer (some ⟨b, 0, none⟩), .string t] w fun e w' =>
      e = .returned (.func (.func 22) #[] #[.pointer (some ⟨w.heap.size, 0, none⟩), .pointer (some ⟨w.heap.size + 1, 0, none⟩)]) ∧
      (w.alloc (.cells #[.pointer (some ⟨b, 0, none⟩)] 33)).alloc (.cells #[.string t] 9) = w' := by
  go_enter Try.func14, Try.ntmps14
  go_wp2_with fail
  go_ret
  exact ⟨rfl, rfl⟩

/-- What a call that writes the builder leaves of it all. -/
theorem PartAt.next {B p : Nat} {l l' : List UInt8} {t : ByteArray} {w w' : World} (h : PartAt B p l t w) (hB : Bld B B l' w') (hk : Kept B w w') : PartAt B p l' t w' :=
  ⟨hB, h.2.1, hk _ _ h.2.2.1 (by simp; have := h.2.1; omega) (by simp), hk _ _ h.2.2.2 (by simp; have := h.2.1; omega) (by simp)⟩
theorem PartAt.drewN {B p : Nat} {l : List UInt8} {t : ByteArray} {w : World} (h : PartAt B p l t w) (q : Nat) : PartAt B p l t (w.drewN q) := h
theorem PartAt.c1 {B p : Nat} {l : List UInt8} {t : ByteArray} {w : World} (h : PartAt B p l t w) : w.cell? ⟨p, 0, none⟩ = some (.pointer (some ⟨B, 0, none⟩)) := by rw [Lib.cell_of_heap h.2.2.1]; rfl
theorem PartAt.c2 {B p : Nat} {l : List UInt8} {t : ByteArray} {w : World} (h : PartAt B p l t w) : w.cell? ⟨p + 1, 0, none⟩ = some (.string t) := by rw [Lib.cell_of_heap h.2.2.2]; rfl

set_option maxRecDepth 100000 in
set_option maxHeartbeats 1000000 in
theorem run1_is (B p : Nat) (l : List UInt8) (t : ByteArray) (w : World) (h : PartAt B p l t w) (h0 : 3 ≤ t.size) (h1 : t.size ≤ 128) (hl : l.length ≤ 1000000) (hB : B ≤ w.heap.size) :
    Calls Try.prog 21 #[.pointer (some ⟨p, 0, none⟩), .pointer (some ⟨p + 1, 0, none⟩)] w fun e w' => e = .returned (.int .i64 (t.size : Int)) ∧ Bld B B (l ++ [UInt8.ofNat (257 - t.size), t[0]'(by omega)]) w' ∧ Below B w w' := by
  have H := Lib.hid h
  have c1 := h.c1
  have c2 := h.c2
  clear h
  obtain ⟨n, hn⟩ : ∃ n, 257 - t.size = n := ⟨_, rfl⟩
  have hz : 257 - (t.size : Int) = ((UInt8.ofNat n).toNat : Int) := by rw [byte_nat (by omega)]; omega
  obtain ⟨c, hc⟩ : ∃ c : UInt8, t[0]'(by omega) = c := ⟨_, rfl⟩
  have hpos : (0 : Int) < (t.size : Int) := by omega
  rw [hc, hn]
  have Hp : Hid (B < p) := Lib.hid H.out.2.1
  go_enter Try.func21, Try.ntmps21
  go_wp2_with fail
  refine (wbyte_is B B l (UInt8.ofNat n) w H.out.1 (by omega) hB).mono ?_
  rintro e w2 ⟨rfl, hB2, hb, hk⟩
  have H2 := Lib.hid (H.out.next hB2 hk)
  have Hb2 := Lib.hid hb
  have d1 := H2.out.c1
  have d2 := H2.out.c2
  clear hB2 hb hk
  go_wp2_with fail
  have hs2 : B ≤ w2.heap.size := Nat.le_trans hB Hb2.out.size
  go_region_with (go_at_call 15; refine (wbyte_is B B _ c _ (Bld.drew H2.out.1) (by simp; omega) hs2).mono ?_; rintro e w4 ⟨rfl, hB2, hb, hk⟩)
  all_goals
    have H4 := Lib.hid (PartAt.next (w := w2.drew) H2.out hB2 hk)
    have Hb4 := Lib.hid (Hb2.out.drew.trans hb)
    have e2 := H4.out.c2
    clear hB2 hb hk
    go_wp2_with fail
    go_ret
    refine ⟨rfl, ?_, Hb4.out⟩
    have := H4.out.1
    simpa using this

set_option maxRecDepth 100000 in
set_option maxHeartbeats 1000000 in
theorem plain1_is (B p : Nat) (l : List UInt8) (t : ByteArray) (w : World) (h : PartAt B p l t w) (h0 : 1 ≤ t.size) (h1 : t.size ≤ 128) (hl : l.length ≤ 1000000) (hB : B ≤ w.heap.size) :
    Calls Try.prog 22 #[.pointer (some ⟨p, 0, none⟩), .pointer (some ⟨p + 1, 0, none⟩)] w fun e w' => e = .returned (.int .i64 (t.size : Int)) ∧ Bld B B (l ++ [UInt8.ofNat (t.size - 1)] ++ t.data.toList) w' ∧ Below B w w' := by
  have H := Lib.hid h
  have c1 := h.c1
  have c2 := h.c2
  clear h
  obtain ⟨n, hn⟩ : ∃ n, t.size - 1 = n := ⟨_, rfl⟩
  have hz : (t.size : Int) - 1 = ((UInt8.ofNat n).toNat : Int) := by rw [byte_nat (by omega)]; omega
  rw [hn]
  go_enter Try.func22, Try.ntmps22
  go_wp2_with fail
  refine (wbyte_is B B l (UInt8.ofNat n) w H.out.1 (by omega) hB).mono ?_
  rintro e w2 ⟨rfl, hB2, hb, hk⟩
  have H2 := Lib.hid (H.out.next hB2 hk)
  have Hb2 := Lib.hid hb
  have d1 := H2.out.c1
  have d2 := H2.out.c2
  clear hB2 hb hk
  go_wp2_with fail
  refine (wstr_is B B _ t w2 H2.out.1 (by simp; omega) (Nat.le_trans hB Hb2.out.size)).mono ?_
  rintro e w4 ⟨rfl, hB2, hb, hk⟩
  have H4 := Lib.hid (H2.out.next hB2 hk)
  have Hb4 := Lib.hid (Hb2.out.trans hb)
  have e2 := H4.out.c2
  clear hB2 hb hk d1 d2 c1 c2
  go_wp2_with fail
  go_ret
  exact ⟨rfl, H4.out.1, Hb4.out⟩

end Go.Proofs.Ytaoeaadgcdoldaa
