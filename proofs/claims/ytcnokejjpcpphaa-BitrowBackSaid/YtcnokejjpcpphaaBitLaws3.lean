/-
  The walk of the law BitrowReads.
-/
import Derived.Test.YtcnokejjpcpphaaBitLaws
namespace Go.Proofs.Ytcnokejjpcpphaa
open Go.RowKit

/-- A slice of questions, as far as its length, in memory. -/
def Asks (w : World) (p : Option Addr) (z : List (Int × Int)) : Prop :=
  z = [] ∨ ∃ b off, p = some ⟨b, off, none⟩ ∧ b < w.heap.size ∧ ∀ i (h : i < z.length),
    w.cell? ⟨b, off + i * 2, none⟩ = some (.int .u8 z[i].1) ∧ w.cell? ⟨b, off + i * 2 + 1, none⟩ = some (.int .i64 z[i].2) ∧ (0 ≤ z[i].1 ∧ z[i].1 ≤ 255) ∧ -9223372036854775808 ≤ z[i].2 ∧ z[i].2 ≤ 9223372036854775807
theorem Asks.at {w : World} {p : Option Addr} {z : List (Int × Int)} (h : Asks w p z) (i : Nat) (hi : i < z.length) : ∃ b off c n, p = some ⟨b, off, none⟩ ∧ b < w.heap.size ∧
    w.cell? ⟨b, off + i * 2, none⟩ = some (.int .u8 c) ∧ w.cell? ⟨b, off + i * 2 + 1, none⟩ = some (.int .i64 n) ∧ 0 ≤ c ∧ c ≤ 255 ∧ -9223372036854775808 ≤ n ∧ n ≤ 9223372036854775807 := by
  rcases h with rfl | ⟨b, off, e, hb, h⟩
  · cases hi
  · obtain ⟨h1, h2, h3, h4⟩ := h i hi
    exact ⟨b, off, _, _, e, hb, h1, h2, h3.1, h3.2, h4.1, h4.2⟩
theorem getB_to {s : ByteArray} {pos to : Nat} {width n e : Int} (hp : pos ≤ 8 * s.size) (h : getB s.data.toList pos width = (n, to, e)) : to ≤ 8 * s.size := by
  unfold getB at h
  rw [show s.data.toList.length = s.size by rw [← size_data]] at h
  split at h
  · simp only [Prod.mk.injEq] at h; omega
  · split at h
    · simp only [Prod.mk.injEq] at h; omega
    · simp only [Prod.mk.injEq] at h; omega
theorem bytesB_to {s : ByteArray} {pos to : Nat} {n e : Int} {u : List UInt8} (hp : pos ≤ 8 * s.size) (h : bytesB s.data.toList pos n = (u, to, e)) : to ≤ 8 * s.size := by
  unfold bytesB at h
  rw [show s.data.toList.length = s.size by rw [← size_data]] at h
  split at h
  · simp only [Prod.mk.injEq] at h; omega
  · split at h
    · simp only [Prod.mk.injEq] at h; omega
    · simp only [Prod.mk.injEq] at h; omega
theorem wholeN_to {pos n : Nat} (h : pos ≤ 8 * n) : wholeN pos ≤ 8 * n := by unfold wholeN; omega

set_option maxRecDepth 100000 in
set_option maxHeartbeats 4000000 in
theorem breads_walk (s : ByteArray) (p : Option Addr) (cap : Nat) (z : List (Int × Int)) (w : World) (hs : s.size ≤ maxLen) (hz : z.length ≤ 9223372036854775807) (hp : Asks w p z) :
    Calls Try.prog 4 #[.string s, .slice p z.length cap] w (Yes w) := by
  unfold maxLen at hs
  have Hp := Lib.hid hp
  clear hp
  by_cases hbig : (500 : Int) < (s.size : Int) ∨ (100 : Int) < (z.length : Int)
  · have hcase : (500 : Int) < (s.size : Int) ∨ (¬ (500 : Int) < (s.size : Int) ∧ (100 : Int) < (z.length : Int)) := by omega
    clear hbig
    rcases hcase with h | ⟨h, h'⟩
    all_goals
      go_enter Try.func4, Try.ntmps4
      go_wp2_with fail
      refine (rows_any _).mono ?_
      rintro e w1 ⟨rfl, hb⟩
      have Hb := Lib.hid hb
      clear hb
      go_wp2_with fail
      go_ret
      exact ⟨rfl, Hb.out⟩
  · have h1 : ¬ (500 : Int) < (s.size : Int) := by omega
    have h2 : ¬ (100 : Int) < (z.length : Int) := by omega
    clear hbig
    go_enter Try.func4, Try.ntmps4
    go_wp2_with fail
    refine (rNew_is s _ (by omega)).mono ?_
    rintro e w1 ⟨br, F0, rfl, hr, hF, hb⟩
    have Hb1 := Lib.hid hb
    have Hr1 := Lib.hid hr
    have HF1 := Lib.hid hF
    clear hb hr hF
    go_wp2_with fail
    go_loopg [6, 7] z.length (fun gg s6 s7 wx => ∃ (i pos : Nat) (F : List Nat), i + gg = z.length ∧ s7 = .int .i64 i ∧ s6 = .int .i64 pos ∧ pos ≤ 8 * s.size ∧ Aside (ReaderAt wx br s pos F ∧ ∀ k ∈ F, w.heap.size ≤ k) ∧ Below w.heap.size w wx)
    case atStart => exact ⟨0, 0, F0, by omega, rfl, rfl, by omega, ⟨Hr1.out, HF1.out⟩, Hb1.out⟩
    case round =>
      obtain ⟨i, pos, F, hig, rfl, rfl, hps, HI, hb⟩ := hrel
      have Hb := Lib.hid hb
      clear hb
      cases gk with
      | zero =>
        obtain rfl : i = z.length := by omega
        clear hig
        go_wp2_with fail
        refine (rows_any _).mono ?_
        rintro e w2 ⟨rfl, hb⟩
        have Hb2 := Lib.hid (Hb.out.trans (hb.mono Hb.out.size))
        clear hb
        go_wp2_with fail
        go_ret
        exact ⟨rfl, Hb2.out⟩
      | succ gg =>
        have hi : i < z.length := by omega
        have hiz : (i : Int) < (z.length : Int) := by omega
        obtain ⟨b, off, c, n, rfl, hblt, hc0, hc1, hk0, hk1, hn0, hn1⟩ := Hp.out.at i hi
        have hd0 := (Hb.out.cell (p := ⟨b, off + i * 2, none⟩) hblt).trans hc0
        have hd1 := (Hb.out.cell (p := ⟨b, off + i * 2 + 1, none⟩) hblt).trans hc1
        have Hc1 := Lib.hid hc1
        clear hc0 hc1
        have hk : c % 3 = 0 ∨ c % 3 = 1 ∨ c % 3 = 2 := by omega
        rcases hk with hk | hk | hk
        · obtain ⟨m, to, e0, hget⟩ : ∃ m to e0, getB s.data.toList pos n = (m, to, e0) := ⟨_, _, _, rfl⟩
          have hto := getB_to hps hget
          have Hget := Lib.hid hget
          clear hget
          go_wp2_with fail
          refine (rGetB_is s pos n _ hps (by omega) hn0 hn1 Hget.out).mono ?_
          rintro e w2 ⟨rfl, q2, rfl⟩
          have Hb2 := Lib.hid (below_drewN Hb.out q2)
          have Hr2 := Lib.hid (HI.out.1.later (below_drewN (Below.refl _ _) q2))
          go_wp2_with fail
          refine (rGet_is br s pos F n _ Hr2.out hps (by omega) hn0 hn1 Hget.out).mono ?_
          rintro e w3 ⟨rfl, F3, hr, ht⟩
          have Hb3 := Lib.hid (Hb2.out.trans (ht.below (B := w.heap.size) Hb2.out.size HI.out.2))
          have HF3 := Lib.hid (ht.more (B := w.heap.size) Hb2.out.size HI.out.2)
          have Hr3 := Lib.hid hr
          clear hr ht
          go_wp2_with fail
          refine (rAt_is br s to F3 _ Hr3.out hto (by omega)).mono ?_
          rintro e w4 ⟨rfl, hb⟩
          have Hb4 := Lib.hid (Hb3.out.trans (hb.mono Hb3.out.size))
          have Hr4 := Lib.hid (Hr3.out.later hb)
          clear hb
          go_wp2_with fail
          go_roundg gg
          case measure => omega
          case rel => exact ⟨i + 1, to, F3, by omega, by go_num, rfl, hto, ⟨Hr4.out, HF3.out⟩, Hb4.out⟩
        · obtain ⟨u, to, e0, hget⟩ : ∃ (u : ByteArray) (to : Nat) (e0 : Int), bytesB s.data.toList pos n = (u.data.toList, to, e0) := ⟨bytes (bytesB s.data.toList pos n).1, _, _, by rw [bytes_data]⟩
          have hto := bytesB_to hps hget
          have Hget := Lib.hid hget
          clear hget
          go_wp2_with fail
          refine (rBytesB_is s pos n _ hps (by omega) hn0 hn1 Hget.out).mono ?_
          rintro e w2 ⟨rfl, rfl⟩
          go_wp2_with fail
          refine (rBytes_is br s pos F n _ HI.out.1 hps (by omega) hn0 hn1 Hget.out).mono ?_
          rintro e w3 ⟨rfl, F3, hr, ht⟩
          have Hb3 := Lib.hid (Hb.out.trans (ht.below (B := w.heap.size) Hb.out.size HI.out.2))
          have HF3 := Lib.hid (ht.more (B := w.heap.size) Hb.out.size HI.out.2)
          have Hr3 := Lib.hid hr
          clear hr ht
          go_wp2_with fail
          refine (rAt_is br s to F3 _ Hr3.out hto (by omega)).mono ?_
          rintro e w4 ⟨rfl, hb⟩
          have Hb4 := Lib.hid (Hb3.out.trans (hb.mono Hb3.out.size))
          have Hr4 := Lib.hid (Hr3.out.later hb)
          clear hb
          go_wp2_with fail
          go_roundg gg
          case measure => omega
          case rel => exact ⟨i + 1, to, F3, by omega, by go_num, rfl, hto, ⟨Hr4.out, HF3.out⟩, Hb4.out⟩
        · have hto := wholeN_to hps
          obtain ⟨to, hwt⟩ : ∃ to, wholeN pos = to := ⟨_, rfl⟩
          have Hal := Lib.hid fun W => rAlign_is br s pos F W
          have Hwh := Lib.hid fun W => rWhole_any pos W (by omega)
          rw [hwt] at Hal Hwh hto
          clear hwt
          go_wp2_with fail
          refine (Hal.out _ HI.out.1 hps (by omega)).mono ?_
          rintro e w3 ⟨rfl, F3, hr, ht⟩
          have Hb3 := Lib.hid (Hb.out.trans (ht.below (B := w.heap.size) Hb.out.size HI.out.2))
          have HF3 := Lib.hid (ht.more (B := w.heap.size) Hb.out.size HI.out.2)
          have Hr3 := Lib.hid hr
          clear hr ht
          go_wp2_with fail
          refine (Hwh.out _).mono ?_
          rintro e w5 ⟨rfl, rfl⟩
          go_wp2_with fail
          refine (rAt_is br s to F3 _ Hr3.out hto (by omega)).mono ?_
          rintro e w4 ⟨rfl, hb⟩
          have Hb4 := Lib.hid (Hb3.out.trans (hb.mono Hb3.out.size))
          have Hr4 := Lib.hid (Hr3.out.later hb)
          clear hb
          go_wp2_with fail
          go_roundg gg
          case measure => omega
          case rel => exact ⟨i + 1, to, F3, by omega, by go_num, rfl, hto, ⟨Hr4.out, HF3.out⟩, Hb4.out⟩

end Go.Proofs.Ytcnokejjpcpphaa
