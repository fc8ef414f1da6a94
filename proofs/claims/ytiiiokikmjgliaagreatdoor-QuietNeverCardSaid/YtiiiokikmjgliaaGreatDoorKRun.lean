/-
  BuilderS, RunPut, RunEnc, RunDec, RunContracts: texts merged.
-/
import Derived.Test.YtiiiokikmjgliaaGreatDoorKHex
import Derived.Test.YtiiiokikmjgliaaGreatDoorRunAlike
import Derived.StillTailTactics
import Derived.Deep.RegionWith
import Derived.WalkMore
import Derived.ScopeJumps
import Derived.Test.YtiiiokikmjgliaaGreatDoorKRunR
/-
  (*strings.Builder).WriteString's contract laid over this translation (as WriteByte's, by hand), and the contracts of WriteString and Len that the walks use.
-/
namespace Go.Proofs
open Go.Shelf
def Tryz.lays166_ren : Go.Shelf.Ren := ⟨fun | 166 => 51 | 240 => 53 | 276 => 68 | n => n, fun | 0 => 0 | 3 => 3 | 4 => 4 | 5 => 5 | 9 => 9 | 20 => 20 | 37 => 64 | 70 => 63 | 72 => 66 | 75 => 69 | 164 => 97 | 80 => 48 | n => n, fun | n => n⟩
theorem Tryz.lays166 : Go.Proofs.Lays.n166 Tryz.prog Tryz.lays166_ren := {
  mixed := by kernel_rfl
  f166 := Tryz.func51.trans (congrArg some (by kernel_rfl))
  f240 := Tryz.func53.trans (congrArg some (by kernel_rfl))
  f276 := Tryz.func68.trans (congrArg some (by kernel_rfl))
  t0 := Tryz.underlying0
  a0 := Tryz.isAgg0
  z0 := Tryz.sizeOf0
  v0 := Tryz.zeroValue0
  t3 := Tryz.underlying3
  a3 := Tryz.isAgg3
  z3 := Tryz.sizeOf3
  v3 := Tryz.zeroValue3
  t4 := Tryz.underlying4
  a4 := Tryz.isAgg4
  z4 := Tryz.sizeOf4
  v4 := Tryz.zeroValue4
  t9 := Tryz.underlying9
  a9 := Tryz.isAgg9
  z9 := Tryz.sizeOf9
  v9 := Tryz.zeroValue9
  t20 := Tryz.underlying20
  a20 := Tryz.isAgg20
  z20 := Tryz.sizeOf20
  v20 := Tryz.zeroValue20
  t37 := Tryz.underlying64
  a37 := Tryz.isAgg64
  z37 := Tryz.sizeOf64
  v37 := Tryz.zeroValue64
  t70 := Tryz.underlying63
  a70 := Tryz.isAgg63
  z70 := Tryz.sizeOf63
  v70 := Tryz.zeroValue63
  t72 := Tryz.underlying66
  a72 := Tryz.isAgg66
  z72 := Tryz.sizeOf66
  v72 := Tryz.zeroValue66
  t75 := Tryz.underlying69
  a75 := Tryz.isAgg69
  z75 := Tryz.sizeOf69
  v75 := Tryz.zeroValue69
  t164 := Tryz.underlying97
  a164 := Tryz.isAgg97
  z164 := Tryz.sizeOf97
  v164 := Tryz.zeroValue97 }
theorem Tryz.Builder_Extra_166 : Builder.Extra Tryz.prog Tryz.lays166_ren := {
  sizeBuilder := by kernel_rfl
  liesBuilder := by kernel_rfl
  t5 := Tryz.underlying5
  a5 := Tryz.isAgg5
  z5 := Tryz.sizeOf5
  v5 := Tryz.zeroValue5
  infoByte := by kernel_rfl
  cellsByte := by kernel_rfl
  sizeByte := by kernel_rfl
  neB5 := by decide }
end Go.Proofs
namespace Go.Proofs.YtiiiokikmjgliaaGreatDoor
open Go.RowKit
set_option maxRecDepth 100000
theorem wstr_is (B b : Nat) (l : List UInt8) (s : ByteArray) (w : World) (h : Bld B b l w) (hl : l.length + s.size ≤ 140737488355328) (hBw : B ≤ w.heap.size) :
    Calls Tryz.prog 51 #[.pointer (some ⟨b, 0, none⟩), .string s] w fun e w' => e = .returned (.tuple #[.int .i64 s.size, .nilIface]) ∧ Bld B b (l ++ s.data.toList) w' ∧ Below B w w' ∧ Kept b w w' := by
  refine (Any.Builder_WriteString_k Tryz.lays166 Tryz.Builder_Extra_166 B b (Lib.byteCells l) s w h (by rw [Lib.byteCells_length]; exact hl) hBw).mono ?_
  rintro e w' ⟨h1, h2, h3, h4⟩
  refine ⟨h1, ?_, h3, h4⟩
  unfold Bld
  rw [Lib.byteCells_append]
  exact Or.inr h2
theorem len_is (B b : Nat) (l : List UInt8) (w : World) (h : Bld B b l w) :
    Calls Tryz.prog 52 #[.pointer (some ⟨b, 0, none⟩)] w fun e w' => e = .returned (.int .i64 l.length) ∧ w = w' := by
  have := Any.Builder_Len_f Tryz.lays170 B b (Lib.byteCells l) w h
  rw [Lib.byteCells_length] at this
  exact this.mono fun e w' ⟨h1, h2⟩ => ⟨h1, h2.symm⟩
end Go.Proofs.YtiiiokikmjgliaaGreatDoor
/-
  runs.run, runs.plain: the functions that end a part.
-/
namespace Go.Proofs.YtiiiokikmjgliaaGreatDoor
section
open Go.RowKit
set_option maxRecDepth 100000
def PartAt (B p : Nat) (l : List UInt8) (t : ByteArray) (w : World) : Prop :=
  Bld B B l w ∧ B < p ∧ w.heap[p]? = some (.cells #[.pointer (some ⟨B, 0, none⟩)] 63 (0, 0)) ∧ w.heap[p + 1]? = some (.cells #[.string t] 9 (0, 0))
theorem PartAt.made {B : Nat} {l : List UInt8} {w : World} (h : Bld B B l w) (hB : B < w.heap.size) (t : ByteArray) :
    PartAt B w.heap.size l t ((w.alloc (.cells #[.pointer (some ⟨B, 0, none⟩)] 63)).alloc (.cells #[.string t] 9)) := by
  refine ⟨(h.alloc _).alloc _, hB, ?_, ?_⟩
  · rw [Lib.alloc_old _ _ _ (by simp)]
    have := heap_alloc_new w (.cells #[.pointer (some ⟨B, 0, none⟩)] 63)
    simpa using this
  · have := heap_alloc_new (w.alloc (.cells #[.pointer (some ⟨B, 0, none⟩)] 63)) (.cells #[.string t] 9)
    simpa using this
theorem run_is (b : Nat) (t : ByteArray) (w : World) :
    Calls Tryz.prog 93 #[.pointer (some ⟨b, 0, none⟩), .string t] w fun e w' =>
      e = .returned (.func (.func 108) #[] #[.pointer (some ⟨w.heap.size, 0, none⟩), .pointer (some ⟨w.heap.size + 1, 0, none⟩)]) ∧
      (w.alloc (.cells #[.pointer (some ⟨b, 0, none⟩)] 63)).alloc (.cells #[.string t] 9) = w' := by
  go_enter Tryz.func93, Tryz.ntmps93
  go_wp2_with fail
  go_ret
  exact ⟨rfl, rfl⟩
theorem plain_is (b : Nat) (t : ByteArray) (w : World) :
    Calls Tryz.prog 94 #[.pointer (some ⟨b, 0, none⟩), .string t] w fun e w' =>
      e = .returned (.func (.func 109) #[] #[.pointer (some ⟨w.heap.size, 0, none⟩), .pointer (some ⟨w.heap.size + 1, 0, none⟩)]) ∧
      (w.alloc (.cells #[.pointer (some ⟨b, 0, none⟩)] 63)).alloc (.cells #[.string t] 9) = w' := by
  go_enter Tryz.func94, Tryz.ntmps94
  go_wp2_with fail
  go_ret
  exact ⟨rfl, rfl⟩
theorem PartAt.next {B p : Nat} {l l' : List UInt8} {t : ByteArray} {w w' : World} (h : PartAt B p l t w) (hB : Bld B B l' w') (hk : Kept B w w') : PartAt B p l' t w' :=
  ⟨hB, h.2.1, hk _ _ h.2.2.1 (by simp; have := h.2.1; omega) (by simp), hk _ _ h.2.2.2 (by simp; have := h.2.1; omega) (by simp)⟩
theorem PartAt.drewN {B p : Nat} {l : List UInt8} {t : ByteArray} {w : World} (h : PartAt B p l t w) (q : Nat) : PartAt B p l t (w.drewN q) := h
theorem PartAt.c1 {B p : Nat} {l : List UInt8} {t : ByteArray} {w : World} (h : PartAt B p l t w) : w.cell? ⟨p, 0, none⟩ = some (.pointer (some ⟨B, 0, none⟩)) := by rw [Lib.cell_of_heap h.2.2.1]; rfl
theorem PartAt.c2 {B p : Nat} {l : List UInt8} {t : ByteArray} {w : World} (h : PartAt B p l t w) : w.cell? ⟨p + 1, 0, none⟩ = some (.string t) := by rw [Lib.cell_of_heap h.2.2.2]; rfl
set_option maxRecDepth 100000 in
set_option maxHeartbeats 1000000 in
theorem run1_is (B p : Nat) (l : List UInt8) (t : ByteArray) (w : World) (h : PartAt B p l t w) (h0 : 3 ≤ t.size) (h1 : t.size ≤ 128) (hl : l.length ≤ 1000000) (hB : B ≤ w.heap.size) :
    Calls Tryz.prog 108 #[.pointer (some ⟨p, 0, none⟩), .pointer (some ⟨p + 1, 0, none⟩)] w fun e w' => e = .returned (.int .i64 (t.size : Int)) ∧ Bld B B (l ++ [UInt8.ofNat (257 - t.size), t[0]'(by omega)]) w' ∧ Below B w w' := by
  have H := Lib.hid h
  have c1 := h.c1
  have c2 := h.c2
  clear h
  obtain ⟨n, hn⟩ : ∃ n, 257 - t.size = n := ⟨_, rfl⟩
  have hz : 257 - (t.size : Int) = ((UInt8.ofNat n).toNat : Int) := by rw [byte_nat (by omega)]; omega
  obtain ⟨c, hc⟩ : ∃ c : UInt8, t[0]'(by omega) = c := ⟨_, rfl⟩
  have hpos : (0 : Int) < (t.size : Int) := by omega
  rw [hc, hn]
  have Hp : Hid (B < p) := Lib.hid H.out.2.1
  go_enter Tryz.func108, Tryz.ntmps108
  go_wp2_with fail
  refine (wbyte_is B B l (UInt8.ofNat n) w H.out.1 (by omega) hB).mono ?_
  rintro e w2 ⟨rfl, hB2, hb, hk⟩
  have H2 := Lib.hid (H.out.next hB2 hk)
  have Hb2 := Lib.hid hb
  have d1 := H2.out.c1
  have d2 := H2.out.c2
  clear hB2 hb hk
  go_wp2_with fail
  have hs2 : B ≤ w2.heap.size := Nat.le_trans hB Hb2.out.size
  go_region_with (go_at_call 37; refine (wbyte_is B B _ c _ (Bld.drew H2.out.1) (by simp; omega) hs2).mono ?_; rintro e w4 ⟨rfl, hB2, hb, hk⟩)
  all_goals
    have H4 := Lib.hid (PartAt.next (w := w2.drew) H2.out hB2 hk)
    have Hb4 := Lib.hid (Hb2.out.drew.trans hb)
    have e2 := H4.out.c2
    clear hB2 hb hk
    go_wp2_with fail
    go_ret
    refine ⟨rfl, ?_, Hb4.out⟩
    have := H4.out.1
    simpa using this
set_option maxRecDepth 100000 in
set_option maxHeartbeats 1000000 in
theorem plain1_is (B p : Nat) (l : List UInt8) (t : ByteArray) (w : World) (h : PartAt B p l t w) (h0 : 1 ≤ t.size) (h1 : t.size ≤ 128) (hl : l.length ≤ 1000000) (hB : B ≤ w.heap.size) :
    Calls Tryz.prog 109 #[.pointer (some ⟨p, 0, none⟩), .pointer (some ⟨p + 1, 0, none⟩)] w fun e w' => e = .returned (.int .i64 (t.size : Int)) ∧ Bld B B (l ++ [UInt8.ofNat (t.size - 1)] ++ t.data.toList) w' ∧ Below B w w' := by
  have H := Lib.hid h
  have c1 := h.c1
  have c2 := h.c2
  clear h
  obtain ⟨n, hn⟩ : ∃ n, t.size - 1 = n := ⟨_, rfl⟩
  have hz : (t.size : Int) - 1 = ((UInt8.ofNat n).toNat : Int) := by rw [byte_nat (by omega)]; omega
  rw [hn]
  go_enter Tryz.func109, Tryz.ntmps109
  go_wp2_with fail
  refine (wbyte_is B B l (UInt8.ofNat n) w H.out.1 (by omega) hB).mono ?_
  rintro e w2 ⟨rfl, hB2, hb, hk⟩
  have H2 := Lib.hid (H.out.next hB2 hk)
  have Hb2 := Lib.hid hb
  have d1 := H2.out.c1
  have d2 := H2.out.c2
  clear hB2 hb hk
  go_wp2_with fail
  refine (wstr_is B B _ t w2 H2.out.1 (by simp; omega) (Nat.le_trans hB Hb2.out.size)).mono ?_
  rintro e w4 ⟨rfl, hB2, hb, hk⟩
  have H4 := Lib.hid (H2.out.next hB2 hk)
  have Hb4 := Lib.hid (Hb2.out.trans hb)
  have e2 := H4.out.c2
  clear hB2 hb hk d1 d2 c1 c2
  go_wp2_with fail
  go_ret
  exact ⟨rfl, H4.out.1, Hb4.out⟩
end
end Go.Proofs.YtiiiokikmjgliaaGreatDoor
/-
  runs.Encode: runs told shortly.
-/
namespace Go.Proofs.YtiiiokikmjgliaaGreatDoor
section
open Go.RowKit
set_option maxRecDepth 100000
theorem Bld.lt {B b : Nat} {l : List UInt8} {w : World} (h : Bld B b l w) : b < w.heap.size := by
  have key : ∀ p, Lib.BuilderAtF 66 5 B b p (Lib.byteCells l) w → b < w.heap.size := by
    rintro p ⟨hB, x, hb, hown, hne⟩
    exact (Array.getElem?_eq_some_iff.1 hb).1
  exact h.elim (key _) (key _)
theorem pAlike_at (s : ByteArray) (k : Nat) (w : World) (hs : s.size ≤ 1000000) :
    Calls Tryz.prog 92 #[.string (s.extract k s.size)] w fun e w' => e = .returned (.int .i64 (headLen (s.data.toList.drop k) : Int)) ∧ ∃ q, w.drewN q = w' := by
  have := pAlike_any (s.extract k s.size) w (by rw [ByteArray.size_extract]; omega)
  rwa [Lib.extract_to_end] at this
theorem ext_size {s : ByteArray} {k n : Nat} (h : k + n ≤ s.size) : (s.extract k (k + n)).size = n := by rw [ByteArray.size_extract]; omega
theorem run_end (s : ByteArray) (k n B p : Nat) (out : List UInt8) (w : World) (h : PartAt B p out (s.extract k (k + n)) w) (hk : k + n ≤ s.size) (h3 : 3 ≤ n) (h1 : n ≤ 128) (hl : out.length ≤ 1000000) (hB : B ≤ w.heap.size) :
    Calls Tryz.prog 108 #[.pointer (some ⟨p, 0, none⟩), .pointer (some ⟨p + 1, 0, none⟩)] w fun e w' => e = .returned (.int .i64 (n : Int)) ∧ Bld B B (out ++ [UInt8.ofNat (257 - n), s[k]'(by omega)]) w' ∧ Below B w w' := by
  have hz := ext_size hk
  have h0 : (s.extract k (k + n))[0]'(by omega) = s[k]'(by omega) := by
    rw [ByteArray.getElem_extract]; rfl
  refine (run1_is B p out _ w h (by omega) (by omega) hl hB).mono ?_
  rintro e w' ⟨rfl, hb, hw⟩
  rw [h0] at hb
  simp only [hz] at hb
  exact ⟨by rw [hz], hb, hw⟩
theorem plain_end (s : ByteArray) (k n B p : Nat) (out : List UInt8) (w : World) (h : PartAt B p out (s.extract k (k + n)) w) (hk : k + n ≤ s.size) (h3 : 1 ≤ n) (h1 : n ≤ 128) (hl : out.length ≤ 1000000) (hB : B ≤ w.heap.size) :
    Calls Tryz.prog 109 #[.pointer (some ⟨p, 0, none⟩), .pointer (some ⟨p + 1, 0, none⟩)] w fun e w' => e = .returned (.int .i64 (n : Int)) ∧ Bld B B (out ++ ([UInt8.ofNat (n - 1)] ++ (s.data.toList.drop k).take n)) w' ∧ Below B w w' := by
  have hz := ext_size hk
  refine (plain1_is B p out _ w h (by omega) (by omega) hl hB).mono ?_
  rintro e w' ⟨rfl, hb, hw⟩
  rw [ext_take, List.append_assoc] at hb
  simp only [hz] at hb
  exact ⟨by rw [hz], hb, hw⟩
set_option maxRecDepth 100000 in
set_option maxHeartbeats 2000000 in
theorem pEnc_any (s : ByteArray) (w : World) (hs : s.size ≤ 100000) :
    Calls Tryz.prog 71 #[.string s] w fun e w' => e = .returned (.string ⟨(encAll s.data.toList).toArray⟩) ∧ Below w.heap.size w w' := by
  go_enter Tryz.func71, Tryz.ntmps71
  go_wp2_with fail
  go_step3
  go_wp2_with fail
  go_step3
  go_wp2_with fail
  go_loopg [5] s.size (fun g s5 wx => ∃ (k : Nat) (out : List UInt8), k + g = s.size ∧ s5 = .int .i64 k ∧ Aside (Bld w.heap.size w.heap.size out wx) ∧ out.length ≤ 2 * k ∧ Aside (encAll s.data.toList = out ++ encAll (s.data.toList.drop k)) ∧ Below w.heap.size w wx)
  case atStart => exact ⟨0, [], by omega, rfl, Bld.fresh w, by simp, rfl, (Below.refl _ w).alloc (Nat.le_refl _) _⟩
  case round =>
    obtain ⟨k, out, hkg, rfl, HO, hol, HE, hb⟩ := hrel
    have Hb := Lib.hid hb
    clear hb
    cases gk with
    | zero =>
      obtain rfl : k = s.size := by omega
      have Hr : Hid (encAll s.data.toList = out ++ [128]) := Lib.hid (by rw [HE.out, List.drop_of_length_le (by rw [← size_data]; exact Nat.le_refl _)]; rfl)
      clear hkg
      go_wp2_with fail
      refine (wbyte_is w.heap.size w.heap.size out 128 _ HO.out (by omega) Hb.out.size).mono ?_
      rintro e w2 ⟨rfl, hB2, hb2, -⟩
      have HB2 := Lib.hid hB2
      have Hb2 := Lib.hid (Hb.out.trans hb2)
      clear hB2 hb2
      go_wp2_with fail
      refine (string_is w.heap.size w.heap.size _ _ HB2.out Hb2.out.size).mono ?_
      rintro e w3 ⟨rfl, -, hb3, -⟩
      have Hb3 := Lib.hid (Hb2.out.trans hb3)
      clear hb3
      go_wp2_with fail
      rw [Exit.noGoto_ret]
      go_ret
      exact ⟨by rw [Hr.out]; rfl, Hb3.out⟩
    | succ g =>
      have hk : k < s.size := by omega
      have hkz : (k : Int) < (s.size : Int) := by omega
      have hkz' : (k : Int) ≤ (s.size : Int) := by omega
      have Hal := Lib.hid (fun W => pAlike_at s k W (by omega))
      obtain ⟨n, hn⟩ : ∃ n, headLen (s.data.toList.drop k) = n := ⟨_, rfl⟩
      have hle := headLen_le (s.data.toList.drop k)
      have hlen : (s.data.toList.drop k).length = s.size - k := by rw [List.length_drop, ← size_data]
      have hal := headLen_alike (s.data.toList.drop k)
      rw [hn] at Hal hle hal
      by_cases hn3 : 3 ≤ n
      · have ha := hal.1 hn3
        have hrl : runLen s[k] 128 (s.data.toList.drop k) = n := by rw [← hn, drop_at hk]; rfl
        have Hnext := Lib.hid (enc_run_at hk ha hrl)
        have hkn : k + n ≤ s.size := by omega
        have hn128 : n ≤ 128 := hle.1
        have q2 : ((k : Int) + (n : Int)).toNat = k + n := by omega
        have hn3z : (3 : Int) ≤ (n : Int) := by omega
        have hknz : (k : Int) + (n : Int) ≤ (s.size : Int) := by omega
        clear ha hrl hal hle hlen hn
        go_wp2_with fail
        refine (Hal.out _).mono ?_
        rintro e w1 ⟨rfl, q1, rfl⟩
        go_wp2_with fail
        refine (run_is _ _ _).mono ?_
        rintro e w1 ⟨rfl, rfl⟩
        go_wp2_with fail
        refine (run_end s k n w.heap.size _ out _ (PartAt.made (w := wr.drewN q1) HO.out HO.out.lt _) hkn hn3 hn128 (by omega) (by have := Hb.out.size; simp; omega)).mono ?_
        rintro e w2 ⟨rfl, hB2, hb2⟩
        have HB2 := Lib.hid hB2
        have Hb2 := Lib.hid ((((below_drewN Hb.out q1).alloc Hb.out.size _).alloc (by have := Hb.out.size; simp; omega) _).trans hb2)
        clear hB2 hb2
        go_wp2_with fail
        go_roundg (g + 1 - n)
        case measure => omega
        case rel => exact ⟨k + n, _, by omega, by go_num, HB2.out, by simp; omega, by show _ = _; rw [HE.out, Hnext.out, List.append_assoc], Hb2.out⟩
      · have ha : alikeB (s.data.toList.drop k) = false := by
          cases h : alikeB (s.data.toList.drop k)
          · rfl
          · exact absurd (hal.2 h) hn3
        have Ha := Lib.hid ha
        have hn3z : ¬ (3 : Int) ≤ (n : Int) := by omega
        obtain ⟨R, hR1, hR2, hR3, hR4⟩ : ∃ R, R ≤ 128 ∧ k + R ≤ s.size ∧ 1 ≤ R ∧ (k + R = s.size ∨ R = 128) := by
          by_cases h : s.size - k < 128
          · exact ⟨s.size - k, by omega, by omega, by omega, .inl (by omega)⟩
          · exact ⟨128, by omega, by omega, by omega, .inr rfl⟩
        have hmin : min (128 : Int) ((s.size : Int) - (k : Int)) = (R : Int) := by omega
        have hstart : rawLen 128 (s.data.toList.drop k) = 1 + rawLen (128 - 1) (s.data.toList.drop (k + 1)) := by
          have := rawLen_more (s := s) (j := k) (m := 0) hk (by omega) ha
          simpa [Nat.add_comm] using this
        have Hstart := Lib.hid hstart
        clear ha hal hle hlen hn hstart
        go_wp2_with fail
        refine (Hal.out _).mono ?_
        rintro e w1 ⟨rfl, q1, rfl⟩
        go_wp2_with fail
        go_loopg [8] (R - 1) (fun g5 s8 wx => ∃ (m q : Nat), m + g5 = R ∧ s8 = .int .i64 m ∧ 1 ≤ m ∧ Aside (rawLen 128 (s.data.toList.drop k) = m + rawLen (128 - m) (s.data.toList.drop (k + m))) ∧ wr.drewN q = wx)
        case atStart => exact ⟨1, q1, by omega, rfl, Nat.le_refl _, Hstart.out, rfl⟩
        case round =>
          obtain ⟨m, q, hmg, rfl, hm1, HM, rfl⟩ := hrel
          have q2 : ((k : Int) + (m : Int)).toNat = k + m := by omega
          have hkmz : (k : Int) + (m : Int) ≤ (s.size : Int) := by omega
          have hm128 : m ≤ 128 := by omega
          have hkm : k + m ≤ s.size := by omega
          cases gk with
          | zero =>
            obtain rfl : m = R := by omega
            have hstop := rawLen_stop (s := s) (j := k + m) (m := m) (by rcases hR4 with h | h; exact .inl (by omega); exact .inr (.inr (by omega)))
            have Hnext := Lib.hid (enc_raw_at hk Ha.out (show rawLen 128 (s.data.toList.drop k) = m by rw [HM.out, hstop]; omega))
            clear hstop
            go_wp2_with fail
            refine (plain_is _ _ _).mono ?_
            rintro e w1 ⟨rfl, rfl⟩
            go_wp2_with fail
            refine (plain_end s k m w.heap.size _ out _ (PartAt.made (w := wr.drewN q) HO.out HO.out.lt _) hkm hm1 hm128 (by omega) (by have := Hb.out.size; simp; omega)).mono ?_
            rintro e w2 ⟨rfl, hB2, hb2⟩
            have HB2 := Lib.hid hB2
            have Hb2 := Lib.hid ((((below_drewN Hb.out q).alloc Hb.out.size _).alloc (by have := Hb.out.size; simp; omega) _).trans hb2)
            clear hB2 hb2
            go_wp2_with fail
            go_roundg (g + 1 - m)
            case measure => omega
            case rel => exact ⟨k + m, _, by omega, by go_num, HB2.out, by simp; omega, by show _ = _; rw [HE.out, Hnext.out, ← List.append_assoc], Hb2.out⟩
          | succ g5 =>
            have hj : k + m < s.size := by omega
            have hmz : (m : Int) < (R : Int) := by omega
            have Hal2 := Lib.hid (fun W => pAlike_at s (k + m) W (by omega))
            obtain ⟨n2, hn2⟩ : ∃ n2, headLen (s.data.toList.drop (k + m)) = n2 := ⟨_, rfl⟩
            have hal2 := headLen_alike (s.data.toList.drop (k + m))
            rw [hn2] at Hal2 hal2
            by_cases h2 : 3 ≤ n2
            · have h2z : (3 : Int) ≤ (n2 : Int) := by omega
              have hstop := rawLen_stop (s := s) (j := k + m) (m := m) (.inr (.inl (hal2.1 h2)))
              have Hnext := Lib.hid (enc_raw_at hk Ha.out (show rawLen 128 (s.data.toList.drop k) = m by rw [HM.out, hstop]; omega))
              clear hstop hal2 hn2
              go_wp2_with fail
              refine (Hal2.out _).mono ?_
              rintro e w1 ⟨rfl, q5, rfl⟩
              go_wp2_with fail
              refine (plain_is _ _ _).mono ?_
              rintro e w1 ⟨rfl, rfl⟩
              go_wp2_with fail
              refine (plain_end s k m w.heap.size _ out _ (PartAt.made (w := wr.drewN (q + q5)) HO.out HO.out.lt _) hkm hm1 hm128 (by omega) (by have := Hb.out.size; simp; omega)).mono ?_
              rintro e w2 ⟨rfl, hB2, hb2⟩
              have HB2 := Lib.hid hB2
              have Hb2 := Lib.hid ((((below_drewN Hb.out (q + q5)).alloc Hb.out.size _).alloc (by have := Hb.out.size; simp; omega) _).trans hb2)
              clear hB2 hb2
              go_wp2_with fail
              go_roundg (g + 1 - m)
              case measure => omega
              case rel => exact ⟨k + m, _, by omega, by go_num, HB2.out, by simp; omega, by show _ = _; rw [HE.out, Hnext.out, ← List.append_assoc], Hb2.out⟩
            · have h2z : ¬ (3 : Int) ≤ (n2 : Int) := by omega
              have h2a : alikeB (s.data.toList.drop (k + m)) = false := by
                cases h : alikeB (s.data.toList.drop (k + m))
                · rfl
                · exact absurd (hal2.2 h) h2
              have Hm := Lib.hid (rawLen_more (m := m) hj (by omega) h2a)
              clear h2a hal2 hn2
              go_wp2_with fail
              refine (Hal2.out _).mono ?_
              rintro e w1 ⟨rfl, q5, rfl⟩
              go_wp2_with fail
              go_roundg g5
              case measure => omega
              case rel => exact ⟨m + 1, _, by omega, by go_num, by omega, by show _ = _; rw [HM.out, Hm.out, show k + (m + 1) = k + m + 1 from by omega]; omega, rfl⟩
end
end Go.Proofs.YtiiiokikmjgliaaGreatDoor
/-
  runs.Decode: the bytes of runs.
-/
namespace Go.Proofs.YtiiiokikmjgliaaGreatDoor
section
open Go.RowKit
set_option maxRecDepth 100000
theorem rep_is (s : ByteArray) (c : Nat) (w : World) (hc : c ≤ 1000) (hs : s.size ≤ 1000000) :
    Calls Tryz.prog 36 #[.string s, .int .i64 (c : Int)] w fun e w' => e = .returned (.string (bytes (Lib.repeatL s.data.toList c))) ∧ Below w.heap.size w w' :=
  Any.strings_Repeat Tryz.lays105 Tryz.Builder_Extra_105 s c w (by omega) (by
    have : s.size * c ≤ 1000000 * 1000 := Nat.mul_le_mul hs hc
    omega)
theorem rep_one (s : ByteArray) (w : World) (hs : s.size ≤ 1000000) :
    Calls Tryz.prog 36 #[.string s, .int .i64 1] w fun e w' => e = .returned (.string s) ∧ Below w.heap.size w w' := by
  have := rep_is s 1 w (by decide) hs
  rw [Lib.repeatL_one, bytes_of] at this
  exact this
theorem rep_byte (s : ByteArray) (k c : Nat) (w : World) (hk : k < s.size) (hc : c ≤ 1000) :
    Calls Tryz.prog 36 #[.string (s.extract k (k + 1)), .int .i64 (c : Int)] w fun e w' => e = .returned (.string (bytes (List.replicate c s[k]))) ∧ Below w.heap.size w w' := by
  have := rep_is (s.extract k (k + 1)) c w hc (by rw [ext_size (by omega)]; decide)
  rw [ext_take, drop_at hk] at this
  have e : Lib.repeatL (List.take 1 (s[k] :: List.drop (k + 1) s.data.toList)) c = List.replicate c s[k] := by
    have := Lib.repeatL_replicate s[k] 1 c
    simpa using this
  rwa [e] at this
set_option maxRecDepth 100000 in
set_option maxHeartbeats 2000000 in
theorem pDec_any (s : ByteArray) (most : Int) (w : World) (hs : s.size ≤ 100000) (hm0 : -9223372036854775808 ≤ most) (hm1 : most ≤ 9223372036854775807) {a : List UInt8} {b : Int} (h : decAll s.data.toList most = (a, b)) :
    Calls Tryz.prog 72 #[.string s, .int .i64 most] w fun e w' => e = .returned (.tuple #[.string (bytes a), .int .i64 b]) ∧ Below w.heap.size w w' := by
  by_cases hm : most < 0
  · have Hr : Hid ((a, b) = ([], 2)) := Lib.hid (by rw [← h]; unfold decAll; rw [if_pos hm])
    clear h
    go_enter Tryz.func72, Tryz.ntmps72
    go_wp2_with fail
    go_ret2
    obtain ⟨rfl, rfl⟩ := Prod.mk.inj Hr.out
    exact ⟨rfl, Below.refl _ _⟩
  · have H : Hid ((a, b) = decR most (s.size + 1) [] s.data.toList) := Lib.hid (by rw [← h]; unfold decAll; rw [if_neg hm, ← size_data])
    clear h
    go_enter Tryz.func72, Tryz.ntmps72
    go_wp2_with fail
    go_loopg [7] s.size (fun g s7 wx => ∃ (k : Nat) (out : List UInt8) (f : Nat), k + g = s.size ∧ s7 = .int .i64 k ∧ Aside (Bld w.heap.size w.heap.size out wx) ∧ (out.length : Int) ≤ most ∧ out.length ≤ 128 * k ∧ Aside (s.size < k + f ∧ (a, b) = decR most f out (s.data.toList.drop k)) ∧ Below w.heap.size w wx)
    case atStart => exact ⟨0, [], s.size + 1, by omega, rfl, Bld.fresh w, by simp; omega, by simp, ⟨by omega, H.out⟩, (Below.refl _ w).alloc (Nat.le_refl _) _⟩
    case round =>
      obtain ⟨k, out, f, hkg, rfl, HO, hom, hol, HD, hb⟩ := hrel
      have Hb := Lib.hid hb
      clear hb
      cases gk with
      | zero =>
        obtain rfl : k = s.size := by omega
        have Hr : Hid ((a, b) = ([], 5)) := Lib.hid (by rw [HD.out.2, List.drop_of_length_le (by rw [← size_data]; exact Nat.le_refl _)]; exact decR_nil)
        clear hkg
        go_wp2_with fail
        go_ret2
        obtain ⟨rfl, rfl⟩ := Prod.mk.inj Hr.out
        exact ⟨rfl, Hb.out⟩
      | succ g =>
        have hk : k < s.size := by omega
        have hkz : (k : Int) < (s.size : Int) := by omega
        obtain ⟨f, rfl⟩ : ∃ g, f = g + 1 := ⟨f - 1, by have := HD.out.1; omega⟩
        have hdat := HD.out.2
        rw [drop_at hk] at hdat
        obtain ⟨c, hc⟩ : ∃ c : UInt8, s[k] = c := ⟨_, rfl⟩
        rw [hc] at hdat
        have hc256 := c.toNat_lt
        have Hf : Hid (s.size < k + (f + 1)) := Lib.hid HD.out.1
        have hdl : (s.data.toList.drop (k + 1)).length = s.size - (k + 1) := by rw [List.length_drop, ← size_data]
        clear HD
        by_cases h128 : c.toNat = 128
        · have h128' : ((c.toNat : Int) == 128) = true := beq_iff_eq.2 (by omega)
          rw [decR_end h128] at hdat
          by_cases h1 : k + 1 < s.size
          · have h1z : (k : Int) + 1 < (s.size : Int) := by omega
            rw [if_neg (by intro e; rw [e] at hdl; simp at hdl; omega)] at hdat
            have Hr := Lib.hid hdat
            clear hdat hdl h128
            go_wp2_with fail
            go_ret2
            obtain ⟨rfl, rfl⟩ := Prod.mk.inj Hr.out
            exact ⟨rfl, Hb.out⟩
          · have h1z : ¬ (k : Int) + 1 < (s.size : Int) := by omega
            rw [if_pos (List.eq_nil_of_length_eq_zero (by omega))] at hdat
            have Hr := Lib.hid hdat
            clear hdat hdl h128
            go_wp2_with fail
            refine (string_is w.heap.size w.heap.size out _ HO.out Hb.out.size).mono ?_
            rintro e w3 ⟨rfl, -, hb3, -⟩
            have Hb3 := Lib.hid (Hb.out.trans hb3)
            clear hb3
            go_wp2_with fail
            go_ret2
            obtain ⟨rfl, rfl⟩ := Prod.mk.inj Hr.out
            exact ⟨rfl, Hb3.out⟩
        · have h128' : ((c.toNat : Int) == 128) = false := beq_eq_false_iff_ne.2 (by omega)
          have Ho := Lib.hid hom
          by_cases hlt : c.toNat < 128
          · have hltz : (c.toNat : Int) < 128 := by omega
            obtain ⟨L, hL⟩ : ∃ L, c.toNat + 1 = L := ⟨_, rfl⟩
            have hLz : (c.toNat : Int) + 1 = (L : Int) := by omega
            by_cases hsh : s.size - (k + 1) < L
            · rw [decR_raw_short hlt (by rw [hdl]; omega)] at hdat
              have Hr := Lib.hid hdat
              have hshz : (s.size : Int) - ((k : Int) + 1) < (L : Int) := by omega
              clear hdat h128 hdl
              go_wp2_with fail
              go_ret2
              obtain ⟨rfl, rfl⟩ := Prod.mk.inj Hr.out
              exact ⟨rfl, Hb.out⟩
            · have hshz : ¬ (s.size : Int) - ((k : Int) + 1) < (L : Int) := by omega
              have hlen2 : (out ++ (s.data.toList.drop (k + 1)).take L).length = out.length + L := by rw [List.length_append, List.length_take, hdl]; omega
              by_cases hbig : most < ((out.length + L : Nat) : Int)
              · rw [decR_raw_big hlt (by rw [hdl]; omega) (by rw [hL, hlen2]; exact hbig)] at hdat
                have Hr := Lib.hid hdat
                have hbigz : most - (out.length : Int) < (L : Int) := by omega
                clear hdat h128 hdl hlen2 hbig
                go_wp2_with fail
                refine (len_is w.heap.size w.heap.size out _ HO.out).mono ?_
                rintro e w1 ⟨rfl, rfl⟩
                go_wp2_with fail
                go_ret2
                obtain ⟨rfl, rfl⟩ := Prod.mk.inj Hr.out
                exact ⟨rfl, Hb.out⟩
              · rw [decR_raw hlt (by rw [hdl]; omega) (by rw [hL, hlen2]; exact hbig), hL, List.drop_drop] at hdat
                have Hr := Lib.hid hdat
                have hbigz : ¬ most - (out.length : Int) < (L : Int) := by omega
                have q2 : ((k : Int) + 1 + (L : Int)).toNat = k + 1 + L := by omega
                have q3 : (k : Int) + 1 ≤ (k : Int) + 1 + (L : Int) := by omega
                have q4 : (k : Int) + 1 + (L : Int) ≤ (s.size : Int) := by omega
                clear hdat h128 hdl hlen2 hbig
                go_wp2_with fail
                refine (len_is w.heap.size w.heap.size out _ HO.out).mono ?_
                rintro e w1 ⟨rfl, rfl⟩
                go_wp2_with fail
                refine (rep_one _ _ (by rw [ByteArray.size_extract]; omega)).mono ?_
                rintro e w1 ⟨rfl, hb1⟩
                have HO1 := Lib.hid (HO.out.later hb1)
                have Hb1 := Lib.hid (Hb.out.trans (hb1.mono Hb.out.size))
                clear hb1
                go_wp2_with fail
                refine (wstr_is w.heap.size w.heap.size out _ w1 HO1.out (by rw [ByteArray.size_extract]; omega) Hb1.out.size).mono ?_
                rintro e w2 ⟨rfl, hB2, hb2, -⟩
                rw [ext_take] at hB2
                have HB2 := Lib.hid hB2
                have Hb2 := Lib.hid (Hb1.out.trans hb2)
                clear hB2 hb2
                go_wp2_with fail
                go_roundg (g - L)
                case measure => omega
                case rel =>
                  have hf := Hf.out
                  have ho := Ho.out
                  have htl : ((s.data.toList.drop (k + 1)).take L).length = L := by rw [List.length_take, List.length_drop, ← size_data]; omega
                  exact ⟨k + 1 + L, _, f, by omega, by go_num, HB2.out, by rw [List.length_append, htl]; omega, by rw [List.length_append, htl]; omega, ⟨by omega, Hr.out⟩, Hb2.out⟩
          · have hgt : 128 < c.toNat := by omega
            have hltz : ¬ (c.toNat : Int) < 128 := by omega
            obtain ⟨K, hK⟩ : ∃ K, 257 - c.toNat = K := ⟨_, rfl⟩
            have hKz : 257 - (c.toNat : Int) = (K : Int) := by omega
            by_cases hsh : s.size ≤ k + 1
            · rw [List.eq_nil_of_length_eq_zero (show (s.data.toList.drop (k + 1)).length = 0 by omega), decR_run_short hgt] at hdat
              have Hr := Lib.hid hdat
              have hshz : (s.size : Int) - ((k : Int) + 1) < 1 := by omega
              clear hdat h128 hdl
              go_wp2_with fail
              go_ret2
              obtain ⟨rfl, rfl⟩ := Prod.mk.inj Hr.out
              exact ⟨rfl, Hb.out⟩
            · have hk1 : k + 1 < s.size := by omega
              have hshz : ¬ (s.size : Int) - ((k : Int) + 1) < 1 := by omega
              rw [drop_at hk1] at hdat
              have hlen2 : (out ++ List.replicate K s[k + 1]).length = out.length + K := by rw [List.length_append, List.length_replicate]
              by_cases hbig : most < ((out.length + K : Nat) : Int)
              · rw [decR_run_big hgt (by rw [hK, hlen2]; exact hbig)] at hdat
                have Hr := Lib.hid hdat
                have hbigz : most - (out.length : Int) < (K : Int) := by omega
                clear hdat h128 hdl hlen2 hbig
                go_wp2_with fail
                refine (len_is w.heap.size w.heap.size out _ HO.out).mono ?_
                rintro e w1 ⟨rfl, rfl⟩
                go_wp2_with fail
                go_ret2
                obtain ⟨rfl, rfl⟩ := Prod.mk.inj Hr.out
                exact ⟨rfl, Hb.out⟩
              · rw [decR_run hgt (by rw [hK, hlen2]; exact hbig), hK] at hdat
                have Hr := Lib.hid hdat
                have hbigz : ¬ most - (out.length : Int) < (K : Int) := by omega
                have q2 : ((k : Int) + 1 + 1).toNat = k + 1 + 1 := by omega
                have q4 : (k : Int) + 1 + 1 ≤ (s.size : Int) := by omega
                have hK128 : K ≤ 1000 := by omega
                have hKg : K ≤ 128 := by omega
                have Hrep := Lib.hid (fun W => rep_byte s (k + 1) K W hk1 hK128)
                clear hdat h128 hdl hlen2 hbig
                go_wp2_with fail
                refine (len_is w.heap.size w.heap.size out _ HO.out).mono ?_
                rintro e w1 ⟨rfl, rfl⟩
                go_wp2_with fail
                refine (Hrep.out _).mono ?_
                rintro e w1 ⟨rfl, hb1⟩
                have HO1 := Lib.hid (HO.out.later hb1)
                have Hb1 := Lib.hid (Hb.out.trans (hb1.mono Hb.out.size))
                clear hb1
                go_wp2_with fail
                refine (wstr_is w.heap.size w.heap.size out _ w1 HO1.out (by rw [bytes_size, List.length_replicate]; omega) Hb1.out.size).mono ?_
                rintro e w2 ⟨rfl, hB2, hb2, -⟩
                rw [bytes_data] at hB2
                have HB2 := Lib.hid hB2
                have Hb2 := Lib.hid (Hb1.out.trans hb2)
                clear hB2 hb2
                go_wp2_with fail
                go_roundg (g - 1)
                case measure => omega
                case rel =>
                  have hf := Hf.out
                  have ho := Ho.out
                  exact ⟨k + 1 + 1, _, f, by omega, by go_num, HB2.out, by rw [List.length_append, List.length_replicate]; omega, by rw [List.length_append, List.length_replicate]; omega, ⟨by omega, Hr.out⟩, Hb2.out⟩
end
end Go.Proofs.YtiiiokikmjgliaaGreatDoor
/-
  The contracts of package runs, in the form that the laws' walks ask for.
-/
namespace Go.Proofs.YtiiiokikmjgliaaGreatDoor
section
open Go.RowKit
set_option maxRecDepth 100000
theorem runEnc_is (s u : ByteArray) (w : World) (hs : s.size ≤ 100000) (h : encAll s.data.toList = u.data.toList) :
    Calls Tryz.prog 71 #[.string s] w fun e w' => e = .returned (.string u) ∧ Below w.heap.size w w' := by
  have := pEnc_any s w hs
  rw [h] at this
  simpa using this
theorem runDec_is (s u : ByteArray) (most b : Int) (w : World) (hs : s.size ≤ 100000) (h0 : -9223372036854775808 ≤ most) (h1 : most ≤ 9223372036854775807) (h : decAll s.data.toList most = (u.data.toList, b)) :
    Calls Tryz.prog 72 #[.string s, .int .i64 most] w fun e w' => e = .returned (.tuple #[.string u, .int .i64 b]) ∧ Below w.heap.size w w' := by
  have := pDec_any s most w hs h0 h1 h
  rwa [bytes_of] at this
end
end Go.Proofs.YtiiiokikmjgliaaGreatDoor
