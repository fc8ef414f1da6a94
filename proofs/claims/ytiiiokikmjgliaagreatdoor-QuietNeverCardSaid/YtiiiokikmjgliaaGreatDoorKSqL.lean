/-
  SqEx, SqLaw1, SqLaw2, SqRefS, SqRefP, SqRefQ: texts merged.
-/
import Derived.Test.YtiiiokikmjgliaaGreatDoorKSqF
import Derived.Test.YtiiiokikmjgliaaGreatDoorKPlain
import Derived.Test.YtiiiokikmjgliaaGreatDoorSqSearch
import Derived.Test.YtiiiokikmjgliaaGreatDoorKRefI
import Derived.Test.YtiiiokikmjgliaaGreatDoorKHeld
import Derived.Test.YtiiiokikmjgliaaGreatDoorKCodeR
import Derived.Deep.QuietTactic
import Derived.BigQuiet
import Derived.Deep.LoopGhost
import Derived.Test.YtiiiokikmjgliaaGreatDoorKWin
/-
  The contracts of package squeeze's Best; what must come at any rate.
-/
namespace Go.Proofs.YtiiiokikmjgliaaGreatDoor
section
open Go.RowKit
set_option maxRecDepth 100000
set_option maxHeartbeats 1000000 in
theorem best_is (s : ByteArray) (w : World) (hs : s.size ≤ 70000) (hL : LaidQ w) {u : ByteArray} (hu : bestZ s.data.toList = u.data.toList) :
    Calls Tryz.prog 97 #[.string s] w fun en w' => en = .returned (.string u) ∧ Below w.heap.size w w' := by
  have HF := Lib.hid (fixed_is s w hs hL (u := bytes (fixedZ s.data.toList)) (by rw [bytes_data]))
  have HS := Lib.hid (fun W => qstored_is s W (by omega) (u := bytes (storedZ s.data.toList)) (by rw [bytes_data]))
  have h1 : (bytes (fixedZ s.data.toList)).size = (fixedZ s.data.toList).length := bytes_size _
  have h2 : (bytes (storedZ s.data.toList)).size = (storedZ s.data.toList).length := bytes_size _
  unfold bestZ at hu
  by_cases hlt : (fixedZ s.data.toList).length < (storedZ s.data.toList).length
  · rw [if_pos hlt] at hu
    have hub : bytes (fixedZ s.data.toList) = u := (bytes_eq hu.symm).symm
    rw [← h1, ← h2] at hlt
    rw [hub] at HF hlt
    obtain ⟨v, hv⟩ : ∃ v, bytes (storedZ s.data.toList) = v := ⟨_, rfl⟩
    rw [hv] at HS hlt
    have hz : (u.size : Int) < (v.size : Int) := by omega
    clear h1 h2 hu hub hv hlt hL
    go_enter Tryz.func97, Tryz.ntmps97
    go_wp2_with fail
    refine HF.out.mono ?_
    rintro e w1 ⟨rfl, hb⟩
    have HB1 := Lib.hid hb
    clear hb
    go_wp2_with fail
    refine (HS.out _).mono ?_
    rintro e w2 ⟨rfl, hb⟩
    have HB2 := Lib.hid (HB1.out.trans (hb.mono HB1.out.size))
    clear hb
    go_wp2_with fail
    go_ret
    exact ⟨rfl, HB2.out⟩
  · rw [if_neg hlt] at hu
    have hub : bytes (storedZ s.data.toList) = u := (bytes_eq hu.symm).symm
    rw [← h1, ← h2] at hlt
    rw [hub] at HS hlt
    obtain ⟨v, hv⟩ : ∃ v, bytes (fixedZ s.data.toList) = v := ⟨_, rfl⟩
    rw [hv] at HF hlt
    have hz : ¬ (v.size : Int) < (u.size : Int) := by omega
    clear h1 h2 hu hub hv hlt hL
    go_enter Tryz.func97, Tryz.ntmps97
    go_wp2_with fail
    refine HF.out.mono ?_
    rintro e w1 ⟨rfl, hb⟩
    have HB1 := Lib.hid hb
    clear hb
    go_wp2_with fail
    refine (HS.out _).mono ?_
    rintro e w2 ⟨rfl, hb⟩
    have HB2 := Lib.hid (HB1.out.trans (hb.mono HB1.out.size))
    clear hb
    go_wp2_with fail
    go_ret
    exact ⟨rfl, HB2.out⟩
end
end Go.Proofs.YtiiiokikmjgliaaGreatDoor
/-
  The walk of the law that the shorter way is short.
-/
namespace Go.Proofs.YtiiiokikmjgliaaGreatDoor
section
open Go.RowKit
set_option maxRecDepth 100000
end
end Go.Proofs.YtiiiokikmjgliaaGreatDoor
/-
  The walk of the law on bytes that are stored.
-/
namespace Go.Proofs.YtiiiokikmjgliaaGreatDoor
section
open Go.RowKit
set_option maxRecDepth 100000
end
end Go.Proofs.YtiiiokikmjgliaaGreatDoor
/-
  The contract of the document's Stored.
-/
namespace Go.Proofs.YtiiiokikmjgliaaGreatDoor
section
open Go.RowKit
set_option maxRecDepth 100000
theorem block_full {l : List UInt8} (h : l.length = 65535) : blockZ 0 l = [0, 255, 255, 0, 0] ++ l := by
  unfold blockZ
  rw [h]; rfl
theorem block_parts {l : List UInt8} {q r : Nat} (h : l.length ≤ 65535) (hq : l.length / 256 = q) (hr : l.length % 256 = r) : blockZ 1 l = [1, UInt8.ofNat r, UInt8.ofNat q, UInt8.ofNat (255 - r), UInt8.ofNat (255 - q)] ++ l := by
  unfold blockZ
  rw [hq, hr, show (65535 - l.length) % 256 = 255 - r by omega, show (65535 - l.length) / 256 = 255 - q by omega]
  rfl
set_option maxHeartbeats 1000000 in
theorem rStored_is (s : ByteArray) (w : World) (hs : s.size ≤ 900000) {u : ByteArray} (hu : storedZ s.data.toList = u.data.toList) :
    Calls Tryz.prog 62 #[.string s] w fun en w' => en = .returned (.string u) ∧ Below w.heap.size w w' := by
  have HU := Lib.hid hu
  have hl := storedZ_length s.data.toList
  rw [← size_data] at hl
  have HLn : Hid ((storedZ s.data.toList).length ≤ 1000000) := Lib.hid (by omega)
  clear hu hl
  go_enter Tryz.func62, Tryz.ntmps62
  go_wp2_with fail
  go_loopg [0, 3, 4, 5, 6] s.size (fun gg s0 s3 s4 s5 s6 wx => ∃ (t : ByteArray) (l : List UInt8), s0 = .string t ∧ t.size ≤ 65535 + gg ∧ t.size ≤ 900000 ∧ l.length ≤ 1000000 ∧ Aside (Own8 wx w.heap.size s3 l) ∧ Aside (l ++ storedN gg t.data.toList = storedZ s.data.toList) ∧ Below w.heap.size w wx)
  case atStart => exact ⟨s, [], rfl, by omega, hs, by simp, Own8.made w 0 #[] (Nat.le_refl _) (by decide) rfl, by show _ = _; unfold storedZ; rw [← size_data]; rfl, (Below.refl _ w).alloc (Nat.le_refl _) _⟩
  case round =>
    obtain ⟨t, l, rfl, htg, hts, hll, HO, HQ, hb⟩ := hrel
    have Hb := Lib.hid hb
    clear hb
    by_cases hbig : 65535 < t.size
    · have hmin : min (t.size : Int) 65535 = 65535 := by omega
      have hne : ((65535 : Int) == (t.size : Int)) = false := by rw [beq_eq_false_iff_ne]; omega
      have hle : (65535 : Int) ≤ (t.size : Int) := by omega
      obtain ⟨gg, rfl⟩ : ∃ gg, gk = gg + 1 := ⟨gk - 1, by omega⟩
      have e1 : (t.extract 0 65535).data.toList = t.data.toList.take 65535 := by simp
      have e2 : (t.extract 65535 t.size).data.toList = t.data.toList.drop 65535 := text_rest t (by omega)
      have e3 : (t.extract 0 65535).size = 65535 := by rw [size_data, e1, List.length_take, ← size_data]; omega
      have e4 : (t.extract 65535 t.size).size = t.size - 65535 := by rw [size_data, e2, List.length_drop, ← size_data]
      have hQ : (l ++ [0, 255, 255, 0, 0] ++ (t.extract 0 65535).data.toList) ++ storedN gg (t.extract 65535 t.size).data.toList = storedZ s.data.toList := by
        have h := HQ.out
        rw [storedN_succ, if_pos (by rw [← size_data]; exact hbig), block_full (by rw [List.length_take, ← size_data]; omega)] at h
        rw [e1, e2]
        simpa only [List.append_assoc] using h
      have HQ2 := Lib.hid hQ
      have hl2 : (l ++ [0, 255, 255, 0, 0] ++ (t.extract 0 65535).data.toList).length ≤ 1000000 := by
        have h := congrArg List.length hQ
        rw [List.length_append] at h
        have := HLn.out
        omega
      have Hnews := Lib.hid (fun W => cells_new5 W 0 255 255 0 0)
      have He3 := Lib.hid e3
      clear hQ e1 e2 e3
      go_wp2_with (at_builtin; first | (refine wpList_append8 rfl (.tmp 17) (.tmp 31) rfl w.heap.size _ l rfl (HO.out.alloc _) ⟨wr.heap.size, 0, none⟩ 5 [0, 255, 255, 0, 0] rfl (Hnews.out _) (by simp) (by simp; omega) w (Hb.out.alloc Hb.out.size _) (by have := Hb.out.size; simp; omega) ?_; intro v1 w1 Ho1 Hb1 _) | (refine wpList_append8s rfl (.tmp 33) (.tmp 36) rfl w.heap.size _ _ rfl Ho1.out (t.extract 0 65535) rfl (by have := He3.out; simp only [List.length_append]; simp; omega) w Hb1.out Hb1.out.size ?_; intro v2 w2 Ho2 Hb2 _))
      go_roundg gg
      case measure => omega
      case rel => exact ⟨t.extract 65535 t.size, _, rfl, by omega, by omega, hl2, Ho2.out, HQ2.out, Hb2.out⟩
    · have hmin : min (t.size : Int) 65535 = (t.size : Int) := by omega
      obtain ⟨q, hq⟩ : ∃ q, t.size / 256 = q := ⟨_, rfl⟩
      obtain ⟨r, hr⟩ : ∃ r, t.size % 256 = r := ⟨_, rfl⟩
      obtain ⟨m, hm⟩ : ∃ m, 65535 - t.size = m := ⟨_, rfl⟩
      obtain ⟨q2, hq2⟩ : ∃ q2, 255 - q = q2 := ⟨_, rfl⟩
      obtain ⟨r2, hr2⟩ : ∃ r2, 255 - r = r2 := ⟨_, rfl⟩
      have z0 : (65535 : Int) - (t.size : Int) = (m : Int) := by omega
      have z1 : (t.size : Int) % 256 = (r : Int) := by omega
      have z2 : (t.size : Int) / 256 = (q : Int) := by omega
      have z3 : (m : Int) % 256 = (r2 : Int) := by omega
      have z4 : (m : Int) / 256 = (q2 : Int) := by omega
      have y1 : (r : Int) % 256 = (r : Int) := by omega
      have y2 : (q : Int) % 256 = (q : Int) := by omega
      have y3 : (r2 : Int) % 256 = (r2 : Int) := by omega
      have y4 : (q2 : Int) % 256 = (q2 : Int) := by omega
      have hQ : l ++ [1, UInt8.ofNat r, UInt8.ofNat q, UInt8.ofNat r2, UInt8.ofNat q2] ++ t.data.toList = u.data.toList := by
        have h := HQ.out
        rw [storedN_last (by rw [← size_data]; omega), block_parts (q := q) (r := r) (by rw [← size_data]; omega) (by rw [← size_data]; exact hq) (by rw [← size_data]; exact hr), hr2, hq2] at h
        rw [← HU.out, ← h, List.append_assoc]
      have HQ2 := Lib.hid hQ
      have Hnews := Lib.hid (fun W => cells_new5 W 1 (UInt8.ofNat r) (UInt8.ofNat q) (UInt8.ofNat r2) (UInt8.ofNat q2))
      simp only [byte_cell r (by omega), byte_cell q (by omega), byte_cell r2 (by omega), byte_cell q2 (by omega)] at Hnews
      clear hQ hq hr hm hq2 hr2
      go_wp2_with (at_builtin; first | (refine wpList_append8 rfl (.tmp 17) (.tmp 31) rfl w.heap.size _ l rfl (HO.out.alloc _) ⟨wr.heap.size, 0, none⟩ 5 [1, UInt8.ofNat r, UInt8.ofNat q, UInt8.ofNat r2, UInt8.ofNat q2] rfl (Hnews.out _) (by simp) (by simp; omega) w (Hb.out.alloc Hb.out.size _) (by have := Hb.out.size; simp; omega) ?_; intro v1 w1 Ho1 Hb1 _) | (refine wpList_append8s rfl (.tmp 33) (.tmp 36) rfl w.heap.size _ _ rfl Ho1.out t rfl (by simp only [List.length_append]; simp; omega) w Hb1.out Hb1.out.size ?_; intro v2 w2 Ho2 Hb2 _; have htx := Ho2.out.text; rw [HQ2.out, ← bytes_eq (rfl : u.data.toList = _)] at htx))
      go_ret
      exact ⟨rfl, Hb2.out⟩
end
end Go.Proofs.YtiiiokikmjgliaaGreatDoor
/-
  The contracts of the document's Piece, length, distance, number.
-/
namespace Go.Proofs.YtiiiokikmjgliaaGreatDoor
section
open Go.RowKit
set_option maxRecDepth 100000
set_option maxHeartbeats 1000000 in
theorem rPutB_nil (n k : Nat) (w : World) (hk : k ≤ 16) (hn : n < 2 ^ k) :
    Calls Tryz.prog 104 #[.slice none 0 0, .int .i64 (n : Int), .int .i64 (k : Int)] w fun en w' => ∃ g cap, en = .returned (.tuple #[.slice (some ⟨g, 0, none⟩) k cap, .int .i64 0]) ∧ BitsAt w' g (bitsN k n) ∧ Below w.heap.size w w' ∧ w.heap.size ≤ g := by
  have Hpow := Lib.hid fun W => rPower_any k W hk
  have hp2 : (2 : Nat) ^ k ≤ 2 ^ 16 := Nat.pow_le_pow_right (by omega) hk
  obtain ⟨z, hz⟩ : ∃ z, 2 ^ k = z := ⟨_, rfl⟩
  rw [hz] at Hpow hn hp2
  have h1 : ¬ (k : Int) < 0 := by omega
  have h2 : ¬ 16 < (k : Int) := by omega
  have h3 : ¬ (n : Int) < 0 := by omega
  have h4 : ¬ (z : Int) ≤ (n : Int) := by omega
  have h5 : decide (z ≤ n) = false := decide_eq_false (by omega)
  clear hz
  go_enter Tryz.func104, Tryz.ntmps104
  go_wp2_with fail
  refine (Hpow.out _).mono ?_
  rintro e w1 ⟨rfl, rfl⟩
  go_wp2_with fail
  go_loopg [1, 8, 9] k (fun gg s1 s8 s9 wx => ∃ (j x : Nat), j + gg = k ∧ s9 = .int .i64 j ∧ s1 = .int .i64 x ∧ x ≤ 65536 ∧ Aside (x = n / 2 ^ j ∧ Own64 wx w.heap.size s8 (asZ (bitsN j n))) ∧ Below w.heap.size w wx)
  case atStart => exact ⟨0, n, by omega, rfl, rfl, by omega, ⟨by simp, Own64.made w 0 #[] (Nat.le_refl _) (by decide) rfl⟩, (Below.refl _ w).alloc (Nat.le_refl _) _⟩
  case round =>
    obtain ⟨j, x, hjg, rfl, rfl, hx, HX, hb⟩ := hrel
    have Hb := Lib.hid hb
    clear hb
    cases gk with
    | zero =>
      obtain rfl : j = k := by omega
      obtain ⟨g', cap', hv, hB, hr⟩ := HX.out.2.bits
      rw [bitsN_length] at hv
      subst hv
      have HR := Lib.hid hr
      clear hr
      go_wp2_with fail
      go_ret2
      exact ⟨g', cap', rfl, HR.out, Hb.out, hB⟩
    | succ gg =>
      have hjz : (j : Int) < (k : Int) := by omega
      have hlen : (asZ (bitsN j n)).length ≤ 2000000 := by rw [asZ_length, bitsN_length]; omega
      obtain ⟨r, hr2⟩ : ∃ r, x % 2 = r := ⟨_, rfl⟩
      obtain ⟨y, hy2⟩ : ∃ y, x / 2 = y := ⟨_, rfl⟩
      have hb2 : (x : Int) % 2 = (r : Int) := by omega
      have hx2 : (x : Int) / 2 = (y : Int) := by omega
      have hyb : y ≤ 65536 := by omega
      have Hnext : Hid (y = n / 2 ^ (j + 1) ∧ bitsN (j + 1) n = bitsN j n ++ [r]) := Lib.hid (by
        rw [← hy2, ← hr2, HX.out.1]
        exact ⟨by rw [Nat.div_div_eq_div_mul, Nat.pow_succ], bitsN_snoc j n⟩)
      clear hr2 hy2
      go_wp2_with (at_builtin; refine wpList_append64 rfl (.tmp 34) (.tmp 37) rfl w.heap.size _ (asZ (bitsN j n)) rfl (HX.out.2.alloc _) ⟨wr.heap.size, 0, none⟩ 1 [(r : Int)] rfl (cells_newZ _ _) (by simp) (by simp; omega) w (Hb.out.alloc Hb.out.size _) (by have := Hb.out.size; simp; omega) ?_; intro v3 w3 Ho3 Hb3 _)
      go_roundg gg
      case measure => omega
      case rel => exact ⟨j + 1, y, by omega, by go_num, by go_num, hyb, ⟨Hnext.out.1, by rw [Hnext.out.2, asZ_snoc]; exact Ho3.out⟩, Hb3.out⟩
theorem rnumber_is (g c n k : Nat) (row : List Nat) (w : World) (hr : BitsAt w g row) (hl : row.length ≤ 900000) (hk : k ≤ 16) (hn : n < 2 ^ k) :
    Calls Tryz.prog 78 #[.slice (some ⟨g, 0, none⟩) row.length c, .int .i64 (n : Int), .int .i64 (k : Int)] w fun en w' => ∃ g' cap', en = .returned (.slice (some ⟨g', 0, none⟩) (row.length + k) cap') ∧ BitsAt w' g' (row ++ bitsN k n) ∧ Below w.heap.size w w' := by
  have hp2 : (2 : Nat) ^ k ≤ 2 ^ 16 := Nat.pow_le_pow_right (by omega) hk
  have HP := Lib.hid (rPutB_is g c row (n : Int) (k : Int) w hr (by omega) (by omega) (by omega) (by omega) (by omega) (putB_ok hk hn))
  clear hr hp2
  go_enter Tryz.func78, Tryz.ntmps78
  go_wp2_with fail
  refine HP.out.mono ?_
  rintro e w1 ⟨g', cap', rfl, hb, hB, _⟩
  have H1 := Lib.hid hb
  have HB1 := Lib.hid hB
  rw [List.length_append, bitsN_length]
  clear hb hB HP
  go_wp2_with fail
  go_ret
  exact ⟨g', cap', rfl, H1.out, HB1.out⟩
theorem rnumber_nil (n k : Nat) (w : World) (hk : k ≤ 16) (hn : n < 2 ^ k) :
    Calls Tryz.prog 78 #[.slice none 0 0, .int .i64 (n : Int), .int .i64 (k : Int)] w fun en w' => ∃ g' cap', en = .returned (.slice (some ⟨g', 0, none⟩) k cap') ∧ BitsAt w' g' (bitsN k n) ∧ Below w.heap.size w w' := by
  have HP := Lib.hid (rPutB_nil n k w hk hn)
  clear hn
  go_enter Tryz.func78, Tryz.ntmps78
  go_wp2_with fail
  refine HP.out.mono ?_
  rintro e w1 ⟨g', cap', rfl, hb, hB, _⟩
  have H1 := Lib.hid hb
  have HB1 := Lib.hid hB
  clear hb hB HP
  go_wp2_with fail
  go_ret
  exact ⟨g', cap', rfl, H1.out, HB1.out⟩
theorem rlength_is (n : Nat) (w : World) (h1 : 3 ≤ n) (h2 : n ≤ 258) : Calls Tryz.prog 81 #[.int .i64 (n : Int)] w fun e w' => e = .returned (.int .i64 (lenK n : Int)) ∧ w = w' := by
  have hm := (lenK_facts h1 h2).1
  have Hiff := Lib.hid (fun h hh => lens_iff (n := n) (h := h) h1 hh)
  obtain ⟨m, hmm⟩ : ∃ m, lenK n = m := ⟨_, rfl⟩
  rw [hmm] at hm Hiff ⊢
  clear hmm
  go_enter Tryz.func81, Tryz.ntmps81
  go_wp2_with fail
  go_loopg [3] m (fun gg s3 wx => ∃ k : Nat, s3 = .int .i64 (k : Int) ∧ k + gg = m ∧ w = wx)
  case atStart => exact ⟨0, rfl, by omega, rfl⟩
  case round =>
    obtain ⟨k, rfl, hkg, rfl⟩ := hrel
    cases gk with
    | succ gg =>
      have hk28 : (k : Int) < 28 := by omega
      have HL := rLength_any (k + 1) w (by omega)
      have hle : (lengthN (k + 1) : Int) ≤ (n : Int) := by
        have := (Hiff.out (k + 1) (by omega)).1
        omega
      obtain ⟨x, hx⟩ : ∃ x, lengthN (k + 1) = x := ⟨_, rfl⟩
      rw [hx, show ((k + 1 : Nat) : Int) = (k : Int) + 1 by omega] at HL
      rw [hx] at hle
      have HL := Lib.hid HL
      clear hx
      go_wp2_with fail
      refine HL.out.mono ?_
      rintro e w1 ⟨rfl, rfl⟩
      go_wp2_with fail
      go_roundg gg
      case measure => omega
      case rel => exact ⟨k + 1, by go_num, by omega, rfl⟩
    | zero =>
      obtain rfl : k = m := by omega
      by_cases hk28 : k < 28
      · have hkz : (k : Int) < 28 := by omega
        have HL := rLength_any (k + 1) w (by omega)
        have hle : ¬ (lengthN (k + 1) : Int) ≤ (n : Int) := by
          have := (Hiff.out (k + 1) (by omega)).2
          omega
        obtain ⟨x, hx⟩ : ∃ x, lengthN (k + 1) = x := ⟨_, rfl⟩
        rw [hx, show ((k + 1 : Nat) : Int) = (k : Int) + 1 by omega] at HL
        rw [hx] at hle
        have HL := Lib.hid HL
        clear hx
        go_wp2_with fail
        refine HL.out.mono ?_
        rintro e w1 ⟨rfl, rfl⟩
        go_wp2_with fail
        go_ret
        exact ⟨rfl, rfl⟩
      · have hkz : ¬ (k : Int) < 28 := by omega
        go_wp2_with fail
        go_ret
        exact ⟨rfl, rfl⟩
theorem rdistance_is (n : Nat) (w : World) (h1 : 1 ≤ n) (h2 : n ≤ 32768) : Calls Tryz.prog 82 #[.int .i64 (n : Int)] w fun e w' => e = .returned (.int .i64 (farK n : Int)) ∧ w = w' := by
  have hm := (farK_facts h1 h2).1
  have Hiff := Lib.hid (fun h hh => dists_iff (n := n) (h := h) h1 hh)
  obtain ⟨m, hmm⟩ : ∃ m, farK n = m := ⟨_, rfl⟩
  rw [hmm] at hm Hiff ⊢
  clear hmm
  go_enter Tryz.func82, Tryz.ntmps82
  go_wp2_with fail
  go_loopg [3] m (fun gg s3 wx => ∃ k : Nat, s3 = .int .i64 (k : Int) ∧ k + gg = m ∧ w = wx)
  case atStart => exact ⟨0, rfl, by omega, rfl⟩
  case round =>
    obtain ⟨k, rfl, hkg, rfl⟩ := hrel
    cases gk with
    | succ gg =>
      have hk28 : (k : Int) < 29 := by omega
      have HL := rDistance_any (k + 1) w (by omega)
      have hle : (distN (k + 1) : Int) ≤ (n : Int) := by
        have := (Hiff.out (k + 1) (by omega)).1
        omega
      obtain ⟨x, hx⟩ : ∃ x, distN (k + 1) = x := ⟨_, rfl⟩
      rw [hx, show ((k + 1 : Nat) : Int) = (k : Int) + 1 by omega] at HL
      rw [hx] at hle
      have HL := Lib.hid HL
      clear hx
      go_wp2_with fail
      refine HL.out.mono ?_
      rintro e w1 ⟨rfl, rfl⟩
      go_wp2_with fail
      go_roundg gg
      case measure => omega
      case rel => exact ⟨k + 1, by go_num, by omega, rfl⟩
    | zero =>
      obtain rfl : k = m := by omega
      by_cases hk28 : k < 29
      · have hkz : (k : Int) < 29 := by omega
        have HL := rDistance_any (k + 1) w (by omega)
        have hle : ¬ (distN (k + 1) : Int) ≤ (n : Int) := by
          have := (Hiff.out (k + 1) (by omega)).2
          omega
        obtain ⟨x, hx⟩ : ∃ x, distN (k + 1) = x := ⟨_, rfl⟩
        rw [hx, show ((k + 1 : Nat) : Int) = (k : Int) + 1 by omega] at HL
        rw [hx] at hle
        have HL := Lib.hid HL
        clear hx
        go_wp2_with fail
        refine HL.out.mono ?_
        rintro e w1 ⟨rfl, rfl⟩
        go_wp2_with fail
        go_ret
        exact ⟨rfl, rfl⟩
      · have hkz : ¬ (k : Int) < 29 := by omega
        go_wp2_with fail
        go_ret
        exact ⟨rfl, rfl⟩
end
end Go.Proofs.YtiiiokikmjgliaaGreatDoor
/-
  The contract of the document's Piece.
-/
namespace Go.Proofs.YtiiiokikmjgliaaGreatDoor
section
open Go.RowKit
set_option maxRecDepth 100000
set_option maxHeartbeats 4000000 in
theorem rPiece_is (s : ByteArray) (a : Nat) (w : World) (hs : s.size ≤ 100000) (ha : a < s.size) {n d : Nat} (hp : pieceN s.data.toList a (farN a) = (n, d)) :
    Calls Tryz.prog 79 #[.string s, .int .i64 (a : Int)] w fun e w' => e = .returned (.tuple #[.int .i64 (n : Int), .int .i64 (d : Int)]) ∧ Below w.heap.size w w' := by
  have HP := Lib.hid hp
  have hfar : farN a = min a 32768 := rfl
  obtain ⟨D, hD⟩ : ∃ D, farN a = D := ⟨_, rfl⟩
  rw [hD] at HP hfar
  clear hp hD
  go_enter Tryz.func79, Tryz.ntmps79
  go_wp2_with fail
  go_loopg [6, 7, 8, 9] D (fun gg s6 s7 s8 s9 wx => ∃ (k x b : Nat) (fr : Int), k + gg = D ∧ s6 = .int .i64 (x : Int) ∧ s7 = .int .i64 (b : Int) ∧ s8 = .int .i64 fr ∧ fr = (a : Int) - 1 - (k : Int) ∧ x ≤ 258 ∧ Aside (pieceN s.data.toList a k = (x, b)) ∧ Below w.heap.size w wx)
  case atStart => exact ⟨0, 0, 0, _, by omega, rfl, rfl, rfl, by omega, by omega, rfl, below_same _⟩
  case round =>
    obtain ⟨k, x, b, fr, hkg, rfl, rfl, rfl, hfr, hx, HX, hb⟩ := hrel
    have Hb := Lib.hid hb
    clear hb
    cases gk with
    | zero =>
      have HE : Hid (n = x ∧ d = b) := Lib.hid (by
        have h1 := HX.out
        rw [show k = D by omega, HP.out] at h1
        exact Prod.mk.inj h1)
      by_cases hneg : fr < 0
      · have hz : ¬ (0 : Int) ≤ fr := by omega
        clear hfr
        go_wp2_with fail
        go_ret2
        exact ⟨by rw [HE.out.1, HE.out.2]; rfl, Hb.out⟩
      · have hz : (0 : Int) ≤ fr := by omega
        have hz2 : ¬ (a : Int) - fr ≤ 32768 := by omega
        have hz3 : fr ≤ 100000 := by omega
        clear hfr
        go_wp2_with fail
        go_ret2
        exact ⟨by rw [HE.out.1, HE.out.2]; rfl, Hb.out⟩
    | succ gg =>
      obtain ⟨j, hj⟩ := Int.eq_ofNat_of_zero_le (show 0 ≤ fr by omega)
      have hja : j + (k + 1) = a := by omega
      rw [hj]
      clear hfr hj
      have hz2 : (a : Int) - (j : Int) ≤ 32768 := by omega
      obtain ⟨r, hr⟩ : ∃ r, likeN s.data.toList a j = r := ⟨_, rfl⟩
      have Hmo : Hid (mostN s.data.toList a = min 258 (s.size - a)) := Lib.hid (by unfold mostN; rw [← size_data])
      have hle := likeN_le s.data.toList a j
      have HS := Lib.hid (runN_stop s.data.toList (mostN s.data.toList a) j a)
      have HE := Lib.hid (runN_like s.data.toList (mostN s.data.toList a) j a)
      have hstep : pieceN s.data.toList a (k + 1) = if x < r then (r, k + 1) else (x, b) := by
        rw [pieceN, HX.out, show a - (k + 1) = j by omega, hr]
      have HStep := Lib.hid hstep
      have Hr := Lib.hid hr
      rw [hr, Hmo.out] at hle
      unfold likeN at hr
      rw [hr] at HS HE
      rw [Hmo.out] at HS
      clear hr hstep
      go_wp2_with fail
      go_loopg [9] r (fun g9 s9 wx2 => ∃ i : Nat, s9 = .int .i64 (i : Int) ∧ i + g9 = r ∧ Below w.heap.size w wx2)
      case atStart => exact ⟨0, rfl, by omega, Hb.out⟩
      case round =>
        obtain ⟨i, rfl, hig, hb2⟩ := hrel
        have Hb2 := Lib.hid hb2
        clear hb2
        cases gk with
        | succ g9 =>
          have h258 : (i : Int) < 258 := by omega
          obtain ⟨p, hp⟩ : ∃ p, j + i = p := ⟨_, rfl⟩
          obtain ⟨q, hq⟩ : ∃ q, a + i = q := ⟨_, rfl⟩
          have hps : p < s.size := by omega
          have hqs : q < s.size := by omega
          have hbt := byte_test hqs hps
          have he := HE.out i (by omega)
          rw [hp, hq] at he
          rw [← he] at hbt
          simp only [decide_true] at hbt
          have hpz : (j : Int) + (i : Int) = (p : Int) := by omega
          have hqz : (a : Int) + (i : Int) = (q : Int) := by omega
          have hqs2 : (q : Int) < (s.size : Int) := by omega
          clear he hp hq
          go_wp2_with fail
          go_quiet (fail)
          have Hb3 := Lib.hid (below_drewN Hb2.out nq)
          go_wp2_with fail
          go_roundg g9
          case measure => omega
          case rel => exact ⟨i + 1, by go_num, by omega, Hb3.out⟩
        | zero =>
          obtain rfl : i = r := by omega
          have hexit : (¬ i < 258) ∨ (i < 258 ∧ ¬ a + i < s.size) ∨ (i < 258 ∧ a + i < s.size) := by omega
          rcases hexit with h1 | ⟨h1, h2⟩ | ⟨h1, h2⟩
          · have hA : decide ((i : Int) < 258) = false := by rw [decide_eq_false_iff_not]; omega
            clear h1
            by_cases hxr : x < i
            · have HX2 : Hid (pieceN s.data.toList a (k + 1) = (i, k + 1)) := Lib.hid (by rw [HStep.out, if_pos hxr])
              have hxz : (x : Int) < (i : Int) := by omega
              go_wp2_with fail
              go_quiet (fail)
              have Hb3 := Lib.hid (below_drewN Hb2.out nq)
              go_wp2_with fail
              go_roundg gg
              case measure => omega
              case rel => exact ⟨k + 1, i, k + 1, (j : Int) - 1, by omega, rfl, by congr 1; omega, rfl, by omega, by omega, HX2.out, Hb3.out⟩
            · have HX2 : Hid (pieceN s.data.toList a (k + 1) = (x, b)) := Lib.hid (by rw [HStep.out, if_neg hxr])
              have hxz : ¬ (x : Int) < (i : Int) := by omega
              go_wp2_with fail
              go_quiet (fail)
              have Hb3 := Lib.hid (below_drewN Hb2.out nq)
              go_wp2_with fail
              go_roundg gg
              case measure => omega
              case rel => exact ⟨k + 1, x, b, (j : Int) - 1, by omega, rfl, rfl, rfl, by omega, by omega, HX2.out, Hb3.out⟩
          · have hA : (i : Int) < 258 := by omega
            have hB : decide ((a : Int) + (i : Int) < (s.size : Int)) = false := by rw [decide_eq_false_iff_not]; omega
            clear h1 h2
            by_cases hxr : x < i
            · have HX2 : Hid (pieceN s.data.toList a (k + 1) = (i, k + 1)) := Lib.hid (by rw [HStep.out, if_pos hxr])
              have hxz : (x : Int) < (i : Int) := by omega
              go_wp2_with fail
              go_quiet (fail)
              have Hb3 := Lib.hid (below_drewN Hb2.out nq)
              go_wp2_with fail
              go_roundg gg
              case measure => omega
              case rel => exact ⟨k + 1, i, k + 1, (j : Int) - 1, by omega, rfl, by congr 1; omega, rfl, by omega, by omega, HX2.out, Hb3.out⟩
            · have HX2 : Hid (pieceN s.data.toList a (k + 1) = (x, b)) := Lib.hid (by rw [HStep.out, if_neg hxr])
              have hxz : ¬ (x : Int) < (i : Int) := by omega
              go_wp2_with fail
              go_quiet (fail)
              have Hb3 := Lib.hid (below_drewN Hb2.out nq)
              go_wp2_with fail
              go_roundg gg
              case measure => omega
              case rel => exact ⟨k + 1, x, b, (j : Int) - 1, by omega, rfl, rfl, rfl, by omega, by omega, HX2.out, Hb3.out⟩
          · have hA : (i : Int) < 258 := by omega
            obtain ⟨p, hp⟩ : ∃ p, j + i = p := ⟨_, rfl⟩
            obtain ⟨q, hq⟩ : ∃ q, a + i = q := ⟨_, rfl⟩
            have hps : p < s.size := by omega
            have hqs : q < s.size := by omega
            have hbt := byte_test hqs hps
            have he := HS.out (by omega)
            rw [hp, hq] at he
            rw [decide_eq_false (fun e => he e.symm)] at hbt
            have hpz : (j : Int) + (i : Int) = (p : Int) := by omega
            have hqz : (a : Int) + (i : Int) = (q : Int) := by omega
            have hqs2 : (q : Int) < (s.size : Int) := by omega
            clear he hp hq h1 h2
            by_cases hxr : x < i
            · have HX2 : Hid (pieceN s.data.toList a (k + 1) = (i, k + 1)) := Lib.hid (by rw [HStep.out, if_pos hxr])
              have hxz : (x : Int) < (i : Int) := by omega
              go_wp2_with fail
              go_quiet (fail)
              have Hb3 := Lib.hid (below_drewN Hb2.out nq)
              go_wp2_with fail
              go_roundg gg
              case measure => omega
              case rel => exact ⟨k + 1, i, k + 1, (j : Int) - 1, by omega, rfl, by congr 1; omega, rfl, by omega, by omega, HX2.out, Hb3.out⟩
            · have HX2 : Hid (pieceN s.data.toList a (k + 1) = (x, b)) := Lib.hid (by rw [HStep.out, if_neg hxr])
              have hxz : ¬ (x : Int) < (i : Int) := by omega
              go_wp2_with fail
              go_quiet (fail)
              have Hb3 := Lib.hid (below_drewN Hb2.out nq)
              go_wp2_with fail
              go_roundg gg
              case measure => omega
              case rel => exact ⟨k + 1, x, b, (j : Int) - 1, by omega, rfl, rfl, rfl, by omega, by omega, HX2.out, Hb3.out⟩
end
end Go.Proofs.YtiiiokikmjgliaaGreatDoor
