/-
  The contract of the document's Stored.
-/
import Derived.Test.YtboiljclenikbaaGreatDoorSqStore
namespace Go.Proofs.YtboiljclenikbaaGreatDoor
open Go.RowKit
set_option maxRecDepth 100000
theorem block_full {l : List UInt8} (h : l.length = 65535) : blockZ 0 l = [0, 255, 255, 0, 0] ++ l := by
  unfold blockZ
  rw [h]; rfl
theorem block_parts {l : List UInt8} {q r : Nat} (h : l.length ≤ 65535) (hq : l.length / 256 = q) (hr : l.length % 256 = r) : blockZ 1 l = [1, UInt8.ofNat r, UInt8.ofNat q, UInt8.ofNat (255 - r), UInt8.ofNat (255 - q)] ++ l := by
  unfold blockZ
  rw [hq, hr, show (65535 - l.length) % 256 = 255 - r by omega, show (65535 - l.length) / 256 = 255 - q by omega]
  rfl
set_option maxHeartbeats 1000000 in
theorem rStored_is (s : ByteArray) (w : World) (hs : s.size ≤ 900000) {u : ByteArray} (hu : storedZ s.data.toList = u.data.toList) :
    Calls Tryz.prog 27 #[.string s] w fun en w' => en = .returned (.string u) ∧ Below w.heap.size w w' := by
  have HU := Lib.hid hu
  have hl := storedZ_length s.data.toList
  rw [← size_data] at hl
  have HLn : Hid ((storedZ s.data.toList).length ≤ 1000000) := Lib.hid (by omega)
  clear hu hl
  go_enter Tryz.func27, Tryz.ntmps27
  go_wp2_with fail
  go_loopg [0, 3, 4, 5, 6] s.size (fun gg s0 s3 s4 s5 s6 wx => ∃ (t : ByteArray) (l : List UInt8), s0 = .string t ∧ t.size ≤ 65535 + gg ∧ t.size ≤ 900000 ∧ l.length ≤ 1000000 ∧ Aside (Own8 wx w.heap.size s3 l) ∧ Aside (l ++ storedN gg t.data.toList = storedZ s.data.toList) ∧ Below w.heap.size w wx)
  case atStart => exact ⟨s, [], rfl, by omega, hs, by simp, Own8.made w 0 #[] (Nat.le_refl _) (by decide) rfl, by show _ = _; unfold storedZ; rw [← size_data]; rfl, (Below.refl _ w).alloc (Nat.le_refl _) _⟩
  case round =>
    obtain ⟨t, l, rfl, htg, hts, hll, HO, HQ, hb⟩ := hrel
    have Hb := Lib.hid hb
    clear hb
    by_cases hbig : 65535 < t.size
    · have hmin : min (t.size : Int) 65535 = 65535 := by omega
      have hne : ((65535 : Int) == (t.size : Int)) = false := by rw [beq_eq_false_iff_ne]; omega
      have hle : (65535 : Int) ≤ (t.size : Int) := by omega
      obtain ⟨gg, rfl⟩ : ∃ gg, gk = gg + 1 := ⟨gk - 1, by omega⟩
      have e1 : (t.extract 0 65535).data.toList = t.data.toList.take 65535 := by simp
      have e2 : (t.extract 65535 t.size).data.toList = t.data.toList.drop 65535 := text_rest t (by omega)
      have e3 : (t.extract 0 65535).size = 65535 := by rw [size_data, e1, List.length_take, ← size_data]; omega
      have e4 : (t.extract 65535 t.size).size = t.size - 65535 := by rw [size_data, e2, List.length_drop, ← size_data]
      have hQ : (l ++ [0, 255, 255, 0, 0] ++ (t.extract 0 65535).data.toList) ++ storedN gg (t.extract 65535 t.size).data.toList = storedZ s.data.toList := by
        have h := HQ.out
        rw [storedN_succ, if_pos (by rw [← size_data]; exact hbig), block_full (by rw [List.length_take, ← size_data]; omega)] at h
        rw [e1, e2]
        simpa only [List.append_assoc] using h
      have HQ2 := Lib.hid hQ
      have hl2 : (l ++ [0, 255, 255, 0, 0] ++ (t.extract 0 65535).data.toList).length ≤ 1000000 := by
        have h := congrArg List.length hQ
        rw [List.length_append] at h
        have := HLn.out
        omega
      have Hnews := Lib.hid (fun W => cells_new5 W 0 255 255 0 0)
      have He3 := Lib.hid e3
      clear hQ e1 e2 e3
      go_wp2_with (at_builtin; first | (refine wpList_append8 rfl (.tmp 17) (.tmp 31) rfl w.heap.size _ l rfl (HO.out.alloc _) ⟨wr.heap.size, 0, none⟩ 5 [0, 255, 255, 0, 0] rfl (Hnews.out _) (by simp) (by simp; omega) w (Hb.out.alloc Hb.out.size _) (by have := Hb.out.size; simp; omega) ?_; intro v1 w1 Ho1 Hb1 _) | (refine wpList_append8s rfl (.tmp 33) (.tmp 36) rfl w.heap.size _ _ rfl Ho1.out (t.extract 0 65535) rfl (by have := He3.out; simp only [List.length_append]; simp; omega) w Hb1.out Hb1.out.size ?_; intro v2 w2 Ho2 Hb2 _))
      go_roundg gg
      case measure => omega
      case rel => exact ⟨t.extract 65535 t.size, _, rfl, by omega, by omega, hl2, Ho2.out, HQ2.out, Hb2.out⟩
    · have hmin : min (t.size : Int) 65535 = (t.size : Int) := by omega
      obtain ⟨q, hq⟩ : ∃ q, t.size / 256 = q := ⟨_, rfl⟩
      obtain ⟨r, hr⟩ : ∃ r, t.size % 256 = r := ⟨_, rfl⟩
      obtain ⟨m, hm⟩ : ∃ m, 65535 - t.size = m := ⟨_, rfl⟩
      obtain ⟨q2, hq2⟩ : ∃ q2, 255 - q = q2 := ⟨_, rfl⟩
      obtain ⟨r2, hr2⟩ : ∃ r2, 255 - r = r2 := ⟨_, rfl⟩
      have z0 : (65535 : Int) - (t.size : Int) = (m : Int) := by omega
      have z1 : (t.size : Int) % 256 = (r : Int) := by omega
      have z2 : (t.size : Int) / 256 = (q : Int) := by omega
      have z3 : (m : Int) % 256 = (r2 : Int) := by omega
      have z4 : (m : Int) / 256 = (q2 : Int) := by omega
      have y1 : (r : Int) % 256 = (r : Int) := by omega
      have y2 : (q : Int) % 256 = (q : Int) := by omega
      have y3 : (r2 : Int) % 256 = (r2 : Int) := by omega
      have y4 : (q2 : Int) % 256 = (q2 : Int) := by omega
      have hQ : l ++ [1, UInt8.ofNat r, UInt8.ofNat q, UInt8.ofNat r2, UInt8.ofNat q2] ++ t.data.toList = u.data.toList := by
        have h := HQ.out
        rw [storedN_last (by rw [← size_data]; omega), block_parts (q := q) (r := r) (by rw [← size_data]; omega) (by rw [← size_data]; exact hq) (by rw [← size_data]; exact hr), hr2, hq2] at h
        rw [← HU.out, ← h, List.append_assoc]
      have HQ2 := Lib.hid hQ
      have Hnews := Lib.hid (fun W => cells_new5 W 1 (UInt8.ofNat r) (UInt8.ofNat q) (UInt8.ofNat r2) (UInt8.ofNat q2))
      simp only [byte_cell r (by omega), byte_cell q (by omega), byte_cell r2 (by omega), byte_cell q2 (by omega)] at Hnews
      clear hQ hq hr hm hq2 hr2
      go_wp2_with (at_builtin; first | (refine wpList_append8 rfl (.tmp 17) (.tmp 31) rfl w.heap.size _ l rfl (HO.out.alloc _) ⟨wr.heap.size, 0, none⟩ 5 [1, UInt8.ofNat r, UInt8.ofNat q, UInt8.ofNat r2, UInt8.ofNat q2] rfl (Hnews.out _) (by simp) (by simp; omega) w (Hb.out.alloc Hb.out.size _) (by have := Hb.out.size; simp; omega) ?_; intro v1 w1 Ho1 Hb1 _) | (refine wpList_append8s rfl (.tmp 33) (.tmp 36) rfl w.heap.size _ _ rfl Ho1.out t rfl (by simp only [List.length_append]; simp; omega) w Hb1.out Hb1.out.size ?_; intro v2 w2 Ho2 Hb2 _; have htx := Ho2.out.text; rw [HQ2.out, ← bytes_eq (rfl : u.data.toList = _)] at htx))
      go_ret
      exact ⟨rfl, Hb2.out⟩
end Go.Proofs.YtboiljclenikbaaGreatDoor
