/-
  The contracts of the document's Lines and Line.
-/
import Derived.Test.YtplffjnphlfheaaRef
import Derived.Test.YtplffjnphlfheaaCollect
import Derived.Deep.LoopGhost
namespace Go.Proofs.Ytplffjnphlfheaa
open Go.RowKit

theorem Holds.mk {B : Nat} {w w' : World} {ks : List Nat} {v : Value} (h : w'.ownsRow B 3 1 v ks.length (cellsOf ks)) (hb : Below B w w') : Holds B w ks (.returned v) w' := ⟨v, rfl, h, hb⟩
theorem cellsOf_snoc (ks : List Nat) (k : Nat) : cellsOf (ks ++ [k]) = cellsOf ks ++ [Value.int .i64 (k : Int)] := by simp [cellsOf]
theorem upto_yes {l : List UInt8} {k : Nat} (h : beginsI l (k : Int) = true) : upto l (k + 1) = upto l k ++ [k] := by
  rw [beginsI_nat] at h; rw [upto_succ, h]; rfl
theorem upto_no {l : List UInt8} {k : Nat} (h : beginsI l (k : Int) = false) : upto l (k + 1) = upto l k := by
  rw [beginsI_nat] at h; rw [upto_succ, h]; simp

set_option maxRecDepth 100000 in
set_option maxHeartbeats 2000000 in
theorem refLines_any (s : ByteArray) (w : World) (hs : s.size ≤ maxLen) (hb : s.size * 8 ≤ 140737488355328) :
    Calls Try.prog 20 #[.string s] w (Holds w.heap.size w (linesN s.data.toList)) := by
  have hs' := hs
  unfold maxLen at hs
  obtain ⟨i0, hi, hz0, hz1, hz2⟩ := info_parts infoInt
  go_enter Try.func20, Try.ntmps20
  go_wp2_with fail
  have hrow0 : (w.alloc (.cells #[] 3)).ownsRow w.heap.size 3 1 (.slice (some ⟨w.heap.size, 0, none⟩) 0 0) 0 [] := World.ownsRow_made w #[] 0 (Nat.le_refl _) (by unfold maxLen; omega) rfl
  go_loopw [3, 4] (fun v i wr => ∃ k : Nat, k ≤ s.size ∧ i = .int .i64 k ∧ wr.ownsRow w.heap.size 3 1 v (upto s.data.toList k).length (cellsOf (upto s.data.toList k)) ∧ Below w.heap.size w wr)
    (fun _ i _ => s.size - (intOf i).toNat)
  case atStart => exact ⟨0, Nat.zero_le _, rfl, hrow0, (Below.refl _ w).alloc (Nat.le_refl _) _⟩
  case round =>
    obtain ⟨k, hk, rfl, hrow, hB⟩ := hrel
    by_cases hlt : k < s.size
    · have hle := upto_le s.data.toList k
      cases hbeg : beginsI s.data.toList (k : Int)
      · have Hb := Lib.hid hbeg
        clear hbeg
        go_wp2_with (go_at_call 27; refine (begins_any s _ _ hs').mono ?_; rintro e w' ⟨rfl, rfl⟩; rw [Hb.out])
        go_roundw
        case rel => exact ⟨k + 1, by omega, by go_num, by rw [upto_no Hb.out]; exact hrow, hB⟩
        case measure => simp [intOf]; omega
      · have Hb := Lib.hid hbeg
        clear hbeg
        go_wp2_with (first
          | (go_at_call 27; refine (begins_any s _ _ hs').mono ?_; rintro e w' ⟨rfl, rfl⟩; rw [Hb.out])
          | (at_builtin; refine wpList_append_own _ rfl _ _ 26 rfl w.heap.size 3 i0 (.int .i64 0) 1 8 Try.underlying26 hi hz0 hz1 hz2 rfl (by decide) _ _ _ rfl (hrow.alloc _) ⟨wr.heap.size, 0, none⟩ 1 1 [.int .i64 (k : Int)] rfl rfl (cell_one_new _ _ _) (by simp [Value.oneCell']) (by unfold maxLen; omega) (by omega) (by have := hB.size; simp; omega) ?_; intro v' w1 hown' hgrow _; obtain ⟨g', cap', rfl⟩ := ownsRow_succ hown'))
        go_roundw
        case rel =>
          refine ⟨k + 1, by omega, by go_num, ?_, (hB.alloc hB.size _).grown hgrow (by have := hB.size; simp; omega) (fun j ej => (hrow.lt j ej).1)⟩
          rw [upto_yes Hb.out, cellsOf_snoc, List.length_append]
          exact hown'
        case measure => simp [intOf]; omega
    · obtain rfl : k = s.size := by omega
      have hsz : s.data.toList.length = s.size := by simp
      go_wp2_with fail
      go_ret
      exact Holds.mk (by unfold linesN; rw [hsz]; exact hrow) hB

theorem hitB_lt {l : List UInt8} {f : Int} {p : List UInt8} {k : Nat} (h : (k : Int) < f) : hitB l f p k = false := hitB_low l f p k h
theorem hitB_stands {l : List UInt8} {f : Int} {p : List UInt8} {k : Nat} (h : f ≤ (k : Int)) (hk : k ≤ l.length) : hitB l f p k = (beginsI l (k : Int) && standsI l (k : Int) p) := by
  rw [beginsI_nat]
  simp [hitB, standsI, preB, h, hk]

set_option maxRecDepth 100000 in
set_option maxHeartbeats 2000000 in
theorem refLine_any (s : ByteArray) (f : Int) (p : ByteArray) (w : World) (hs : s.size ≤ maxLen) :
    Calls Try.prog 22 #[.string s, .int .i64 f, .string p] w fun e w' => e = .returned (.int .i64 (lineI s.data.toList f p.data.toList)) ∧ w = w' := by
  have hs' := hs
  unfold maxLen at hs
  have hsz : s.data.toList.length = s.size := by simp
  have Hsz := Lib.hid hsz
  clear hsz
  go_enter Try.func22, Try.ntmps22
  go_wp2_with fail
  go_loop [7] (fun i => ∃ k : Nat, k ≤ s.size ∧ i = .int .i64 k ∧ Aside (∀ j, j < k → hitB s.data.toList f p.data.toList j = false))
    (fun i => s.size - (intOf i).toNat)
  case atStart => exact ⟨0, Nat.zero_le _, rfl, fun j hj => absurd hj (by omega)⟩
  case round =>
    obtain ⟨k, hk, rfl, HM⟩ := hrel
    by_cases hlt : k < s.size
    · have next : hitB s.data.toList f p.data.toList k = false → Aside (∀ j, j < k + 1 → hitB s.data.toList f p.data.toList j = false) := fun h j hj => by
        by_cases e : j = k
        · rw [e]; exact h
        · exact HM.out j (by omega)
      have Next := Lib.hid next
      clear next
      by_cases hge : f ≤ (k : Int)
      · have hst := hitB_stands (p := p.data.toList) hge (show k ≤ s.data.toList.length by rw [Hsz.out]; omega)
        have Hst := Lib.hid hst
        clear hst
        cases hb : beginsI s.data.toList (k : Int)
        · have Hb := Lib.hid hb
          clear hb
          go_wp2_with (go_at_call 27; refine (begins_any s _ _ hs').mono ?_; rintro e w' ⟨rfl, rfl⟩; rw [Hb.out])
          go_round
          case rel => exact ⟨k + 1, by omega, by go_num, Next.out (by rw [Hst.out, Hb.out]; rfl)⟩
          case measure => simp [intOf]; omega
        · have Hb := Lib.hid hb
          clear hb
          cases hp : standsI s.data.toList (k : Int) p.data.toList
          · have Hp := Lib.hid hp
            clear hp
            go_wp2_with (first
              | (go_at_call 27; refine (begins_any s _ _ hs').mono ?_; rintro e w' ⟨rfl, rfl⟩; rw [Hb.out])
              | (go_at_call 28; refine (stands_any s _ p _ hs').mono ?_; rintro e w' ⟨rfl, rfl⟩; rw [Hp.out]))
            go_round
            case rel => exact ⟨k + 1, by omega, by go_num, Next.out (by rw [Hst.out, Hb.out, Hp.out]; rfl)⟩
            case measure => simp [intOf]; omega
          · have Hp := Lib.hid hp
            clear hp
            go_wp2_with (first
              | (go_at_call 27; refine (begins_any s _ _ hs').mono ?_; rintro e w' ⟨rfl, rfl⟩; rw [Hb.out])
              | (go_at_call 28; refine (stands_any s _ p _ hs').mono ?_; rintro e w' ⟨rfl, rfl⟩; rw [Hp.out]))
            go_ret
            exact ⟨ret_int (lineI_hit (by rw [Hsz.out]; exact hlt) (by rw [Hst.out, Hb.out, Hp.out]; rfl) HM.out).symm, rfl⟩
      · have Hlow := Lib.hid (hitB_lt (l := s.data.toList) (p := p.data.toList) (show (k : Int) < f by omega))
        go_wp2_with fail
        go_round
        case rel => exact ⟨k + 1, by omega, by go_num, Next.out Hlow.out⟩
        case measure => simp [intOf]; omega
    · obtain rfl : k = s.size := by omega
      have Hn : Hid (lineI s.data.toList f p.data.toList = -1) := Lib.hid (lineI_none fun j hj => HM.out j (by rw [Hsz.out] at hj; exact hj))
      go_wp2_with fail
      go_ret
      exact ⟨ret_int Hn.out.symm, rfl⟩

end Go.Proofs.Ytplffjnphlfheaa
