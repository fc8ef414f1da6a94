/-
  The contracts of the document's Align and Text of rows of bits.
-/
import Derived.Test.YtahanllbaclokaaBitRows
namespace Go.Proofs.Ytahanllbaclokaa
open Go.RowKit

set_option maxHeartbeats 1000000 in
theorem rAlignB_any (g c : Nat) (row : List Nat) (w : World) (hr : BitsAt w g row) (hl : row.length ≤ 1000000) :
    Calls Try.prog 36 #[.slice (some ⟨g, 0, none⟩) row.length c] w (RowNew w (alignB row)) := by
  have Hin := Lib.hid hr
  have Hal := Lib.hid (asZ_length row)
  have hp8 := padN_lt row.length
  clear hr
  go_enter Try.func36, Try.ntmps36
  go_wp2_with (at_builtin; refine wpList_append64_any rfl (.tmp 4) (.tmp 5) rfl w.heap.size _ [] rfl (Own64.made w 0 #[] (Nat.le_refl _) (by decide) rfl) ⟨g, 0, none⟩ c (asZ row) (by rw [Hal.out]; rfl) (Hin.out.news_alloc _) (by rw [Hal.out]; simp; omega) w ((Below.refl _ w).alloc (Nat.le_refl _) _) (by simp) ?_; intro v2 w2 Ho2 Hb2 _)
  go_loopg [3] (padN row.length) (fun gg s3 wx => ∃ k : Nat, k + gg = padN row.length ∧ Aside (Own64 wx w.heap.size s3 (asZ (row ++ List.replicate k 0))) ∧ Below w.heap.size w wx)
  case atStart => exact ⟨0, by omega, by show Own64 _ _ _ _; simpa using Ho2.out, Hb2.out⟩
  case round =>
    obtain ⟨k, hkg, HO, hb⟩ := hrel
    have Hb := Lib.hid hb
    clear hb
    obtain ⟨g2, cap2, hv⟩ := HO.out.2
    rw [asZ_length, List.length_append, List.length_replicate] at hv
    subst hv
    by_cases hstop : (row.length + k) % 8 = 0
    · obtain rfl := align_stop hstop (by omega)
      have hz : ¬ 0 < ((row.length : Int) + (padN row.length : Int)) % 8 := by omega
      clear hstop hkg
      go_wp2_with fail
      go_ret
      exact Own64.row_new (row := alignB row) HO.out Hb.out
    · have hk1 := align_step hstop (by omega)
      have hz : 0 < ((row.length : Int) + (k : Int)) % 8 := by omega
      have hlen : (asZ (row ++ List.replicate k 0)).length ≤ 2000000 := by rw [asZ_length, List.length_append, List.length_replicate]; omega
      clear hstop
      go_wp2_with (at_builtin; refine wpList_append64 rfl (.tmp 11) (.tmp 12) rfl w.heap.size _ (asZ (row ++ List.replicate k 0)) rfl (HO.out.alloc _) ⟨wr.heap.size, 0, none⟩ 1 [0] rfl (cells_newZ _ _) (by simp) (by simp; omega) w (Hb.out.alloc Hb.out.size _) (by have := Hb.out.size; simp; omega) ?_; intro v3 w3 Ho3 Hb3 _)
      go_roundg (padN row.length - (k + 1))
      case measure => omega
      case rel => exact ⟨k + 1, by omega, by show Own64 _ _ _ _; rw [List.replicate_succ', ← List.append_assoc, asZ_snoc]; exact Ho3.out, Hb3.out⟩

set_option maxRecDepth 100000 in
set_option maxHeartbeats 2000000 in
theorem rTextB_any (g c : Nat) (row : List Nat) (w : World) (hr : BitsAt w g row) (hl : row.length ≤ 1000000) (h2 : ∀ b ∈ row, b < 2) :
    Calls Try.prog 24 #[.slice (some ⟨g, 0, none⟩) row.length c] w fun en w' => en = .returned (.string (bytes (textB row))) ∧ Below w.heap.size w w' := by
  have Hin := Lib.hid hr
  have Hal2 := Lib.hid (alignB_two h2)
  have hA := alignB_length row
  have hp8 := padN_lt row.length
  have hw := padN_whole row.length
  have Htxt : Hid (textB row = packB (alignB row)) := Lib.hid rfl
  clear hr h2
  go_enter Try.func24, Try.ntmps24
  go_wp2_with fail
  refine (rAlignB_any g c row _ Hin.out hl).mono ?_
  rintro e w1 ⟨g', cap', rfl, hbits, hb1, hg'⟩
  have Hb1 := Lib.hid hb1
  have Hbits := Lib.hid hbits
  obtain ⟨A, hAA⟩ : ∃ A, alignB row = A := ⟨_, rfl⟩
  rw [hAA] at Hbits Hal2 Htxt hA
  obtain ⟨N, hN⟩ : ∃ N, A.length = N := ⟨_, rfl⟩
  have hN8 : N % 8 = 0 := by omega
  have hNb : N ≤ 1000008 := by omega
  clear hb1 hbits hA hw hp8
  go_wp2_with fail
  go_loopg [3, 4] N (fun gg s3 s4 wx => ∃ (i : Nat) (l : List UInt8), i + gg = N ∧ s4 = .int .i64 i ∧ i % 8 = 0 ∧ l.length ≤ i ∧ Aside (Own8 wx w1.heap.size s3 l ∧ l ++ packB (A.drop i) = packB A) ∧ Below w1.heap.size w1 wx)
  case atStart => exact ⟨0, [], by omega, rfl, rfl, by simp, ⟨Own8.made w1 0 #[] (Nat.le_refl _) (by decide) rfl, rfl⟩, (Below.refl _ w1).alloc (Nat.le_refl _) _⟩
  case round =>
    obtain ⟨i, l, hig, rfl, hi8, hli, HO, hb2⟩ := hrel
    have Hb2 := Lib.hid hb2
    clear hb2
    cases gk with
    | zero =>
      obtain rfl : i = N := by omega
      have htext := HO.out.1.text
      have hfin : l = textB row := by
        have := HO.out.2
        rw [List.drop_of_length_le (by omega), packB_nil, List.append_nil] at this
        rw [this, Htxt.out]
      subst hfin
      clear hig hN
      go_wp2_with fail
      go_ret
      exact ⟨rfl, Hb1.out.trans (Hb2.out.mono Hb1.out.size)⟩
    | succ gg =>
      have hiz : (i : Int) < (N : Int) := by omega
      have hi7 : i + 8 ≤ N := by omega
      have Hcell : Hid (∀ k b, A[i + k]? = some b → wr.cell? ⟨g', i + k, none⟩ = some (.int .i64 ((b : Nat) : Int))) := Lib.hid fun k b h => by
        obtain ⟨h1, h2⟩ := List.getElem?_eq_some_iff.1 h
        rw [← h2]
        exact (Hb2.out.cell (p := ⟨g', i + k, none⟩) Hbits.out.1).trans (Hbits.out.2 (i + k) h1)
      have HN := Lib.hid hN
      clear hN
      go_wp2_with fail
      go_loopg [5, 6] 8 (fun g5 s5 s6 wx => ∃ z : Nat, g5 ≤ 8 ∧ s6 = .int .i64 ((g5 : Int) - 1) ∧ s5 = .int .i64 z ∧ z < 65536 ∧ Aside (z = numB (((A.drop i).take 8).drop g5)) ∧ wr = wx)
      case atStart => exact ⟨0, Nat.le_refl _, rfl, rfl, by omega, by show 0 = _; rw [List.drop_of_length_le (by rw [List.length_take]; omega)]; rfl, rfl⟩
      case round =>
        obtain ⟨z, hg8, rfl, rfl, hz, HZ, rfl⟩ := hrel
        cases gk with
        | zero =>
          have hl2 : l.length ≤ 2000000 := by omega
          have hzb : z < 256 := by
            have := numB_lt ((A.drop i).take 8) fun b hb => Hal2.out b (List.mem_of_mem_drop (List.mem_of_mem_take hb))
            rw [show ((A.drop i).take 8).length = 8 by rw [List.length_take, List.length_drop, HN.out]; omega] at this
            have h0 := HZ.out
            rw [List.drop_zero] at h0
            omega
          have hbyte := Lib.hid (show (z : Int) = ((UInt8.ofNat z).toNat : Int) by rw [UInt8.toNat_ofNat']; omega)
          have Hstep := Lib.hid (packB_take (A.drop i) (by rw [List.length_drop, HN.out]; omega))
          go_wp2_with (at_builtin; refine wpList_append8 rfl (.tmp 29) (.tmp 32) rfl w1.heap.size _ l rfl (HO.out.1.alloc _) ⟨wr.heap.size, 0, none⟩ 1 [UInt8.ofNat z] rfl (cells_new1 _ _ _ hbyte.out) (by simp) (by simp; omega) w1 (Hb2.out.alloc Hb2.out.size _) (by have := Hb2.out.size; simp; omega) ?_; intro v3 w3 Ho3 Hb3 _)
          go_roundg (gg - 7)
          case measure => omega
          case rel => exact ⟨i + 8, l ++ [UInt8.ofNat z], by omega, by go_num, by omega, by rw [List.length_append]; simp; omega, ⟨Ho3.out, by
            have h1 := HO.out.2
            have h0 := HZ.out
            rw [List.drop_zero] at h0
            rw [Hstep.out, ← h0, List.drop_drop] at h1
            rw [← h1]; simp⟩, Hb3.out⟩
        | succ g5 =>
          have hib : i + g5 < A.length := by rw [HN.out]; omega
          obtain ⟨b, hb⟩ : ∃ b, A[i + g5]? = some b := ⟨_, List.getElem?_eq_getElem hib⟩
          have hb2 : b < 2 := Hal2.out b (List.mem_of_getElem? hb)
          have hcell := Hcell.out g5 b hb
          have Hst := Lib.hid (take_at (v := 8) hb (by omega))
          have Hlt := Lib.hid (part_lt (L := A) (pos := i) (v := 8) (g := g5) Hal2.out (by omega))
          have hgz : 0 ≤ ((g5 + 1 : Nat) : Int) - 1 := by omega
          have hgi : ((i : Int) + (g5 : Int)).toNat = i + g5 := by omega
          have hgl : (i : Int) + (g5 : Int) < (N : Int) := by omega
          clear hib hb
          go_wp2_with fail
          have hnew : numB (((A.drop i).take 8).drop g5) = b + 2 * z := by rw [Hst.out, HZ.out]; rfl
          have Hnew := Lib.hid hnew
          clear hnew
          go_roundg g5
          case measure => omega
          case rel => exact ⟨b + 2 * z, by omega, by go_num, by first | go_num | (congr 1; omega), by rw [← Hnew.out]; exact Hlt.out, Hnew.out.symm, rfl⟩

end Go.Proofs.Ytahanllbaclokaa
