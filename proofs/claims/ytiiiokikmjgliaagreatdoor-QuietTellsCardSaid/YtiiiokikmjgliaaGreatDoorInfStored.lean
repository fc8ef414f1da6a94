/-
  The contract of package inflate's storedBlock.
-/
import Derived.Test.YtiiiokikmjgliaaGreatDoorInfPiece
import Derived.Test.YtiiiokikmjgliaaGreatDoorKRefI
import Derived.Test.YtiiiokikmjgliaaGreatDoorKHeld
namespace Go.Proofs.YtiiiokikmjgliaaGreatDoor
open Go.RowKit
set_option maxRecDepth 100000
section
variable (T rb : Nat) (s : ByteArray) (pos : Nat) (o : List UInt8) (M : Nat) (v : Value) (p q : Option Addr) (X : List Nat) (w : World)
theorem tlAlign_is (h : TlIs w T rb s pos o M v p q X) (hs : s.size ≤ 10000) {z : Nat} (hz : wholeN pos = z) :
    Calls Tryz.prog 164 #[.pointer (some ⟨rb, 0, none⟩)] w fun en w' => en = .returned (.tuple #[]) ∧ TlIs w' T rb s z o M v p q X ∧ Touches (tlF T rb v) (tlF T rb v) w w' := by
  subst hz
  refine (rAlign_is rb s pos [rb] w h.rd h.hpos (by omega)).mono ?_
  rintro en w' ⟨rfl, F', hr, ht⟩
  exact ⟨rfl, h.read hr ht (by have := h.hpos; unfold wholeN; omega)⟩
theorem tlBytes_ok (k n : Nat) (h : TlIs w T rb s (8 * k) o M v p q X) (hs : s.size ≤ 10000) (_hn : n < 65536) {t : List UInt8} {z : Nat} (hb : bytesP n s.data.toList (8 * k) = .ok (t, z)) :
    Calls Tryz.prog 165 #[.pointer (some ⟨rb, 0, none⟩), .int .i64 (n : Int)] w fun en w' => en = .returned (.tuple #[.string (bytes t), .int .i64 0]) ∧ TlIs w' T rb s z o M v p q X ∧ Touches (tlF T rb v) (tlF T rb v) w w' := by
  obtain ⟨h1, rfl, rfl⟩ := bytesP_ok hb
  rw [← size_data] at h1
  have hw : wholeN (8 * k) / 8 = k := by unfold wholeN; omega
  refine (rBytes_ok rb n (8 * k) s [rb] w h.rd h.hpos (by omega) (by rw [hw]; omega)).mono ?_
  rintro en w' ⟨rfl, F', hr, ht⟩
  rw [hw] at hr ⊢
  rw [bytesP_whole]
  rw [Nat.mul_add] at hr
  exact ⟨rfl, h.read hr ht (by omega)⟩
theorem tlBytes_err (k n : Nat) (h : TlIs w T rb s (8 * k) o M v p q X) (hs : s.size ≤ 10000) (hn : n < 65536) {e : Int} (hb : bytesP n s.data.toList (8 * k) = .error e) :
    e = 5 ∧ Calls Tryz.prog 165 #[.pointer (some ⟨rb, 0, none⟩), .int .i64 (n : Int)] w fun en w' => en = .returned (.tuple #[.string ⟨#[]⟩, .int .i64 5]) ∧ Touches (tlF T rb v) (tlF T rb v) w w' := by
  unfold bytesP at hb
  split at hb
  · cases hb
  · rename_i h1
    cases hb
    rw [← size_data] at h1
    refine ⟨rfl, ?_⟩
    obtain ⟨next, L, hF, hL, hH, hC⟩ := h.rd
    have h8 := hH.2.1
    have hnx := hH.2.2
    rw [← size_data] at hnx
    refine (rBytes_short rb n next L s w hC hnx (by omega) (by omega) (by omega)).mono ?_
    rintro en w' ⟨rfl, rfl⟩
    exact ⟨rfl, (Touches.refl _ _).drew⟩
end
set_option maxHeartbeats 4000000 in
theorem stored_is (T rb : Nat) (s : ByteArray) (pos : Nat) (o : List UInt8) (M : Nat) (F : List Nat) (w : World) (h : Tl w T rb s pos o M F) (hs : s.size ≤ 10000) (hM : M ≤ 100000) {r : Except Int (List UInt8 × Nat)} (he : storedP M o s.data.toList pos = r) :
    Calls Tryz.prog 143 #[.pointer (some ⟨T, 0, none⟩)] w (EndsO w T rb s M F r) := by
  obtain ⟨v, p, q, X, rfl, h⟩ := h
  unfold storedP at he
  have hal : alignP s.data.toList pos = .ok ((), wholeN pos) := rfl
  rw [pbind_of hal] at he
  obtain ⟨k, hk⟩ : ∃ k, wholeN pos = 8 * k := ⟨(pos + 7) / 8, by unfold wholeN; omega⟩
  have HPost := Lib.hid he
  rw [hk] at HPost
  have HA := Lib.hid (tlAlign_is T rb s pos o M v p q X w h hs hk)
  have r0 := h.cell.reader
  clear he h hal
  go_enter Tryz.func143, Tryz.ntmps143
  go_wp2_with fail
  refine HA.out.mono ?_
  rintro en w1 ⟨rfl, hi, ht⟩
  have H1 := Lib.hid hi
  have HT1 := Lib.hid ht
  have r1 := hi.cell.reader
  clear hi ht
  cases hb1 : bitsP 16 s.data.toList (8 * k) with
  | error e =>
    have HE := Lib.hid (tlGet_err T rb s (8 * k) o M v p q X w1 16 H1.out hs (by omega) hb1)
    have Hend : Hid (r = .error 5) := Lib.hid (by rw [← HPost.out, pbind_err hb1, (bitsP_err (by omega) hb1).1])
    clear hb1
    go_wp2_with fail
    refine HE.out.mono ?_
    rintro en w2 ⟨rfl, ht⟩
    have HT2 := Lib.hid (HT1.out.trans ht)
    clear ht
    go_wp2_with fail
    go_ret
    exact EndsO.err Hend.out HT2.out
  | ok x1 =>
    obtain ⟨n, p1⟩ := x1
    have HE := Lib.hid (tlGet_ok T rb s (8 * k) o M v p q X w1 16 H1.out hs (by omega) hb1)
    have hn := bitsP_small (by omega) hb1
    have hp1 := (bitsP_ok hb1).2.2
    rw [pbind_of hb1] at HPost
    clear hb1
    go_wp2_with fail
    refine HE.out.mono ?_
    rintro en w2 ⟨rfl, hi, ht⟩
    have H2 := Lib.hid hi
    have HT2 := Lib.hid (HT1.out.trans ht)
    have r2 := hi.cell.reader
    clear hi ht
    cases hb2 : bitsP 16 s.data.toList p1 with
    | error e =>
      have HE := Lib.hid (tlGet_err T rb s p1 o M v p q X w2 16 H2.out hs (by omega) hb2)
      have Hend : Hid (r = .error 5) := Lib.hid (by rw [← HPost.out, pbind_err hb2, (bitsP_err (by omega) hb2).1])
      clear hb2
      go_wp2_with fail
      refine HE.out.mono ?_
      rintro en w3 ⟨rfl, ht⟩
      have HT3 := Lib.hid (HT2.out.trans ht)
      clear ht
      go_wp2_with fail
      go_ret
      exact EndsO.err Hend.out HT3.out
    | ok x2 =>
      obtain ⟨m, p2⟩ := x2
      have HE2 := Lib.hid (tlGet_ok T rb s p1 o M v p q X w2 16 H2.out hs (by omega) hb2)
      have hm := bitsP_small (by omega) hb2
      have hp2 := (bitsP_ok hb2).2.2
      rw [pbind_of hb2] at HPost
      clear hb2
      have hp28 : p2 = 8 * (k + 4) := by omega
      subst hp28
      go_wp2_with fail
      refine HE2.out.mono ?_
      rintro en w3 ⟨rfl, hi, ht⟩
      have H3 := Lib.hid hi
      have HT3 := Lib.hid (HT2.out.trans ht)
      have r3 := hi.cell.reader
      clear hi ht
      by_cases hnm : n + m = 65535
      · have hz : ((n : Int) + (m : Int) != 65535) = false := by rw [bne_eq_false_iff_eq]; omega
        rw [decide_eq_false (by omega), pbind_of pfail_false] at HPost
        cases hb3 : bytesP n s.data.toList (8 * (k + 4)) with
        | error e =>
          obtain ⟨rfl, hE⟩ := tlBytes_err T rb s o M v p q X w3 (k + 4) n H3.out hs hn hb3
          have HE := Lib.hid hE
          have Hend : Hid (r = .error 5) := Lib.hid (by rw [← HPost.out, pbind_err hb3])
          clear hb3 hE
          go_wp2_with fail
          refine HE.out.mono ?_
          rintro en w4 ⟨rfl, ht⟩
          have HT4 := Lib.hid (HT3.out.trans ht)
          clear ht
          go_wp2_with fail
          go_ret
          exact EndsO.err Hend.out HT4.out
        | ok x3 =>
          obtain ⟨t, p3⟩ := x3
          have HE3 := Lib.hid (tlBytes_ok T rb s o M v p q X w3 (k + 4) n H3.out hs hn hb3)
          have htl : t.length = n := by
            obtain ⟨h1, rfl, _⟩ := bytesP_ok hb3
            rw [bytesP_whole, List.length_take, List.length_drop]
            omega
          rw [pbind_of hb3, htl] at HPost
          clear hb3
          go_wp2_with fail
          refine HE3.out.mono ?_
          rintro en w4 ⟨rfl, hi, ht⟩
          have H4 := Lib.hid hi
          have HT4 := Lib.hid (HT3.out.trans ht)
          have hoM := hi.hM
          clear hi ht
          by_cases hm : M < o.length + n
          · have HH := Lib.hid (holds_is T rb s p3 o M v p q X w4 n H4.out (by omega) (by omega) (b := false) (by simp; omega))
            have Hend : Hid (r = .error 7) := Lib.hid (by rw [← HPost.out, decide_eq_true hm, pbind_err pfail_true])
            go_wp2_with fail
            refine HH.out.mono ?_
            rintro en w5 ⟨rfl, hi, ht⟩
            have HT5 := Lib.hid (HT4.out.trans ht)
            clear hi ht
            go_wp2_with fail
            go_ret
            exact EndsO.err Hend.out HT5.out
          · have HH := Lib.hid (holds_is T rb s p3 o M v p q X w4 n H4.out (by omega) (by omega) (b := true) (by simp; omega))
            have Hend : Hid (r = .ok (o ++ t, p3)) := Lib.hid (by rw [← HPost.out, decide_eq_false hm, pbind_of pfail_false]; rfl)
            have HoM : Hid ((o ++ t).length ≤ M) := Lib.hid (by rw [List.length_append, htl]; omega)
            have hsz : (bytes t).size = n := by rw [bytes_size, htl]
            have hlen8 : o.length + (bytes t).size ≤ 140737488355328 := by omega
            have Htd : Hid ((bytes t).data.toList = t) := Lib.hid (by simp [bytes])
            obtain ⟨u, hu⟩ : ∃ u, bytes t = u := ⟨_, rfl⟩
            rw [hu] at hlen8 Htd
            rw [hu]
            obtain ⟨ln, hln⟩ : ∃ ln, (o ++ t).length = ln := ⟨_, rfl⟩
            clear hsz hu
            go_wp2_with fail
            refine HH.out.mono ?_
            rintro en w5 ⟨rfl, hi, ht⟩
            have H5 := Lib.hid hi
            have HT5 := Lib.hid (HT4.out.trans ht)
            have b5 := hi.cell.bytes
            clear hi ht
            go_wp2_with (first
              | (at_builtin; refine wpList_append_text rfl (.tmp 58) (.tmp 59) rfl v o rfl H5.out.row u rfl hlen8 ?_; intro v9 w9 hr9 hg9 hv9; rw [Htd.out] at hr9; have hf9 := hr9.out.form; rw [hln] at hf9; obtain ⟨ad9, cap9, rfl⟩ := hf9; have HW9 := Lib.hid (H5.out.grow hr9 hg9 hv9 HoM.out); have C9 := H5.out.grown hg9; have c39 := C9.bytes; have f39 := C9.free 1))
            go_ret
            exact EndsO.ok Hend.out ⟨_, p, q, X, rfl, HW9.out.1⟩ (HT5.out.trans HW9.out.2)
      · have hz : ((n : Int) + (m : Int) != 65535) = true := by rw [bne_iff_ne]; omega
        have Hend : Hid (r = .error 4) := Lib.hid (by rw [← HPost.out, decide_eq_true (by omega), pbind_err pfail_true])
        go_wp2_with fail
        go_ret
        exact EndsO.err Hend.out HT3.out
end Go.Proofs.YtiiiokikmjgliaaGreatDoor
