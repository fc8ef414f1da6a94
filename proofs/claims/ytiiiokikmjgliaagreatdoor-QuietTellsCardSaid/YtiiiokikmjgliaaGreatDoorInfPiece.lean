/-
  The contract of package inflate's piece: bytes that stand farther ahead, too.
-/
import Derived.Test.YtiiiokikmjgliaaGreatDoorInfTell2
import Derived.Deep.RegionLaw
import Derived.Deep.LoopGhost
namespace Go.Proofs.YtiiiokikmjgliaaGreatDoor
open Go.RowKit
set_option maxRecDepth 100000
def EndsO (w : World) (T rb : Nat) (s : ByteArray) (M : Nat) (F : List Nat) (r : Except Int (List UInt8 × Nat)) (en : Ending) (w' : World) : Prop := match r with
  | .ok (o', z) => en = .returned (.int .i64 0) ∧ ∃ F', Tl w' T rb s z o' M F' ∧ Touches F F' w w'
  | .error e => en = .returned (.int .i64 e) ∧ ∃ F', Touches F F' w w'
theorem EndsO.err {w w' : World} {T rb : Nat} {s : ByteArray} {M : Nat} {F F' : List Nat} {r : Except Int (List UInt8 × Nat)} {e : Int} (hr : r = .error e) (ht : Touches F F' w w') : EndsO w T rb s M F r (.returned (.int .i64 e)) w' := by
  subst hr; exact ⟨rfl, F', ht⟩
theorem EndsO.ok {w w' : World} {T rb : Nat} {s : ByteArray} {M : Nat} {F F' : List Nat} {r : Except Int (List UInt8 × Nat)} {o' : List UInt8} {z : Nat} (hr : r = .ok (o', z)) (h : Tl w' T rb s z o' M F') (ht : Touches F F' w w') : EndsO w T rb s M F r (.returned (.int .i64 0)) w' := by
  subst hr; exact ⟨rfl, F', h, ht⟩
set_option maxHeartbeats 4000000 in
theorem piece_is (T rb : Nat) (s : ByteArray) (pos : Nat) (o : List UInt8) (M : Nat) (F : List Nat) (w : World) (td : Nat) (dist : List Nat) (k : Nat) (h : Tl w T rb s pos o M F) (hs : s.size ≤ 10000) (hM : M ≤ 100000) (hk : k < 29)
    (hd : TreeBy w td dist F) (hr : refusedZ (intsOf dist) = 0) (hL : LaidBy w F) {r : Except Int (List UInt8 × Nat)} (he : copiedP dist M k o s.data.toList pos = r) :
    Calls Tryz.prog 168 #[.pointer (some ⟨T, 0, none⟩), .int .i64 (k : Int), .pointer (some ⟨td, 0, none⟩)] w (EndsO w T rb s M F r) := by
  obtain ⟨v, p, q, X, rfl, h⟩ := h
  have HPost := Lib.hid he
  clear he
  unfold copiedP at HPost
  obtain ⟨c1, c2⟩ := hL.1.len hk
  have hkz : ¬ (29 : Int) ≤ (k : Int) := by omega
  have hkz2 : (k : Int) < 29 := by omega
  have hwd := extra_wide (show k ≤ 28 by omega)
  obtain ⟨wd, hwdn⟩ : ∃ wd, (if k = 28 then 0 else extraN k 8 4) = wd := ⟨_, rfl⟩
  rw [hwdn] at c2 hwd HPost
  have hln := lengthN_le (show k ≤ 28 by omega)
  obtain ⟨ln, hlnn⟩ : ∃ ln, lengthN k = ln := ⟨_, rfl⟩
  rw [hlnn] at c1 hln HPost
  have HL := Lib.hid hL
  have H := Lib.hid h
  have HD := Lib.hid hd
  have HR := Lib.hid hr
  clear hL h hd hwdn hlnn hr
  cases hb1 : bitsP wd s.data.toList pos with
  | error e =>
    have HE := Lib.hid (fun W (hW : TlIs W T rb s pos o M v p q X) => number_err T rb s pos o M v p q X W ln wd hW hs hwd hb1)
    have Hend : Hid (r = .error 5) := Lib.hid (by rw [← HPost.out, pbind_err hb1, (bitsP_err hwd hb1).1])
    clear hb1
    go_enter Tryz.func168, Tryz.ntmps168
    go_wp2_with fail
    refine (HE.out _ H.out).mono ?_
    rintro en w1 ⟨rfl, ht⟩
    have HT := Lib.hid ht
    clear ht
    go_wp2_with fail
    go_ret
    exact EndsO.err Hend.out HT.out
  | ok x1 =>
    obtain ⟨m1, p1⟩ := x1
    have HE := Lib.hid (fun W (hW : TlIs W T rb s pos o M v p q X) => number_ok T rb s pos o M v p q X W ln wd hW hs hwd (by omega) hb1)
    rw [pbind_of hb1] at HPost
    have HB1 := Lib.hid hb1
    clear hb1
    obtain ⟨n, hn⟩ : ∃ n, ln + m1 = n := ⟨_, rfl⟩
    rw [hn] at HPost HE
    go_enter Tryz.func168, Tryz.ntmps168
    go_wp2_with fail
    refine (HE.out _ H.out).mono ?_
    rintro en w1 ⟨rfl, hi, ht⟩
    have H1 := Lib.hid hi
    have HT1 := Lib.hid ht
    have HD1 := Lib.hid (HD.out.touch ht)
    have HL1 := Lib.hid (HL.out.touch ht)
    have r1 := hi.cell.reader
    clear hi ht
    cases hb2 : symP dist s.data.toList p1 with
    | error e =>
      have hez : (e != 0) = true := by simpa using Sure.sym _ _ _ _ hb2
      have HE2 := Lib.hid (tlSym_err T rb s p1 o M v p q X w1 td dist H1.out hs HR.out HD1.out hb2)
      have Hend : Hid (r = .error e) := Lib.hid (by rw [← HPost.out, pbind_err hb2])
      clear hb2
      go_wp2_with fail
      refine HE2.out.mono ?_
      rintro en w2 ⟨⟨sy, rfl⟩, ht⟩
      have HT2 := Lib.hid (HT1.out.trans ht)
      clear ht
      go_wp2_with fail
      go_ret
      exact EndsO.err Hend.out HT2.out
    | ok x2 =>
      obtain ⟨d, p2⟩ := x2
      have HE2 := Lib.hid (tlSym_ok T rb s p1 o M v p q X w1 td dist H1.out hs HR.out HD1.out hb2)
      rw [pbind_of hb2] at HPost
      clear hb2
      go_wp2_with fail
      refine HE2.out.mono ?_
      rintro en w2 ⟨rfl, hi, ht⟩
      have H2 := Lib.hid hi
      have HT2 := Lib.hid (HT1.out.trans ht)
      have HL2 := Lib.hid (HL1.out.touch ht)
      clear hi ht
      by_cases hd29 : 29 < d
      · have hz : (30 : Int) ≤ (d : Int) := by omega
        have Hend : Hid (r = .error 4) := Lib.hid (by rw [← HPost.out, decide_eq_true hd29, pbind_err pfail_true])
        go_wp2_with fail
        go_ret
        exact EndsO.err Hend.out HT2.out
      · have hz : ¬ (30 : Int) ≤ (d : Int) := by omega
        have hz2 : (d : Int) < 30 := by omega
        rw [decide_eq_false hd29, pbind_of pfail_false] at HPost
        obtain ⟨c3, c4⟩ := HL2.out.1.far (show d < 30 by omega)
        have hwd2 := extra_dist (show d ≤ 29 by omega)
        obtain ⟨we, hwe⟩ : ∃ we, extraN d 4 2 = we := ⟨_, rfl⟩
        rw [hwe] at c4 hwd2 HPost
        have hdn := distN_le (show d ≤ 30 by omega)
        have hdp := distN_pos d
        obtain ⟨dn, hdnn⟩ : ∃ dn, distN d = dn := ⟨_, rfl⟩
        rw [hdnn] at c3 hdn hdp HPost
        clear hwe hdnn hd29
        cases hb3 : bitsP we s.data.toList p2 with
        | error e =>
          have HE := Lib.hid (number_err T rb s p2 o M v p q X w2 dn we H2.out hs (by omega) hb3)
          have Hend : Hid (r = .error 5) := Lib.hid (by rw [← HPost.out, pbind_err hb3, (bitsP_err (by omega) hb3).1])
          clear hb3
          go_wp2_with fail
          refine HE.out.mono ?_
          rintro en w3 ⟨rfl, ht⟩
          have HT3 := Lib.hid (HT2.out.trans ht)
          clear ht
          go_wp2_with fail
          go_ret
          exact EndsO.err Hend.out HT3.out
        | ok x3 =>
          obtain ⟨m3, p3⟩ := x3
          have HE3 := Lib.hid (number_ok T rb s p2 o M v p q X w2 dn we H2.out hs (by omega) (by omega) hb3)
          have hm3 : m3 < 65536 := bitsP_small (by omega) hb3
          rw [pbind_of hb3] at HPost
          clear hb3
          obtain ⟨fr, hfr⟩ : ∃ fr, dn + m3 = fr := ⟨_, rfl⟩
          rw [hfr] at HPost HE3
          have hfr1 : 0 < fr := by omega
          have hfr2 : fr ≤ 200000 := by omega
          clear hfr hm3
          go_wp2_with fail
          refine HE3.out.mono ?_
          rintro en w3 ⟨rfl, hi, ht⟩
          have H3 := Lib.hid hi
          have HT3 := Lib.hid (HT2.out.trans ht)
          obtain ⟨ad, cap, hv⟩ := hi.row.form
          have b3 := hi.cell.bytes
          rw [hv] at b3
          have hoM := hi.hM
          clear hi ht
          have hn1 := bitsP_small hwd HB1.out
          by_cases hfar : o.length < fr
          · have hz3 : (o.length : Int) < (fr : Int) := by omega
            have Hend : Hid (r = .error 3) := Lib.hid (by rw [← HPost.out, decide_eq_true hfar, pbind_err pfail_true])
            go_wp2_with fail
            go_ret
            exact EndsO.err Hend.out HT3.out
          · have hz3 : ¬ (o.length : Int) < (fr : Int) := by omega
            rw [decide_eq_false hfar, pbind_of pfail_false] at HPost
            have hn5 : n ≤ 100000 := by omega
            by_cases hm : M < o.length + n
            · have HH := Lib.hid (holds_is T rb s p3 o M v p q X w3 n H3.out (by omega) (by omega) (b := false) (by simpa using hm))
              have Hend : Hid (r = .error 7) := Lib.hid (by rw [← HPost.out, decide_eq_true hm, pbind_err pfail_true])
              go_wp2_with fail
              refine HH.out.mono ?_
              rintro en w4 ⟨rfl, hi, ht⟩
              have HT4 := Lib.hid (HT3.out.trans ht)
              clear hi ht
              go_wp2_with fail
              go_ret
              exact EndsO.err Hend.out HT4.out
            · have HH := Lib.hid (holds_is T rb s p3 o M v p q X w3 n H3.out (by omega) (by omega) (b := true) (by simp; omega))
              have Hend : Hid (r = .ok (copyB fr n o, p3)) := Lib.hid (by rw [← HPost.out, decide_eq_false hm, pbind_of pfail_false]; rfl)
              go_wp2_with fail
              refine HH.out.mono ?_
              rintro en w4 ⟨rfl, hi, ht⟩
              have H4 := Lib.hid hi
              have HT4 := Lib.hid (HT3.out.trans ht)
              clear hi ht hv b3 c1 c2 c3 c4 r1
              go_wp2_with fail
              go_loopg [63] n (fun g s63 wx => ∃ (j : Nat) (v1 : Value) (o1 : List UInt8), j + g = n ∧ s63 = .int .i64 (j : Int) ∧ o1.length = o.length + j ∧ Aside (TlIs wx T rb s p3 o1 M v1 p q X ∧ Touches (tlF T rb v) (tlF T rb v1) w wx ∧ copyB fr g o1 = copyB fr n o))
              case atStart => exact ⟨0, v, o, by omega, rfl, by omega, H4.out, HT4.out, rfl⟩
              case round =>
                obtain ⟨j, v1, o1, hjg, rfl, hol, HI⟩ := hrel
                cases gk with
                | zero =>
                  obtain rfl : j = n := by omega
                  have hst : ¬ (j : Int) < (j : Int) := by omega
                  go_wp2_with fail
                  go_ret
                  exact EndsO.ok (by rw [Hend.out, ← HI.out.2.2]; rfl) ⟨v1, p, q, X, rfl, HI.out.1⟩ HI.out.2.1
                | succ g =>
                  have hjz : (j : Int) < (n : Int) := by omega
                  have hfo : fr ≤ o1.length := by omega
                  obtain ⟨g8, cap8, hv8, hg8, hc8⟩ := HI.out.1.row.bytes (show 0 < o1.length by omega)
                  obtain ⟨y, hy⟩ : ∃ y, o1[o1.length - fr]? = some y := ⟨_, List.getElem?_eq_getElem (by omega)⟩
                  have hcy := hc8 _ _ hy
                  obtain ⟨z, hz⟩ : ∃ z, o1.length = z := ⟨_, rfl⟩
                  have Hz := Lib.hid hz
                  have hzn : z = o.length + j := by omega
                  have Hzn := Lib.hid hzn
                  have Hcopy2 : Hid (copyB fr g (o1 ++ [y]) = copyB fr n o) := Lib.hid (by
                    have := HI.out.2.2
                    rw [copyB, hy] at this; exact this)
                  have c3 := HI.out.1.cell.bytes
                  rw [hz] at hv8 hcy hy hfo
                  rw [hv8] at c3
                  have hne8 : g8 ≠ T := (HI.out.1.d2 g8 (by rw [hv8]; rfl)).1
                  have hlt := HI.out.1.cell.lt
                  have c3a : ∀ u, (wr.drew.alloc u).cell? ⟨T, 1, none⟩ = some (.slice (some ⟨g8, 0, none⟩) z cap8) := fun u => (World.cell?_of_block (w := wr.drew) (Below.heap_alloc _ u _ hlt)).trans c3
                  have hcya : ∀ u, (wr.drew.alloc u).cell? ⟨g8, z - fr, none⟩ = some (.int .u8 (y.toNat : Int)) := fun u => (World.cell?_of_block (w := wr.drew) (Below.heap_alloc _ u _ hg8)).trans hcy
                  obtain ⟨ix, hix⟩ : ∃ ix, z - fr = ix := ⟨_, rfl⟩
                  rw [hix] at hcy hcya hy
                  have hixz : (z : Int) - (fr : Int) = (ix : Int) := by omega
                  have hix2 : (ix : Int) < (z : Int) := by omega
                  have hix0 : (0 : Int) ≤ (ix : Int) := by omega
                  have hlen8 : o1.length + 1 ≤ 140737488355328 := by omega
                  have hlen9 : z ≤ 1000000000 := by omega
                  have hixw : IntKind.i64.wrap (ix : Int) = (ix : Int) := IntWalk.i64_in _ (by omega)
                  have HoM : Hid ((o1 ++ [y]).length ≤ M) := Lib.hid (by rw [List.length_append, List.length_singleton]; omega)
                  have HI8 : Hid (TlIs wr.drew T rb s p3 o1 M v1 p q X) := Lib.hid HI.out.1.drew
                  have HT8 : Hid (Touches (tlF T rb v) (tlF T rb v1) w wr.drew) := Lib.hid HI.out.2.1.drew
                  have hv8' := hv8
                  subst hv8'
                  clear hc8 hy hix hfo hz hol hzn hfar hm
                  go_wp2_with fail
                  go_region_law (refine step_append_row8 rfl (.tmp 69) (.tmp 83) rfl _ o1 rfl ((HI8.out.alloc _).row) _ _ y rfl (cells_new1_y _ rfl _ _ rfl) hlen8 _ rfl ?_; intro v9 w9 Hr9 Hg9 Hv9 hf9; obtain ⟨g9, cap9, rfl⟩ := hf9; have HW9 := Lib.hid ((HI8.out.alloc _).grow Hr9.out Hg9.out (fun k e => (Hv9.out k e).imp id (fun e => Nat.le_of_eq e.symm)) HoM.out); have C9 := (HI8.out.alloc _).grown Hg9.out; have c39 := C9.bytes; have f39 := C9.free 1)
                  all_goals
                    go_wp2_with fail
                    go_roundg g
                    case measure => omega
                    case rel => exact ⟨j + 1, _, o1 ++ [y], by omega, by go_num, by rw [List.length_append, Hz.out, Hzn.out]; rfl, HW9.out.1, HT8.out.trans (Touches.from_alloc' HW9.out.2), Hcopy2.out⟩
end Go.Proofs.YtiiiokikmjgliaaGreatDoor
