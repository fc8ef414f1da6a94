/-
  The contract of package inflate's symbols: what a block's symbols stand for, up to its end.
-/
import Derived.Test.YtiiiokikmjgliaaGreatDoorInfPiece
import Derived.Test.YtiiiokikmjgliaaGreatDoorKRefJ
import Derived.Test.YtiiiokikmjgliaaGreatDoorKLens
namespace Go.Proofs.YtiiiokikmjgliaaGreatDoor
open Go.RowKit
set_option maxRecDepth 100000
theorem codedP_rounds {lit dist : List Nat} {M : Nat} {l : List UInt8} {f : Nat} {o : List UInt8} {pos n z : Nat} (hs : symP lit l pos = .ok (n, z)) : codedP lit dist M (f + 1) o l pos = if 285 < n then .error 4 else if n = 256 then .ok (o, z) else if n < 256 then (if M < o.length + 1 then .error 7 else codedP lit dist M f (o ++ [UInt8.ofNat n]) l z) else pbind (copiedP dist M (n - 257) o) (fun o' => codedP lit dist M f o') l z := by
  rw [codedP, pbind_of hs]
  by_cases h1 : 285 < n
  · rw [if_pos h1, decide_eq_true h1, pbind_err pfail_true]
  · rw [if_neg h1, decide_eq_false h1, pbind_of pfail_false]
    by_cases h2 : n = 256
    · rw [if_pos h2, if_pos h2]; rfl
    · rw [if_neg h2, if_neg h2]
      by_cases h3 : n < 256
      · rw [if_pos h3, if_pos h3]
        by_cases h4 : M < o.length + 1
        · rw [if_pos h4, decide_eq_true h4, pbind_err pfail_true]
        · rw [if_neg h4, decide_eq_false h4, pbind_of pfail_false]
      · rw [if_neg h3, if_neg h3]
structure Blk (w0 w : World) (T rb : Nat) (s : ByteArray) (pos : Nat) (o : List UInt8) (M b0 tl td : Nat) (lit dist : List Nat) (v : Value) (p q : Option Addr) (X F : List Nat) : Prop where
  is : TlIs w T rb s pos o M v p q X
  ht : Touches F (tlF T rb v) w0 w
  lit : TreeBy w tl lit (tlF T rb v)
  dist : TreeBy w td dist (tlF T rb v)
  tab : LaidBy w (tlF T rb v)
  box : w.heap[b0]? = some (.cells #[.pointer (some ⟨tl, 0, none⟩), .pointer (some ⟨td, 0, none⟩)] 138 (0, 0))
  apart : b0 < w.heap.size ∧ b0 ∉ tlF T rb v
section
variable {w0 w w' : World} {T rb : Nat} {s : ByteArray} {pos pos' : Nat} {o o' : List UInt8} {M b0 tl td : Nat} {lit dist : List Nat} {v v' : Value} {p q p' q' : Option Addr} {X X' F : List Nat}
theorem Blk.step (h : Blk w0 w T rb s pos o M b0 tl td lit dist v p q X F) (hi : TlIs w' T rb s pos' o' M v' p' q' X') (ht : Touches (tlF T rb v) (tlF T rb v') w w') : Blk w0 w' T rb s pos' o' M b0 tl td lit dist v' p' q' X' F where
  is := hi
  ht := h.ht.trans ht
  lit := h.lit.touch ht
  dist := h.dist.touch ht
  tab := h.tab.touch ht
  box := (ht.out h.apart.1 h.apart.2).1.trans h.box
  apart := ⟨Nat.lt_of_lt_of_le h.apart.1 ht.size, (ht.out h.apart.1 h.apart.2).2⟩
theorem Blk.syms (h : Blk w0 w T rb s pos o M b0 tl td lit dist v p q X F) : w.cell? ⟨b0, 0, none⟩ = some (.pointer (some ⟨tl, 0, none⟩)) := by rw [cell_of_row _ _ _ _ _ _ h.box]; rfl
theorem Blk.dists (h : Blk w0 w T rb s pos o M b0 tl td lit dist v p q X F) : w.cell? ⟨b0, 1, none⟩ = some (.pointer (some ⟨td, 0, none⟩)) := by rw [cell_of_row _ _ _ _ _ _ h.box]; rfl
theorem Blk.drew (h : Blk w0 w T rb s pos o M b0 tl td lit dist v p q X F) : Blk w0 w.drew T rb s pos o M b0 tl td lit dist v p q X F := h.step h.is.drew (Touches.refl _ _).drew
theorem Blk.begun (h : TlIs w T rb s pos o M v p q X) (hl : TreeBy w tl lit (tlF T rb v)) (hd : TreeBy w td dist (tlF T rb v)) (hL : LaidBy w (tlF T rb v)) :
    Blk w (w.alloc (.cells #[.pointer (some ⟨tl, 0, none⟩), .pointer (some ⟨td, 0, none⟩)] 138)) T rb s pos o M w.heap.size tl td lit dist v p q X (tlF T rb v) := by
  have ht : Touches (tlF T rb v) (tlF T rb v) w (w.alloc (.cells #[.pointer (some ⟨tl, 0, none⟩), .pointer (some ⟨td, 0, none⟩)] 138)) := Touches.of_below ((below_same w).alloc (Nat.le_refl _) _)
  exact ⟨h.alloc _, ht, hl.touch ht, hd.touch ht, hL.touch ht, heap_alloc_new w _, by simp, fun hm => Nat.lt_irrefl _ (h.lt _ hm)⟩
end
set_option maxHeartbeats 1000000 in
theorem piece_big (T k td : Nat) (w : World) (hk : 29 ≤ k) (_hk2 : k ≤ 1000) :
    Calls Tryz.prog 168 #[.pointer (some ⟨T, 0, none⟩), .int .i64 (k : Int), .pointer (some ⟨td, 0, none⟩)] w fun en w' => en = .returned (.int .i64 4) ∧ w' = w := by
  have hkz : (29 : Int) ≤ (k : Int) := by omega
  go_enter Tryz.func168, Tryz.ntmps168
  go_wp2_with fail
  go_ret
  exact ⟨rfl, rfl⟩
set_option maxHeartbeats 8000000 in
theorem symbols_is (T rb : Nat) (s : ByteArray) (pos : Nat) (o : List UInt8) (M : Nat) (F : List Nat) (w : World) (tl td : Nat) (lit dist : List Nat) (fuel : Nat) (h : Tl w T rb s pos o M F) (hs : s.size ≤ 10000) (hM : M ≤ 100000) (hf : 8 * s.size + 1 ≤ fuel + pos)
    (hl : TreeBy w tl lit F) (hd : TreeBy w td dist F) (hrl : refusedZ (intsOf lit) = 0) (hr : refusedZ (intsOf dist) = 0) (hL : LaidBy w F) {r : Except Int (List UInt8 × Nat)} (he : codedP lit dist M fuel o s.data.toList pos = r) :
    Calls Tryz.prog 144 #[.pointer (some ⟨T, 0, none⟩), .agg #[.pointer (some ⟨tl, 0, none⟩), .pointer (some ⟨td, 0, none⟩)]] w (EndsO w T rb s M F r) := by
  have HPost := Lib.hid he
  obtain ⟨v, p, q, X, rfl, h⟩ := h
  have HB := Lib.hid (Blk.begun h hl hd hL)
  have HRL := Lib.hid hrl
  have HRD := Lib.hid hr
  clear he h hl hd hL hrl hr
  go_enter Tryz.func144, Tryz.ntmps144
  go_wp2_with fail
  go_step3
  go_wp2_with fail
  go_step3
  go_wp2_with fail
  go_loopg [] fuel (fun g wx => ∃ (pos1 : Nat) (o1 : List UInt8) (v1 : Value) (p1 q1 : Option Addr) (X1 : List Nat), 8 * s.size + 1 ≤ g + pos1 ∧ Aside (Blk w wx T rb s pos1 o1 M w.heap.size tl td lit dist v1 p1 q1 X1 (tlF T rb v) ∧ codedP lit dist M g o1 s.data.toList pos1 = r))
  case atStart => exact ⟨pos, o, v, p, q, X, hf, HB.out, HPost.out⟩
  case round =>
    obtain ⟨pos1, o1, v1, p1, q1, X1, hg, HI⟩ := hrel
    have c0 := HI.out.1.syms
    have c1 := HI.out.1.dists
    have r0 := HI.out.1.is.cell.reader
    have hp1 := HI.out.1.is.hpos
    obtain ⟨g, rfl⟩ : ∃ f, gk = f + 1 := ⟨gk - 1, by omega⟩
    have HB1 := Lib.hid HI.out.1.drew
    have HC := Lib.hid HI.out.2
    cases hb : symP lit s.data.toList pos1 with
    | error e =>
      have hez : (e != 0) = true := by simpa using Sure.sym _ _ _ _ hb
      have HE := Lib.hid (tlSym_err T rb s pos1 o1 M v1 p1 q1 X1 wr.drew tl lit HB1.out.is hs HRL.out HB1.out.lit hb)
      have Hend : Hid (r = .error e) := Lib.hid (by rw [← HC.out, codedP, pbind_err hb])
      clear hb
      go_wp2_with fail
      go_region_with (go_at_call 167; refine HE.out.mono ?_; rintro en w1 ⟨⟨sy, rfl⟩, ht⟩)
      all_goals
        have HT := Lib.hid (HB1.out.ht.trans ht)
        clear ht
        go_wp2_with fail
        go_ret
        exact EndsO.err Hend.out HT.out
    | ok x1 =>
      obtain ⟨n, z⟩ := x1
      have HE := Lib.hid (tlSym_ok T rb s pos1 o1 M v1 p1 q1 X1 wr.drew tl lit HB1.out.is hs HRL.out HB1.out.lit hb)
      have hz := (symP_lt hb).2
      have hn320 : n < 320 := by
        have h1 := (symP_lt hb).1
        have h2 := (refusedZ_zero HRL.out).1
        unfold intsOf at h2
        rw [List.length_map] at h2
        omega
      have HR : Hid _ := Lib.hid (codedP_rounds (lit := lit) (dist := dist) (M := M) (f := g) (o := o1) hb)
      have hcase : n = 256 ∨ n < 256 ∨ ∃ k, n = k + 257 := by
        have h2 : n = 256 ∨ n < 256 ∨ 256 < n := by omega
        rcases h2 with h2 | h2 | h2
        · exact .inl h2
        · exact .inr (.inl h2)
        · exact .inr (.inr ⟨n - 257, by omega⟩)
      clear hb
      rcases hcase with rfl | hn | ⟨k, rfl⟩
      · have Hend : Hid (r = .ok (o1, z)) := Lib.hid (by rw [← HC.out, HR.out]; rfl)
        go_wp2_with fail
        go_region_with (go_at_call 167; refine HE.out.mono ?_; rintro en w1 ⟨rfl, hi, ht⟩)
        all_goals
          have HT := Lib.hid (HB1.out.ht.trans ht)
          have HI1 := Lib.hid hi
          clear hi ht
          go_wp2_with fail
          go_ret
          exact EndsO.ok Hend.out ⟨v1, p1, q1, X1, rfl, HI1.out⟩ HT.out
      · have h2 : ((n : Int) == 256) = false := by rw [beq_eq_false_iff_ne]; omega
        have h3 : ¬ (256 : Int) < (n : Int) := by omega
        by_cases hm : M < o1.length + 1
        · have HH := Lib.hid (fun W (hW : TlIs W T rb s z o1 M v1 p1 q1 X1) => holds_is T rb s z o1 M v1 p1 q1 X1 W 1 hW (by omega) (by omega) (b := false) (by simp; omega))
          have Hend : Hid (r = .error 7) := Lib.hid (by rw [← HC.out, HR.out, if_neg (by omega), if_neg (by omega), if_pos hn, if_pos hm])
          go_wp2_with fail
          go_region_with (go_at_call 167; refine HE.out.mono ?_; rintro en w1 ⟨rfl, hi, ht⟩)
          all_goals
            have HT := Lib.hid (HB1.out.ht.trans ht)
            have HI1 := Lib.hid hi
            clear hi ht
            go_wp2_with fail
            refine (HH.out _ HI1.out).mono ?_
            rintro en w2 ⟨rfl, hi, ht⟩
            have HT2 := Lib.hid (HT.out.trans ht)
            clear hi ht
            go_wp2_with fail
            go_ret
            exact EndsO.err Hend.out HT2.out
        · have HH := Lib.hid (fun W (hW : TlIs W T rb s z o1 M v1 p1 q1 X1) => holds_is T rb s z o1 M v1 p1 q1 X1 W 1 hW (by omega) (by omega) (b := true) (by simp; omega))
          have Hnx : Hid (codedP lit dist M g (o1 ++ [UInt8.ofNat n]) s.data.toList z = r) := Lib.hid (by rw [← HC.out, HR.out, if_neg (by omega), if_neg (by omega), if_pos hn, if_neg hm])
          have hnw : IntKind.u8.wrap (n : Int) = (n : Int) := IntWalk.u8_in _ (by omega)
          have Hnz : Hid ((n : Int) = ((UInt8.ofNat n).toNat : Int)) := Lib.hid (by rw [UInt8.toNat_ofNat', Nat.mod_eq_of_lt hn])
          have HoM : Hid ((o1 ++ [UInt8.ofNat n]).length ≤ M) := Lib.hid (by rw [List.length_append, List.length_singleton]; omega)
          have hlen8 : o1.length + 1 ≤ 140737488355328 := by omega
          go_wp2_with fail
          go_region_with (go_at_call 167; refine HE.out.mono ?_; rintro en w1 ⟨rfl, hi, ht⟩)
          all_goals
            have HBk := Lib.hid (HB1.out.step hi ht)
            clear hi ht
            go_wp2_with fail
            refine (HH.out _ HBk.out.is).mono ?_
            rintro en w2 ⟨rfl, hi, ht⟩
            have HBk2 := Lib.hid (HBk.out.step hi ht)
            have b2 := hi.cell.bytes
            clear hi ht
            go_wp2_with (first
              | (at_builtin; refine wpList_append_row8 rfl (.tmp 46) (.tmp 49) rfl _ o1 rfl ((HBk2.out.is.alloc _).row) _ _ (UInt8.ofNat n) rfl (cells_new1_y _ rfl _ _ Hnz.out) hlen8 _ rfl ?_; intro v9 w9 Hr9 Hg9 Hv9 hf9; obtain ⟨g9, cap9, rfl⟩ := hf9; have HW9 := Lib.hid ((HBk2.out.is.alloc _).grow Hr9.out Hg9.out (fun k e => (Hv9.out k e).imp id (fun e => Nat.le_of_eq e.symm)) HoM.out); have C9 := (HBk2.out.is.alloc _).grown Hg9.out; have c39 := C9.bytes; have f39 := C9.free 1))
            go_roundg g
            case measure => omega
            case rel => exact ⟨z, _, _, _, _, _, by omega, HBk2.out.step HW9.out.1 (Touches.from_alloc' HW9.out.2), Hnx.out⟩
      · have h2 : (((k + 257 : Nat) : Int) == 256) = false := by rw [beq_eq_false_iff_ne]; omega
        have h3 : (256 : Int) < ((k + 257 : Nat) : Int) := by omega
        have hkz : ((k + 257 : Nat) : Int) - 256 - 1 = (k : Int) := by omega
        rw [show k + 257 - 257 = k by omega, if_neg (show ¬ k + 257 = 256 by omega), if_neg (show ¬ k + 257 < 256 by omega)] at HR
        obtain ⟨n, hn⟩ : ∃ n, k + 257 = n := ⟨_, rfl⟩
        rw [hn] at h2 h3 hkz HE HR hn320
        have hkz2 : (n : Int) - 256 = (k : Int) + 1 := by omega
        by_cases hk : 29 ≤ k
        · have HP := Lib.hid (fun W => piece_big T k td W hk (by omega))
          have Hend : Hid (r = .error 4) := Lib.hid (by rw [← HC.out, HR.out, if_pos (by omega)])
          go_wp2_with fail
          go_region_with (go_at_call 167; refine HE.out.mono ?_; rintro en w1 ⟨rfl, hi, ht⟩)
          all_goals
            have HBk := Lib.hid (HB1.out.step hi ht)
            have c2 := HBk.out.dists
            clear hi ht
            go_wp2_with fail
            refine (HP.out _).mono ?_
            rintro en w2 ⟨rfl, rfl⟩
            go_wp2_with fail
            go_ret
            exact EndsO.err Hend.out HBk.out.ht
        · rw [if_neg (by omega)] at HR
          cases hc : copiedP dist M k o1 s.data.toList z with
          | error e =>
            have hez : (e != 0) = true := by simpa using Sure.copied _ _ _ _ _ _ _ hc
            have Hend : Hid (r = .error e) := Lib.hid (by rw [← HC.out, HR.out, pbind_err hc])
            have HP := Lib.hid (fun W (hW : Blk w W T rb s z o1 M w.heap.size tl td lit dist v1 p1 q1 X1 (tlF T rb v)) => piece_is T rb s z o1 M _ W td dist k ⟨v1, p1, q1, X1, rfl, hW.is⟩ hs hM (by omega) hW.dist HRD.out hW.tab hc)
            clear hc
            go_wp2_with fail
            go_region_with (go_at_call 167; refine HE.out.mono ?_; rintro en w1 ⟨rfl, hi, ht⟩)
            all_goals
              have HBk := Lib.hid (HB1.out.step hi ht)
              have c2 := HBk.out.dists
              clear hi ht
              go_wp2_with fail
              refine (HP.out _ HBk.out).mono ?_
              rintro en w2 ⟨rfl, F', ht⟩
              have HT2 := Lib.hid (HBk.out.ht.trans ht)
              clear ht
              go_wp2_with fail
              go_ret
              exact EndsO.err Hend.out HT2.out
          | ok x2 =>
            obtain ⟨o2, z2⟩ := x2
            have Hnx : Hid (codedP lit dist M g o2 s.data.toList z2 = r) := Lib.hid (by rw [← HC.out, HR.out, pbind_of hc])
            have HP := Lib.hid (fun W (hW : Blk w W T rb s z o1 M w.heap.size tl td lit dist v1 p1 q1 X1 (tlF T rb v)) => piece_is T rb s z o1 M _ W td dist k ⟨v1, p1, q1, X1, rfl, hW.is⟩ hs hM (by omega) hW.dist HRD.out hW.tab hc)
            have Hz2 : Hid (∀ W, TlIs W T rb s z o1 M v1 p1 q1 X1 → z ≤ z2) := Lib.hid fun W hW => ((Lefty.copied _ _ _ _).le hc (by rw [← size_data]; exact hW.hpos)).1
            clear hc
            go_wp2_with fail
            go_region_with (go_at_call 167; refine HE.out.mono ?_; rintro en w1 ⟨rfl, hi, ht⟩)
            all_goals
              have HBk := Lib.hid (HB1.out.step hi ht)
              have c2 := HBk.out.dists
              clear hi ht
              go_wp2_with fail
              refine (HP.out _ HBk.out).mono ?_
              rintro en w2 ⟨rfl, F', ⟨v2, p2, q2, X2, rfl, hi⟩, ht⟩
              have HBk2 := Lib.hid (HBk.out.step hi ht)
              clear hi ht
              go_wp2_with fail
              go_roundg g
              case measure => omega
              case rel => exact ⟨z2, o2, v2, _, _, _, by have := Hz2.out _ HBk.out.is; omega, HBk2.out, Hnx.out⟩
end Go.Proofs.YtiiiokikmjgliaaGreatDoor
