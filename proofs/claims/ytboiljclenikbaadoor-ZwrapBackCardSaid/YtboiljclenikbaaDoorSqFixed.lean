/-
  The contracts of package squeeze's newWindow and Fixed.
-/
import Derived.Test.YtboiljclenikbaaDoorSqNew
import Derived.Test.YtboiljclenikbaaDoorSqPiece
import Derived.Test.YtboiljclenikbaaDoorSqLongest
import Derived.Test.YtboiljclenikbaaDoorHWin
namespace Go.Proofs.YtboiljclenikbaaDoor
open Go.RowKit
set_option maxRecDepth 100000
theorem winIs_new {w : World} (s : ByteArray) (A : List Int) (hA : A.length = min s.size 32768) :
    WinAt (((w.alloc (.map #[] 0)).alloc (.cells (cellsZ A).toArray 3)).alloc (.cells #[.string s, .int .i64 0, .map (some w.heap.size), .slice (some ⟨w.heap.size + 1, 0, none⟩) A.length A.length] 68)) (w.heap.size + 2) s 0 w.heap.size (w.heap.size + 1) := by
  refine ⟨0, fun _ => none, A, ⟨?_, ?_, ?_, by omega, by omega, by omega⟩, Nat.le_refl _, last_none _, ahead_none _ _, hA⟩
  · have h := heap_alloc_new ((w.alloc (.map #[] 0)).alloc (.cells (cellsZ A).toArray 3)) (.cells #[.string s, .int .i64 0, .map (some w.heap.size), .slice (some ⟨w.heap.size + 1, 0, none⟩) A.length A.length] 68)
    rwa [show ((w.alloc (.map #[] 0)).alloc (.cells (cellsZ A).toArray 3)).heap.size = w.heap.size + 2 by simp] at h
  · have h0 : MapIs (w.alloc (.map #[] 0)) w.heap.size 0 fun _ => none := ⟨.map [], World.ownsMap_made _ _ _ _, tells_none⟩
    exact h0.move ((Below.heap_alloc _ _ _ (by simp; omega)).trans (Below.heap_alloc _ _ _ (by simp)))
  · have h := heap_alloc_new (w.alloc (.map #[] 0)) (.cells (cellsZ A).toArray 3)
    rw [show (w.alloc (.map #[] 0)).heap.size = w.heap.size + 1 by simp] at h
    exact (Below.heap_alloc _ _ _ (by simp)).trans h
set_option maxHeartbeats 1000000 in
theorem newWindow_is (s : ByteArray) (w : World) (hs : s.size ≤ 100000) :
    Calls Tryd.prog 36 #[.string s] w fun en w' => ∃ W m g, en = .returned (.pointer (some ⟨W, 0, none⟩)) ∧ WinAt w' W s 0 m g ∧ (∀ k ∈ winF W m g, w.heap.size ≤ k) ∧ Below w.heap.size w w' := by
  have hmm := @run_makeMap Tryd.prog
  obtain ⟨N, hN⟩ : ∃ N, min s.size 32768 = N := ⟨_, rfl⟩
  have hmin : min (s.size : Int) 32768 = (N : Int) := by omega
  have hmk := fun W' => make_row N W' (by omega)
  have HA := Lib.hid (winIs_new (w := w) s (asZ (List.replicate N 0)) (by rw [asZ_length, List.length_replicate]; omega))
  have hl : (asZ (List.replicate N 0)).length = N := by rw [asZ_length, List.length_replicate]
  rw [hl] at HA
  obtain ⟨A, hA⟩ : ∃ A, asZ (List.replicate N 0) = A := ⟨_, rfl⟩
  rw [hA] at HA
  simp only [hA] at hmk
  have HB : Hid (Below w.heap.size w (((w.alloc (.map #[] 0)).alloc (.cells (cellsZ A).toArray 3)).alloc (.cells #[.string s, .int .i64 0, .map (some w.heap.size), .slice (some ⟨w.heap.size + 1, 0, none⟩) N N] 68))) := Lib.hid ((((below_same w).alloc (Nat.le_refl _) _).alloc (by simp) _).alloc (by simp; omega) _)
  clear hA hl hN
  go_enter Tryd.func36, Tryd.ntmps36
  go_wp2_with fail
  go_ret
  refine ⟨w.heap.size + 2, w.heap.size, w.heap.size + 1, rfl, HA.out, fun k hk => ?_, HB.out⟩
  simp only [winF, List.mem_cons, List.not_mem_nil, or_false] at hk
  omega
/-- A block and a window, side by side. -/
structure Both (w0 w : World) (B : Nat) (row F : List Nat) (W : Nat) (s : ByteArray) (a m g : Nat) : Prop where
  blk : BlkAt w B row F
  win : WinAt w W s a m g
  below : Below w0.heap.size w0 w
  big : ∀ k ∈ F, w0.heap.size ≤ k
  big2 : ∀ k ∈ winF W m g, w0.heap.size ≤ k
  apart : ∀ k ∈ winF W m g, k ∉ F
theorem Both.later {w0 w w' : World} {B : Nat} {row F : List Nat} {W : Nat} {s : ByteArray} {a m g : Nat} (h : Both w0 w B row F W s a m g) (hb : Below w.heap.size w w') : Both w0 w' B row F W s a m g :=
  ⟨h.blk.later hb, h.win.later hb, h.below.trans (hb.mono h.below.size), h.big, h.big2, h.apart⟩
theorem Both.put {w0 w w' : World} {B : Nat} {row row' F F' : List Nat} {W : Nat} {s : ByteArray} {a m g : Nat} (h : Both w0 w B row F W s a m g) (hk : BlkAt w' B row' F') (ht : Touches F F' w w') : Both w0 w' B row' F' W s a m g :=
  ⟨hk, h.win.move fun k e => (ht.out (h.win.lt k e) (h.apart k e)).1, h.below.trans (ht.below h.below.size h.big), ht.more h.below.size h.big, h.big2, fun k e => (ht.out (h.win.lt k e) (h.apart k e)).2⟩
theorem Both.pass {w0 w w' : World} {B : Nat} {row F : List Nat} {W : Nat} {s : ByteArray} {a a' m g : Nat} (h : Both w0 w B row F W s a m g) (hw : WinAt w' W s a' m g) (ht : Touches (winF W m g) (winF W m g) w w') : Both w0 w' B row F W s a' m g :=
  ⟨h.blk.move ht.size fun k e => (ht.out (h.blk.lt k e) fun e2 => h.apart k e2 e).1, hw, h.below.trans (ht.below h.below.size h.big2), h.big, h.big2, h.apart⟩
theorem btext_is (B : Nat) (row F : List Nat) (w : World) (h : BlkAt w B row F) (hl : row.length ≤ 1000000) {u : ByteArray} (hu : textB row = u.data.toList) :
    Calls Tryd.prog 41 #[.pointer (some ⟨B, 0, none⟩)] w fun en w' => en = .returned (.string u) ∧ Below w.heap.size w w' := by
  obtain ⟨s, d, XS, XD, F0, rfl, h1, h2, h3, h4, h5⟩ := h
  exact wText_is _ _ B row F0 w h1 h5 hl hu
theorem codedN_end {l : List UInt8} {f a : Nat} (h : l.length ≤ a) : codedN l f a = [] := by
  cases f with
  | zero => rfl
  | succ f => rw [codedN, if_pos h]
set_option maxHeartbeats 1000000 in
theorem fixed_is (s : ByteArray) (w : World) (hs : s.size ≤ 70000) (hL : LaidQ w) {u : ByteArray} (hu : fixedZ s.data.toList = u.data.toList) :
    Calls Tryd.prog 18 #[.string s] w fun en w' => en = .returned (.string u) ∧ Below w.heap.size w w' := by
  have HL := Lib.hid hL
  have HU := Lib.hid hu
  have HN := Lib.hid (newBlock_is w)
  have hfl := fixedR_length s.data.toList
  rw [← size_data] at hfl
  have HR : Hid (fixedR s.data.toList = (headB ++ codedN s.data.toList s.size 0) ++ symB 256) := Lib.hid (by rw [size_data]; rfl)
  have HFl := Lib.hid hfl
  clear hL hu hfl
  go_enter Tryd.func18, Tryd.ntmps18
  go_wp2_with fail
  go_step3
  go_wp2_with fail
  refine HN.out.mono ?_
  rintro e w1 ⟨B, F1, rfl, hk, hF, hb⟩
  have HK1 := Lib.hid hk
  have HF1 := Lib.hid hF
  have HB1 := Lib.hid hb
  have HNW := Lib.hid (newWindow_is s w1 (by omega))
  clear hk hF hb HN
  go_wp2_with fail
  refine HNW.out.mono ?_
  rintro e w2 ⟨W, m, g, rfl, hw, hg, hb⟩
  have HI : Hid (Both w w2 B headB F1 W s 0 m g) := Lib.hid ⟨HK1.out.later hb, hw, HB1.out.trans (hb.mono HB1.out.size), HF1.out, fun k hk => Nat.le_trans HB1.out.size (hg k hk), fun k hk e => by have h1 := HK1.out.lt k e; have h2 := hg k hk; omega⟩
  clear hw hg hb HK1 HF1 HB1 HNW
  go_wp2_with fail
  go_step3
  go_wp2_with fail
  go_loopg [5, 6] s.size (fun gg s5 s6 wx => ∃ (a : Nat) (row F : List Nat), s.size ≤ a + gg ∧ a ≤ s.size ∧ row.length ≤ 800000 ∧ Aside (Both w wx B row F W s a m g) ∧ Aside (row ++ (codedN s.data.toList gg a ++ symB 256) = fixedR s.data.toList))
  case atStart => exact ⟨0, headB, F1, by omega, by omega, by show 3 ≤ 800000; omega, HI.out, by show _ = _; rw [HR.out, List.append_assoc]⟩
  case round =>
    obtain ⟨a, row, F, hag, has, hrl, HB, HQ⟩ := hrel
    obtain ⟨cnt, f, A, hwi, _⟩ := HB.out.win
    have c1 := hwi.cell.at'
    clear hwi
    by_cases ha : a < s.size
    · have haz : (a : Int) < (s.size : Int) := by omega
      obtain ⟨n, d, hn⟩ : ∃ n d, nextN s.data.toList a = (n, d) := ⟨_, _, rfl⟩
      obtain ⟨gg, rfl⟩ : ∃ gg, gk = gg + 1 := ⟨gk - 1, by omega⟩
      have HLo := Lib.hid (longest_is W s a m g wr HB.out.win (by omega) ha hn)
      have Hn := Lib.hid hn
      have hnf := nextN_facts s.data.toList a
      rw [hn] at hnf
      have hst : codedN s.data.toList (gg + 1) a = if n = 0 then symB (s[a]'ha).toNat ++ codedN s.data.toList gg (a + 1) else pieceB n d ++ codedN s.data.toList gg (a + n) := by
        rw [codedN, if_neg (by rw [← size_data]; omega), hn, text_get ha]; rfl
      have Hst := Lib.hid hst
      clear hn hst
      go_wp2_with fail
      refine HLo.out.mono ?_
      rintro e w3 ⟨rfl, hb⟩
      have HB3 := Lib.hid (HB.out.later hb)
      obtain ⟨cnt, f, A, hwi, _⟩ := HB3.out.win
      have d1 := hwi.cell.at'
      clear hwi hb HLo c1
      by_cases hn0 : n = 0
      · subst hn0
        have hQ : (row ++ symB (s[a]'ha).toNat) ++ (codedN s.data.toList gg (a + 1) ++ symB 256) = fixedR s.data.toList := by
          have h := HQ.out
          rw [Hst.out, if_pos rfl] at h
          rw [← h]; simp
        have hrl2 : (row ++ symB (s[a]'ha).toNat).length ≤ 800000 := by
          have h := congrArg List.length hQ
          rw [List.length_append] at h
          have := HFl.out
          omega
        have HQ2 := Lib.hid hQ
        have HSy := Lib.hid (symbol_is B (s[a]'ha).toNat row F w3 HB3.out.blk (by omega) (by have := (s[a]'ha).toNat_lt; omega))
        have hw64 : wrap64 ((s[a]'ha).toNat : Int) = ((s[a]'ha).toNat : Int) := i64_nat _ (by have := (s[a]'ha).toNat_lt; omega)
        clear hQ hnf
        go_wp2_with fail
        refine HSy.out.mono ?_
        rintro e w4 ⟨rfl, F4, hk, ht⟩
        have HB4 := Lib.hid (HB3.out.put hk ht)
        have HPa := pass_is W s a m g 1 w4 HB4.out.win (by omega) (by omega)
        rw [show ((1 : Nat) : Int) = 1 from rfl] at HPa
        have HPa := Lib.hid HPa
        clear hk ht d1 HSy
        go_wp2_with fail
        refine HPa.out.mono ?_
        rintro e w5 ⟨rfl, hw, ht⟩
        have HB5 := Lib.hid (HB4.out.pass hw ht)
        clear hw ht HPa
        go_wp2_with fail
        go_roundg gg
        case measure => omega
        case rel => exact ⟨a + 1, _, F4, by omega, by omega, hrl2, HB5.out, HQ2.out⟩
      · obtain ⟨g3, g258, gl, d1', d2', d3'⟩ : 3 ≤ n ∧ n ≤ 258 ∧ a + n ≤ s.size ∧ 1 ≤ d ∧ d ≤ 32768 ∧ d ≤ a := by
          rcases hnf with h | ⟨n', d', h, h1, h2, h3, h4, h5, h6, _⟩
          · exact absurd (Prod.mk.inj h).1 hn0
          · obtain ⟨rfl, rfl⟩ := Prod.mk.inj h
            exact ⟨h1, h2, by rw [size_data]; exact h3, h4, h5, h6⟩
        have hQ : (row ++ pieceB n d) ++ (codedN s.data.toList gg (a + n) ++ symB 256) = fixedR s.data.toList := by
          have h := HQ.out
          rw [Hst.out, if_neg hn0] at h
          rw [← h]; simp
        have hrl2 : (row ++ pieceB n d).length ≤ 800000 := by
          have h := congrArg List.length hQ
          rw [List.length_append] at h
          have := HFl.out
          omega
        have HQ2 := Lib.hid hQ
        have hnz : ((n : Int) == 0) = false := by rw [beq_eq_false_iff_ne]; omega
        have HPi := Lib.hid (bpiece_is B n d row F w w3 HL.out HB3.out.below HB3.out.big HB3.out.blk hrl g3 g258 d1' d2')
        clear hQ hnf d1' d2' d3' hn0
        go_wp2_with fail
        refine HPi.out.mono ?_
        rintro e w4 ⟨rfl, F4, hk, ht⟩
        have HB4 := Lib.hid (HB3.out.put hk ht)
        have HPa := Lib.hid (pass_is W s a m g n w4 HB4.out.win (by omega) gl)
        clear hk ht d1 HPi
        go_wp2_with fail
        refine HPa.out.mono ?_
        rintro e w5 ⟨rfl, hw, ht⟩
        have HB5 := Lib.hid (HB4.out.pass hw ht)
        clear hw ht HPa
        go_wp2_with fail
        go_roundg gg
        case measure => omega
        case rel => exact ⟨a + n, _, F4, by omega, by omega, hrl2, HB5.out, HQ2.out⟩
    · have haz : ¬ (a : Int) < (s.size : Int) := by omega
      have hQ : row ++ symB 256 = fixedR s.data.toList := by
        have h := HQ.out
        rw [codedN_end (by rw [← size_data]; omega)] at h
        simpa using h
      have HQ2 := Lib.hid hQ
      have HSy : Hid (Calls Tryd.prog 38 #[.pointer (some ⟨B, 0, none⟩), .int .i64 256] wr _) := Lib.hid (symbol_is B 256 row F wr HB.out.blk (by omega) (by omega))
      clear hQ
      go_wp2_with fail
      refine HSy.out.mono ?_
      rintro e w4 ⟨rfl, F4, hk, ht⟩
      have HB4 := Lib.hid (HB.out.put hk ht)
      have HTx := Lib.hid (btext_is B _ F4 w4 HB4.out.blk (by rw [HQ2.out]; have := HFl.out; omega) (u := u) (by rw [HQ2.out]; exact HU.out))
      clear hk ht c1 HSy
      go_wp2_with fail
      refine HTx.out.mono ?_
      rintro e w5 ⟨rfl, hb⟩
      have HB5 := Lib.hid (HB4.out.below.trans (hb.mono HB4.out.below.size))
      clear hb HTx
      go_wp2_with fail
      rw [Exit.noGoto_ret]
      go_ret
      exact ⟨rfl, HB5.out⟩
end Go.Proofs.YtboiljclenikbaaDoor
