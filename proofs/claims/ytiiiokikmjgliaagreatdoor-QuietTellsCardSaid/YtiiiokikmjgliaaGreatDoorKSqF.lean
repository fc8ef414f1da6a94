/-
  SqFixed, SqStore: texts merged.
-/
import Derived.Test.YtiiiokikmjgliaaGreatDoorSqNew
import Derived.Test.YtiiiokikmjgliaaGreatDoorSqPiece
import Derived.Test.YtiiiokikmjgliaaGreatDoorSqLongest
import Derived.Test.YtiiiokikmjgliaaGreatDoorKWin
import Derived.Test.YtiiiokikmjgliaaGreatDoorKPlain
import Derived.Test.YtiiiokikmjgliaaGreatDoorKRows
import Derived.Test.YtiiiokikmjgliaaGreatDoorKHeld
import Derived.Deep.LoopGhost
/-
  The contracts of package squeeze's newWindow and Fixed.
-/
namespace Go.Proofs.YtiiiokikmjgliaaGreatDoor
section
open Go.RowKit
set_option maxRecDepth 100000
theorem winIs_new {w : World} (s : ByteArray) (A : List Int) (hA : A.length = min s.size 32768) :
    WinAt (((w.alloc (.map #[] 0)).alloc (.cells (cellsZ A).toArray 3)).alloc (.cells #[.string s, .int .i64 0, .map (some w.heap.size), .slice (some ⟨w.heap.size + 1, 0, none⟩) A.length A.length] 152)) (w.heap.size + 2) s 0 w.heap.size (w.heap.size + 1) := by
  refine ⟨0, fun _ => none, A, ⟨?_, ?_, ?_, by omega, by omega, by omega⟩, Nat.le_refl _, last_none _, ahead_none _ _, hA⟩
  · have h := heap_alloc_new ((w.alloc (.map #[] 0)).alloc (.cells (cellsZ A).toArray 3)) (.cells #[.string s, .int .i64 0, .map (some w.heap.size), .slice (some ⟨w.heap.size + 1, 0, none⟩) A.length A.length] 152)
    rwa [show ((w.alloc (.map #[] 0)).alloc (.cells (cellsZ A).toArray 3)).heap.size = w.heap.size + 2 by simp] at h
  · have h0 : MapIs (w.alloc (.map #[] 0)) w.heap.size 0 fun _ => none := ⟨.map [], World.ownsMap_made _ _ _ _, tells_none⟩
    exact h0.move ((Below.heap_alloc _ _ _ (by simp; omega)).trans (Below.heap_alloc _ _ _ (by simp)))
  · have h := heap_alloc_new (w.alloc (.map #[] 0)) (.cells (cellsZ A).toArray 3)
    rw [show (w.alloc (.map #[] 0)).heap.size = w.heap.size + 1 by simp] at h
    exact (Below.heap_alloc _ _ _ (by simp)).trans h
set_option maxHeartbeats 1000000 in
theorem newWindow_is (s : ByteArray) (w : World) (hs : s.size ≤ 100000) :
    Calls Tryz.prog 134 #[.string s] w fun en w' => ∃ W m g, en = .returned (.pointer (some ⟨W, 0, none⟩)) ∧ WinAt w' W s 0 m g ∧ (∀ k ∈ winF W m g, w.heap.size ≤ k) ∧ Below w.heap.size w w' := by
  have hmm := @run_makeMap Tryz.prog
  obtain ⟨N, hN⟩ : ∃ N, min s.size 32768 = N := ⟨_, rfl⟩
  have hmin : min (s.size : Int) 32768 = (N : Int) := by omega
  have hmk := fun W' => make_row N W' (by omega)
  have HA := Lib.hid (winIs_new (w := w) s (asZ (List.replicate N 0)) (by rw [asZ_length, List.length_replicate]; omega))
  have hl : (asZ (List.replicate N 0)).length = N := by rw [asZ_length, List.length_replicate]
  rw [hl] at HA
  obtain ⟨A, hA⟩ : ∃ A, asZ (List.replicate N 0) = A := ⟨_, rfl⟩
  rw [hA] at HA
  simp only [hA] at hmk
  have HB : Hid (Below w.heap.size w (((w.alloc (.map #[] 0)).alloc (.cells (cellsZ A).toArray 3)).alloc (.cells #[.string s, .int .i64 0, .map (some w.heap.size), .slice (some ⟨w.heap.size + 1, 0, none⟩) N N] 152))) := Lib.hid ((((below_same w).alloc (Nat.le_refl _) _).alloc (by simp) _).alloc (by simp; omega) _)
  clear hA hl hN
  go_enter Tryz.func134, Tryz.ntmps134
  go_wp2_with fail
  go_ret
  refine ⟨w.heap.size + 2, w.heap.size, w.heap.size + 1, rfl, HA.out, fun k hk => ?_, HB.out⟩
  simp only [winF, List.mem_cons, List.not_mem_nil, or_false] at hk
  omega
structure Both (w0 w : World) (B : Nat) (row F : List Nat) (W : Nat) (s : ByteArray) (a m g : Nat) : Prop where
  blk : BlkAt w B row F
  win : WinAt w W s a m g
  below : Below w0.heap.size w0 w
  big : ∀ k ∈ F, w0.heap.size ≤ k
  big2 : ∀ k ∈ winF W m g, w0.heap.size ≤ k
  apart : ∀ k ∈ winF W m g, k ∉ F
theorem Both.later {w0 w w' : World} {B : Nat} {row F : List Nat} {W : Nat} {s : ByteArray} {a m g : Nat} (h : Both w0 w B row F W s a m g) (hb : Below w.heap.size w w') : Both w0 w' B row F W s a m g :=
  ⟨h.blk.later hb, h.win.later hb, h.below.trans (hb.mono h.below.size), h.big, h.big2, h.apart⟩
theorem Both.put {w0 w w' : World} {B : Nat} {row row' F F' : List Nat} {W : Nat} {s : ByteArray} {a m g : Nat} (h : Both w0 w B row F W s a m g) (hk : BlkAt w' B row' F') (ht : Touches F F' w w') : Both w0 w' B row' F' W s a m g :=
  ⟨hk, h.win.move fun k e => (ht.out (h.win.lt k e) (h.apart k e)).1, h.below.trans (ht.below h.below.size h.big), ht.more h.below.size h.big, h.big2, fun k e => (ht.out (h.win.lt k e) (h.apart k e)).2⟩
theorem Both.pass {w0 w w' : World} {B : Nat} {row F : List Nat} {W : Nat} {s : ByteArray} {a a' m g : Nat} (h : Both w0 w B row F W s a m g) (hw : WinAt w' W s a' m g) (ht : Touches (winF W m g) (winF W m g) w w') : Both w0 w' B row F W s a' m g :=
  ⟨h.blk.move ht.size fun k e => (ht.out (h.blk.lt k e) fun e2 => h.apart k e2 e).1, hw, h.below.trans (ht.below h.below.size h.big2), h.big, h.big2, h.apart⟩
theorem btext_is (B : Nat) (row F : List Nat) (w : World) (h : BlkAt w B row F) (hl : row.length ≤ 1000000) {u : ByteArray} (hu : textB row = u.data.toList) :
    Calls Tryz.prog 139 #[.pointer (some ⟨B, 0, none⟩)] w fun en w' => en = .returned (.string u) ∧ Below w.heap.size w w' := by
  obtain ⟨s, d, XS, XD, F0, rfl, h1, h2, h3, h4, h5⟩ := h
  exact wText_is _ _ B row F0 w h1 h5 hl hu
theorem codedN_end {l : List UInt8} {f a : Nat} (h : l.length ≤ a) : codedN l f a = [] := by
  cases f with
  | zero => rfl
  | succ f => rw [codedN, if_pos h]
set_option maxHeartbeats 1000000 in
theorem fixed_is (s : ByteArray) (w : World) (hs : s.size ≤ 70000) (hL : LaidQ w) {u : ByteArray} (hu : fixedZ s.data.toList = u.data.toList) :
    Calls Tryz.prog 114 #[.string s] w fun en w' => en = .returned (.string u) ∧ Below w.heap.size w w' := by
  have HL := Lib.hid hL
  have HU := Lib.hid hu
  have HN := Lib.hid (newBlock_is w)
  have hfl := fixedR_length s.data.toList
  rw [← size_data] at hfl
  have HR : Hid (fixedR s.data.toList = (headB ++ codedN s.data.toList s.size 0) ++ symB 256) := Lib.hid (by rw [size_data]; rfl)
  have HFl := Lib.hid hfl
  clear hL hu hfl
  go_enter Tryz.func114, Tryz.ntmps114
  go_wp2_with fail
  go_step3
  go_wp2_with fail
  refine HN.out.mono ?_
  rintro e w1 ⟨B, F1, rfl, hk, hF, hb⟩
  have HK1 := Lib.hid hk
  have HF1 := Lib.hid hF
  have HB1 := Lib.hid hb
  have HNW := Lib.hid (newWindow_is s w1 (by omega))
  clear hk hF hb HN
  go_wp2_with fail
  refine HNW.out.mono ?_
  rintro e w2 ⟨W, m, g, rfl, hw, hg, hb⟩
  have HI : Hid (Both w w2 B headB F1 W s 0 m g) := Lib.hid ⟨HK1.out.later hb, hw, HB1.out.trans (hb.mono HB1.out.size), HF1.out, fun k hk => Nat.le_trans HB1.out.size (hg k hk), fun k hk e => by have h1 := HK1.out.lt k e; have h2 := hg k hk; omega⟩
  clear hw hg hb HK1 HF1 HB1 HNW
  go_wp2_with fail
  go_step3
  go_wp2_with fail
  go_loopg [5, 6] s.size (fun gg s5 s6 wx => ∃ (a : Nat) (row F : List Nat), s.size ≤ a + gg ∧ a ≤ s.size ∧ row.length ≤ 800000 ∧ Aside (Both w wx B row F W s a m g) ∧ Aside (row ++ (codedN s.data.toList gg a ++ symB 256) = fixedR s.data.toList))
  case atStart => exact ⟨0, headB, F1, by omega, by omega, by show 3 ≤ 800000; omega, HI.out, by show _ = _; rw [HR.out, List.append_assoc]⟩
  case round =>
    obtain ⟨a, row, F, hag, has, hrl, HB, HQ⟩ := hrel
    obtain ⟨cnt, f, A, hwi, _⟩ := HB.out.win
    have c1 := hwi.cell.at'
    clear hwi
    by_cases ha : a < s.size
    · have haz : (a : Int) < (s.size : Int) := by omega
      obtain ⟨n, d, hn⟩ : ∃ n d, nextN s.data.toList a = (n, d) := ⟨_, _, rfl⟩
      obtain ⟨gg, rfl⟩ : ∃ gg, gk = gg + 1 := ⟨gk - 1, by omega⟩
      have HLo := Lib.hid (longest_is W s a m g wr HB.out.win (by omega) ha hn)
      have Hn := Lib.hid hn
      have hnf := nextN_facts s.data.toList a
      rw [hn] at hnf
      have hst : codedN s.data.toList (gg + 1) a = if n = 0 then symB (s[a]'ha).toNat ++ codedN s.data.toList gg (a + 1) else pieceB n d ++ codedN s.data.toList gg (a + n) := by
        rw [codedN, if_neg (by rw [← size_data]; omega), hn, text_get ha]; rfl
      have Hst := Lib.hid hst
      clear hn hst
      go_wp2_with fail
      refine HLo.out.mono ?_
      rintro e w3 ⟨rfl, hb⟩
      have HB3 := Lib.hid (HB.out.later hb)
      obtain ⟨cnt, f, A, hwi, _⟩ := HB3.out.win
      have d1 := hwi.cell.at'
      clear hwi hb HLo c1
      by_cases hn0 : n = 0
      · subst hn0
        have hQ : (row ++ symB (s[a]'ha).toNat) ++ (codedN s.data.toList gg (a + 1) ++ symB 256) = fixedR s.data.toList := by
          have h := HQ.out
          rw [Hst.out, if_pos rfl] at h
          rw [← h]; simp
        have hrl2 : (row ++ symB (s[a]'ha).toNat).length ≤ 800000 := by
          have h := congrArg List.length hQ
          rw [List.length_append] at h
          have := HFl.out
          omega
        have HQ2 := Lib.hid hQ
        have HSy := Lib.hid (symbol_is B (s[a]'ha).toNat row F w3 HB3.out.blk (by omega) (by have := (s[a]'ha).toNat_lt; omega))
        have hw64 : wrap64 ((s[a]'ha).toNat : Int) = ((s[a]'ha).toNat : Int) := i64_nat _ (by have := (s[a]'ha).toNat_lt; omega)
        clear hQ hnf
        go_wp2_with fail
        refine HSy.out.mono ?_
        rintro e w4 ⟨rfl, F4, hk, ht⟩
        have HB4 := Lib.hid (HB3.out.put hk ht)
        have HPa := pass_is W s a m g 1 w4 HB4.out.win (by omega) (by omega)
        rw [show ((1 : Nat) : Int) = 1 from rfl] at HPa
        have HPa := Lib.hid HPa
        clear hk ht d1 HSy
        go_wp2_with fail
        refine HPa.out.mono ?_
        rintro e w5 ⟨rfl, hw, ht⟩
        have HB5 := Lib.hid (HB4.out.pass hw ht)
        clear hw ht HPa
        go_wp2_with fail
        go_roundg gg
        case measure => omega
        case rel => exact ⟨a + 1, _, F4, by omega, by omega, hrl2, HB5.out, HQ2.out⟩
      · obtain ⟨g3, g258, gl, d1', d2', d3'⟩ : 3 ≤ n ∧ n ≤ 258 ∧ a + n ≤ s.size ∧ 1 ≤ d ∧ d ≤ 32768 ∧ d ≤ a := by
          rcases hnf with h | ⟨n', d', h, h1, h2, h3, h4, h5, h6, _⟩
          · exact absurd (Prod.mk.inj h).1 hn0
          · obtain ⟨rfl, rfl⟩ := Prod.mk.inj h
            exact ⟨h1, h2, by rw [size_data]; exact h3, h4, h5, h6⟩
        have hQ : (row ++ pieceB n d) ++ (codedN s.data.toList gg (a + n) ++ symB 256) = fixedR s.data.toList := by
          have h := HQ.out
          rw [Hst.out, if_neg hn0] at h
          rw [← h]; simp
        have hrl2 : (row ++ pieceB n d).length ≤ 800000 := by
          have h := congrArg List.length hQ
          rw [List.length_append] at h
          have := HFl.out
          omega
        have HQ2 := Lib.hid hQ
        have hnz : ((n : Int) == 0) = false := by rw [beq_eq_false_iff_ne]; omega
        have HPi := Lib.hid (bpiece_is B n d row F w w3 HL.out HB3.out.below HB3.out.big HB3.out.blk hrl g3 g258 d1' d2')
        clear hQ hnf d1' d2' d3' hn0
        go_wp2_with fail
        refine HPi.out.mono ?_
        rintro e w4 ⟨rfl, F4, hk, ht⟩
        have HB4 := Lib.hid (HB3.out.put hk ht)
        have HPa := Lib.hid (pass_is W s a m g n w4 HB4.out.win (by omega) gl)
        clear hk ht d1 HPi
        go_wp2_with fail
        refine HPa.out.mono ?_
        rintro e w5 ⟨rfl, hw, ht⟩
        have HB5 := Lib.hid (HB4.out.pass hw ht)
        clear hw ht HPa
        go_wp2_with fail
        go_roundg gg
        case measure => omega
        case rel => exact ⟨a + n, _, F4, by omega, by omega, hrl2, HB5.out, HQ2.out⟩
    · have haz : ¬ (a : Int) < (s.size : Int) := by omega
      have hQ : row ++ symB 256 = fixedR s.data.toList := by
        have h := HQ.out
        rw [codedN_end (by rw [← size_data]; omega)] at h
        simpa using h
      have HQ2 := Lib.hid hQ
      have HSy : Hid (Calls Tryz.prog 136 #[.pointer (some ⟨B, 0, none⟩), .int .i64 256] wr _) := Lib.hid (symbol_is B 256 row F wr HB.out.blk (by omega) (by omega))
      clear hQ
      go_wp2_with fail
      refine HSy.out.mono ?_
      rintro e w4 ⟨rfl, F4, hk, ht⟩
      have HB4 := Lib.hid (HB.out.put hk ht)
      have HTx := Lib.hid (btext_is B _ F4 w4 HB4.out.blk (by rw [HQ2.out]; have := HFl.out; omega) (u := u) (by rw [HQ2.out]; exact HU.out))
      clear hk ht c1 HSy
      go_wp2_with fail
      refine HTx.out.mono ?_
      rintro e w5 ⟨rfl, hb⟩
      have HB5 := Lib.hid (HB4.out.below.trans (hb.mono HB4.out.below.size))
      clear hb HTx
      go_wp2_with fail
      rw [Exit.noGoto_ret]
      go_ret
      exact ⟨rfl, HB5.out⟩
end
end Go.Proofs.YtiiiokikmjgliaaGreatDoor
/-
  The contracts of package squeeze's appendStored, Stored.
-/
namespace Go.Proofs.YtiiiokikmjgliaaGreatDoor
section
open Go.RowKit
set_option maxRecDepth 100000
theorem wpList_append8n {ops : Array Oper} {rest : List Oper} {o : Oper} {a : Act} {w : World} {Q : Exit → Act → World → Prop} (hgd : o.guard = none) (s x : Operand)
    (ho : o.op = .call { callee := .builtin .append, args := #[s, x], argTypes := #[64, 64] })
    (B : Nat) (v : Value) (l : List UInt8) (hs : a.eval s = v) (h1 : w.ownsRow B 5 1 v l.length (cellsB l))
    (ad : Addr) (c : Nat) (news : List UInt8) (hx : a.eval x = .slice (some ad) news.length c) (hnews : ∀ j (h : j < news.length), w.cell? (ad.add j) = some (.int .u8 (news[j].toNat : Int)))
    (hm : 0 < news.length) (hlen : l.length + news.length ≤ 140737488355328) (W0 : World) (hb : Below B W0 w) (hB : B ≤ w.heap.size)
    (h : ∀ v' w', Hid (Own8 w' B v' (l ++ news)) → Hid (Below B W0 w') → wpList Tryz.prog ops Q rest (a.put o.dst v') w') : wpList Tryz.prog ops Q (o :: rest) a w :=
  wpList_plain hgd fun _ hK => by
    obtain ⟨i0, hi, hz0, hz1, hz2⟩ := info_parts info8
    refine wp_append_lies w s x 64 ho B 5 i0 (.int .u8 0) 1 1 Tryz.underlying64 hi hz0 hz1 hz2 rfl (by decide) _ _ _ hs h1 ad news.length c (cellsB news) hx (by rw [cellsB_length, Nat.mul_one]) ?_ (cellsB_one _) hm (by unfold maxLen; omega) (by omega) hB _ rfl ?_
    · intro j u hj
      have hl : j < news.length := by
        have := (List.getElem?_eq_some_iff.1 hj).1
        rwa [cellsB_length] at this
      rw [cellsB_at hl] at hj
      rw [← hj]; exact hnews j hl
    · intro g' cap' w' hown' hgrow _ _
      have hform : ∃ g cap, Value.slice (some ⟨g', 0, none⟩) (l.length + news.length) cap' = .slice (some ⟨g, 0, none⟩) (l.length + news.length) cap := ⟨_, _, rfl⟩
      refine hK _ _ (h _ w' (Lib.hid ?_) (Lib.hid (hb.grown hgrow hB (fun k ek => (h1.lt k ek).1))))
      have := own_ends (k := (l ++ news).length) (by rw [List.length_append]) hown' hform
      unfold Own8
      rw [cellsB_append]
      exact this
theorem cells_new5 (W : World) (a b c d e : UInt8) : ∀ j (h : j < [a, b, c, d, e].length), (W.alloc (.cells #[.int .u8 (a.toNat : Int), .int .u8 (b.toNat : Int), .int .u8 (c.toNat : Int), .int .u8 (d.toNat : Int), .int .u8 (e.toNat : Int)] 5)).cell? ((⟨W.heap.size, 0, none⟩ : Addr).add j) = some (.int .u8 ([a, b, c, d, e][j].toNat : Int)) := by
  intro j h
  rw [Addr.add_lit, Nat.zero_add, World.cell?_alloc_new]
  match j, h with
  | 0, _ => rfl
  | 1, _ => rfl
  | 2, _ => rfl
  | 3, _ => rfl
  | 4, _ => rfl
theorem xor_all : ∀ r : Fin 256, bits .xor .u8 IntKind.u8.max (r.val : Int) = ((255 - r.val : Nat) : Int) := by decide +kernel
theorem byte_cell (n : Nat) (h : n < 256) : ((UInt8.ofNat n).toNat : Int) = (n : Int) := by rw [UInt8.toNat_ofNat']; omega
set_option maxHeartbeats 1000000 in
theorem appendStored_is (B : Nat) (W0 : World) (v : Value) (l : List UInt8) (s : ByteArray) (last : UInt8) (w : World) (h : w.ownsRow B 5 1 v l.length (cellsB l)) (hl : l.length ≤ 1000000) (hs : s.size ≤ 65535) (hb : Below B W0 w) (hB0 : B ≤ W0.heap.size) :
    Calls Tryz.prog 140 #[v, .int .u8 (last.toNat : Int), .string s] w fun en w' => ∃ v', en = .returned v' ∧ Own8 w' B v' (l ++ blockZ last.toNat s.data.toList) ∧ Below B W0 w' := by
  have hB := Nat.le_trans hB0 hb.size
  obtain ⟨q, hq⟩ : ∃ q, s.size / 256 = q := ⟨_, rfl⟩
  obtain ⟨r, hr⟩ : ∃ r, s.size % 256 = r := ⟨_, rfl⟩
  have hq8 : q < 256 := by omega
  have hr8 : r < 256 := by omega
  have hdz : (s.size : Int) / 256 = (q : Int) := by omega
  have hmz : (s.size : Int) % 256 = (r : Int) := by omega
  have hqz : (q : Int) % 256 = (q : Int) := by omega
  have hx1 := xor_all ⟨r, hr8⟩
  have hx2 := xor_all ⟨q, hq8⟩
  simp only at hx1 hx2
  have Hnews := Lib.hid (fun W => cells_new5 W last (UInt8.ofNat r) (UInt8.ofNat q) (UInt8.ofNat (255 - r)) (UInt8.ofNat (255 - q)))
  simp only [byte_cell r hr8, byte_cell q hq8, byte_cell (255 - r) (by omega), byte_cell (255 - q) (by omega)] at Hnews
  have HZ : Hid (blockZ last.toNat s.data.toList = [last, UInt8.ofNat r, UInt8.ofNat q, UInt8.ofNat (255 - r), UInt8.ofNat (255 - q)] ++ s.data.toList) := Lib.hid (by
    unfold blockZ
    rw [← size_data, hr, hq, show (65535 - s.size) % 256 = 255 - r by omega, show (65535 - s.size) / 256 = 255 - q by omega]
    simp)
  have H := Lib.hid h
  have HB := Lib.hid hb
  clear h hb hq hr
  go_enter Tryz.func140, Tryz.ntmps140
  go_wp2_with (at_builtin; first | (simp only [show (if IntKind.u8.signed = true then (-1 : Int) else IntKind.u8.max) = IntKind.u8.max from rfl, hx1, hx2]; refine wpList_append8n rfl (.tmp 16) (.tmp 24) rfl B _ l rfl (H.out.alloc _) ⟨w.heap.size, 0, none⟩ 5 [last, UInt8.ofNat r, UInt8.ofNat q, UInt8.ofNat (255 - r), UInt8.ofNat (255 - q)] rfl (Hnews.out _) (by simp) (by simp; omega) W0 (HB.out.alloc hB _) (by simp; omega) ?_; intro v1 w1 Ho1 Hb1) | (refine wpList_append8s rfl (.tmp 26) (.tmp 27) rfl B _ _ rfl Ho1.out s rfl (by simp; omega) W0 Hb1.out (Nat.le_trans hB0 Hb1.out.size) ?_; intro v2 w2 Ho2 Hb2 _))
  go_ret
  exact ⟨_, rfl, by rw [HZ.out, ← List.append_assoc]; exact Ho2.out, Hb2.out⟩
theorem text_rest (t : ByteArray) {k : Nat} (h : k ≤ t.size) : (t.extract k t.size).data.toList = t.data.toList.drop k := by
  have e : (t.extract k (k + (t.size - k))).data.toList = (t.data.toList.drop k).take (t.size - k) := by simp
  rw [show k + (t.size - k) = t.size by omega] at e
  rw [e, List.take_of_length_le (by rw [List.length_drop, ← size_data]; exact Nat.le_refl _)]
theorem storedN_succ (f : Nat) (l : List UInt8) : storedN (f + 1) l = if 65535 < l.length then blockZ 0 (l.take 65535) ++ storedN f (l.drop 65535) else blockZ 1 l := rfl
theorem storedN_last {f : Nat} {l : List UInt8} (h : l.length ≤ 65535) : storedN f l = blockZ 1 l := by
  cases f with
  | zero => rfl
  | succ f => rw [storedN_succ, if_neg (by omega)]
set_option maxHeartbeats 1000000 in
theorem qstored_is (s : ByteArray) (w : World) (hs : s.size ≤ 900000) {u : ByteArray} (hu : storedZ s.data.toList = u.data.toList) :
    Calls Tryz.prog 115 #[.string s] w fun en w' => en = .returned (.string u) ∧ Below w.heap.size w w' := by
  have HU := Lib.hid hu
  have hl := storedZ_length s.data.toList
  rw [← size_data] at hl
  have HLn : Hid ((storedZ s.data.toList).length ≤ 1000000) := Lib.hid (by omega)
  clear hu hl
  go_enter Tryz.func115, Tryz.ntmps115
  go_wp2_with fail
  go_loopg [0, 3] s.size (fun gg s0 s3 wx => ∃ (t : ByteArray) (l : List UInt8), s0 = .string t ∧ t.size ≤ 65535 + gg ∧ t.size ≤ 900000 ∧ l.length ≤ 1000000 ∧ Aside (wx.ownsRow w.heap.size 5 1 s3 l.length (cellsB l)) ∧ Aside (l ++ storedN gg t.data.toList = storedZ s.data.toList) ∧ Below w.heap.size w wx)
  case atStart => exact ⟨s, [], rfl, by omega, hs, by simp, World.ownsRow_nil _ _ _ _, by show _ = _; unfold storedZ; rw [← size_data]; rfl, Below.refl _ _⟩
  case round =>
    obtain ⟨t, l, rfl, htg, hts, hll, HO, HQ, hb⟩ := hrel
    have Hb := Lib.hid hb
    clear hb
    by_cases hbig : 65535 < t.size
    · have hbz : (65535 : Int) < (t.size : Int) := by omega
      obtain ⟨gg, rfl⟩ : ∃ gg, gk = gg + 1 := ⟨gk - 1, by omega⟩
      have e1 : (t.extract 0 65535).data.toList = t.data.toList.take 65535 := by simp
      have e2 : (t.extract 65535 t.size).data.toList = t.data.toList.drop 65535 := text_rest t (by omega)
      have e3 : (t.extract 0 65535).size = 65535 := by rw [size_data, e1, List.length_take, ← size_data]; omega
      have e4 : (t.extract 65535 t.size).size = t.size - 65535 := by rw [size_data, e2, List.length_drop, ← size_data]
      have HA := appendStored_is w.heap.size w _ l (t.extract 0 65535) 0 wr HO.out hll (by omega) Hb.out (Nat.le_refl _)
      rw [show (((0 : UInt8).toNat : Nat) : Int) = 0 from rfl] at HA
      have HA := Lib.hid HA
      have hQ : (l ++ blockZ 0 (t.extract 0 65535).data.toList) ++ storedN gg (t.extract 65535 t.size).data.toList = storedZ s.data.toList := by
        have h := HQ.out
        rw [storedN_succ, if_pos (by rw [← size_data]; exact hbig)] at h
        rw [e1, e2, List.append_assoc]; exact h
      have HQ2 := Lib.hid hQ
      have hl2 : (l ++ blockZ 0 (t.extract 0 65535).data.toList).length ≤ 1000000 := by
        have h := congrArg List.length hQ
        rw [List.length_append] at h
        have := HLn.out
        omega
      clear hQ e1 e2 e3
      go_wp2_with fail
      refine HA.out.mono ?_
      rintro e w1 ⟨v1, rfl, ho, hb⟩
      have HO1 := Lib.hid ho.1
      have HB1 := Lib.hid hb
      clear ho hb HA
      go_wp2_with fail
      go_roundg gg
      case measure => omega
      case rel => exact ⟨t.extract 65535 t.size, _, rfl, by omega, by omega, hl2, HO1.out, HQ2.out, HB1.out⟩
    · have hbz : ¬ (65535 : Int) < (t.size : Int) := by omega
      have HA := appendStored_is w.heap.size w _ l t 1 wr HO.out hll (by omega) Hb.out (Nat.le_refl _)
      rw [show (((1 : UInt8).toNat : Nat) : Int) = 1 from rfl] at HA
      have HA := Lib.hid HA
      have hQ : l ++ blockZ 1 t.data.toList = u.data.toList := by
        have h := HQ.out
        rw [storedN_last (by rw [← size_data]; omega)] at h
        rw [h, HU.out]
      have HQ2 := Lib.hid hQ
      clear hQ
      go_wp2_with fail
      refine HA.out.mono ?_
      rintro e w1 ⟨v1, rfl, ho, hb⟩
      have htx := ho.text
      rw [show ((1 : UInt8).toNat) = 1 from rfl, HQ2.out, ← bytes_eq (rfl : u.data.toList = _)] at htx
      have HB1 := Lib.hid hb
      clear ho hb HA
      go_wp2_with fail
      go_ret
      exact ⟨rfl, HB1.out⟩
end
end Go.Proofs.YtiiiokikmjgliaaGreatDoor
