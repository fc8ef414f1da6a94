/-
  The contracts of bitrow's Reader: New, Get, At.
-/
import Derived.Test.YtahanllbaclokaaBitWriter
namespace Go.Proofs.Ytahanllbaclokaa
open Go.RowKit
/-- A reader's object. -/
def RdCell (w : World) (b : Nat) (s : ByteArray) (next : Nat) (L : List Nat) : Prop := w.heap[b]? = some (.cells #[.int .i64 (numB L : Int), .int .i64 (L.length : Int), .string s, .int .i64 (next : Int)] 67 (0, 0))
theorem RdCell.held {w : World} {b : Nat} {s : ByteArray} {next : Nat} {L : List Nat} (h : RdCell w b s next L) : w.cell? ⟨b, 0, none⟩ = some (.int .i64 (numB L : Int)) := by rw [cell_of_row _ _ _ _ _ _ h]; rfl
theorem RdCell.count {w : World} {b : Nat} {s : ByteArray} {next : Nat} {L : List Nat} (h : RdCell w b s next L) : w.cell? ⟨b, 1, none⟩ = some (.int .i64 (L.length : Int)) := by rw [cell_of_row _ _ _ _ _ _ h]; rfl
theorem RdCell.text {w : World} {b : Nat} {s : ByteArray} {next : Nat} {L : List Nat} (h : RdCell w b s next L) : w.cell? ⟨b, 2, none⟩ = some (.string s) := by rw [cell_of_row _ _ _ _ _ _ h]; rfl
theorem RdCell.next {w : World} {b : Nat} {s : ByteArray} {next : Nat} {L : List Nat} (h : RdCell w b s next L) : w.cell? ⟨b, 3, none⟩ = some (.int .i64 (next : Int)) := by rw [cell_of_row _ _ _ _ _ _ h]; rfl
theorem RdCell.free {w : World} {b : Nat} {s : ByteArray} {next : Nat} {L : List Nat} (h : RdCell w b s next L) (j : Nat) : w.frozen? ⟨b, j, none⟩ = false := frozen_of_row _ _ _ _ _ h
theorem RdCell.lt {w : World} {b : Nat} {s : ByteArray} {next : Nat} {L : List Nat} (h : RdCell w b s next L) : b < w.heap.size := by
  rcases Nat.lt_or_ge b w.heap.size with h' | h'
  · exact h'
  · unfold RdCell at h; rw [Array.getElem?_eq_none h'] at h; cases h
theorem RdCell.two {w : World} {b : Nat} {s : ByteArray} {next : Nat} {L : List Nat} (h : RdCell w b s next L) (L' : List Nat) : RdCell (twoSet w b (numB L') (L'.length : Nat)) b s next L' := by
  have h1 := heap_setCell_same _ _ 0 _ _ (.int .i64 (numB L' : Int)) h
  exact heap_setCell_same _ _ 1 _ _ (.int .i64 (L'.length : Int)) h1
theorem RdCell.put {w : World} {b : Nat} {s : ByteArray} {next : Nat} {L : List Nat} (h : RdCell w b s next L) (n' : Nat) : RdCell (w.setCell ⟨b, 3, none⟩ (.int .i64 (n' : Int))) b s n' L := heap_setCell_same _ _ 3 _ _ (.int .i64 (n' : Int)) h
theorem RdCell.put_int {w : World} {b : Nat} {s : ByteArray} {next : Nat} {L : List Nat} (h : RdCell w b s next L) {n' : Nat} {z : Int} (hz : z = (n' : Int)) : RdCell (w.setCell ⟨b, 3, none⟩ (.int .i64 z)) b s n' L := by
  subst hz; exact h.put n'

/-- A reader of s, of whose bits so many were read. -/
def ReaderAt (w : World) (b : Nat) (s : ByteArray) (pos : Nat) (F : List Nat) : Prop := ∃ next L, F = [b] ∧ L.length < 8 ∧ HeldR s.data.toList pos next L ∧ RdCell w b s next L
theorem ReaderAt.lt {w : World} {b : Nat} {s : ByteArray} {pos : Nat} {F : List Nat} (h : ReaderAt w b s pos F) : ∀ k ∈ F, k < w.heap.size := by
  obtain ⟨next, L, rfl, _, _, h⟩ := h
  intro k hk
  obtain rfl : k = b := by simpa using hk
  exact h.lt
theorem ReaderAt.move {w w' : World} {b : Nat} {s : ByteArray} {pos : Nat} {F : List Nat} (h : ReaderAt w b s pos F) (_ : w.heap.size ≤ w'.heap.size) (hk : ∀ k ∈ F, w'.heap[k]? = w.heap[k]?) : ReaderAt w' b s pos F := by
  obtain ⟨next, L, rfl, h1, h2, h⟩ := h
  exact ⟨next, L, rfl, h1, h2, (hk b (by simp)).trans h⟩

theorem ReaderAt.later' {w w' : World} {b : Nat} {s : ByteArray} {pos : Nat} {F : List Nat} (h : ReaderAt w b s pos F) (hb : Below w.drew.heap.size w.drew w') : ReaderAt w' b s pos F := h.move hb.size fun k hk => hb.block k (h.lt k hk)
theorem rNew_is (s : ByteArray) (w : World) (_hs : s.size ≤ 100000) :
    Calls Try.prog 15 #[.string s] w fun en w' => ∃ b F, en = .returned (.pointer (some ⟨b, 0, none⟩)) ∧ ReaderAt w' b s 0 F ∧ (∀ k ∈ F, w.heap.size ≤ k) ∧ Below w.heap.size w w' := by
  go_enter Try.func15, Try.ntmps15
  go_wp2_with fail
  go_ret
  exact ⟨w.heap.size, [w.heap.size], rfl, ⟨0, [], rfl, by decide, ⟨rfl, rfl, Nat.zero_le _⟩, heap_alloc_new w _⟩, by simp, (below_same w).alloc (Nat.le_refl _) _⟩

theorem rGet_nil (width : Int) (w : World) : Calls Try.prog 32 #[.pointer none, .int .i64 width] w fun en w' => en = .returned (.tuple #[.int .i64 0, .int .i64 1]) ∧ Below w.heap.size w w' := by
  go_enter Try.func32, Try.ntmps32
  go_wp2_with fail
  go_ret2
  exact ⟨rfl, below_same _⟩
theorem rAt_nil (w : World) : Calls Try.prog 19 #[.pointer none] w fun en w' => en = .returned (.int .i64 0) ∧ Below w.heap.size w w' := by
  go_enter Try.func19, Try.ntmps19
  go_wp2_with fail
  go_ret
  exact ⟨rfl, below_same _⟩

set_option maxHeartbeats 1000000 in
theorem rAt_is (b : Nat) (s : ByteArray) (pos : Nat) (F : List Nat) (w : World) (h : ReaderAt w b s pos F) (_hp : pos ≤ 8 * s.size) (hs : s.size ≤ 100000) :
    Calls Try.prog 19 #[.pointer (some ⟨b, 0, none⟩)] w fun en w' => en = .returned (.int .i64 (pos : Int)) ∧ Below w.heap.size w w' := by
  obtain ⟨next, L, hF, hL, hH, hC⟩ := h
  have c1 := hC.count
  have c3 := hC.next
  have h1 := hH.2.1
  have h2 := hH.2.2
  rw [← size_data] at h2
  have HR : Hid (8 * (next : Int) - (L.length : Int) = (pos : Int)) := Lib.hid (by omega)
  clear hH hC h1 hF
  go_enter Try.func19, Try.ntmps19
  go_wp2_with fail
  go_region
  all_goals
    go_wp2_with fail
    go_ret
    exact ⟨ret_int HR.out, (below_same w).drew⟩

set_option maxHeartbeats 1000000 in
theorem rGet_arg (b : Addr) (width : Int) (w : World) (hw : width < 0 ∨ 16 < width) :
    Calls Try.prog 32 #[.pointer (some b), .int .i64 width] w fun en w' => en = .returned (.tuple #[.int .i64 0, .int .i64 2]) ∧ w = w' := by
  have Hw := Lib.hid (fun W => isWidth_is width W (b := false) (by simp; omega))
  clear hw
  go_enter Try.func32, Try.ntmps32
  go_wp2_with fail
  refine (Hw.out _).mono ?_
  rintro e w1 ⟨rfl, rfl⟩
  go_wp2_with fail
  go_ret2
  exact ⟨rfl, rfl⟩

set_option maxHeartbeats 1000000 in
theorem rGet_short (b k next : Nat) (L : List Nat) (s : ByteArray) (w : World) (hk : k ≤ 16) (hC : RdCell w b s next L) (hL : L.length < 8) (hn : next ≤ s.size) (_hs : s.size ≤ 100000) (hsh : L.length + 8 * (s.size - next) < k) :
    Calls Try.prog 32 #[.pointer (some ⟨b, 0, none⟩), .int .i64 (k : Int)] w fun en w' => en = .returned (.tuple #[.int .i64 0, .int .i64 5]) ∧ w' = w.drew := by
  have Hw := Lib.hid (fun W => isWidth_is (k : Int) W (b := true) (by simp; omega))
  have c1 := hC.count
  have c2 := hC.text
  have c3 := hC.next
  have hz : (L.length : Int) + 8 * ((s.size : Int) - (next : Int)) < (k : Int) := by omega
  clear hC hsh
  go_enter Try.func32, Try.ntmps32
  go_wp2_with fail
  refine (Hw.out _).mono ?_
  rintro e w1 ⟨rfl, rfl⟩
  go_wp2_with fail
  go_region
  all_goals
    go_wp2_with fail
    go_ret2
    exact ⟨rfl, rfl⟩

theorem come8_is (b : Nat) (L : List Nat) (n : Nat) (w : World) (h2 : ∀ b ∈ L, b < 2) (hl : L.length ≤ 15) (hn : n < 256) (h0 : w.cell? ⟨b, 0, none⟩ = some (.int .i64 (numB L : Int))) (h1 : w.cell? ⟨b, 1, none⟩ = some (.int .i64 (L.length : Int)))
   (hf : w.frozen? ⟨b, 0, none⟩ = false) (hf1 : w.frozen? ⟨b, 1, none⟩ = false) :
    Calls Try.prog 39 #[.pointer (some ⟨b, 0, none⟩), .int .i64 (n : Int), .int .i64 8] w fun e w' => e = .returned (.tuple #[]) ∧ w' = twoSet w b (numB (L ++ bitsN 8 n)) ((L ++ bitsN 8 n).length : Nat) :=
  come_is b L n 8 w h2 hl hn (by decide) h0 h1 hf hf1

set_option maxHeartbeats 2000000 in
theorem rGet_ok (b k pos next : Nat) (L : List Nat) (s : ByteArray) (w : World) (hk : k ≤ 16) (hH : HeldR s.data.toList pos next L) (hC : RdCell w b s next L) (hL : L.length < 8) (hs : s.size ≤ 100000) (hen : pos + k ≤ 8 * s.size) :
    Calls Try.prog 32 #[.pointer (some ⟨b, 0, none⟩), .int .i64 (k : Int)] w fun en w' => en = .returned (.tuple #[.int .i64 (numB (((bitsOf s.data.toList).drop pos).take k) : Int), .int .i64 0]) ∧ ∃ F', ReaderAt w' b s (pos + k) F' ∧ Touches [b] F' w w' := by
  have Hw := Lib.hid (fun W => isWidth_is (k : Int) W (b := true) (by simp; omega))
  have c1 := hC.count
  have c2 := hC.text
  have c3 := hC.next
  have hn := hH.2.2
  have h8 := hH.2.1
  rw [← size_data] at hn
  have hz : ¬ (L.length : Int) + 8 * ((s.size : Int) - (next : Int)) < (k : Int) := by omega
  have HH := Lib.hid hH
  have HC : Hid (RdCell w.drew b s next L) := Lib.hid hC
  clear hH hC h8
  go_enter Try.func32, Try.ntmps32
  go_wp2_with fail
  refine (Hw.out _).mono ?_
  rintro e w1 ⟨rfl, rfl⟩
  go_wp2_with fail
  go_region
  all_goals
    go_wp2_with fail
    clear c1 c2 c3
    go_loopg [] k (fun g wx => ∃ (m : Nat) (M : List Nat), k ≤ M.length + g ∧ M.length < k + 8 ∧ m ≤ s.size ∧ Aside (HeldR s.data.toList pos m M ∧ RdCell wx b s m M ∧ Touches [b] [b] w wx))
    case atStart => exact ⟨next, L, by omega, by omega, hn, HH.out, HC.out, (Touches.refl _ _).drew⟩
    case round =>
      obtain ⟨m, M, hg, hM, hm, HI⟩ := hrel
      have c1 := HI.out.2.1.count
      by_cases hlt : M.length < k
      · have hmm : m < s.size := by have := HI.out.1.2.1; omega
        have hmz : (m : Int) < (s.size : Int) := by omega
        have hc := s[m].toNat_lt
        have hwc : IntKind.i64.wrap (s[m].toNat : Int) = (s[m].toNat : Int) := by rw [IntKind.wrap_i64]; omega
        have c2 := HI.out.2.1.text
        have c3 := HI.out.2.1.next
        have Hl := Lib.hid (come8_is b M s[m].toNat wr.drew HI.out.1.two (by omega) hc HI.out.2.1.held HI.out.2.1.count (HI.out.2.1.free 0) (HI.out.2.1.free 1))
        have HC2 : Hid (RdCell (twoSet wr.drew b (numB (M ++ bitsN 8 s[m].toNat)) ((M ++ bitsN 8 s[m].toNat).length : Nat)) b s m (M ++ bitsN 8 s[m].toNat)) := Lib.hid (RdCell.two (w := wr.drew) HI.out.2.1 _)
        have HH2 := Lib.hid (HI.out.1.more (c := s[m]) (Lib.data_getElem? s _ hmm))
        have HT2 := Lib.hid (HI.out.2.2.drew.two (b := b) (by simp) (numB (M ++ bitsN 8 s[m].toNat)) ((M ++ bitsN 8 s[m].toNat).length : Nat))
        have hlen : (M ++ bitsN 8 s[m].toNat).length = M.length + 8 := by rw [List.length_append, bitsN_length]
        obtain ⟨W2, hW2⟩ : ∃ W2, twoSet wr.drew b (numB (M ++ bitsN 8 s[m].toNat)) ((M ++ bitsN 8 s[m].toNat).length : Nat) = W2 := ⟨_, rfl⟩
        rw [hW2] at Hl HC2 HT2
        obtain ⟨N, hN⟩ : ∃ N, M ++ bitsN 8 s[m].toNat = N := ⟨_, rfl⟩
        rw [hN] at HC2 HH2 hlen
        have d3 := HC2.out.next
        have f3 := HC2.out.free 3
        clear hW2 hN
        go_wp2_with fail
        go_region_with (first | (go_at_call 39; refine Hl.out.mono ?_; rintro e w1 ⟨rfl, rfl⟩))
        all_goals
          have HC3 := Lib.hid (HC2.out.put_int (n' := m + 1) (z := (m : Int) + 1) (by omega))
          have HT3 := Lib.hid (HT2.out.setCell (a := ⟨b, 3, none⟩) (by simp) (.int .i64 ((m : Int) + 1)))
          go_wp2_with fail
          go_roundg (k - N.length)
          case measure => omega
          case rel => exact ⟨m + 1, N, by omega, by omega, by omega, HH2.out, HC3.out, HT3.out⟩
      · have hge : ¬ (M.length : Int) < (k : Int) := by omega
        have Hl := Lib.hid (leave_is b M k wr HI.out.1.two (by omega) hk (by omega) HI.out.2.1.held HI.out.2.1.count (HI.out.2.1.free 0) (HI.out.2.1.free 1))
        have HC2 := Lib.hid (HI.out.2.1.two (M.drop k))
        have HH2 := Lib.hid (HI.out.1.less (v := k) (by omega))
        have HT2 := Lib.hid (HI.out.2.2.two (b := b) (by simp) (numB (M.drop k)) ((M.drop k).length : Nat))
        have hd : (M.drop k).length < 8 := by rw [List.length_drop]; omega
        have ht := HI.out.1.take (v := k) (by omega)
        rw [ht] at Hl
        obtain ⟨W2, hW2⟩ : ∃ W2, twoSet wr b (numB (M.drop k)) ((M.drop k).length : Nat) = W2 := ⟨_, rfl⟩
        rw [hW2] at Hl HC2 HT2
        clear ht hW2
        go_wp2_with fail
        refine Hl.out.mono ?_
        rintro e w1 ⟨rfl, rfl⟩
        go_wp2_with fail
        go_ret2
        exact ⟨rfl, [b], ⟨m, _, rfl, hd, HH2.out, HC2.out⟩, HT2.out⟩

theorem rGet_is (b : Nat) (s : ByteArray) (pos : Nat) (F : List Nat) (width : Int) (w : World) (h : ReaderAt w b s pos F) (_hp : pos ≤ 8 * s.size) (hs : s.size ≤ 100000) (_h0 : -9223372036854775808 ≤ width) (_h1 : width ≤ 9223372036854775807)
    {n e : Int} {to : Nat} (hr : getB s.data.toList pos width = (n, to, e)) :
    Calls Try.prog 32 #[.pointer (some ⟨b, 0, none⟩), .int .i64 width] w fun en w' => en = .returned (.tuple #[.int .i64 n, .int .i64 e]) ∧ ∃ F', ReaderAt w' b s to F' ∧ Touches F F' w w' := by
  by_cases hw : width < 0 ∨ 16 < width
  · rw [getB_arg hw] at hr
    obtain ⟨rfl, hr2⟩ := Prod.mk.inj hr
    obtain ⟨rfl, rfl⟩ := Prod.mk.inj hr2
    refine (rGet_arg ⟨b, 0, none⟩ width w hw).mono ?_
    rintro e w' ⟨rfl, rfl⟩
    exact ⟨rfl, F, h, Touches.refl _ _⟩
  · obtain ⟨k, rfl⟩ := Int.eq_ofNat_of_zero_le (show 0 ≤ width by omega)
    have hk : k ≤ 16 := by omega
    obtain ⟨next, L, rfl, hL, hH, hC⟩ := h
    have h8 := hH.2.1
    have hn := hH.2.2
    have hsz := size_data s
    by_cases hen : pos + k ≤ 8 * s.size
    · have hr2 := (getB_ok (l := s.data.toList) (pos := pos) hk (by rw [← hsz]; exact hen)).symm.trans hr
      obtain ⟨rfl, hr3⟩ := Prod.mk.inj hr2
      obtain ⟨rfl, rfl⟩ := Prod.mk.inj hr3
      exact rGet_ok b k pos next L s w hk hH hC hL hs hen
    · have hr2 := (getB_short (l := s.data.toList) (pos := pos) hk (by rw [← hsz]; omega)).symm.trans hr
      obtain ⟨rfl, hr3⟩ := Prod.mk.inj hr2
      obtain ⟨rfl, rfl⟩ := Prod.mk.inj hr3
      rw [← hsz] at hn
      refine (rGet_short b k next L s w hk hC hL hn hs (by omega)).mono ?_
      rintro e w' ⟨rfl, rfl⟩
      exact ⟨rfl, [b], ⟨next, L, rfl, hL, hH, hC⟩, (Touches.refl _ _).drew⟩

theorem WriterAt.later {w w' : World} {b : Nat} {row F : List Nat} (h : WriterAt w b row F) (hb : Below w.heap.size w w') : WriterAt w' b row F := h.move hb.size fun k hk => hb.block k (h.lt k hk)
theorem ReaderAt.later {w w' : World} {b : Nat} {s : ByteArray} {pos : Nat} {F : List Nat} (h : ReaderAt w b s pos F) (hb : Below w.heap.size w w') : ReaderAt w' b s pos F := h.move hb.size fun k hk => hb.block k (h.lt k hk)

end Go.Proofs.Ytahanllbaclokaa
