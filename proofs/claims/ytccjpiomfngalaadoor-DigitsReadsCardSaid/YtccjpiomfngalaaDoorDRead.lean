/-
  The contract of the document's Read.
-/
import Derived.Test.YtccjpiomfngalaaDoorDRef2
namespace Go.Proofs.YtccjpiomfngalaaDoor
open Go.RowKit

theorem rLoose_is (s : ByteArray) (w : World) (hs : s.size ≤ maxLen) {a b : Int} (h : looseL s.data.toList = (a, b)) :
    Calls Tryd.prog 15 #[.string s] w fun e w' => e = .returned (.tuple #[.int .i64 a, .int .i64 b]) ∧ w = w' := by
  have := rLoose_any s w hs
  rw [h] at this; exact this

theorem wholeL_form {l : List UInt8} (h : (dropMinus l).length = 19) (hg : gtB (dropMinus l) (topL (isMinus l)) = true) : wholeL l = (0, 4) := by unfold wholeL; rw [if_pos ⟨h, hg⟩]
theorem wholeL_loose {l : List UInt8} (h : ¬ (dropMinus l).length = 19 ∨ gtB (dropMinus l) (topL (isMinus l)) = false) : wholeL l = looseL l := by
  unfold wholeL; rw [if_neg]; rintro ⟨a, b⟩
  rcases h with h | h
  · exact h a
  · rw [h] at b; cases b
theorem dropMinus_yes {c : UInt8} {t : List UInt8} (h : (c.toNat : Int) = 45) : dropMinus (c :: t) = t ∧ isMinus (c :: t) = true := by
  unfold dropMinus isMinus; simp [h]
theorem dropMinus_no {c : UInt8} {t : List UInt8} (h : ¬ (c.toNat : Int) = 45) : dropMinus (c :: t) = c :: t ∧ isMinus (c :: t) = false := by
  unfold dropMinus isMinus; simp [h]

set_option maxRecDepth 100000 in
set_option maxHeartbeats 1000000 in
theorem rWhole_minus (s : ByteArray) (w : World) (hs : s.size ≤ maxLen) {c : UInt8} {t : List UInt8} (hl : s.data.toList = c :: t) (h45 : (c.toNat : Int) = 45) :
    Calls Tryd.prog 23 #[.string s] w fun e w' => e = TwoInts (wholeL (c :: t)) ∧ w = w' := by
  obtain ⟨hp, hc'⟩ := first_byte hl
  have hc := hc' hp
  clear hc'
  have h1 : ((s[0].toNat : Int) == 45) = true := by rw [hc]; exact beq_iff_eq.2 h45
  have hd := dropMinus_yes (t := t) h45
  have hdl : (s.extract 1 s.size).toList = dropMinus (c :: t) := by rw [hd.1, Lib.toList_data]; exact rest_bytes hl
  have hlen : (dropMinus (c :: t)).length = s.size - 1 := by rw [hd.1]; rw [size_data, hl]; simp
  obtain ⟨a, b, hlo⟩ : ∃ a b, looseL s.data.toList = (a, b) := ⟨_, _, rfl⟩
  have Hlo := Lib.hid hlo
  have Hlo' : Hid (looseL (c :: t) = (a, b)) := Lib.hid (by rw [← hl]; exact hlo)
  have Hd := Lib.hid hd
  have Hdl := Lib.hid hdl
  have Hlen := Lib.hid hlen
  clear hlo hd hdl hlen hl hc h45
  by_cases h19 : ((s.size - 1 : Nat) : Int) = 19
  · have Hn : Hid ((dropMinus (c :: t)).length = 19) := Lib.hid (by rw [Hlen.out]; omega)
    have h19' := beq_iff_eq.2 h19
    clear h19
    cases hbl : Op.bytesLess (s.extract 1 s.size).toList [57, 50, 50, 51, 51, 55, 50, 48, 51, 54, 56, 53, 52, 55, 55, 53, 56, 48, 56]
    · cases hbe : ((s.extract 1 s.size).toList == [57, 50, 50, 51, 51, 55, 50, 48, 51, 54, 56, 53, 52, 55, 55, 53, 56, 48, 56])
      · have Hr : Hid (wholeL (c :: t) = (0, 4)) := Lib.hid (wholeL_form Hn.out (by
          rw [Hd.out.2, ← Hdl.out]; unfold gtB
          show (!Op.bytesLess (s.extract 1 s.size).toList [57, 50, 50, 51, 51, 55, 50, 48, 51, 54, 56, 53, 52, 55, 55, 53, 56, 48, 56] && !((s.extract 1 s.size).toList == [57, 50, 50, 51, 51, 55, 50, 48, 51, 54, 56, 53, 52, 55, 55, 53, 56, 48, 56])) = true
          rw [hbl, hbe]; rfl))
        go_enter Tryd.func23, Tryd.ntmps23
        go_wp2_with fail
        go_ret2
        exact ⟨twoInts_mk (by rw [Hr.out]), rfl⟩
      · have Hr : Hid (wholeL (c :: t) = (a, b)) := Lib.hid ((wholeL_loose (.inr (by
          rw [Hd.out.2, ← Hdl.out]; unfold gtB
          show (!Op.bytesLess (s.extract 1 s.size).toList [57, 50, 50, 51, 51, 55, 50, 48, 51, 54, 56, 53, 52, 55, 55, 53, 56, 48, 56] && !((s.extract 1 s.size).toList == [57, 50, 50, 51, 51, 55, 50, 48, 51, 54, 56, 53, 52, 55, 55, 53, 56, 48, 56])) = false
          rw [hbe]; simp))).trans Hlo'.out)
        go_enter Tryd.func23, Tryd.ntmps23
        go_wp2_with fail
        refine (rLoose_is s _ hs Hlo.out).mono ?_
        rintro e w1 ⟨rfl, rfl⟩
        go_wp2_with fail
        go_ret2
        exact ⟨twoInts_mk (by rw [Hr.out]), rfl⟩
    · have Hr : Hid (wholeL (c :: t) = (a, b)) := Lib.hid ((wholeL_loose (.inr (by
        rw [Hd.out.2, ← Hdl.out]; unfold gtB
        show (!Op.bytesLess (s.extract 1 s.size).toList [57, 50, 50, 51, 51, 55, 50, 48, 51, 54, 56, 53, 52, 55, 55, 53, 56, 48, 56] && !((s.extract 1 s.size).toList == [57, 50, 50, 51, 51, 55, 50, 48, 51, 54, 56, 53, 52, 55, 55, 53, 56, 48, 56])) = false
        rw [hbl]; rfl))).trans Hlo'.out)
      go_enter Tryd.func23, Tryd.ntmps23
      go_wp2_with fail
      refine (rLoose_is s _ hs Hlo.out).mono ?_
      rintro e w1 ⟨rfl, rfl⟩
      go_wp2_with fail
      go_ret2
      exact ⟨twoInts_mk (by rw [Hr.out]), rfl⟩
  · have Hr : Hid (wholeL (c :: t) = (a, b)) := Lib.hid ((wholeL_loose (.inl (by rw [Hlen.out]; omega))).trans Hlo'.out)
    have h19' := beq_eq_false_iff_ne.2 h19
    clear h19
    go_enter Tryd.func23, Tryd.ntmps23
    go_wp2_with fail
    refine (rLoose_is s _ hs Hlo.out).mono ?_
    rintro e w1 ⟨rfl, rfl⟩
    go_wp2_with fail
    go_ret2
    exact ⟨twoInts_mk (by rw [Hr.out]), rfl⟩

set_option maxRecDepth 100000 in
set_option maxHeartbeats 1000000 in
theorem rWhole_plain (s : ByteArray) (w : World) (hs : s.size ≤ maxLen) {c : UInt8} {t : List UInt8} (hl : s.data.toList = c :: t) (h45 : ¬ (c.toNat : Int) = 45) :
    Calls Tryd.prog 23 #[.string s] w fun e w' => e = TwoInts (wholeL (c :: t)) ∧ w = w' := by
  obtain ⟨hp, hc'⟩ := first_byte hl
  have hc := hc' hp
  clear hc'
  have h1 : ((s[0].toNat : Int) == 45) = false := by rw [hc]; exact beq_eq_false_iff_ne.2 h45
  have hd := dropMinus_no (t := t) h45
  have hdl : s.toList = dropMinus (c :: t) := by rw [hd.1, Lib.toList_data]; exact hl
  have hlen : (dropMinus (c :: t)).length = s.size := by rw [hd.1]; rw [size_data, hl]
  obtain ⟨a, b, hlo⟩ : ∃ a b, looseL s.data.toList = (a, b) := ⟨_, _, rfl⟩
  have Hlo := Lib.hid hlo
  have Hlo' : Hid (looseL (c :: t) = (a, b)) := Lib.hid (by rw [← hl]; exact hlo)
  have Hd := Lib.hid hd
  have Hdl := Lib.hid hdl
  have Hlen := Lib.hid hlen
  clear hlo hd hdl hlen hl hc h45
  by_cases h19 : ((s.size : Nat) : Int) = 19
  · have Hn : Hid ((dropMinus (c :: t)).length = 19) := Lib.hid (by rw [Hlen.out]; omega)
    have h19' := beq_iff_eq.2 h19
    clear h19
    cases hbl : Op.bytesLess s.toList [57, 50, 50, 51, 51, 55, 50, 48, 51, 54, 56, 53, 52, 55, 55, 53, 56, 48, 55]
    · cases hbe : (s.toList == [57, 50, 50, 51, 51, 55, 50, 48, 51, 54, 56, 53, 52, 55, 55, 53, 56, 48, 55])
      · have Hr : Hid (wholeL (c :: t) = (0, 4)) := Lib.hid (wholeL_form Hn.out (by
          rw [Hd.out.2, ← Hdl.out]; unfold gtB
          show (!Op.bytesLess s.toList [57, 50, 50, 51, 51, 55, 50, 48, 51, 54, 56, 53, 52, 55, 55, 53, 56, 48, 55] && !(s.toList == [57, 50, 50, 51, 51, 55, 50, 48, 51, 54, 56, 53, 52, 55, 55, 53, 56, 48, 55])) = true
          rw [hbl, hbe]; rfl))
        go_enter Tryd.func23, Tryd.ntmps23
        go_wp2_with fail
        go_ret2
        exact ⟨twoInts_mk (by rw [Hr.out]), rfl⟩
      · have Hr : Hid (wholeL (c :: t) = (a, b)) := Lib.hid ((wholeL_loose (.inr (by
          rw [Hd.out.2, ← Hdl.out]; unfold gtB
          show (!Op.bytesLess s.toList [57, 50, 50, 51, 51, 55, 50, 48, 51, 54, 56, 53, 52, 55, 55, 53, 56, 48, 55] && !(s.toList == [57, 50, 50, 51, 51, 55, 50, 48, 51, 54, 56, 53, 52, 55, 55, 53, 56, 48, 55])) = false
          rw [hbe]; simp))).trans Hlo'.out)
        go_enter Tryd.func23, Tryd.ntmps23
        go_wp2_with fail
        refine (rLoose_is s _ hs Hlo.out).mono ?_
        rintro e w1 ⟨rfl, rfl⟩
        go_wp2_with fail
        go_ret2
        exact ⟨twoInts_mk (by rw [Hr.out]), rfl⟩
    · have Hr : Hid (wholeL (c :: t) = (a, b)) := Lib.hid ((wholeL_loose (.inr (by
        rw [Hd.out.2, ← Hdl.out]; unfold gtB
        show (!Op.bytesLess s.toList [57, 50, 50, 51, 51, 55, 50, 48, 51, 54, 56, 53, 52, 55, 55, 53, 56, 48, 55] && !(s.toList == [57, 50, 50, 51, 51, 55, 50, 48, 51, 54, 56, 53, 52, 55, 55, 53, 56, 48, 55])) = false
        rw [hbl]; rfl))).trans Hlo'.out)
      go_enter Tryd.func23, Tryd.ntmps23
      go_wp2_with fail
      refine (rLoose_is s _ hs Hlo.out).mono ?_
      rintro e w1 ⟨rfl, rfl⟩
      go_wp2_with fail
      go_ret2
      exact ⟨twoInts_mk (by rw [Hr.out]), rfl⟩
  · have Hr : Hid (wholeL (c :: t) = (a, b)) := Lib.hid ((wholeL_loose (.inl (by rw [Hlen.out]; omega))).trans Hlo'.out)
    have h19' := beq_eq_false_iff_ne.2 h19
    clear h19
    go_enter Tryd.func23, Tryd.ntmps23
    go_wp2_with fail
    refine (rLoose_is s _ hs Hlo.out).mono ?_
    rintro e w1 ⟨rfl, rfl⟩
    go_wp2_with fail
    go_ret2
    exact ⟨twoInts_mk (by rw [Hr.out]), rfl⟩

theorem rWhole_any (s : ByteArray) (w : World) (hs : s.size ≤ maxLen) (h0 : ¬ s.data.toList = []) :
    Calls Tryd.prog 23 #[.string s] w fun e w' => e = TwoInts (wholeL s.data.toList) ∧ w = w' := by
  cases hl : s.data.toList with
  | nil => exact absurd hl h0
  | cons c t =>
    by_cases h45 : (c.toNat : Int) = 45
    · exact rWhole_minus s w hs hl h45
    · exact rWhole_plain s w hs hl h45

theorem readL_form {l : List UInt8} (h : dropMinus l = [] ∨ 19 < (dropMinus l).length ∨ countN (dropMinus l) ≠ (dropMinus l).length ∨ ((dropMinus l)[0]? = some 48 ∧ l ≠ [48])) : readL l = (0, 4) := by unfold readL; rw [if_pos h]
theorem readL_whole {l : List UInt8} (h : ¬ (dropMinus l = [] ∨ 19 < (dropMinus l).length ∨ countN (dropMinus l) ≠ (dropMinus l).length ∨ ((dropMinus l)[0]? = some 48 ∧ l ≠ [48]))) : readL l = wholeL l := by unfold readL; rw [if_neg h]
theorem rCount_is (s : ByteArray) (w : World) (hs : s.size ≤ maxLen) {n : Nat} (h : countN s.data.toList = n) :
    Calls Tryd.prog 17 #[.string s] w fun e w' => e = .returned (.int .i64 (n : Int)) ∧ w = w' := by
  rw [← h]; exact rCount_any s w hs
theorem rWhole_is (s : ByteArray) (w : World) (hs : s.size ≤ maxLen) (h0 : ¬ s.data.toList = []) {a b : Int} (h : wholeL s.data.toList = (a, b)) :
    Calls Tryd.prog 23 #[.string s] w fun e w' => e = .returned (.tuple #[.int .i64 a, .int .i64 b]) ∧ w = w' := by
  have := rWhole_any s w hs h0
  rw [h] at this; exact this
theorem isZero_text {s : ByteArray} : (s.toList == [48]) = decide (s.data.toList = [48]) := by
  rw [Lib.toList_data]; rw [Bool.eq_iff_iff]; simp

set_option maxRecDepth 100000 in
set_option maxHeartbeats 1000000 in
theorem rRead_minus (s : ByteArray) (w : World) (hs : s.size ≤ maxLen) {c : UInt8} {t : List UInt8} (hl : s.data.toList = c :: t) (h45 : (c.toNat : Int) = 45) :
    Calls Tryd.prog 13 #[.string s] w fun e w' => e = TwoInts (readL (c :: t)) ∧ w = w' := by
  have hs' := hs
  unfold maxLen at hs
  have hes : (s.extract 1 s.size).size ≤ maxLen := by rw [ByteArray.size_extract]; unfold maxLen; omega
  obtain ⟨hp, hc'⟩ := first_byte hl
  have hc := hc' hp
  clear hc'
  have h1 : ((s[0].toNat : Int) == 45) = true := by rw [hc]; exact beq_iff_eq.2 h45
  have hse := isEmpty_not (show ¬ s.data.toList = [] by rw [hl]; simp)
  have hse' := Lib.hid (show ¬ s.data.toList = [] by rw [hl]; simp)
  have hd := dropMinus_yes (t := t) h45
  have hdl : (s.extract 1 s.size).data.toList = dropMinus (c :: t) := by rw [hd.1]; exact rest_bytes hl
  obtain ⟨a, b, hwh⟩ : ∃ a b, wholeL s.data.toList = (a, b) := ⟨_, _, rfl⟩
  have Hwh := Lib.hid hwh
  have Hwh' : Hid (wholeL (c :: t) = (a, b)) := Lib.hid (by rw [← hl]; exact hwh)
  have Hdl := Lib.hid hdl
  have Hl := Lib.hid hl
  have hsz := size_data (s.extract 1 s.size)
  rw [hdl] at hsz
  have Hsz := Lib.hid hsz
  have hes0 : (s.extract 1 s.size).size = (s.size - 1) := by rw [ByteArray.size_extract]; omega
  have Hes0 := Lib.hid hes0
  clear hwh hd hdl hl hc h45 hsz hes0
  cases hde : dropMinus (c :: t) with
  | nil =>
    have he := isEmpty_of (show (s.extract 1 s.size).data.toList = [] by rw [Hdl.out, hde])
    have Hr : Hid (readL (c :: t) = (0, 4)) := Lib.hid (readL_form (.inl hde))
    have hz : (s.size - 1) = 0 := by rw [← Hes0.out, Hsz.out, hde]; rfl
    have Hz := Lib.hid hz
    have hz1 : (s.size - 1) ≤ 0 := by omega
    clear hde hz
    go_enter Tryd.func13, Tryd.ntmps13
    go_wp2_with fail
    all_goals (go_ret2; exact ⟨twoInts_mk (by rw [Hr.out]), rfl⟩)
  | cons d u =>
    have hdd : (s.extract 1 s.size).data.toList = d :: u := by rw [Hdl.out, hde]
    have he := isEmpty_not (show ¬ (s.extract 1 s.size).data.toList = [] by rw [hdd]; simp)
    obtain ⟨hp2, hx'⟩ := first_byte hdd
    have hx := hx' hp2
    clear hx'
    have hpos : 0 < (s.size - 1) := by rw [← Hes0.out]; exact hp2
    by_cases h19 : 19 < (s.size - 1)
    · have Hr : Hid (readL (c :: t) = (0, 4)) := Lib.hid (readL_form (.inr (.inl (by rw [← Hsz.out, Hes0.out]; exact h19))))
      have h19' : (19 : Int) < (((s.size - 1) : Nat) : Int) := by omega
      clear hde hdd hx
      go_enter Tryd.func13, Tryd.ntmps13
      go_wp2_with fail
      go_ret2
      exact ⟨twoInts_mk (by rw [Hr.out]), rfl⟩
    · have h19' : ¬ (19 : Int) < (((s.size - 1) : Nat) : Int) := by omega
      obtain ⟨n, hn⟩ : ∃ n, countN (s.extract 1 s.size).data.toList = n := ⟨_, rfl⟩
      have Hn := Lib.hid hn
      have Hn' : Hid (countN (dropMinus (c :: t)) = n) := Lib.hid (by rw [← Hdl.out]; exact hn)
      clear hn
      by_cases hcn : n = (s.size - 1)
      · by_cases h48 : (d.toNat : Int) = 48 ∧ ¬ s.data.toList = [48]
        · have Hr : Hid (readL (c :: t) = (0, 4)) := Lib.hid (readL_form (.inr (.inr (.inr ⟨by rw [hde]; simp; exact (byte_eq (n := 48) (by omega)).1 h48.1, by rw [← Hl.out]; exact h48.2⟩))))
          have hb1 : (((s.extract 1 s.size)[0].toNat : Int) == 48) = true := by rw [hx]; exact beq_iff_eq.2 h48.1
          have hb2 : (s.toList == [48]) = false := by rw [isZero_text]; exact decide_eq_false h48.2
          have hcq : ((n : Int) != (((s.size - 1) : Nat) : Int)) = false := by rw [hcn]; simp
          have Hcn := Lib.hid hcn
          clear hde hdd hx h48 hcn
          go_enter Tryd.func13, Tryd.ntmps13
          go_wp2_with fail
          refine (rCount_is _ _ hes Hn.out).mono ?_
          rintro e w1 ⟨rfl, rfl⟩
          go_wp2_with fail
          go_ret2
          exact ⟨twoInts_mk (by rw [Hr.out]), rfl⟩
        · have Hr : Hid (readL (c :: t) = (a, b)) := Lib.hid ((readL_whole (by
            rintro (h | h | h | ⟨h, h'⟩)
            · rw [hde] at h; cases h
            · rw [← Hsz.out, Hes0.out] at h; exact h19 h
            · rw [Hn'.out, ← Hsz.out, Hes0.out] at h; exact h hcn
            · rw [hde] at h; simp at h
              exact h48 ⟨by rw [h]; rfl, by rw [Hl.out]; exact h'⟩)).trans Hwh'.out)
          have hcq : ((n : Int) != (((s.size - 1) : Nat) : Int)) = false := by rw [hcn]; simp
          have Hcn := Lib.hid hcn
          clear hcn hde hdd
          by_cases hq : (d.toNat : Int) = 48
          · have hb1 : (((s.extract 1 s.size)[0].toNat : Int) == 48) = true := by rw [hx]; exact beq_iff_eq.2 hq
            have hb2 : (s.toList == [48]) = true := by rw [isZero_text]; exact decide_eq_true (Classical.byContradiction fun h => h48 ⟨hq, h⟩)
            clear hx h48 hq
            go_enter Tryd.func13, Tryd.ntmps13
            go_wp2_with fail
            refine (rCount_is _ _ hes Hn.out).mono ?_
            rintro e w1 ⟨rfl, rfl⟩
            go_wp2_with fail
            refine (rWhole_is s _ hs' hse'.out Hwh.out).mono ?_
            rintro e w1 ⟨rfl, rfl⟩
            go_wp2_with fail
            go_ret2
            exact ⟨twoInts_mk (by rw [Hr.out]), rfl⟩
          · have hb1 : (((s.extract 1 s.size)[0].toNat : Int) == 48) = false := by rw [hx]; exact beq_eq_false_iff_ne.2 hq
            clear hx h48 hq
            go_enter Tryd.func13, Tryd.ntmps13
            go_wp2_with fail
            refine (rCount_is _ _ hes Hn.out).mono ?_
            rintro e w1 ⟨rfl, rfl⟩
            go_wp2_with fail
            refine (rWhole_is s _ hs' hse'.out Hwh.out).mono ?_
            rintro e w1 ⟨rfl, rfl⟩
            go_wp2_with fail
            go_ret2
            exact ⟨twoInts_mk (by rw [Hr.out]), rfl⟩
      · have Hr : Hid (readL (c :: t) = (0, 4)) := Lib.hid (readL_form (.inr (.inr (.inl (by rw [Hn'.out, ← Hsz.out, Hes0.out]; exact hcn)))))
        have hcq : ((n : Int) != (((s.size - 1) : Nat) : Int)) = true := by rw [bne_iff_ne]; omega
        clear hde hdd hx hcn
        go_enter Tryd.func13, Tryd.ntmps13
        go_wp2_with fail
        refine (rCount_is _ _ hes Hn.out).mono ?_
        rintro e w1 ⟨rfl, rfl⟩
        go_wp2_with fail
        go_ret2
        exact ⟨twoInts_mk (by rw [Hr.out]), rfl⟩

set_option maxRecDepth 100000 in
set_option maxHeartbeats 1000000 in
theorem rRead_plain (s : ByteArray) (w : World) (hs : s.size ≤ maxLen) {c : UInt8} {t : List UInt8} (hl : s.data.toList = c :: t) (h45 : ¬ (c.toNat : Int) = 45) :
    Calls Tryd.prog 13 #[.string s] w fun e w' => e = TwoInts (readL (c :: t)) ∧ w = w' := by
  have hs' := hs
  unfold maxLen at hs
  have hes : s.size ≤ maxLen := by unfold maxLen; omega
  obtain ⟨hp, hc'⟩ := first_byte hl
  have hc := hc' hp
  clear hc'
  have h1 : ((s[0].toNat : Int) == 45) = false := by rw [hc]; exact beq_eq_false_iff_ne.2 h45
  have hse := isEmpty_not (show ¬ s.data.toList = [] by rw [hl]; simp)
  have hse' := Lib.hid (show ¬ s.data.toList = [] by rw [hl]; simp)
  have hd := dropMinus_no (t := t) h45
  have hdl : s.data.toList = dropMinus (c :: t) := by rw [hd.1]; exact hl
  obtain ⟨a, b, hwh⟩ : ∃ a b, wholeL s.data.toList = (a, b) := ⟨_, _, rfl⟩
  have Hwh := Lib.hid hwh
  have Hwh' : Hid (wholeL (c :: t) = (a, b)) := Lib.hid (by rw [← hl]; exact hwh)
  have Hdl := Lib.hid hdl
  have Hl := Lib.hid hl
  have hsz := size_data s
  rw [hdl] at hsz
  have Hsz := Lib.hid hsz
  have hes0 : s.size = s.size := by rfl
  have Hes0 := Lib.hid hes0
  clear hwh hd hdl hl hc h45 hsz hes0
  cases hde : dropMinus (c :: t) with
  | nil =>
    have he := isEmpty_of (show s.data.toList = [] by rw [Hdl.out, hde])
    have Hr : Hid (readL (c :: t) = (0, 4)) := Lib.hid (readL_form (.inl hde))
    have hz : s.size = 0 := by rw [← Hes0.out, Hsz.out, hde]; rfl
    have Hz := Lib.hid hz
    have hz1 : s.size ≤ 0 := by omega
    clear hde hz
    go_enter Tryd.func13, Tryd.ntmps13
    go_wp2_with fail
    all_goals (go_ret2; exact ⟨twoInts_mk (by rw [Hr.out]), rfl⟩)
  | cons d u =>
    have hdd : s.data.toList = d :: u := by rw [Hdl.out, hde]
    have he := isEmpty_not (show ¬ s.data.toList = [] by rw [hdd]; simp)
    obtain ⟨hp2, hx'⟩ := first_byte hdd
    have hx := hx' hp2
    clear hx'
    have hpos : 0 < s.size := by rw [← Hes0.out]; exact hp2
    by_cases h19 : 19 < s.size
    · have Hr : Hid (readL (c :: t) = (0, 4)) := Lib.hid (readL_form (.inr (.inl (by rw [← Hsz.out, Hes0.out]; exact h19))))
      have h19' : (19 : Int) < ((s.size : Nat) : Int) := by omega
      clear hde hdd hx
      go_enter Tryd.func13, Tryd.ntmps13
      go_wp2_with fail
      go_ret2
      exact ⟨twoInts_mk (by rw [Hr.out]), rfl⟩
    · have h19' : ¬ (19 : Int) < ((s.size : Nat) : Int) := by omega
      obtain ⟨n, hn⟩ : ∃ n, countN s.data.toList = n := ⟨_, rfl⟩
      have Hn := Lib.hid hn
      have Hn' : Hid (countN (dropMinus (c :: t)) = n) := Lib.hid (by rw [← Hdl.out]; exact hn)
      clear hn
      by_cases hcn : n = s.size
      · by_cases h48 : (d.toNat : Int) = 48 ∧ ¬ s.data.toList = [48]
        · have Hr : Hid (readL (c :: t) = (0, 4)) := Lib.hid (readL_form (.inr (.inr (.inr ⟨by rw [hde]; simp; exact (byte_eq (n := 48) (by omega)).1 h48.1, by rw [← Hl.out]; exact h48.2⟩))))
          have hb1 : ((s[0].toNat : Int) == 48) = true := by rw [hx]; exact beq_iff_eq.2 h48.1
          have hb2 : (s.toList == [48]) = false := by rw [isZero_text]; exact decide_eq_false h48.2
          have hcq : ((n : Int) != ((s.size : Nat) : Int)) = false := by rw [hcn]; simp
          have Hcn := Lib.hid hcn
          clear hde hdd hx h48 hcn
          go_enter Tryd.func13, Tryd.ntmps13
          go_wp2_with fail
          refine (rCount_is _ _ hes Hn.out).mono ?_
          rintro e w1 ⟨rfl, rfl⟩
          go_wp2_with fail
          go_ret2
          exact ⟨twoInts_mk (by rw [Hr.out]), rfl⟩
        · have Hr : Hid (readL (c :: t) = (a, b)) := Lib.hid ((readL_whole (by
            rintro (h | h | h | ⟨h, h'⟩)
            · rw [hde] at h; cases h
            · rw [← Hsz.out, Hes0.out] at h; exact h19 h
            · rw [Hn'.out, ← Hsz.out, Hes0.out] at h; exact h hcn
            · rw [hde] at h; simp at h
              exact h48 ⟨by rw [h]; rfl, by rw [Hl.out]; exact h'⟩)).trans Hwh'.out)
          have hcq : ((n : Int) != ((s.size : Nat) : Int)) = false := by rw [hcn]; simp
          have Hcn := Lib.hid hcn
          clear hcn hde hdd
          by_cases hq : (d.toNat : Int) = 48
          · have hb1 : ((s[0].toNat : Int) == 48) = true := by rw [hx]; exact beq_iff_eq.2 hq
            have hb2 : (s.toList == [48]) = true := by rw [isZero_text]; exact decide_eq_true (Classical.byContradiction fun h => h48 ⟨hq, h⟩)
            clear hx h48 hq
            go_enter Tryd.func13, Tryd.ntmps13
            go_wp2_with fail
            refine (rCount_is _ _ hes Hn.out).mono ?_
            rintro e w1 ⟨rfl, rfl⟩
            go_wp2_with fail
            refine (rWhole_is s _ hs' hse'.out Hwh.out).mono ?_
            rintro e w1 ⟨rfl, rfl⟩
            go_wp2_with fail
            go_ret2
            exact ⟨twoInts_mk (by rw [Hr.out]), rfl⟩
          · have hb1 : ((s[0].toNat : Int) == 48) = false := by rw [hx]; exact beq_eq_false_iff_ne.2 hq
            clear hx h48 hq
            go_enter Tryd.func13, Tryd.ntmps13
            go_wp2_with fail
            refine (rCount_is _ _ hes Hn.out).mono ?_
            rintro e w1 ⟨rfl, rfl⟩
            go_wp2_with fail
            refine (rWhole_is s _ hs' hse'.out Hwh.out).mono ?_
            rintro e w1 ⟨rfl, rfl⟩
            go_wp2_with fail
            go_ret2
            exact ⟨twoInts_mk (by rw [Hr.out]), rfl⟩
      · have Hr : Hid (readL (c :: t) = (0, 4)) := Lib.hid (readL_form (.inr (.inr (.inl (by rw [Hn'.out, ← Hsz.out, Hes0.out]; exact hcn)))))
        have hcq : ((n : Int) != ((s.size : Nat) : Int)) = true := by rw [bne_iff_ne]; omega
        clear hde hdd hx hcn
        go_enter Tryd.func13, Tryd.ntmps13
        go_wp2_with fail
        refine (rCount_is _ _ hes Hn.out).mono ?_
        rintro e w1 ⟨rfl, rfl⟩
        go_wp2_with fail
        go_ret2
        exact ⟨twoInts_mk (by rw [Hr.out]), rfl⟩

theorem rRead_any (s : ByteArray) (w : World) (hs : s.size ≤ maxLen) :
    Calls Tryd.prog 13 #[.string s] w fun e w' => e = TwoInts (readL s.data.toList) ∧ w = w' := by
  cases hl : s.data.toList with
  | nil =>
    have he := isEmpty_of hl
    go_enter Tryd.func13, Tryd.ntmps13
    go_wp2_with fail
    go_ret2
    exact ⟨twoInts_mk rfl, rfl⟩
  | cons c t =>
    by_cases h45 : (c.toNat : Int) = 45
    · exact rRead_minus s w hs hl h45
    · exact rRead_plain s w hs hl h45

end Go.Proofs.YtccjpiomfngalaaDoor
