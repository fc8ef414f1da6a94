/-
  token.Next: the next sign.
-/
import Derived.Test.YtnjmapgmodoodaaTkFirst
namespace Go.Proofs.Ytnjmapgmodoodaa
open Go.RowKit
set_option maxRecDepth 100000

theorem skip_is (s : ByteArray) (a : Int) (w : World) (hs : s.size ≤ maxLen) {j : Nat} (hj : skipI s.data.toList a = j) :
    Calls Try.prog 10 #[.string s, .int .i64 a] w fun e w' => e = .returned (.int .i64 (j : Int)) ∧ Below w.heap.size w w' := by
  rw [← hj]; exact skip_any s a w hs
theorem first_is (u : ByteArray) (w : World) (hs : u.size ≤ 100000000) {l : List UInt8} (hu : u.data.toList = l) {r : Sg} (hr : firstL l = r) :
    Calls Try.prog 16 #[.string u] w fun e w' => e = .returned (.tuple #[.agg (tokC r.kind r.num (bytes r.str) (r.beg : Int) (r.fin : Int)), .int .i64 r.code]) ∧ Below w.heap.size w w' := by
  subst hu hr; exact first_any u w hs
theorem TokCell.put {w : World} {b : Nat} {k n : Int} {s : ByteArray} {a e : Int} (h : TokCell w b (tokC k n s a e)) (a' e' : Int) :
    TokCell ((w.setCell ⟨b, 3, none⟩ (.int .i64 a')).setCell ⟨b, 4, none⟩ (.int .i64 e')) b (tokC k n s a' e') := (h.set 3 (.int .i64 a')).set 4 (.int .i64 e')
theorem TokCell.apart {w : World} {b c : Nat} {cs : Array Value} (h : TokCell w b cs) (hn : b ≠ c) (j : Nat) (v : Value) : TokCell (w.setCell ⟨c, j, none⟩ v) b cs := (heap_setCell_other _ _ _ _ hn).trans h

set_option maxHeartbeats 4000000 in
theorem next_any (s : ByteArray) (a : Int) (w : World) (hs : s.size ≤ 100000000) :
    Calls Try.prog 8 #[.string s, .int .i64 a] w fun e w' => e = .returned (nextI s.data.toList a).told ∧ Below w.heap.size w w' := by
  have HW0 := Lib.hid ((Below.refl _ w).alloc (Nat.le_refl _) (.cells (tokC 0 0 ⟨#[]⟩ 0 0) 24))
  have HT0 := Lib.hid (TokCell.new w (tokC 0 0 ⟨#[]⟩ 0 0))
  unfold tokC at HW0 HT0
  obtain ⟨j, hj⟩ : ∃ j, skipI s.data.toList a = j := ⟨_, rfl⟩
  have hjl := (skipN_le (placeN_le s.data.toList a)).2
  rw [show skipN s.data.toList (placeN s.data.toList a) = j from hj, ← size_data] at hjl
  obtain ⟨r, hr⟩ : ∃ r, firstL (s.data.toList.drop j) = r := ⟨_, rfl⟩
  have hn : nextI s.data.toList a = r.put j := by
    unfold nextI nextN
    rw [show skipN s.data.toList (placeN s.data.toList a) = j from hj, hr]
  have hg := (first_good (s.data.toList.drop j) (fun c t h => by
    rw [← hj] at h
    unfold skipI skipN at h
    rw [← List.drop_drop] at h
    exact skip_head _ false c t h)).1
  rw [hr, List.length_drop, ← size_data] at hg
  have hfin := hg.2.1
  rw [hn]
  have HSk := Lib.hid (fun W => skip_is s a W (by unfold maxLen; omega) hj)
  have HF := Lib.hid (fun W => first_is (s.extract j s.size) W (by rw [ByteArray.size_extract]; omega) (by rw [Lib.extract_to_end]) hr)
  clear hj hr hn hg
  by_cases h0 : r.code = 0
  · rw [Sg.put_ok h0]
    have hcd : (r.code != 0) = false := by simpa using h0
    go_enter Try.func8, Try.ntmps8
    go_wp2_with fail
    refine (HSk.out _).mono ?_
    rintro e w1 ⟨rfl, hb⟩
    have HT1 := Lib.hid (HT0.out.later hb (by simp))
    have HW1 := Lib.hid (HW0.out.trans (hb.mono (by simp)))
    clear hb
    go_wp2_with fail
    refine (HF.out _).mono ?_
    rintro e w2 ⟨rfl, hb⟩
    have HT2 := Lib.hid (HT1.out.later hb HT1.out.lt)
    have HW2 := Lib.hid (HW1.out.trans (hb.mono HW1.out.size))
    clear hb
    have HN := Lib.hid (TokCell.new w2 (tokC 0 0 ⟨#[]⟩ 0 0))
    have HT3 := Lib.hid (HT2.out.later (w' := w2.alloc (.cells (tokC 0 0 ⟨#[]⟩ 0 0) 24)) ((Below.refl _ w2).alloc (Nat.le_refl _) _) HT2.out.lt)
    have HW3 := Lib.hid (HW2.out.alloc HW2.out.size (.cells (tokC 0 0 ⟨#[]⟩ 0 0) 24))
    unfold tokC at HN HT3 HW3
    have Hjr : Hid ((r.fin : Int) + (j : Int) = ((r.fin + j : Nat) : Int)) := Lib.hid (by omega)
    go_wp2_with (first
      | (refine TokCell.store rfl rfl _ _ rfl w2.heap.size (tokC 0 0 ⟨#[]⟩ 0 0) _ _ _ _ _ rfl rfl HN.out rfl w.heap.size w HW3.out HW2.out.size ?_; intro w4 HT HB HO; obtain ⟨k0, k1, k2, k3, k4⟩ := HT.out.parts; have f3 := HT.out.free 3; have f4 := HT.out.free 4; have HT4 := Lib.hid (show TokCell w4 w.heap.size (tokC 0 0 ⟨#[]⟩ 0 0) from (HO.out w.heap.size (Nat.ne_of_lt HT2.out.lt)).trans HT3.out); have HT5 := Lib.hid (HT.out.put (j : Int) ((r.fin : Int) + (j : Int))); have HT6 := Lib.hid ((HT4.out.apart (Nat.ne_of_lt HT2.out.lt) 3 (.int .i64 (j : Int))).apart (Nat.ne_of_lt HT2.out.lt) 4 (.int .i64 ((r.fin : Int) + (j : Int)))); have HW6 := Lib.hid ((HB.out.setCell (p := ⟨w2.heap.size, 3, none⟩) HW2.out.size (.int .i64 (j : Int))).setCell (p := ⟨w2.heap.size, 4, none⟩) HW2.out.size (.int .i64 ((r.fin : Int) + (j : Int)))))
      | (refine TokCell.load rfl _ rfl w2.heap.size _ rfl HT5.out rfl ?_)
      | (refine TokCell.store rfl rfl _ _ rfl w.heap.size (tokC 0 0 ⟨#[]⟩ 0 0) _ _ _ _ _ rfl rfl HT6.out rfl w.heap.size w HW6.out (Nat.le_refl _) ?_; intro w7 HT7 HB7 HO7; clear HO7))
    obtain ⟨k0, k1, k2, k3, k4⟩ := HT7.out.parts
    rw [Hjr.out] at k4
    exact bodyPost_ret (v := .tuple #[.agg #[.int .i64 r.kind, .int .i64 r.num, .string (bytes r.str), .int .i64 (j : Int), .int .i64 ((r.fin + j : Nat) : Int)], .int .i64 0]) (by simp [results, Try.results8, go_sem, k0, k1, k2, k3, k4]) rfl ⟨rfl, HB7.out⟩
  · rw [Sg.put_err h0]
    have hcd : (r.code != 0) = true := by simpa using h0
    go_enter Try.func8, Try.ntmps8
    go_wp2_with fail
    refine (HSk.out _).mono ?_
    rintro e w1 ⟨rfl, hb⟩
    have HT1 := Lib.hid (HT0.out.later hb (by simp))
    have HW1 := Lib.hid (HW0.out.trans (hb.mono (by simp)))
    clear hb
    go_wp2_with fail
    refine (HF.out _).mono ?_
    rintro e w2 ⟨rfl, hb⟩
    have HT2 := Lib.hid (HT1.out.later hb HT1.out.lt)
    have HW2 := Lib.hid (HW1.out.trans (hb.mono HW1.out.size))
    clear hb
    have HN := Lib.hid (TokCell.new w2 (tokC 0 0 ⟨#[]⟩ 0 0))
    have HT3 := Lib.hid (HT2.out.later (w' := w2.alloc (.cells (tokC 0 0 ⟨#[]⟩ 0 0) 24)) ((Below.refl _ w2).alloc (Nat.le_refl _) _) HT2.out.lt)
    have HW3 := Lib.hid (HW2.out.alloc HW2.out.size (.cells (tokC 0 0 ⟨#[]⟩ 0 0) 24))
    unfold tokC at HN HT3 HW3
    go_wp2_with (first
      | (refine TokCell.store rfl rfl _ _ rfl w2.heap.size (tokC 0 0 ⟨#[]⟩ 0 0) _ _ _ _ _ rfl rfl HN.out rfl w.heap.size w HW3.out HW2.out.size ?_; intro w4 HT HB HO; have HT4 := Lib.hid (show TokCell w4 w.heap.size (tokC 0 0 ⟨#[]⟩ 0 0) from (HO.out w.heap.size (Nat.ne_of_lt HT2.out.lt)).trans HT3.out))
      | (refine TokCell.store rfl rfl _ _ rfl w.heap.size (tokC 0 0 ⟨#[]⟩ 0 0) _ _ _ _ _ rfl rfl HT4.out rfl w.heap.size w HB.out (Nat.le_refl _) ?_; intro w7 HT7 HB7 HO7; clear HO7))
    obtain ⟨k0, k1, k2, k3, k4⟩ := HT7.out.parts
    exact bodyPost_ret (v := .tuple #[.agg #[.int .i64 0, .int .i64 0, .string ⟨#[]⟩, .int .i64 0, .int .i64 0], .int .i64 r.code]) (by simp [results, Try.results8, go_sem, k0, k1, k2, k3, k4]) rfl ⟨rfl, HB7.out⟩
end Go.Proofs.Ytnjmapgmodoodaa
