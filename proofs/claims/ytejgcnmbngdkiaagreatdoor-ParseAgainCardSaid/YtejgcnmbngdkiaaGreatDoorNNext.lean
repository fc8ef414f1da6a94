/-
  TkFirst, TkNext: texts merged.
-/
import Derived.Test.YtejgcnmbngdkiaaGreatDoorNTok
import Derived.Test.YtejgcnmbngdkiaaGreatDoorNText
import Derived.Test.YtejgcnmbngdkiaaGreatDoorNHex
import Derived.Test.YtejgcnmbngdkiaaGreatDoorNWord
/-
  token.first: the sign with which a text begins.
-/
namespace Go.Proofs.YtejgcnmbngdkiaaGreatDoor
section
open Go.RowKit
set_option maxRecDepth 100000

theorem pre_is (s p : ByteArray) (w : World) {b : Bool} (h : preB s.data.toList p.data.toList = b) : Calls Tryz.prog 56 #[.string s, .string p] w fun e w' => e = .returned (.bool b) ∧ w = w' := by
  rw [← h]; exact pre_any s p w
/-- What the functions tell that first calls, in one form. -/
theorem told_of {f : FuncId} {u : ByteArray} {w : World} {x r : Sg} (hr : x = r) (h : Calls Tryz.prog f #[.string u] w fun e w' => e = .returned x.told ∧ Below w.heap.size w w') :
    Calls Tryz.prog f #[.string u] w fun e w' => e = .returned (.tuple #[.agg (tokC r.kind r.num (bytes r.str) (r.beg : Int) (r.fin : Int)), .int .i64 r.code]) ∧ Below w.heap.size w w' := by
  subst hr; exact h

set_option maxHeartbeats 4000000 in
theorem first_any (u : ByteArray) (w : World) (hs : u.size ≤ 100000000) :
    Calls Tryz.prog 32 #[.string u] w fun e w' => e = .returned (firstL u.data.toList).told ∧ Below w.heap.size w w' := by
  have HW0 := Lib.hid ((Below.refl _ w).alloc (Nat.le_refl _) (.cells (tokC 0 0 ⟨#[]⟩ 0 0) 52))
  have HT0 := Lib.hid (TokCell.new w (tokC 0 0 ⟨#[]⟩ 0 0))
  unfold tokC at HW0 HT0
  obtain ⟨r, hr⟩ : ∃ r, firstL u.data.toList = r := ⟨_, rfl⟩
  rw [hr]
  cases hl : u.data.toList with
  | nil =>
    obtain rfl : u = ⟨#[]⟩ := bytes_eq hl
    obtain rfl : Sg.bare 0 0 = r := hr
    go_enter Tryz.func32, Tryz.ntmps32
    go_wp2_with (refine TokCell.store rfl rfl _ _ rfl w.heap.size (tokC 0 0 ⟨#[]⟩ 0 0) _ _ _ _ _ rfl rfl (HT0.out) rfl w.heap.size w HW0.out (Nat.le_refl _) ?_; intro w2 HT HB HO; clear HO)
    obtain ⟨k0, k1, k2, k3, k4⟩ := HT.out.parts
    exact bodyPost_ret (v := .tuple #[.agg #[.int .i64 0, .int .i64 0, .string ⟨#[]⟩, .int .i64 0, .int .i64 0], .int .i64 0]) (by simp [results, Tryz.results32, go_sem, k0, k1, k2, k3, k4]) rfl ⟨rfl, HB.out⟩
  | cons c t =>
    have h0 : 0 < u.size := by rw [size_data, hl]; simp
    have he := isEmpty_not (show ¬ u.data.toList = [] by rw [hl]; simp)
    have hne : ¬ u = ByteArray.empty := by rintro rfl; exact absurd h0 (by decide)
    have hc : u[0] = c := by have h1 := byte_at u 0 h0; rw [hl] at h1; exact (by simpa using h1.symm)
    have hd : u.data.toList.drop 1 = t := by rw [hl]; rfl
    rw [hl] at hr
    by_cases h91 : c.toNat = 91
    · have hz : (c.toNat : Int) = 91 := by omega
      have hf : firstL (c :: t) = Sg.bare 4 1 := by
        unfold firstL
        simp only
        rw [if_pos h91]
      rw [hf] at hr
      subst hr
      clear hf hl hd h91
      go_enter Tryz.func32, Tryz.ntmps32
      go_wp2_with (refine TokCell.store rfl rfl _ _ rfl w.heap.size (tokC 0 0 ⟨#[]⟩ 0 0) _ _ _ _ _ rfl rfl (HT0.out) rfl w.heap.size w HW0.out (Nat.le_refl _) ?_; intro w2 HT HB HO; clear HO)
      obtain ⟨k0, k1, k2, k3, k4⟩ := HT.out.parts
      exact bodyPost_ret (v := .tuple #[.agg #[.int .i64 4, .int .i64 0, .string ⟨#[]⟩, .int .i64 0, .int .i64 1], .int .i64 0]) (by simp [results, Tryz.results32, go_sem, k0, k1, k2, k3, k4]) rfl ⟨rfl, HB.out⟩
    · have g91 : ((c.toNat : Int) == 91) = false := by simp; omega
      by_cases h93 : c.toNat = 93
      · have hz : (c.toNat : Int) = 93 := by omega
        have hf : firstL (c :: t) = Sg.bare 5 1 := by
          unfold firstL
          simp only
          rw [if_neg (by omega), if_pos h93]
        rw [hf] at hr
        subst hr
        clear hf hl hd h93
        go_enter Tryz.func32, Tryz.ntmps32
        go_wp2_with (refine TokCell.store rfl rfl _ _ rfl w.heap.size (tokC 0 0 ⟨#[]⟩ 0 0) _ _ _ _ _ rfl rfl (HT0.out) rfl w.heap.size w HW0.out (Nat.le_refl _) ?_; intro w2 HT HB HO; clear HO)
        obtain ⟨k0, k1, k2, k3, k4⟩ := HT.out.parts
        exact bodyPost_ret (v := .tuple #[.agg #[.int .i64 5, .int .i64 0, .string ⟨#[]⟩, .int .i64 0, .int .i64 1], .int .i64 0]) (by simp [results, Tryz.results32, go_sem, k0, k1, k2, k3, k4]) rfl ⟨rfl, HB.out⟩
      · have g93 : ((c.toNat : Int) == 93) = false := by simp; omega
        by_cases h47 : c.toNat = 47
        · have hz : (c.toNat : Int) = 47 := by omega
          have hf : firstL (c :: t) = nameGo [] 1 t := by
            unfold firstL
            simp only
            rw [if_neg (by omega), if_neg (by omega), if_pos h47]
          have HX := Lib.hid (fun W => told_of (r := r) (by rw [hd, ← hf]; exact hr) (name_any u W (by omega) h0))
          clear hf hl hd h47
          go_enter Tryz.func32, Tryz.ntmps32
          go_wp2_with fail
          refine (HX.out _).mono ?_
          rintro e w1 ⟨rfl, hb⟩
          have HT1 := Lib.hid (HT0.out.later hb (by simp))
          have HW1 := Lib.hid (HW0.out.trans (hb.mono (by simp)))
          clear hb
          go_wp2_with (refine TokCell.store rfl rfl _ _ rfl w.heap.size (tokC 0 0 ⟨#[]⟩ 0 0) _ _ _ _ _ rfl rfl (HT1.out) rfl w.heap.size w HW1.out (Nat.le_refl _) ?_; intro w2 HT HB HO; clear HO)
          obtain ⟨k0, k1, k2, k3, k4⟩ := HT.out.parts
          exact bodyPost_ret (v := .tuple #[.agg #[.int .i64 r.kind, .int .i64 r.num, .string (bytes r.str), .int .i64 (r.beg : Int), .int .i64 (r.fin : Int)], .int .i64 r.code]) (by simp [results, Tryz.results32, go_sem, k0, k1, k2, k3, k4]) rfl ⟨rfl, HB.out⟩
        · have g47 : ((c.toNat : Int) == 47) = false := by simp; omega
          by_cases h40 : c.toNat = 40
          · have hz : (c.toNat : Int) = 40 := by omega
            have hf : firstL (c :: t) = textGo 1 [] 1 t := by
              unfold firstL
              simp only
              rw [if_neg (by omega), if_neg (by omega), if_neg (by omega), if_pos h40]
            have HX := Lib.hid (fun W => told_of (r := r) (by rw [hd, ← hf]; exact hr) (text_any u W (by omega) h0))
            clear hf hl hd h40
            go_enter Tryz.func32, Tryz.ntmps32
            go_wp2_with fail
            refine (HX.out _).mono ?_
            rintro e w1 ⟨rfl, hb⟩
            have HT1 := Lib.hid (HT0.out.later hb (by simp))
            have HW1 := Lib.hid (HW0.out.trans (hb.mono (by simp)))
            clear hb
            go_wp2_with (refine TokCell.store rfl rfl _ _ rfl w.heap.size (tokC 0 0 ⟨#[]⟩ 0 0) _ _ _ _ _ rfl rfl (HT1.out) rfl w.heap.size w HW1.out (Nat.le_refl _) ?_; intro w2 HT HB HO; clear HO)
            obtain ⟨k0, k1, k2, k3, k4⟩ := HT.out.parts
            exact bodyPost_ret (v := .tuple #[.agg #[.int .i64 r.kind, .int .i64 r.num, .string (bytes r.str), .int .i64 (r.beg : Int), .int .i64 (r.fin : Int)], .int .i64 r.code]) (by simp [results, Tryz.results32, go_sem, k0, k1, k2, k3, k4]) rfl ⟨rfl, HB.out⟩
          · have g40 : ((c.toNat : Int) == 40) = false := by simp; omega
            by_cases h60 : c.toNat = 60
            · have hz : (c.toNat : Int) = 60 := by omega
              cases hp : preB (c :: t) [60, 60] with
              | true =>
                have hf : firstL (c :: t) = Sg.bare 6 2 := by
                  unfold firstL
                  simp only
                  rw [if_neg (by omega), if_neg (by omega), if_neg (by omega), if_neg (by omega), if_pos h60, if_pos hp]
                rw [hf] at hr
                subst hr
                have HP := Lib.hid (fun W => pre_is (b := true) u ⟨#[60, 60]⟩ W (by rw [hl]; exact hp))
                clear hf hl hd h60 hp
                go_enter Tryz.func32, Tryz.ntmps32
                go_wp2_with fail
                refine (HP.out _).mono ?_
                rintro e w1 ⟨rfl, rfl⟩
                go_wp2_with (refine TokCell.store rfl rfl _ _ rfl w.heap.size (tokC 0 0 ⟨#[]⟩ 0 0) _ _ _ _ _ rfl rfl (HT0.out) rfl w.heap.size w HW0.out (Nat.le_refl _) ?_; intro w2 HT HB HO; clear HO)
                obtain ⟨k0, k1, k2, k3, k4⟩ := HT.out.parts
                exact bodyPost_ret (v := .tuple #[.agg #[.int .i64 6, .int .i64 0, .string ⟨#[]⟩, .int .i64 0, .int .i64 2], .int .i64 0]) (by simp [results, Tryz.results32, go_sem, k0, k1, k2, k3, k4]) rfl ⟨rfl, HB.out⟩
              | false =>
                have hf : firstL (c :: t) = hexGo [] 1 t := by
                  unfold firstL
                  simp only
                  rw [if_neg (by omega), if_neg (by omega), if_neg (by omega), if_neg (by omega), if_pos h60, if_neg (by rw [hp]; decide)]
                have HX := Lib.hid (fun W => told_of (r := r) (by rw [hd, ← hf]; exact hr) (hexText_any u W (by omega) h0))
                have HP := Lib.hid (fun W => pre_is (b := false) u ⟨#[60, 60]⟩ W (by rw [hl]; exact hp))
                clear hf hl hd h60 hp
                go_enter Tryz.func32, Tryz.ntmps32
                go_wp2_with fail
                refine (HP.out _).mono ?_
                rintro e w1 ⟨rfl, rfl⟩
                go_wp2_with fail
                refine (HX.out _).mono ?_
                rintro e w1 ⟨rfl, hb⟩
                have HT1 := Lib.hid (HT0.out.later hb (by simp))
                have HW1 := Lib.hid (HW0.out.trans (hb.mono (by simp)))
                clear hb
                go_wp2_with (refine TokCell.store rfl rfl _ _ rfl w.heap.size (tokC 0 0 ⟨#[]⟩ 0 0) _ _ _ _ _ rfl rfl (HT1.out) rfl w.heap.size w HW1.out (Nat.le_refl _) ?_; intro w2 HT HB HO; clear HO)
                obtain ⟨k0, k1, k2, k3, k4⟩ := HT.out.parts
                exact bodyPost_ret (v := .tuple #[.agg #[.int .i64 r.kind, .int .i64 r.num, .string (bytes r.str), .int .i64 (r.beg : Int), .int .i64 (r.fin : Int)], .int .i64 r.code]) (by simp [results, Tryz.results32, go_sem, k0, k1, k2, k3, k4]) rfl ⟨rfl, HB.out⟩
            · have g60 : ((c.toNat : Int) == 60) = false := by simp; omega
              by_cases h62 : c.toNat = 62
              · have hz : (c.toNat : Int) = 62 := by omega
                cases hp : preB (c :: t) [62, 62] with
                | true =>
                  have hf : firstL (c :: t) = Sg.bare 7 2 := by
                    unfold firstL
                    simp only
                    rw [if_neg (by omega), if_neg (by omega), if_neg (by omega), if_neg (by omega), if_neg (by omega), if_pos h62, if_pos hp]
                  rw [hf] at hr
                  subst hr
                  have HP := Lib.hid (fun W => pre_is (b := true) u ⟨#[62, 62]⟩ W (by rw [hl]; exact hp))
                  clear hf hl hd h62 hp
                  go_enter Tryz.func32, Tryz.ntmps32
                  go_wp2_with fail
                  refine (HP.out _).mono ?_
                  rintro e w1 ⟨rfl, rfl⟩
                  go_wp2_with (refine TokCell.store rfl rfl _ _ rfl w.heap.size (tokC 0 0 ⟨#[]⟩ 0 0) _ _ _ _ _ rfl rfl (HT0.out) rfl w.heap.size w HW0.out (Nat.le_refl _) ?_; intro w2 HT HB HO; clear HO)
                  obtain ⟨k0, k1, k2, k3, k4⟩ := HT.out.parts
                  exact bodyPost_ret (v := .tuple #[.agg #[.int .i64 7, .int .i64 0, .string ⟨#[]⟩, .int .i64 0, .int .i64 2], .int .i64 0]) (by simp [results, Tryz.results32, go_sem, k0, k1, k2, k3, k4]) rfl ⟨rfl, HB.out⟩
                | false =>
                  have hf : firstL (c :: t) = Sg.err 4 := by
                    unfold firstL
                    simp only
                    rw [if_neg (by omega), if_neg (by omega), if_neg (by omega), if_neg (by omega), if_neg (by omega), if_pos h62, if_neg (by rw [hp]; decide)]
                  rw [hf] at hr
                  subst hr
                  have HP := Lib.hid (fun W => pre_is (b := false) u ⟨#[62, 62]⟩ W (by rw [hl]; exact hp))
                  clear hf hl hd h62 hp
                  go_enter Tryz.func32, Tryz.ntmps32
                  go_wp2_with fail
                  refine (HP.out _).mono ?_
                  rintro e w1 ⟨rfl, rfl⟩
                  go_wp2_with (refine TokCell.store rfl rfl _ _ rfl w.heap.size (tokC 0 0 ⟨#[]⟩ 0 0) _ _ _ _ _ rfl rfl (HT0.out) rfl w.heap.size w HW0.out (Nat.le_refl _) ?_; intro w2 HT HB HO; clear HO)
                  obtain ⟨k0, k1, k2, k3, k4⟩ := HT.out.parts
                  exact bodyPost_ret (v := .tuple #[.agg #[.int .i64 0, .int .i64 0, .string ⟨#[]⟩, .int .i64 0, .int .i64 0], .int .i64 4]) (by simp [results, Tryz.results32, go_sem, k0, k1, k2, k3, k4]) rfl ⟨rfl, HB.out⟩
              · have g62 : ((c.toNat : Int) == 62) = false := by simp; omega
                by_cases hq : c.toNat = 41 ∨ c.toNat = 123 ∨ c.toNat = 125
                · have hf : firstL (c :: t) = Sg.err 4 := by
                    unfold firstL
                    simp only
                    rw [if_neg (by omega), if_neg (by omega), if_neg (by omega), if_neg (by omega), if_neg (by omega), if_neg (by omega), if_pos hq]
                  rw [hf] at hr
                  subst hr
                  have hq' : (c.toNat : Int) = 41 ∨ (c.toNat : Int) = 123 ∨ (c.toNat : Int) = 125 := by omega
                  clear hf hl hd hq
                  rcases hq' with hz | hz | hz
                  all_goals
                    clear g91 g93 g47 g40 g60 g62
                    go_enter Tryz.func32, Tryz.ntmps32
                    go_wp2_with (refine TokCell.store rfl rfl _ _ rfl w.heap.size (tokC 0 0 ⟨#[]⟩ 0 0) _ _ _ _ _ rfl rfl (HT0.out) rfl w.heap.size w HW0.out (Nat.le_refl _) ?_; intro w2 HT HB HO; clear HO)
                    obtain ⟨k0, k1, k2, k3, k4⟩ := HT.out.parts
                    exact bodyPost_ret (v := .tuple #[.agg #[.int .i64 0, .int .i64 0, .string ⟨#[]⟩, .int .i64 0, .int .i64 0], .int .i64 4]) (by simp [results, Tryz.results32, go_sem, k0, k1, k2, k3, k4]) rfl ⟨rfl, HB.out⟩
                · have g41 : ((c.toNat : Int) == 41) = false := by simp; omega
                  have g123 : ((c.toNat : Int) == 123) = false := by simp; omega
                  have g125 : ((c.toNat : Int) == 125) = false := by simp; omega
                  have hf : firstL (c :: t) = wordL (c :: t) := by
                    unfold firstL
                    simp only
                    rw [if_neg (by omega), if_neg (by omega), if_neg (by omega), if_neg (by omega), if_neg (by omega), if_neg (by omega), if_neg (by omega)]
                  have HX := Lib.hid (fun W => told_of (r := r) (by rw [hl, ← hf]; exact hr) (word_any u W (by omega)))
                  clear hf hl hd hq h91 h93 h47 h40 h60 h62
                  go_enter Tryz.func32, Tryz.ntmps32
                  go_wp2_with fail
                  refine (HX.out _).mono ?_
                  rintro e w1 ⟨rfl, hb⟩
                  have HT1 := Lib.hid (HT0.out.later hb (by simp))
                  have HW1 := Lib.hid (HW0.out.trans (hb.mono (by simp)))
                  clear hb
                  go_wp2_with (refine TokCell.store rfl rfl _ _ rfl w.heap.size (tokC 0 0 ⟨#[]⟩ 0 0) _ _ _ _ _ rfl rfl (HT1.out) rfl w.heap.size w HW1.out (Nat.le_refl _) ?_; intro w2 HT HB HO; clear HO)
                  obtain ⟨k0, k1, k2, k3, k4⟩ := HT.out.parts
                  exact bodyPost_ret (v := .tuple #[.agg #[.int .i64 r.kind, .int .i64 r.num, .string (bytes r.str), .int .i64 (r.beg : Int), .int .i64 (r.fin : Int)], .int .i64 r.code]) (by simp [results, Tryz.results32, go_sem, k0, k1, k2, k3, k4]) rfl ⟨rfl, HB.out⟩
end
end Go.Proofs.YtejgcnmbngdkiaaGreatDoor
/-
  token.Next: the next sign.
-/
namespace Go.Proofs.YtejgcnmbngdkiaaGreatDoor
section
open Go.RowKit
set_option maxRecDepth 100000

theorem skip_is (s : ByteArray) (a : Int) (w : World) (hs : s.size ≤ maxLen) {j : Nat} (hj : skipI s.data.toList a = j) :
    Calls Tryz.prog 31 #[.string s, .int .i64 a] w fun e w' => e = .returned (.int .i64 (j : Int)) ∧ Below w.heap.size w w' := by
  rw [← hj]; exact skip_any s a w hs
theorem first_is (u : ByteArray) (w : World) (hs : u.size ≤ 100000000) {l : List UInt8} (hu : u.data.toList = l) {r : Sg} (hr : firstL l = r) :
    Calls Tryz.prog 32 #[.string u] w fun e w' => e = .returned (.tuple #[.agg (tokC r.kind r.num (bytes r.str) (r.beg : Int) (r.fin : Int)), .int .i64 r.code]) ∧ Below w.heap.size w w' := by
  subst hu hr; exact first_any u w hs
theorem TokCell.put {w : World} {b : Nat} {k n : Int} {s : ByteArray} {a e : Int} (h : TokCell w b (tokC k n s a e)) (a' e' : Int) :
    TokCell ((w.setCell ⟨b, 3, none⟩ (.int .i64 a')).setCell ⟨b, 4, none⟩ (.int .i64 e')) b (tokC k n s a' e') := (h.set 3 (.int .i64 a')).set 4 (.int .i64 e')
theorem TokCell.apart {w : World} {b c : Nat} {cs : Array Value} (h : TokCell w b cs) (hn : b ≠ c) (j : Nat) (v : Value) : TokCell (w.setCell ⟨c, j, none⟩ v) b cs := (heap_setCell_other _ _ _ _ hn).trans h

set_option maxHeartbeats 4000000 in
theorem next_any (s : ByteArray) (a : Int) (w : World) (hs : s.size ≤ 100000000) :
    Calls Tryz.prog 18 #[.string s, .int .i64 a] w fun e w' => e = .returned (nextI s.data.toList a).told ∧ Below w.heap.size w w' := by
  have HW0 := Lib.hid ((Below.refl _ w).alloc (Nat.le_refl _) (.cells (tokC 0 0 ⟨#[]⟩ 0 0) 52))
  have HT0 := Lib.hid (TokCell.new w (tokC 0 0 ⟨#[]⟩ 0 0))
  unfold tokC at HW0 HT0
  obtain ⟨j, hj⟩ : ∃ j, skipI s.data.toList a = j := ⟨_, rfl⟩
  have hjl := (skipN_le (placeN_le s.data.toList a)).2
  rw [show skipN s.data.toList (placeN s.data.toList a) = j from hj, ← size_data] at hjl
  obtain ⟨r, hr⟩ : ∃ r, firstL (s.data.toList.drop j) = r := ⟨_, rfl⟩
  have hn : nextI s.data.toList a = r.put j := by
    unfold nextI nextN
    rw [show skipN s.data.toList (placeN s.data.toList a) = j from hj, hr]
  have hg := (first_good (s.data.toList.drop j) (fun c t h => by
    rw [← hj] at h
    unfold skipI skipN at h
    rw [← List.drop_drop] at h
    exact skip_head _ false c t h)).1
  rw [hr, List.length_drop, ← size_data] at hg
  have hfin := hg.2.1
  rw [hn]
  have HSk := Lib.hid (fun W => skip_is s a W (by unfold maxLen; omega) hj)
  have HF := Lib.hid (fun W => first_is (s.extract j s.size) W (by rw [ByteArray.size_extract]; omega) (by rw [Lib.extract_to_end]) hr)
  clear hj hr hn hg
  by_cases h0 : r.code = 0
  · rw [Sg.put_ok h0]
    have hcd : (r.code != 0) = false := by simpa using h0
    go_enter Tryz.func18, Tryz.ntmps18
    go_wp2_with fail
    refine (HSk.out _).mono ?_
    rintro e w1 ⟨rfl, hb⟩
    have HT1 := Lib.hid (HT0.out.later hb (by simp))
    have HW1 := Lib.hid (HW0.out.trans (hb.mono (by simp)))
    clear hb
    go_wp2_with fail
    refine (HF.out _).mono ?_
    rintro e w2 ⟨rfl, hb⟩
    have HT2 := Lib.hid (HT1.out.later hb HT1.out.lt)
    have HW2 := Lib.hid (HW1.out.trans (hb.mono HW1.out.size))
    clear hb
    have HN := Lib.hid (TokCell.new w2 (tokC 0 0 ⟨#[]⟩ 0 0))
    have HT3 := Lib.hid (HT2.out.later (w' := w2.alloc (.cells (tokC 0 0 ⟨#[]⟩ 0 0) 52)) ((Below.refl _ w2).alloc (Nat.le_refl _) _) HT2.out.lt)
    have HW3 := Lib.hid (HW2.out.alloc HW2.out.size (.cells (tokC 0 0 ⟨#[]⟩ 0 0) 52))
    unfold tokC at HN HT3 HW3
    have Hjr : Hid ((r.fin : Int) + (j : Int) = ((r.fin + j : Nat) : Int)) := Lib.hid (by omega)
    go_wp2_with (first
      | (refine TokCell.store rfl rfl _ _ rfl w2.heap.size (tokC 0 0 ⟨#[]⟩ 0 0) _ _ _ _ _ rfl rfl HN.out rfl w.heap.size w HW3.out HW2.out.size ?_; intro w4 HT HB HO; obtain ⟨k0, k1, k2, k3, k4⟩ := HT.out.parts; have f3 := HT.out.free 3; have f4 := HT.out.free 4; have HT4 := Lib.hid (show TokCell w4 w.heap.size (tokC 0 0 ⟨#[]⟩ 0 0) from (HO.out w.heap.size (Nat.ne_of_lt HT2.out.lt)).trans HT3.out); have HT5 := Lib.hid (HT.out.put (j : Int) ((r.fin : Int) + (j : Int))); have HT6 := Lib.hid ((HT4.out.apart (Nat.ne_of_lt HT2.out.lt) 3 (.int .i64 (j : Int))).apart (Nat.ne_of_lt HT2.out.lt) 4 (.int .i64 ((r.fin : Int) + (j : Int)))); have HW6 := Lib.hid ((HB.out.setCell (p := ⟨w2.heap.size, 3, none⟩) HW2.out.size (.int .i64 (j : Int))).setCell (p := ⟨w2.heap.size, 4, none⟩) HW2.out.size (.int .i64 ((r.fin : Int) + (j : Int)))))
      | (refine TokCell.load rfl _ rfl w2.heap.size _ rfl HT5.out rfl ?_)
      | (refine TokCell.store rfl rfl _ _ rfl w.heap.size (tokC 0 0 ⟨#[]⟩ 0 0) _ _ _ _ _ rfl rfl HT6.out rfl w.heap.size w HW6.out (Nat.le_refl _) ?_; intro w7 HT7 HB7 HO7; clear HO7))
    obtain ⟨k0, k1, k2, k3, k4⟩ := HT7.out.parts
    rw [Hjr.out] at k4
    exact bodyPost_ret (v := .tuple #[.agg #[.int .i64 r.kind, .int .i64 r.num, .string (bytes r.str), .int .i64 (j : Int), .int .i64 ((r.fin + j : Nat) : Int)], .int .i64 0]) (by simp [results, Tryz.results18, go_sem, k0, k1, k2, k3, k4]) rfl ⟨rfl, HB7.out⟩
  · rw [Sg.put_err h0]
    have hcd : (r.code != 0) = true := by simpa using h0
    go_enter Tryz.func18, Tryz.ntmps18
    go_wp2_with fail
    refine (HSk.out _).mono ?_
    rintro e w1 ⟨rfl, hb⟩
    have HT1 := Lib.hid (HT0.out.later hb (by simp))
    have HW1 := Lib.hid (HW0.out.trans (hb.mono (by simp)))
    clear hb
    go_wp2_with fail
    refine (HF.out _).mono ?_
    rintro e w2 ⟨rfl, hb⟩
    have HT2 := Lib.hid (HT1.out.later hb HT1.out.lt)
    have HW2 := Lib.hid (HW1.out.trans (hb.mono HW1.out.size))
    clear hb
    have HN := Lib.hid (TokCell.new w2 (tokC 0 0 ⟨#[]⟩ 0 0))
    have HT3 := Lib.hid (HT2.out.later (w' := w2.alloc (.cells (tokC 0 0 ⟨#[]⟩ 0 0) 52)) ((Below.refl _ w2).alloc (Nat.le_refl _) _) HT2.out.lt)
    have HW3 := Lib.hid (HW2.out.alloc HW2.out.size (.cells (tokC 0 0 ⟨#[]⟩ 0 0) 52))
    unfold tokC at HN HT3 HW3
    go_wp2_with (first
      | (refine TokCell.store rfl rfl _ _ rfl w2.heap.size (tokC 0 0 ⟨#[]⟩ 0 0) _ _ _ _ _ rfl rfl HN.out rfl w.heap.size w HW3.out HW2.out.size ?_; intro w4 HT HB HO; have HT4 := Lib.hid (show TokCell w4 w.heap.size (tokC 0 0 ⟨#[]⟩ 0 0) from (HO.out w.heap.size (Nat.ne_of_lt HT2.out.lt)).trans HT3.out))
      | (refine TokCell.store rfl rfl _ _ rfl w.heap.size (tokC 0 0 ⟨#[]⟩ 0 0) _ _ _ _ _ rfl rfl HT4.out rfl w.heap.size w HB.out (Nat.le_refl _) ?_; intro w7 HT7 HB7 HO7; clear HO7))
    obtain ⟨k0, k1, k2, k3, k4⟩ := HT7.out.parts
    exact bodyPost_ret (v := .tuple #[.agg #[.int .i64 0, .int .i64 0, .string ⟨#[]⟩, .int .i64 0, .int .i64 0], .int .i64 r.code]) (by simp [results, Tryz.results18, go_sem, k0, k1, k2, k3, k4]) rfl ⟨rfl, HB7.out⟩
end
end Go.Proofs.YtejgcnmbngdkiaaGreatDoor
