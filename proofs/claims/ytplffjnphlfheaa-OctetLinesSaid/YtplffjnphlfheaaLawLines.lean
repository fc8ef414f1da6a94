/-
  The walk of the law OctetLines.
-/
import Derived.Test.YtplffjnphlfheaaOctets
import Derived.Test.YtplffjnphlfheaaRefLines
import Derived.Test.YtplffjnphlfheaaRefSpan
import Derived.WalkSmall
namespace Go.Proofs.Ytplffjnphlfheaa
open Go.RowKit

/-- A slice of places lies in memory, in a block of its own. -/
def Lies (W : World) (a : Option Addr) (ks : List Nat) : Prop :=
  ks = [] ∨ ∃ g, a = some ⟨g, 0, none⟩ ∧ g < W.heap.size ∧ ∀ i, i < ks.length → W.cell? ⟨g, i, none⟩ = some (.int .i64 ((ks[i]?.getD 0 : Nat) : Int))
theorem Lies.later {W W' : World} {a : Option Addr} {ks : List Nat} (h : Lies W a ks) (hb : Below W.heap.size W W') : Lies W' a ks := by
  rcases h with h | ⟨g, h1, h2, h3⟩
  · exact .inl h
  · exact .inr ⟨g, h1, Nat.lt_of_lt_of_le h2 hb.size, fun i hi => (hb.cell (p := ⟨g, i, none⟩) h2).trans (h3 i hi)⟩
theorem Lies.at {W : World} {a : Option Addr} {ks : List Nat} (h : Lies W a ks) (i : Nat) (hi : i < ks.length) :
    ∃ g, a = some ⟨g, 0, none⟩ ∧ g < W.heap.size ∧ W.cell? ⟨g, i, none⟩ = some (.int .i64 ((ks[i]?.getD 0 : Nat) : Int)) := by
  rcases h with rfl | ⟨g, h1, h2, h3⟩
  · cases hi
  · exact ⟨g, h1, h2, h3 i hi⟩

/-- What a call hands back that collects places. -/
def Listed (w : World) (ks : List Nat) (e : Ending) (w' : World) : Prop :=
  ∃ a cap, e = .returned (.slice a ks.length cap) ∧ Lies w' a ks ∧ Below w.heap.size w w'
theorem Holds.listed {w w' : World} {ks : List Nat} {e : Ending} (h : Holds w.heap.size w ks e w') : Listed w ks e w' := by
  obtain ⟨v, rfl, hr, hb⟩ := h
  rcases hr.2 with ⟨rfl, h0⟩ | ⟨g, cap, cur, rfl, hg, hblk, h1, h2, h3, h4⟩
  · refine ⟨none, 0, by rw [h0], .inl (List.eq_nil_of_length_eq_zero h0), hb⟩
  · refine ⟨some ⟨g, 0, none⟩, cap, rfl, .inr ⟨g, rfl, (Array.getElem?_eq_some_iff.1 hblk).1, fun i hi => ?_⟩, hb⟩
    have hcell := hr.cells (g := g) rfl i (.int .i64 ((ks[i]?.getD 0 : Nat) : Int)) (by
      unfold cellsOf
      rw [List.getElem?_map, List.getElem?_eq_getElem hi]; rfl)
    have e : (⟨g, 0, none⟩ : Addr).add i = ⟨g, i, none⟩ := by unfold Addr.add; split <;> simp_all
    rw [e] at hcell
    exact hcell

theorem collect_any (s : ByteArray) (w : World) (hs : s.size ≤ maxLen) (hb : s.size * 8 ≤ 140737488355328) :
    Calls Try.prog 19 #[.string s] w (Listed w (linesN s.data.toList)) :=
  (callsIn_wide (n := 3)).1 ((collect_in 3 (by omega) s hs hb w).mono fun _ _ h => h.listed)
theorem refLines_list (s : ByteArray) (w : World) (hs : s.size ≤ maxLen) (hb : s.size * 8 ≤ 140737488355328) :
    Calls Try.prog 20 #[.string s] w (Listed w (linesN s.data.toList)) :=
  (refLines_any s w hs hb).mono fun _ _ h => h.listed
theorem line_any (s : ByteArray) (f : Int) (p : ByteArray) (hs : s.size ≤ maxLen) (hf0 : -9223372036854775808 ≤ f) (hf1 : f ≤ 9223372036854775807) (w : World) :
    Calls Try.prog 21 #[.string s, .int .i64 f, .string p] w (Answers (.int .i64 (lineI s.data.toList f p.data.toList)) w) :=
  (callsIn_wide (n := 3)).1 (line_in 3 (by omega) s f p hs hf0 hf1 w)

theorem linesN_le (l : List UInt8) : (linesN l).length ≤ l.length := upto_le l l.length

set_option maxRecDepth 100000 in
set_option maxHeartbeats 2000000 in
theorem lines_walk (s : ByteArray) (f : Int) (p : ByteArray) (w : World) (hs : s.size ≤ maxLen) (hf0 : -9223372036854775808 ≤ f) (hf1 : f ≤ 9223372036854775807) :
    Calls Try.prog 5 #[.string s, .int .i64 f, .string p] w (Yes w) := by
  have hnn := func_not_nil
  have hff := func_is_func
  by_cases hbig : s.size > 2000 ∨ p.size > 2000
  · have hcase : ((2000 : Int) < (s.size : Int)) ∨ (¬ ((2000 : Int) < (s.size : Int)) ∧ (2000 : Int) < (p.size : Int)) := by omega
    clear hbig
    rcases hcase with h | ⟨h, h'⟩
    all_goals
      go_enter Try.func5, Try.ntmps5
      go_wp2_with fail
      refine (octets_any _).mono ?_
      rintro e w1 ⟨rfl, hb⟩
      have Hb := Lib.hid hb
      clear hb
      go_wp2_with fail
      refine (lines_is _ _).mono ?_
      rintro e w2 ⟨rfl, rfl⟩
      go_wp2_with fail
      go_ret
      exact ⟨rfl, Hb.out.alloc (by have := Hb.out.size; omega) _⟩
  · have h : ¬ ((2000 : Int) < (s.size : Int)) := by omega
    have h' : ¬ ((2000 : Int) < (p.size : Int)) := by omega
    have hd : decide ((2000 : Int) < (s.size : Int)) = false := by simpa using h
    have hd' : decide ((2000 : Int) < (p.size : Int)) = false := by simpa using h'
    clear hbig
    obtain ⟨L, hL⟩ : ∃ L, linesN s.data.toList = L := ⟨_, rfl⟩
    have hLl : L.length ≤ s.size := by rw [← hL]; have := linesN_le s.data.toList; simpa using this
    have hcol := fun w => collect_any s w hs (by omega)
    have href := fun w => refLines_list s w hs (by omega)
    rw [hL] at hcol href
    have HC := Lib.hid hcol
    have HR := Lib.hid href
    clear hcol href hL
    go_enter Try.func5, Try.ntmps5
    go_wp2_with fail
    refine (octets_any _).mono ?_
    rintro e w1 ⟨rfl, hb⟩
    have Hb := Lib.hid hb
    clear hb
    go_wp2_with fail
    refine (lines_is _ _).mono ?_
    rintro e w2 ⟨rfl, hw2⟩
    have Hb2 : Hid (Below w.heap.size w w2) := Lib.hid (by rw [← hw2]; exact Hb.out.alloc (by have := Hb.out.size; omega) _)
    clear hw2
    go_wp2_with fail
    refine (HC.out _).mono ?_
    rintro e w3 ⟨a1, cap1, rfl, hl1, hb3⟩
    have Hl1 := Lib.hid hl1
    have Hb3 := Lib.hid hb3
    clear hl1 hb3
    go_wp2_with fail
    refine (HR.out _).mono ?_
    rintro e w4 ⟨a2, cap2, rfl, hl2, hb4⟩
    have Hl2 := Lib.hid hl2
    have Hl1' := Lib.hid (Hl1.out.later hb4)
    have Hb4 : Hid (Below w.heap.size w w4) := Lib.hid ((Hb2.out.trans (Hb3.out.mono Hb2.out.size)).trans (hb4.mono (by have := Hb2.out.size; have := Hb3.out.size; omega)))
    clear hl2 hb4
    have hne : ((L.length : Int) != (L.length : Int)) = false := by simp
    go_wp2_with fail
    go_loopg [9] L.length (fun g s9 wx => ∃ i q : Nat, i + g = L.length ∧ s9 = .int .i64 i ∧ w4.drewN q = wx)
    case atStart => exact ⟨0, 0, by omega, rfl, rfl⟩
    case round =>
      obtain ⟨i, q, hig, rfl, rfl⟩ := hrel
      cases gk with
      | zero =>
        have hz : ¬ ((i : Int) < (L.length : Int)) := by omega
        clear hig
        go_wp2_with fail
        refine (line_any s f p hs hf0 hf1 _).mono ?_
        rintro e w5 ⟨rfl, hb5⟩
        have Hb5 := Lib.hid hb5
        clear hb5
        go_wp2_with fail
        refine (refLine_any s f p _ hs).mono ?_
        rintro e w6 ⟨rfl, rfl⟩
        go_wp2_with fail
        go_ret
        exact ⟨rfl, (below_drewN Hb4.out q).trans (Hb5.out.mono Hb4.out.size)⟩
      | succ g =>
        have hi : i < L.length := by omega
        have hz : ((i : Int) < (L.length : Int)) := by omega
        obtain ⟨g1, rfl, _, hc1⟩ := Hl1'.out.at i hi
        obtain ⟨g2, rfl, _, hc2⟩ := Hl2.out.at i hi
        obtain ⟨x, hx⟩ : ∃ x : Int, ((L[i]?.getD 0 : Nat) : Int) = x := ⟨_, rfl⟩
        rw [hx] at hc1 hc2
        clear hx
        have Hig := Lib.hid hig
        clear hig
        go_wp2_with fail
        go_quiet (fail)
        go_wp2_with fail
        go_roundg g
        case measure => omega
        case rel => exact ⟨i + 1, _, by have := Hig.out; omega, by go_num, rfl⟩

end Go.Proofs.Ytplffjnphlfheaa
