/-
  The walks of the laws of the stage fields: over the contracts of package fields (fPut_is, fGet_is, fNeed_any, fRow_is, fCut_any).
-/
import Derived.Test.YtjdhpemkajijnaaFContracts
import Derived.Test.YtjdhpemkajijnaaFRef4
import Derived.Test.YtjdhpemkajijnaaFBack
namespace Go.Proofs.Ytjdhpemkajijnaa
open Go.RowKit

/-- It answers yes, and leaves what lay. -/
def Yes (w : World) (e : Ending) (w' : World) : Prop := e = .returned (.bool true) ∧ Below w.heap.size w w'

theorem ex_put1 : putF 258 3 = ((ByteArray.mk #[0, 1, 2]).data.toList, 0) := by decide
theorem ex_put2 : putF 256 1 = ((ByteArray.mk #[]).data.toList, 3) := by decide
theorem ex_cut : cutF (ByteArray.mk #[1, 2, 3]).data.toList [1, 2, 0] = ([1, 515, 0], 0) := by decide
theorem wid1 : widN 255 = 1 := by rw [widN_pos (by decide)]; exact congrArg (· + 1) widN_zero
theorem wid2 : widN 256 = 2 := by rw [widN_pos (by decide)]; show widN 1 + 1 = 2; rw [widN_pos (by decide)]; exact congrArg (· + 1 + 1) widN_zero
theorem ex_need1 : needF [255, 256] = 2 := by
  unfold needF needFrom needFrom needFrom
  rw [if_neg (by decide), if_neg (by decide)]
  show ((max (max 0 (widN 255)) (widN 256) : Nat) : Int) = 2
  rw [wid1, wid2]; rfl
theorem ex_need2 : needF [] = 0 := rfl
theorem ex_need3 : needF [3, -1] = -1 := by
  unfold needF needFrom needFrom
  rw [if_neg (by decide), if_pos (by decide)]

theorem fNeed_is (p : Option Addr) (cap n : Nat) (zs : List Int) (w : World) (hn : n = zs.length) (hz : zs.length ≤ 9223372036854775807) (hi : Ints zs) (hp : Nums w p zs) {r : Int} (hr : needF zs = r) :
    Calls Try.prog 12 #[.slice p n cap] w fun e w' => e = .returned (.int .i64 r) ∧ Below w.heap.size w w' := by
  subst hn; rw [← hr]; exact fNeed_any p cap zs w hz hi hp
theorem rNeed_is (p : Option Addr) (cap : Nat) (zs : List Int) (w : World) (hz : zs.length ≤ 9223372036854775807) (hi : Ints zs) (hp : Nums w p zs) {r : Int} (hr : needF zs = r) :
    Calls Try.prog 13 #[.slice p zs.length cap] w fun e w' => e = .returned (.int .i64 r) ∧ Below w.heap.size w w' := by
  rw [← hr]; exact rNeedF_any p cap zs w hz hi hp
theorem rRow_is (p1 : Option Addr) (c1 : Nat) (ns : List Int) (p2 : Option Addr) (c2 : Nat) (ws : List Int) (w : World) (hz1 : ns.length ≤ 9223372036854775807) (hi : Ints ns) (hp1 : Nums w p1 ns) (hp2 : Nums w p2 ws)
    {u : ByteArray} {b : Int} (h : rowF ns ws = (u.data.toList, b)) :
    Calls Try.prog 15 #[.slice p1 ns.length c1, .slice p2 ws.length c2] w fun e w' => e = .returned (.tuple #[.string u, .int .i64 b]) ∧ Below w.heap.size w w' := by
  have hr := rRowF_any p1 c1 ns p2 c2 ws w hz1 hi hp1 hp2
  rw [h] at hr; unfold TextNum at hr; rw [bytes_of] at hr; exact hr
theorem fCut_is (s : ByteArray) (p : Option Addr) (c n : Nat) (ws : List Int) (w : World) (hn : n = ws.length) (hs : s.size ≤ maxLen) (hz : ws.length ≤ 9223372036854775807) (hi : Ints ws) (hp : Nums w p ws) {l : List Int} {b : Int} (h : cutF s.data.toList ws = (l, b)) :
    Calls Try.prog 16 #[.string s, .slice p n c] w fun e w' => ∃ a cap, e = .returned (.tuple #[.slice a l.length cap, .int .i64 b]) ∧ Nums w' a l ∧ Below w.heap.size w w' := by
  subst hn
  have hr := fCut_any s p c ws w hs hz hi hp
  rw [h] at hr; exact hr
theorem rCut_is (s : ByteArray) (p : Option Addr) (c : Nat) (ws : List Int) (w : World) (hs : s.size ≤ maxLen) (hz : ws.length ≤ 9223372036854775807) (hp : Nums w p ws) {l : List Int} {b : Int} (h : cutF s.data.toList ws = (l, b)) :
    Calls Try.prog 17 #[.string s, .slice p ws.length c] w fun e w' => ∃ a cap, e = .returned (.tuple #[.slice a l.length cap, .int .i64 b]) ∧ Nums w' a l ∧ Below w.heap.size w w' := by
  have hr := rCutF_any s p c ws w hs hz hp
  rw [h] at hr; exact hr
theorem same_is (p1 : Option Addr) (c1 n1 : Nat) (xs : List Int) (p2 : Option Addr) (c2 n2 : Nat) (ys : List Int) (w : World) (hn1 : n1 = xs.length) (hn2 : n2 = ys.length) (hz1 : xs.length ≤ 9223372036854775807) (hp1 : Nums w p1 xs) (hp2 : Nums w p2 ys) {b : Bool} (hb : decide (xs = ys) = b) :
    Calls Try.prog 18 #[.slice p1 n1 c1, .slice p2 n2 c2] w fun e w' => e = .returned (.bool b) ∧ ∃ q, w.drewN q = w' := by
  subst hn1; subst hn2; rw [← hb]; exact rSame_any p1 c1 xs p2 c2 ys w hz1 hp1 hp2

set_option maxRecDepth 100000 in
set_option maxHeartbeats 2000000 in
theorem wide_any (w : World) : Calls Try.prog 9 #[] w (Yes w) := by
  go_enter Try.func9, Try.ntmps9
  go_wp2_with fail
  refine (fPut_is 258 3 _ (by decide) (by decide) ex_put1).mono ?_
  rintro e w1 ⟨rfl, hb⟩
  have Hb1 := Lib.hid hb
  clear hb
  go_wp2_with fail
  refine (fCut_is _ _ 3 3 [1, 2, 0] _ rfl (by decide) (by decide) (ints_of (by decide)) (nums_new _ [1, 2, 0] _ rfl) ex_cut).mono ?_
  rintro e w2 ⟨a, cap, rfl, hn, hb⟩
  have Hn2 := Lib.hid hn
  have Hb2 : Hid (Below w.heap.size w w2) := Lib.hid ((Hb1.out.alloc Hb1.out.size _).trans (hb.mono (by have := Hb1.out.size; simp; omega)))
  clear hb hn
  go_wp2_with fail
  refine (fPut_is 256 1 _ (by decide) (by decide) ex_put2).mono ?_
  rintro e w3 ⟨rfl, hb⟩
  have Hn3 := Lib.hid (Hn2.out.later hb)
  have Hb3 := Lib.hid (Hb2.out.trans (hb.mono Hb2.out.size))
  clear hb
  go_wp2_with fail
  refine (same_is _ _ _ [1, 515, 0] _ 3 3 [1, 515, 0] _ rfl rfl (by decide) (Hn3.out.later ((Below.refl _ _).alloc (Nat.le_refl _) _)) (nums_new _ [1, 515, 0] _ rfl) (b := true) (by decide)).mono ?_
  rintro e w4 ⟨rfl, q4, hq⟩
  have Hb4 : Hid (Below w.heap.size w w4) := Lib.hid (by rw [← hq]; exact below_drewN (Hb3.out.alloc Hb3.out.size _) q4)
  clear hq
  go_wp2_with fail
  refine (fNeed_is _ 2 2 [255, 256] _ rfl (by decide) (ints_of (by decide)) (nums_new _ [255, 256] _ rfl) ex_need1).mono ?_
  rintro e w5 ⟨rfl, hb⟩
  have Hb5 : Hid (Below w.heap.size w w5) := Lib.hid ((Hb4.out.alloc Hb4.out.size _).trans (hb.mono (by have := Hb4.out.size; simp; omega)))
  clear hb
  go_wp2_with fail
  refine (fNeed_is _ 0 0 [] _ rfl (by decide) (ints_of (by decide)) (.inl rfl) ex_need2).mono ?_
  rintro e w6 ⟨rfl, hb⟩
  have Hb6 := Lib.hid (Hb5.out.trans (hb.mono Hb5.out.size))
  clear hb
  go_wp2_with fail
  refine (fNeed_is _ 2 2 [3, -1] _ rfl (by decide) (ints_of (by decide)) (nums_new _ [3, -1] _ rfl) ex_need3).mono ?_
  rintro e w7 ⟨rfl, hb⟩
  have Hb7 : Hid (Below w.heap.size w w7) := Lib.hid ((Hb6.out.alloc Hb6.out.size _).trans (hb.mono (by have := Hb6.out.size; simp; omega)))
  clear hb
  go_wp2_with fail
  go_ret
  exact ⟨rfl, Hb7.out⟩

set_option maxRecDepth 100000 in
set_option maxHeartbeats 2000000 in
theorem fputs_walk (n width : Int) (w : World) (h0 : -9223372036854775808 ≤ n) (h1 : n ≤ 9223372036854775807) :
    Calls Try.prog 3 #[.int .i64 n, .int .i64 width] w (Yes w) := by
  obtain ⟨u, b, hp⟩ := putF_text n width
  have Hp := Lib.hid hp
  clear hp
  go_enter Try.func3, Try.ntmps3
  go_wp2_with fail
  refine (fPut_is n width _ h0 h1 Hp.out).mono ?_
  rintro e w1 ⟨rfl, hb⟩
  have Hb1 := Lib.hid hb
  clear hb
  go_wp2_with fail
  refine (rPutF_is n width _ h0 h1 Hp.out).mono ?_
  rintro e w2 ⟨rfl, hb⟩
  have Hb2 := Lib.hid (Hb1.out.trans (hb.mono Hb1.out.size))
  clear hb
  go_wp2_with fail
  refine (wide_any _).mono ?_
  rintro e w3 ⟨rfl, hb⟩
  have Hb3 := Lib.hid (Hb2.out.trans (hb.mono Hb2.out.size))
  clear hb
  go_wp2_with fail
  go_ret
  exact ⟨rfl, Hb3.out⟩

set_option maxRecDepth 100000 in
set_option maxHeartbeats 2000000 in
theorem fgets_walk (s : ByteArray) (p : Option Addr) (cap : Nat) (zs : List Int) (w : World) (hs : s.size ≤ maxLen) (hz : zs.length ≤ 9223372036854775807) (hi : Ints zs) (hp : Nums w p zs) :
    Calls Try.prog 4 #[.string s, .slice p zs.length cap] w (Yes w) := by
  have hs' := hs
  unfold maxLen at hs
  have Hi := Lib.hid hi
  have Hp := Lib.hid hp
  clear hi hp
  by_cases hbig : (2000 : Int) < (s.size : Int) ∨ (100 : Int) < (zs.length : Int)
  · have hcase : ((2000 : Int) < (s.size : Int)) ∨ (¬ ((2000 : Int) < (s.size : Int)) ∧ (100 : Int) < (zs.length : Int)) := by omega
    clear hbig
    rcases hcase with h | ⟨h, h'⟩
    all_goals
      go_enter Try.func4, Try.ntmps4
      go_wp2_with fail
      refine (wide_any _).mono ?_
      rintro e w1 ⟨rfl, hb⟩
      have Hb := Lib.hid hb
      clear hb
      go_wp2_with fail
      go_ret
      exact ⟨rfl, Hb.out⟩
  · have h : ¬ ((2000 : Int) < (s.size : Int)) := by omega
    have h' : ¬ ((100 : Int) < (zs.length : Int)) := by omega
    clear hbig
    obtain ⟨a, b, hg⟩ : ∃ a b, getF s.data.toList = (a, b) := ⟨_, _, rfl⟩
    obtain ⟨r, hr⟩ : ∃ r, needF zs = r := ⟨_, rfl⟩
    have Hg := Lib.hid hg
    have Hr := Lib.hid hr
    clear hg hr
    go_enter Try.func4, Try.ntmps4
    go_wp2_with fail
    refine (fGet_is s _ hs' Hg.out).mono ?_
    rintro e w1 ⟨rfl, hb⟩
    have Hb1 := Lib.hid hb
    clear hb
    go_wp2_with fail
    refine (rGetF_is s _ hs' Hg.out).mono ?_
    rintro e w2 ⟨rfl, rfl⟩
    go_wp2_with fail
    refine (fNeed_is p cap zs.length zs _ rfl hz Hi.out (Hp.out.later Hb1.out) Hr.out).mono ?_
    rintro e w3 ⟨rfl, hb⟩
    have Hb3 := Lib.hid (Hb1.out.trans (hb.mono Hb1.out.size))
    clear hb
    go_wp2_with fail
    refine (rNeed_is p cap zs _ hz Hi.out (Hp.out.later Hb3.out) Hr.out).mono ?_
    rintro e w4 ⟨rfl, hb⟩
    have Hb4 := Lib.hid (Hb3.out.trans (hb.mono Hb3.out.size))
    clear hb
    go_wp2_with fail
    refine (wide_any _).mono ?_
    rintro e w5 ⟨rfl, hb⟩
    have Hb5 := Lib.hid (Hb4.out.trans (hb.mono Hb4.out.size))
    clear hb
    go_wp2_with fail
    go_ret
    exact ⟨rfl, Hb5.out⟩

set_option maxRecDepth 100000 in
set_option maxHeartbeats 2000000 in
theorem frows_walk (p1 : Option Addr) (c1 : Nat) (ns : List Int) (p2 : Option Addr) (c2 : Nat) (ws : List Int) (s : ByteArray) (w : World) (hz1 : ns.length ≤ 9223372036854775807) (hz2 : ws.length ≤ 9223372036854775807) (hi1 : Ints ns) (hi2 : Ints ws) (hp1 : Nums w p1 ns) (hp2 : Nums w p2 ws) (hs : s.size ≤ maxLen) :
    Calls Try.prog 5 #[.slice p1 ns.length c1, .slice p2 ws.length c2, .string s] w (Yes w) := by
  have hs' := hs
  unfold maxLen at hs
  have Hi1 := Lib.hid hi1
  have Hi2 := Lib.hid hi2
  have Hp1 := Lib.hid hp1
  have Hp2 := Lib.hid hp2
  clear hi1 hi2 hp1 hp2
  by_cases hbig : (100 : Int) < (ns.length : Int) ∨ (100 : Int) < (ws.length : Int) ∨ (2000 : Int) < (s.size : Int)
  · have hcase : ((100 : Int) < (ns.length : Int)) ∨ (¬ ((100 : Int) < (ns.length : Int)) ∧ (100 : Int) < (ws.length : Int)) ∨ (¬ ((100 : Int) < (ns.length : Int)) ∧ ¬ (100 : Int) < (ws.length : Int) ∧ (2000 : Int) < (s.size : Int)) := by omega
    clear hbig
    rcases hcase with h | ⟨h, h'⟩ | ⟨h, h', h''⟩
    all_goals
      go_enter Try.func5, Try.ntmps5
      go_wp2_with fail
      refine (wide_any _).mono ?_
      rintro e w1 ⟨rfl, hb⟩
      have Hb := Lib.hid hb
      clear hb
      go_wp2_with fail
      go_ret
      exact ⟨rfl, Hb.out⟩
  · have h : ¬ ((100 : Int) < (ns.length : Int)) := by omega
    have h' : ¬ ((100 : Int) < (ws.length : Int)) := by omega
    have h'' : ¬ ((2000 : Int) < (s.size : Int)) := by omega
    clear hbig
    obtain ⟨u, b, hr⟩ : ∃ (u : ByteArray) (b : Int), rowF ns ws = (u.data.toList, b) := ⟨bytes (rowF ns ws).1, (rowF ns ws).2, by rw [bytes_data]⟩
    obtain ⟨l, c, hc⟩ : ∃ l c, cutF s.data.toList ws = (l, c) := ⟨_, _, rfl⟩
    have hll : l.length ≤ 100 := by
      by_cases hc0 : c = 0
      · subst hc0
        have h1 := (cutF_zero hc)
        have h2 := (cut_row ws s.data.toList l h1.2.1 h1.2.2.1 h1.2.2.2).2.1
        omega
      · have : l = [] := by
          unfold cutF at hc
          split at hc
          · exact (Prod.mk.inj hc).1.symm
          · split at hc
            · exact (Prod.mk.inj hc).1.symm
            · split at hc
              · exact (Prod.mk.inj hc).1.symm
              · rcases cutGo_shape ws s.data.toList with e | e
                · rw [hc] at e; exact absurd e hc0
                · rw [hc] at e; exact e
        subst this; simp
    have Hr := Lib.hid hr
    have Hc := Lib.hid hc
    clear hr hc
    go_enter Try.func5, Try.ntmps5
    go_wp2_with fail
    refine (fRow_is p1 c1 ns p2 c2 ws _ hz1 hz2 Hi1.out Hi2.out Hp1.out Hp2.out Hr.out).mono ?_
    rintro e w1 ⟨rfl, hb⟩
    have Hb1 := Lib.hid hb
    clear hb
    go_wp2_with fail
    refine (rRow_is p1 c1 ns p2 c2 ws _ hz1 Hi1.out (Hp1.out.later Hb1.out) (Hp2.out.later Hb1.out) Hr.out).mono ?_
    rintro e w2 ⟨rfl, hb⟩
    have Hb2 := Lib.hid (Hb1.out.trans (hb.mono Hb1.out.size))
    clear hb
    go_wp2_with fail
    refine (fCut_is s p2 c2 ws.length ws _ rfl hs' hz2 Hi2.out (Hp2.out.later Hb2.out) Hc.out).mono ?_
    rintro e w3 ⟨a3, cap3, rfl, hn3, hb⟩
    have Hn3 := Lib.hid hn3
    have Hb3 := Lib.hid (Hb2.out.trans (hb.mono Hb2.out.size))
    clear hb hn3
    go_wp2_with fail
    refine (rCut_is s p2 c2 ws _ hs' hz2 (Hp2.out.later Hb3.out) Hc.out).mono ?_
    rintro e w4 ⟨a4, cap4, rfl, hn4, hb⟩
    have Hn4 := Lib.hid hn4
    have Hn3' := Lib.hid (Hn3.out.later hb)
    have Hb4 := Lib.hid (Hb3.out.trans (hb.mono Hb3.out.size))
    clear hb hn4
    go_wp2_with fail
    refine (same_is a3 cap3 l.length l a4 cap4 l.length l _ rfl rfl (by omega) Hn3'.out Hn4.out (b := true) (by simp)).mono ?_
    rintro e w5 ⟨rfl, q5, hq⟩
    have Hb5 : Hid (Below w.heap.size w w5) := Lib.hid (by rw [← hq]; exact below_drewN Hb4.out q5)
    clear hq
    go_wp2_with fail
    refine (wide_any _).mono ?_
    rintro e w6 ⟨rfl, hb⟩
    have Hb6 := Lib.hid (Hb5.out.trans (hb.mono Hb5.out.size))
    clear hb
    go_wp2_with fail
    go_ret
    exact ⟨rfl, Hb6.out⟩

end Go.Proofs.Ytjdhpemkajijnaa
