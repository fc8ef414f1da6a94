/-
  The contracts of package predict's small functions: whether rows can have so many columns, how far two numbers are apart, which of three is the nearest, what a kind takes.
-/
import Derived.Test.YtjkppdgakokelaaRows
import Derived.Test.YtjkppdgakokelaaPrPlain2
import Derived.WalkKit
import Derived.WalkSpells
import Derived.WalkLawsBesides
import Derived.WalkSmall
import Derived.OwnWalk
import Derived.Lib.Hide
import Derived.Deep.LoopGhost
import Derived.Deep.QuietTactic
namespace Go.Proofs.Ytjkppdgakokelaa
open Go.RowKit

theorem width_yes (n : Nat) (w : World) (h1 : 1 ≤ n) (h2 : n ≤ 256) : Calls Try.prog 11 #[.int .i64 (n : Int)] w fun e w' => e = .returned (.bool true) ∧ w = w' := by
  have h1z : (1 : Int) ≤ (n : Int) := by omega
  have h2z : (n : Int) ≤ 256 := by omega
  go_enter Try.func11, Try.ntmps11
  go_wp2_with fail
  go_ret
  exact ⟨ret_bool (by simp), rfl⟩
theorem width_no (n : Int) (w : World) (h : n < 1 ∨ 256 < n) : Calls Try.prog 11 #[.int .i64 n] w fun e w' => e = .returned (.bool false) ∧ w = w' := by
  by_cases h1 : 1 ≤ n
  · have h2 : ¬ n ≤ 256 := by omega
    clear h
    go_enter Try.func11, Try.ntmps11
    go_wp2_with fail
    go_ret
    exact ⟨ret_bool (by simp), rfl⟩
  · clear h
    go_enter Try.func11, Try.ntmps11
    go_wp2_with fail
    go_ret
    exact ⟨ret_bool (by simp), rfl⟩

theorem apart_is (a b : Int) (w : World) (ha : -1000 ≤ a) (ha' : a ≤ 1000) (hb : -1000 ≤ b) (hb' : b ≤ 1000) :
    Calls Try.prog 35 #[.int .i64 a, .int .i64 b] w fun e w' => e = .returned (.int .i64 (apartP a b)) ∧ w = w' := by
  go_enter Try.func35, Try.ntmps35
  go_wp2_with fail
  all_goals go_ret
  all_goals exact ⟨ret_int (by unfold apartP; split <;> omega), rfl⟩

/-- What stands around a byte. -/
def aroundV (l a c : Int) : Value := .agg #[.int .i64 l, .int .i64 a, .int .i64 c]
def AroundAt (w : World) (b : Nat) (l a c : Int) : Prop := w.heap[b]? = some (.cells #[.int .i64 l, .int .i64 a, .int .i64 c] 54 (0, 0))
theorem info_around : (Try.prog.info? 54).map (·.size) = some 3 := by kernel_rfl
theorem AroundAt.load {ops : Array Oper} {rest : List Oper} {o : Oper} {x : Act} {w : World} {Q : Exit → Act → World → Prop} (hgd : o.guard = none) (p : Operand) (ho : o.op = .load 54 p)
    (b : Nat) (l a c : Int) (hp : x.eval p = .pointer (some ⟨b, 0, none⟩)) (hg : AroundAt w b l a c) (h : wpList Try.prog ops Q rest (x.put o.dst (aroundV l a c)) w) : wpList Try.prog ops Q (o :: rest) x w :=
  wpList_load_row hgd _ p ho b hp _ _ _ _ hg Try.underlying54 rfl info_around h

/-- Which one is the nearest, where so many were asked, and m is the nearest of these. -/
def leftOver (l a c : Int) (k : Nat) (m : Int) : Int :=
  if k = 0 then nearOne (l + a - c) (nearOne (l + a - c) (nearOne (l + a - c) m l) a) c
  else if k = 1 then nearOne (l + a - c) (nearOne (l + a - c) m a) c
  else if k = 2 then nearOne (l + a - c) m c else m

set_option maxHeartbeats 1000000 in
theorem nearest_is (l a c : Nat) (w : World) (hl : l < 256) (ha : a < 256) (hc : c < 256) :
    Calls Try.prog 33 #[aroundV l a c] w fun e w' => e = .returned (.int .i64 (guessP 4 l a c : Nat)) ∧ Below w.heap.size w w' := by
  have HR := Lib.hid (near_guess l a c)
  have HA : Hid (AroundAt (w.alloc (.cells #[.int .i64 l, .int .i64 a, .int .i64 c] 54)) w.heap.size l a c) := Lib.hid (heap_alloc_new w _)
  unfold aroundV
  go_enter Try.func33, Try.ntmps33
  go_wp2_with fail
  go_loopg [4, 6, 18] 3 (fun g s4 s6 s18 wx => ∃ (k m : Nat), k + g = 3 ∧ s18 = .int .i64 (k : Int) ∧ s4 = .int .i64 (m : Int) ∧ m < 256 ∧ Aside (leftOver l a c k m = (guessP 4 l a c : Nat)) ∧ w.alloc (.cells #[.int .i64 l, .int .i64 a, .int .i64 c] 54) = wx)
  case atStart => exact ⟨0, l, rfl, rfl, rfl, hl, HR.out, rfl⟩
  case round =>
    obtain ⟨k, m, hkg, rfl, rfl, hm, HM, rfl⟩ := hrel
    cases gk with
    | zero =>
      obtain rfl : k = 3 := by omega
      go_wp2_with fail
      go_ret
      exact ⟨ret_int HM.out, (Below.refl _ w).alloc (Nat.le_refl _) _⟩
    | succ g =>
      obtain ⟨n, hn, hn256, hnext⟩ : ∃ n : Nat, (∀ W : World, (Instr.index 54 (.agg #[.int .i64 (l : Int), .int .i64 (a : Int), .int .i64 (c : Int)]) (.int .i64 (k : Int))).run Try.prog W = .ok (.int .i64 (n : Int)) W) ∧ n < 256 ∧ leftOver l a c k m = leftOver l a c (k + 1) (nearOne ((l : Int) + a - c) m n) := by
        have hk : k = 0 ∨ k = 1 ∨ k = 2 := by omega
        rcases hk with rfl | rfl | rfl
        · exact ⟨l, fun W => by rfl, hl, rfl⟩
        · exact ⟨a, fun W => by rfl, ha, rfl⟩
        · exact ⟨c, fun W => by rfl, hc, rfl⟩
      have hk3 : (k : Int) < 3 := by omega
      have Hn := Lib.hid hnext
      have hlo : -1000 ≤ (l : Int) + a - c := by omega
      have hhi : (l : Int) + a - c ≤ 1000 := by omega
      have Hx := Lib.hid (fun W => apart_is (n : Int) ((l : Int) + a - c) W (by omega) (by omega) hlo hhi)
      have Hy := Lib.hid (fun W => apart_is (m : Int) ((l : Int) + a - c) W (by omega) (by omega) hlo hhi)
      obtain ⟨p, hp⟩ : ∃ p, apartP (n : Int) ((l : Int) + a - c) = p := ⟨_, rfl⟩
      obtain ⟨q, hq⟩ : ∃ q, apartP (m : Int) ((l : Int) + a - c) = q := ⟨_, rfl⟩
      have Hp : Hid (nearOne ((l : Int) + a - c) m n = if p < q then (n : Int) else m) := Lib.hid (by unfold nearOne; rw [hp, hq])
      rw [hp] at Hx
      rw [hq] at Hy
      clear hnext hlo hhi hp hq
      by_cases hpq : p < q
      · have Hz : Hid (leftOver l a c (k + 1) n = (guessP 4 l a c : Nat)) := Lib.hid (by rw [← HM.out, Hn.out, Hp.out, if_pos hpq])
        go_wp2_with fail
        refine (Hx.out _).mono ?_
        rintro e w1 ⟨rfl, rfl⟩
        go_wp2_with fail
        refine (Hy.out _).mono ?_
        rintro e w1 ⟨rfl, rfl⟩
        go_wp2_with fail
        go_roundg g
        case measure => omega
        case rel => exact ⟨k + 1, n, by omega, by go_num, rfl, hn256, Hz.out, rfl⟩
      · have Hz : Hid (leftOver l a c (k + 1) m = (guessP 4 l a c : Nat)) := Lib.hid (by rw [← HM.out, Hn.out, Hp.out, if_neg hpq])
        go_wp2_with fail
        refine (Hx.out _).mono ?_
        rintro e w1 ⟨rfl, rfl⟩
        go_wp2_with fail
        refine (Hy.out _).mono ?_
        rintro e w1 ⟨rfl, rfl⟩
        go_wp2_with fail
        go_roundg g
        case measure => omega
        case rel => exact ⟨k + 1, m, by omega, by go_num, rfl, hm, Hz.out, rfl⟩

set_option maxHeartbeats 1000000 in
theorem taken_is (l a c kind : Nat) (w : World) (hl : l < 256) (ha : a < 256) (hc : c < 256) (hk : kind = 1 ∨ kind = 2 ∨ kind = 3 ∨ kind = 4) :
    Calls Try.prog 26 #[aroundV l a c, .int .u8 (kind : Int)] w fun e w' => e = .returned (.int .i64 (guessP kind l a c : Nat)) ∧ Below w.heap.size w w' := by
  have HA : Hid (AroundAt (w.alloc (.cells #[.int .i64 l, .int .i64 a, .int .i64 c] 54)) w.heap.size l a c) := Lib.hid (heap_alloc_new w _)
  have Hb : Hid (Below w.heap.size w (w.alloc (.cells #[.int .i64 l, .int .i64 a, .int .i64 c] 54))) := Lib.hid ((Below.refl _ w).alloc (Nat.le_refl _) _)
  have Hn := Lib.hid (fun W => nearest_is l a c W hl ha hc)
  unfold aroundV
  rcases hk with rfl | rfl | rfl | rfl
  · go_enter Try.func26, Try.ntmps26
    go_wp2_with fail
    go_ret
    exact ⟨rfl, Hb.out⟩
  · go_enter Try.func26, Try.ntmps26
    go_wp2_with fail
    go_ret
    exact ⟨rfl, Hb.out⟩
  · go_enter Try.func26, Try.ntmps26
    go_wp2_with fail
    go_ret
    exact ⟨ret_int (by unfold guessP; simp), Hb.out⟩
  · go_enter Try.func26, Try.ntmps26
    go_wp2_with fail
    refine (Hn.out _).mono ?_
    rintro e w1 ⟨rfl, hb1⟩
    have Hb1 := Lib.hid (Hb.out.trans (hb1.mono Hb.out.size))
    clear hb1
    go_wp2_with fail
    go_ret
    exact ⟨rfl, Hb1.out⟩

end Go.Proofs.Ytjkppdgakokelaa
