/-
  The page's examples come out.
-/
import Derived.Test.YtplffjnphlfheaaBytes
import Derived.Test.YtplffjnphlfheaaSpan
import Derived.Test.YtplffjnphlfheaaLine
namespace Go.Proofs.Ytplffjnphlfheaa
open Go.RowKit

theorem kind_is (c k : Int) (h : kindI c = k) (w : World) : Calls Try.prog 7 #[.int .u8 c] w fun e w' => e = .returned (.int .i64 k) ∧ w = w' := by
  rw [← h]; exact kind_any c w
theorem digit_is (c k : Int) (h : digitI c = k) (h0 : -9223372036854775808 ≤ c) (h1 : c ≤ 9223372036854775807) (w : World) : Calls Try.prog 11 #[.int .i64 c] w fun e w' => e = .returned (.int .u8 k) ∧ w = w' := by
  rw [← h]; exact digit_any c w h0 h1
theorem hex_is (c k : Int) (h : hexI c = k) (h0 : 0 ≤ c) (h1 : c ≤ 255) (w : World) : Calls Try.prog 9 #[.int .u8 c] w fun e w' => e = .returned (.int .i64 k) ∧ w = w' := by
  rw [← h]; exact hex_any c w h0 h1
theorem lines_is (s : ByteArray) (w : World) : Calls Try.prog 18 #[.string s] w fun e w' => e = .returned (.func (.func 25) #[] #[.pointer (some ⟨w.heap.size, 0, none⟩)]) ∧ w.alloc (.cells #[.string s] 9) = w' :=
  (callsIn_wide (n := 3)).1 ((lines_maker 3 s w).mono fun _ _ h => ⟨h.1, h.2.symm⟩)
theorem line_is (s : ByteArray) (f : Int) (p : ByteArray) (hs : s.size ≤ maxLen) (hf0 : -9223372036854775808 ≤ f) (hf1 : f ≤ 9223372036854775807) (w : World) {r : Int} (hr : lineI s.data.toList f p.data.toList = r) :
    Calls Try.prog 21 #[.string s, .int .i64 f, .string p] w (Answers (.int .i64 r) w) := by
  rw [← hr]; exact (callsIn_wide (n := 3)).1 (line_in 3 (by omega) s f p hs hf0 hf1 w)
theorem ends_is (s : ByteArray) (a : Int) (w : World) {r : Int} (hr : endsI s.data.toList a = r) :
    Calls Try.prog 16 #[.string s, .int .i64 a] w fun e w' => e = .returned (.int .i64 r) ∧ w = w' := by
  rw [← hr]; exact ends_any s a w
theorem span_is (s : ByteArray) (a : Int) (p : Option Addr) (cap n : Nat) (zs : List Int) (w : World) (hs : s.size ≤ maxLen) (hz : zs.length ≤ 9223372036854775807) (hp : Nums w p zs) (hn : n = zs.length) {r : Int} (hr : spanI s.data.toList a zs = r) :
    Calls Try.prog 14 #[.string s, .int .i64 a, .slice p n cap] w fun e w' => e = .returned (.int .i64 r) ∧ w = w' := by
  subst hn; rw [← hr]; exact span_any s a p cap zs w hs hz hp

theorem func_not_nil (a : Addr) (w : World) : (binOp BinOp.eql 32 (.func (.func 25) #[] #[.pointer (some a)]) .nilFunc).run Try.prog w = .ok (.bool false) w := by kernel_rfl
theorem func_is_func (a : Addr) (w : World) : (binOp BinOp.neq 32 (.func (.func 25) #[] #[.pointer (some a)]) .nilFunc).run Try.prog w = .ok (.bool true) w := by kernel_rfl

theorem nums_new (W : World) (zs : List Int) (n : Nat) (hn : n = W.heap.size) : Nums (W.alloc (.cells (zs.map (Value.int .i64)).toArray 3)) (some ⟨n, 0, none⟩) zs := by
  subst hn
  refine .inr ⟨W.heap.size, 0, rfl, fun i hi => ?_⟩
  have h := World.alloc_heap_new W (.cells (zs.map (Value.int .i64)).toArray 3)
  unfold World.cell?
  simp only [h]
  simp [List.getElem?_eq_getElem hi]

/-- It answers yes, and leaves what lay. -/
def Yes (w : World) (e : Ending) (w' : World) : Prop := e = .returned (.bool true) ∧ Below w.heap.size w w'

set_option maxRecDepth 100000 in
set_option maxHeartbeats 2000000 in
theorem octets_any (w : World) : Calls Try.prog 13 #[] w (Yes w) := by
  have hnn := func_not_nil
  go_enter Try.func13, Try.ntmps13
  go_wp2_with fail
  refine (lines_is _ _).mono ?_
  rintro e w1 ⟨rfl, rfl⟩
  go_wp2_with fail
  refine (kind_is 47 1 (by decide) _).mono ?_
  rintro e w1 ⟨rfl, rfl⟩
  go_wp2_with fail
  refine (kind_is 32 0 (by decide) _).mono ?_
  rintro e w1 ⟨rfl, rfl⟩
  go_wp2_with fail
  refine (kind_is 97 2 (by decide) _).mono ?_
  rintro e w1 ⟨rfl, rfl⟩
  go_wp2_with fail
  refine (digit_is 11 66 (by decide) (by decide) (by decide) _).mono ?_
  rintro e w1 ⟨rfl, rfl⟩
  go_wp2_with fail
  refine (hex_is 98 11 (by decide) (by decide) (by decide) _).mono ?_
  rintro e w1 ⟨rfl, rfl⟩
  go_wp2_with fail
  refine (hex_is 103 (-1) (by decide) (by decide) (by decide) _).mono ?_
  rintro e w1 ⟨rfl, rfl⟩
  go_wp2_with fail
  refine (span_is _ 0 _ 1 1 [2] _ (by decide) (by decide) (nums_new _ [2] _ (by simp)) rfl (r := 2) (by decide)).mono ?_
  rintro e w1 ⟨rfl, rfl⟩
  go_wp2_with fail
  refine (span_is _ 0 _ 2 2 [2, 0] _ (by decide) (by decide) (nums_new _ [2, 0] _ (by simp)) rfl (r := 3) (by decide)).mono ?_
  rintro e w1 ⟨rfl, rfl⟩
  go_wp2_with fail
  refine (ends_is _ 0 _ (r := 2) (by decide)).mono ?_
  rintro e w1 ⟨rfl, rfl⟩
  go_wp2_with fail
  refine (line_is _ 0 _ (by decide) (by decide) (by decide) _ (r := 3) (by decide)).mono ?_
  rintro e w1 ⟨rfl, hb⟩
  have Hb := Lib.hid hb
  clear hb
  go_wp2_with fail
  go_ret
  have hb := Hb.out
  simp only [World.size_alloc] at hb
  exact ⟨rfl, ((((Below.refl _ w).alloc (Nat.le_refl _) _).alloc (by simp) _).alloc (by simp; omega) _).trans (hb.mono (by omega))⟩

end Go.Proofs.Ytplffjnphlfheaa
