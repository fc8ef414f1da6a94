/-
  A value with the fields of its kind alone.
-/
import Derived.Test.YtejgcnmbngdkiaaNMem
namespace Go.Proofs.Ytejgcnmbngdkiaa
open Go.RowKit
set_option maxRecDepth 100000
attribute [local go_sem] Hv.arr

/-- So the program holds it. -/
def bareH (x : Hv) : Hv :=
  if x.k = 1 ∨ x.k = 2 then ⟨x.k, x.n, 0, ⟨#[]⟩, ⟨none, 0, 0⟩, ⟨none, 0, 0⟩⟩
  else if x.k = 3 ∨ x.k = 4 then ⟨x.k, 0, 0, x.s, ⟨none, 0, 0⟩, ⟨none, 0, 0⟩⟩
  else if x.k = 5 then ⟨x.k, 0, 0, ⟨#[]⟩, x.l, ⟨none, 0, 0⟩⟩
  else if x.k = 6 then ⟨x.k, 0, 0, ⟨#[]⟩, ⟨none, 0, 0⟩, x.d⟩
  else if x.k = 7 then ⟨x.k, x.n, x.g, ⟨#[]⟩, ⟨none, 0, 0⟩, ⟨none, 0, 0⟩⟩
  else if x.k = 8 then ⟨x.k, 0, 0, x.s, ⟨none, 0, 0⟩, x.d⟩
  else .nil
theorem bare_rd {w : World} {S : Nat → Prop} {x : Hv} {v : Val} (h : Rd w S x v) : Rd w S (bareH x) (bareV v) := by
  obtain ⟨⟨hk, hn, hg, hs⟩, hL, hD⟩ := rd_iff.1 h
  have N : RdL w S ⟨none, 0, 0⟩ [] := RdL.nil w S none 0 (Nat.zero_le _)
  have M : RdD w S ⟨none, 0, 0⟩ [] := RdD.nil w S none 0 (Nat.zero_le _)
  cases v with
  | mk k n g s l d =>
    rw [Val.kind_mk] at hk
    rw [Val.n_mk] at hn
    rw [Val.g_mk] at hg
    rw [Val.s_mk] at hs
    rw [Val.l_mk] at hL
    rw [Val.d_mk] at hD
    unfold bareH
    rw [bareV, hk]
    repeat' split
    · exact rd_iff.2 ⟨⟨rfl, hn, rfl, rfl⟩, N, M⟩
    · exact rd_iff.2 ⟨⟨rfl, rfl, rfl, hs⟩, N, M⟩
    · exact rd_iff.2 ⟨⟨rfl, rfl, rfl, rfl⟩, hL, M⟩
    · exact rd_iff.2 ⟨⟨rfl, rfl, rfl, rfl⟩, N, hD⟩
    · exact rd_iff.2 ⟨⟨rfl, hn, hg, rfl⟩, N, M⟩
    · exact rd_iff.2 ⟨⟨rfl, rfl, rfl, hs⟩, N, hD⟩
    · exact Rd.null w S

set_option maxHeartbeats 4000000 in
theorem bare_1 (n g : Int) (s : ByteArray) (lp dp : Option Addr) (ll lc dl dc : Nat) (w : World) :
    Calls Try.prog 19 #[.agg #[.int .i64 1, .int .i64 n, .int .i64 g, .string s, .slice lp ll lc, .slice dp dl dc]] w fun e w' => e = .returned (.agg #[.int .i64 1, .int .i64 n, .int .i64 0, .string ⟨#[]⟩, .slice none 0 0, .slice none 0 0]) ∧ Below w.heap.size w w' := by
  go_enter Try.func19, Try.ntmps19
  go_wp2
  exact bodyPost_ret (v := .agg #[.int .i64 1, .int .i64 n, .int .i64 0, .string ⟨#[]⟩, .slice none 0 0, .slice none 0 0]) (by simp [results, Try.results19, go_sem]) rfl ⟨rfl, ((Below.refl _ w).alloc (Nat.le_refl _) _).alloc (by simp) _⟩

set_option maxHeartbeats 4000000 in
theorem bare_2 (n g : Int) (s : ByteArray) (lp dp : Option Addr) (ll lc dl dc : Nat) (w : World) :
    Calls Try.prog 19 #[.agg #[.int .i64 2, .int .i64 n, .int .i64 g, .string s, .slice lp ll lc, .slice dp dl dc]] w fun e w' => e = .returned (.agg #[.int .i64 2, .int .i64 n, .int .i64 0, .string ⟨#[]⟩, .slice none 0 0, .slice none 0 0]) ∧ Below w.heap.size w w' := by
  go_enter Try.func19, Try.ntmps19
  go_wp2
  exact bodyPost_ret (v := .agg #[.int .i64 2, .int .i64 n, .int .i64 0, .string ⟨#[]⟩, .slice none 0 0, .slice none 0 0]) (by simp [results, Try.results19, go_sem]) rfl ⟨rfl, ((Below.refl _ w).alloc (Nat.le_refl _) _).alloc (by simp) _⟩

set_option maxHeartbeats 4000000 in
theorem bare_3 (n g : Int) (s : ByteArray) (lp dp : Option Addr) (ll lc dl dc : Nat) (w : World) :
    Calls Try.prog 19 #[.agg #[.int .i64 3, .int .i64 n, .int .i64 g, .string s, .slice lp ll lc, .slice dp dl dc]] w fun e w' => e = .returned (.agg #[.int .i64 3, .int .i64 0, .int .i64 0, .string s, .slice none 0 0, .slice none 0 0]) ∧ Below w.heap.size w w' := by
  go_enter Try.func19, Try.ntmps19
  go_wp2
  exact bodyPost_ret (v := .agg #[.int .i64 3, .int .i64 0, .int .i64 0, .string s, .slice none 0 0, .slice none 0 0]) (by simp [results, Try.results19, go_sem]) rfl ⟨rfl, ((Below.refl _ w).alloc (Nat.le_refl _) _).alloc (by simp) _⟩

set_option maxHeartbeats 4000000 in
theorem bare_4 (n g : Int) (s : ByteArray) (lp dp : Option Addr) (ll lc dl dc : Nat) (w : World) :
    Calls Try.prog 19 #[.agg #[.int .i64 4, .int .i64 n, .int .i64 g, .string s, .slice lp ll lc, .slice dp dl dc]] w fun e w' => e = .returned (.agg #[.int .i64 4, .int .i64 0, .int .i64 0, .string s, .slice none 0 0, .slice none 0 0]) ∧ Below w.heap.size w w' := by
  go_enter Try.func19, Try.ntmps19
  go_wp2
  exact bodyPost_ret (v := .agg #[.int .i64 4, .int .i64 0, .int .i64 0, .string s, .slice none 0 0, .slice none 0 0]) (by simp [results, Try.results19, go_sem]) rfl ⟨rfl, ((Below.refl _ w).alloc (Nat.le_refl _) _).alloc (by simp) _⟩

set_option maxHeartbeats 4000000 in
theorem bare_5 (n g : Int) (s : ByteArray) (lp dp : Option Addr) (ll lc dl dc : Nat) (w : World) :
    Calls Try.prog 19 #[.agg #[.int .i64 5, .int .i64 n, .int .i64 g, .string s, .slice lp ll lc, .slice dp dl dc]] w fun e w' => e = .returned (.agg #[.int .i64 5, .int .i64 0, .int .i64 0, .string ⟨#[]⟩, .slice lp ll lc, .slice none 0 0]) ∧ Below w.heap.size w w' := by
  go_enter Try.func19, Try.ntmps19
  go_wp2
  exact bodyPost_ret (v := .agg #[.int .i64 5, .int .i64 0, .int .i64 0, .string ⟨#[]⟩, .slice lp ll lc, .slice none 0 0]) (by simp [results, Try.results19, go_sem]) rfl ⟨rfl, ((Below.refl _ w).alloc (Nat.le_refl _) _).alloc (by simp) _⟩

set_option maxHeartbeats 4000000 in
theorem bare_6 (n g : Int) (s : ByteArray) (lp dp : Option Addr) (ll lc dl dc : Nat) (w : World) :
    Calls Try.prog 19 #[.agg #[.int .i64 6, .int .i64 n, .int .i64 g, .string s, .slice lp ll lc, .slice dp dl dc]] w fun e w' => e = .returned (.agg #[.int .i64 6, .int .i64 0, .int .i64 0, .string ⟨#[]⟩, .slice none 0 0, .slice dp dl dc]) ∧ Below w.heap.size w w' := by
  go_enter Try.func19, Try.ntmps19
  go_wp2
  exact bodyPost_ret (v := .agg #[.int .i64 6, .int .i64 0, .int .i64 0, .string ⟨#[]⟩, .slice none 0 0, .slice dp dl dc]) (by simp [results, Try.results19, go_sem]) rfl ⟨rfl, ((Below.refl _ w).alloc (Nat.le_refl _) _).alloc (by simp) _⟩

set_option maxHeartbeats 4000000 in
theorem bare_7 (n g : Int) (s : ByteArray) (lp dp : Option Addr) (ll lc dl dc : Nat) (w : World) :
    Calls Try.prog 19 #[.agg #[.int .i64 7, .int .i64 n, .int .i64 g, .string s, .slice lp ll lc, .slice dp dl dc]] w fun e w' => e = .returned (.agg #[.int .i64 7, .int .i64 n, .int .i64 g, .string ⟨#[]⟩, .slice none 0 0, .slice none 0 0]) ∧ Below w.heap.size w w' := by
  go_enter Try.func19, Try.ntmps19
  go_wp2
  exact bodyPost_ret (v := .agg #[.int .i64 7, .int .i64 n, .int .i64 g, .string ⟨#[]⟩, .slice none 0 0, .slice none 0 0]) (by simp [results, Try.results19, go_sem]) rfl ⟨rfl, ((Below.refl _ w).alloc (Nat.le_refl _) _).alloc (by simp) _⟩

set_option maxHeartbeats 4000000 in
theorem bare_8 (n g : Int) (s : ByteArray) (lp dp : Option Addr) (ll lc dl dc : Nat) (w : World) :
    Calls Try.prog 19 #[.agg #[.int .i64 8, .int .i64 n, .int .i64 g, .string s, .slice lp ll lc, .slice dp dl dc]] w fun e w' => e = .returned (.agg #[.int .i64 8, .int .i64 0, .int .i64 0, .string s, .slice none 0 0, .slice dp dl dc]) ∧ Below w.heap.size w w' := by
  go_enter Try.func19, Try.ntmps19
  go_wp2
  exact bodyPost_ret (v := .agg #[.int .i64 8, .int .i64 0, .int .i64 0, .string s, .slice none 0 0, .slice dp dl dc]) (by simp [results, Try.results19, go_sem]) rfl ⟨rfl, ((Below.refl _ w).alloc (Nat.le_refl _) _).alloc (by simp) _⟩

set_option maxHeartbeats 4000000 in
theorem bare_0 (k n g : Int) (s : ByteArray) (lp dp : Option Addr) (ll lc dl dc : Nat) (w : World) (h : k ≠ 1 ∧ k ≠ 2 ∧ k ≠ 3 ∧ k ≠ 4 ∧ k ≠ 5 ∧ k ≠ 6 ∧ k ≠ 7 ∧ k ≠ 8) :
    Calls Try.prog 19 #[.agg #[.int .i64 k, .int .i64 n, .int .i64 g, .string s, .slice lp ll lc, .slice dp dl dc]] w fun e w' => e = .returned (.agg #[.int .i64 0, .int .i64 0, .int .i64 0, .string ⟨#[]⟩, .slice none 0 0, .slice none 0 0]) ∧ Below w.heap.size w w' := by
  have k1 : (k == 1) = false := by simp; omega
  have k2 : (k == 2) = false := by simp; omega
  have k3 : (k == 3) = false := by simp; omega
  have k4 : (k == 4) = false := by simp; omega
  have k5 : (k == 5) = false := by simp; omega
  have k6 : (k == 6) = false := by simp; omega
  have k7 : (k == 7) = false := by simp; omega
  have k8 : (k == 8) = false := by simp; omega
  clear h
  go_enter Try.func19, Try.ntmps19
  go_wp2
  exact bodyPost_ret (v := .agg #[.int .i64 0, .int .i64 0, .int .i64 0, .string ⟨#[]⟩, .slice none 0 0, .slice none 0 0]) (by simp [results, Try.results19, go_sem]) rfl ⟨rfl, ((Below.refl _ w).alloc (Nat.le_refl _) _).alloc (by simp) _⟩

theorem bare_any (x : Hv) (w : World) : Calls Try.prog 19 #[.agg x.arr] w fun e w' => e = .returned (.agg (bareH x).arr) ∧ Below w.heap.size w w' := by
  obtain ⟨k, n, g, s, ⟨lp, ll, lc⟩, ⟨dp, dl, dc⟩⟩ := x
  unfold bareH
  dsimp only
  by_cases h1 : k = 1
  · subst h1; exact bare_1 n g s lp dp ll lc dl dc w
  by_cases h2 : k = 2
  · subst h2; exact bare_2 n g s lp dp ll lc dl dc w
  by_cases h3 : k = 3
  · subst h3; exact bare_3 n g s lp dp ll lc dl dc w
  by_cases h4 : k = 4
  · subst h4; exact bare_4 n g s lp dp ll lc dl dc w
  by_cases h5 : k = 5
  · subst h5; exact bare_5 n g s lp dp ll lc dl dc w
  by_cases h6 : k = 6
  · subst h6; exact bare_6 n g s lp dp ll lc dl dc w
  by_cases h7 : k = 7
  · subst h7; exact bare_7 n g s lp dp ll lc dl dc w
  by_cases h8 : k = 8
  · subst h8; exact bare_8 n g s lp dp ll lc dl dc w
  rw [if_neg (by omega), if_neg (by omega), if_neg h5, if_neg h6, if_neg h7, if_neg h8]
  exact bare_0 k n g s lp dp ll lc dl dc w ⟨h1, h2, h3, h4, h5, h6, h7, h8⟩
end Go.Proofs.Ytejgcnmbngdkiaa
