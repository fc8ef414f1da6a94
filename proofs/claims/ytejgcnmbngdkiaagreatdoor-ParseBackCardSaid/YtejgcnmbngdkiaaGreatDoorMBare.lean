/-
  VBare, VMore, VInR: texts merged.
-/
import Derived.Test.YtejgcnmbngdkiaaGreatDoorNMem
import Derived.Test.YtejgcnmbngdkiaaGreatDoorMZero
/-
  A value with the fields of its kind alone.
-/
namespace Go.Proofs.YtejgcnmbngdkiaaGreatDoor
section
open Go.RowKit
set_option maxRecDepth 100000
attribute [local go_sem] Hv.arr

/-- So the program holds it. -/
def bareH (x : Hv) : Hv :=
  if x.k = 1 ∨ x.k = 2 then ⟨x.k, x.n, 0, ⟨#[]⟩, ⟨none, 0, 0⟩, ⟨none, 0, 0⟩⟩
  else if x.k = 3 ∨ x.k = 4 then ⟨x.k, 0, 0, x.s, ⟨none, 0, 0⟩, ⟨none, 0, 0⟩⟩
  else if x.k = 5 then ⟨x.k, 0, 0, ⟨#[]⟩, x.l, ⟨none, 0, 0⟩⟩
  else if x.k = 6 then ⟨x.k, 0, 0, ⟨#[]⟩, ⟨none, 0, 0⟩, x.d⟩
  else if x.k = 7 then ⟨x.k, x.n, x.g, ⟨#[]⟩, ⟨none, 0, 0⟩, ⟨none, 0, 0⟩⟩
  else if x.k = 8 then ⟨x.k, 0, 0, x.s, ⟨none, 0, 0⟩, x.d⟩
  else .nil
theorem bare_rd {w : World} {S : Nat → Prop} {x : Hv} {v : Val} (h : Rd w S x v) : Rd w S (bareH x) (bareV v) := by
  obtain ⟨⟨hk, hn, hg, hs⟩, hL, hD⟩ := rd_iff.1 h
  have N : RdL w S ⟨none, 0, 0⟩ [] := RdL.nil w S none 0 (Nat.zero_le _)
  have M : RdD w S ⟨none, 0, 0⟩ [] := RdD.nil w S none 0 (Nat.zero_le _)
  cases v with
  | mk k n g s l d =>
    rw [Val.kind_mk] at hk
    rw [Val.n_mk] at hn
    rw [Val.g_mk] at hg
    rw [Val.s_mk] at hs
    rw [Val.l_mk] at hL
    rw [Val.d_mk] at hD
    unfold bareH
    rw [bareV, hk]
    repeat' split
    · exact rd_iff.2 ⟨⟨rfl, hn, rfl, rfl⟩, N, M⟩
    · exact rd_iff.2 ⟨⟨rfl, rfl, rfl, hs⟩, N, M⟩
    · exact rd_iff.2 ⟨⟨rfl, rfl, rfl, rfl⟩, hL, M⟩
    · exact rd_iff.2 ⟨⟨rfl, rfl, rfl, rfl⟩, N, hD⟩
    · exact rd_iff.2 ⟨⟨rfl, hn, hg, rfl⟩, N, M⟩
    · exact rd_iff.2 ⟨⟨rfl, rfl, rfl, hs⟩, N, hD⟩
    · exact Rd.null w S

set_option maxHeartbeats 4000000 in
theorem bare_1 (n g : Int) (s : ByteArray) (lp dp : Option Addr) (ll lc dl dc : Nat) (w : World) :
    Calls Tryz.prog 20 #[.agg #[.int .i64 1, .int .i64 n, .int .i64 g, .string s, .slice lp ll lc, .slice dp dl dc]] w fun e w' => e = .returned (.agg #[.int .i64 1, .int .i64 n, .int .i64 0, .string ⟨#[]⟩, .slice none 0 0, .slice none 0 0]) ∧ Below w.heap.size w w' := by
  go_enter Tryz.func20, Tryz.ntmps20
  go_wp2
  exact bodyPost_ret (v := .agg #[.int .i64 1, .int .i64 n, .int .i64 0, .string ⟨#[]⟩, .slice none 0 0, .slice none 0 0]) (by simp [results, Tryz.results20, go_sem]) rfl ⟨rfl, ((Below.refl _ w).alloc (Nat.le_refl _) _).alloc (by simp) _⟩

set_option maxHeartbeats 4000000 in
theorem bare_2 (n g : Int) (s : ByteArray) (lp dp : Option Addr) (ll lc dl dc : Nat) (w : World) :
    Calls Tryz.prog 20 #[.agg #[.int .i64 2, .int .i64 n, .int .i64 g, .string s, .slice lp ll lc, .slice dp dl dc]] w fun e w' => e = .returned (.agg #[.int .i64 2, .int .i64 n, .int .i64 0, .string ⟨#[]⟩, .slice none 0 0, .slice none 0 0]) ∧ Below w.heap.size w w' := by
  go_enter Tryz.func20, Tryz.ntmps20
  go_wp2
  exact bodyPost_ret (v := .agg #[.int .i64 2, .int .i64 n, .int .i64 0, .string ⟨#[]⟩, .slice none 0 0, .slice none 0 0]) (by simp [results, Tryz.results20, go_sem]) rfl ⟨rfl, ((Below.refl _ w).alloc (Nat.le_refl _) _).alloc (by simp) _⟩

set_option maxHeartbeats 4000000 in
theorem bare_3 (n g : Int) (s : ByteArray) (lp dp : Option Addr) (ll lc dl dc : Nat) (w : World) :
    Calls Tryz.prog 20 #[.agg #[.int .i64 3, .int .i64 n, .int .i64 g, .string s, .slice lp ll lc, .slice dp dl dc]] w fun e w' => e = .returned (.agg #[.int .i64 3, .int .i64 0, .int .i64 0, .string s, .slice none 0 0, .slice none 0 0]) ∧ Below w.heap.size w w' := by
  go_enter Tryz.func20, Tryz.ntmps20
  go_wp2
  exact bodyPost_ret (v := .agg #[.int .i64 3, .int .i64 0, .int .i64 0, .string s, .slice none 0 0, .slice none 0 0]) (by simp [results, Tryz.results20, go_sem]) rfl ⟨rfl, ((Below.refl _ w).alloc (Nat.le_refl _) _).alloc (by simp) _⟩

set_option maxHeartbeats 4000000 in
theorem bare_4 (n g : Int) (s : ByteArray) (lp dp : Option Addr) (ll lc dl dc : Nat) (w : World) :
    Calls Tryz.prog 20 #[.agg #[.int .i64 4, .int .i64 n, .int .i64 g, .string s, .slice lp ll lc, .slice dp dl dc]] w fun e w' => e = .returned (.agg #[.int .i64 4, .int .i64 0, .int .i64 0, .string s, .slice none 0 0, .slice none 0 0]) ∧ Below w.heap.size w w' := by
  go_enter Tryz.func20, Tryz.ntmps20
  go_wp2
  exact bodyPost_ret (v := .agg #[.int .i64 4, .int .i64 0, .int .i64 0, .string s, .slice none 0 0, .slice none 0 0]) (by simp [results, Tryz.results20, go_sem]) rfl ⟨rfl, ((Below.refl _ w).alloc (Nat.le_refl _) _).alloc (by simp) _⟩

set_option maxHeartbeats 4000000 in
theorem bare_5 (n g : Int) (s : ByteArray) (lp dp : Option Addr) (ll lc dl dc : Nat) (w : World) :
    Calls Tryz.prog 20 #[.agg #[.int .i64 5, .int .i64 n, .int .i64 g, .string s, .slice lp ll lc, .slice dp dl dc]] w fun e w' => e = .returned (.agg #[.int .i64 5, .int .i64 0, .int .i64 0, .string ⟨#[]⟩, .slice lp ll lc, .slice none 0 0]) ∧ Below w.heap.size w w' := by
  go_enter Tryz.func20, Tryz.ntmps20
  go_wp2
  exact bodyPost_ret (v := .agg #[.int .i64 5, .int .i64 0, .int .i64 0, .string ⟨#[]⟩, .slice lp ll lc, .slice none 0 0]) (by simp [results, Tryz.results20, go_sem]) rfl ⟨rfl, ((Below.refl _ w).alloc (Nat.le_refl _) _).alloc (by simp) _⟩

set_option maxHeartbeats 4000000 in
theorem bare_6 (n g : Int) (s : ByteArray) (lp dp : Option Addr) (ll lc dl dc : Nat) (w : World) :
    Calls Tryz.prog 20 #[.agg #[.int .i64 6, .int .i64 n, .int .i64 g, .string s, .slice lp ll lc, .slice dp dl dc]] w fun e w' => e = .returned (.agg #[.int .i64 6, .int .i64 0, .int .i64 0, .string ⟨#[]⟩, .slice none 0 0, .slice dp dl dc]) ∧ Below w.heap.size w w' := by
  go_enter Tryz.func20, Tryz.ntmps20
  go_wp2
  exact bodyPost_ret (v := .agg #[.int .i64 6, .int .i64 0, .int .i64 0, .string ⟨#[]⟩, .slice none 0 0, .slice dp dl dc]) (by simp [results, Tryz.results20, go_sem]) rfl ⟨rfl, ((Below.refl _ w).alloc (Nat.le_refl _) _).alloc (by simp) _⟩

set_option maxHeartbeats 4000000 in
theorem bare_7 (n g : Int) (s : ByteArray) (lp dp : Option Addr) (ll lc dl dc : Nat) (w : World) :
    Calls Tryz.prog 20 #[.agg #[.int .i64 7, .int .i64 n, .int .i64 g, .string s, .slice lp ll lc, .slice dp dl dc]] w fun e w' => e = .returned (.agg #[.int .i64 7, .int .i64 n, .int .i64 g, .string ⟨#[]⟩, .slice none 0 0, .slice none 0 0]) ∧ Below w.heap.size w w' := by
  go_enter Tryz.func20, Tryz.ntmps20
  go_wp2
  exact bodyPost_ret (v := .agg #[.int .i64 7, .int .i64 n, .int .i64 g, .string ⟨#[]⟩, .slice none 0 0, .slice none 0 0]) (by simp [results, Tryz.results20, go_sem]) rfl ⟨rfl, ((Below.refl _ w).alloc (Nat.le_refl _) _).alloc (by simp) _⟩

set_option maxHeartbeats 4000000 in
theorem bare_8 (n g : Int) (s : ByteArray) (lp dp : Option Addr) (ll lc dl dc : Nat) (w : World) :
    Calls Tryz.prog 20 #[.agg #[.int .i64 8, .int .i64 n, .int .i64 g, .string s, .slice lp ll lc, .slice dp dl dc]] w fun e w' => e = .returned (.agg #[.int .i64 8, .int .i64 0, .int .i64 0, .string s, .slice none 0 0, .slice dp dl dc]) ∧ Below w.heap.size w w' := by
  go_enter Tryz.func20, Tryz.ntmps20
  go_wp2
  exact bodyPost_ret (v := .agg #[.int .i64 8, .int .i64 0, .int .i64 0, .string s, .slice none 0 0, .slice dp dl dc]) (by simp [results, Tryz.results20, go_sem]) rfl ⟨rfl, ((Below.refl _ w).alloc (Nat.le_refl _) _).alloc (by simp) _⟩

set_option maxHeartbeats 4000000 in
theorem bare_0 (k n g : Int) (s : ByteArray) (lp dp : Option Addr) (ll lc dl dc : Nat) (w : World) (h : k ≠ 1 ∧ k ≠ 2 ∧ k ≠ 3 ∧ k ≠ 4 ∧ k ≠ 5 ∧ k ≠ 6 ∧ k ≠ 7 ∧ k ≠ 8) :
    Calls Tryz.prog 20 #[.agg #[.int .i64 k, .int .i64 n, .int .i64 g, .string s, .slice lp ll lc, .slice dp dl dc]] w fun e w' => e = .returned (.agg #[.int .i64 0, .int .i64 0, .int .i64 0, .string ⟨#[]⟩, .slice none 0 0, .slice none 0 0]) ∧ Below w.heap.size w w' := by
  have k1 : (k == 1) = false := by simp; omega
  have k2 : (k == 2) = false := by simp; omega
  have k3 : (k == 3) = false := by simp; omega
  have k4 : (k == 4) = false := by simp; omega
  have k5 : (k == 5) = false := by simp; omega
  have k6 : (k == 6) = false := by simp; omega
  have k7 : (k == 7) = false := by simp; omega
  have k8 : (k == 8) = false := by simp; omega
  clear h
  go_enter Tryz.func20, Tryz.ntmps20
  go_wp2
  exact bodyPost_ret (v := .agg #[.int .i64 0, .int .i64 0, .int .i64 0, .string ⟨#[]⟩, .slice none 0 0, .slice none 0 0]) (by simp [results, Tryz.results20, go_sem]) rfl ⟨rfl, ((Below.refl _ w).alloc (Nat.le_refl _) _).alloc (by simp) _⟩

theorem bare_any (x : Hv) (w : World) : Calls Tryz.prog 20 #[.agg x.arr] w fun e w' => e = .returned (.agg (bareH x).arr) ∧ Below w.heap.size w w' := by
  obtain ⟨k, n, g, s, ⟨lp, ll, lc⟩, ⟨dp, dl, dc⟩⟩ := x
  unfold bareH
  dsimp only
  by_cases h1 : k = 1
  · subst h1; exact bare_1 n g s lp dp ll lc dl dc w
  by_cases h2 : k = 2
  · subst h2; exact bare_2 n g s lp dp ll lc dl dc w
  by_cases h3 : k = 3
  · subst h3; exact bare_3 n g s lp dp ll lc dl dc w
  by_cases h4 : k = 4
  · subst h4; exact bare_4 n g s lp dp ll lc dl dc w
  by_cases h5 : k = 5
  · subst h5; exact bare_5 n g s lp dp ll lc dl dc w
  by_cases h6 : k = 6
  · subst h6; exact bare_6 n g s lp dp ll lc dl dc w
  by_cases h7 : k = 7
  · subst h7; exact bare_7 n g s lp dp ll lc dl dc w
  by_cases h8 : k = 8
  · subst h8; exact bare_8 n g s lp dp ll lc dl dc w
  rw [if_neg (by omega), if_neg (by omega), if_neg h5, if_neg h6, if_neg h7, if_neg h8]
  exact bare_0 k n g s lp dp ll lc dl dc w ⟨h1, h2, h3, h4, h5, h6, h7, h8⟩
end
end Go.Proofs.YtejgcnmbngdkiaaGreatDoor
/-
  The program's: does a kind hold others? Is a field there that the kind does not have?
-/
namespace Go.Proofs.YtejgcnmbngdkiaaGreatDoor
section
open Go.RowKit
set_option maxRecDepth 100000
attribute [local go_sem] symV_true Hv.arr

set_option maxHeartbeats 4000000 in
theorem isHolder_any (k : Int) (w : World) : Calls Tryz.prog 67 #[.int .i64 k] w fun e w' => e = .returned (.bool (holderV k)) ∧ w' = w := by
  obtain ⟨t, ht⟩ : ∃ t, holderV k = t := ⟨_, rfl⟩
  have Ht := Lib.hid ht
  rw [ht]
  unfold holderV at Ht
  clear ht
  obtain ⟨k5, hk5⟩ : ∃ b, (k == 5) = b := ⟨_, rfl⟩
  obtain ⟨k6, hk6⟩ : ∃ b, (k == 6) = b := ⟨_, rfl⟩
  obtain ⟨k8, hk8⟩ : ∃ b, (k == 8) = b := ⟨_, rfl⟩
  go_enter Tryz.func67, Tryz.ntmps67
  repeat (first
    | (with_reducible (change wpList _ _ _ _ _ _)
       refine wpList_pickAndF (A := ?_) rfl rfl rfl rfl rfl rfl rfl (fun r => ?_) (fun r hr => ?_)
       case refine_2 => (simp only [Act.put, List.setIfInBounds_toArray, List.set_cons_succ, List.set_cons_zero]; try rfl))
    | (with_reducible (change wpList _ _ _ _ _ _)
       refine wpList_pickAnd (A := ?_) rfl rfl rfl rfl rfl (fun r => ?_) (fun r hr => ?_)
       case refine_2 => (simp only [Act.put, List.setIfInBounds_toArray, List.set_cons_succ, List.set_cons_zero]; try rfl))
    | (with_reducible (change wpList _ _ _ _ _ _)
       refine wpList_pickOr (A := ?_) rfl rfl rfl rfl rfl (fun r => ?_) (fun r hr => ?_)
       case refine_2 => (simp only [Act.put, List.setIfInBounds_toArray, List.set_cons_succ, List.set_cons_zero]; try rfl))
    | (with_reducible (change wpList _ _ _ _ _ _)
       refine wpList_symT (v := ?_) (a' := ?_) rfl rfl rfl (fun hb2 => ?_) ?_ ?_
       case refine_3 => (go_simp; try rfl)
       case refine_4 => (simp only [Act.put, List.setIfInBounds_toArray, List.set_cons_succ, List.set_cons_zero]; try rfl))
    | (with_reducible (change wpList _ _ _ _ _ _)
       refine wpList_symF (v := ?_) (a' := ?_) rfl rfl rfl (fun hb2 => ?_) ?_ ?_
       case refine_3 => (go_simp; try rfl)
       case refine_4 => (simp only [Act.put, List.setIfInBounds_toArray, List.set_cons_succ, List.set_cons_zero]; try rfl))
    | (with_reducible (change wpList _ _ _ _ _ _)
       refine wpList_symS (v := ?_) (a' := ?_) rfl rfl rfl (fun hb2 hb3 => ?_) ?_ ?_
       case refine_3 => (go_simp; try rfl)
       case refine_4 => (simp only [Act.put, List.setIfInBounds_toArray, List.set_cons_succ, List.set_cons_zero]; try rfl))
    | go_step)
  go_ret
  refine ⟨congrArg (fun b => Ending.returned (Value.bool b)) ?_, rfl⟩
  unfold Hid at *
  subst_vars
  rw [Bool.eq_iff_iff]
  simp only [Bool.or_eq_true, beq_iff_eq, decide_eq_true_eq]

theorem bareH_s (x : Hv) : (bareH x).s = x.s ∨ (bareH x).s = ⟨#[]⟩ := by
  unfold bareH
  repeat' split
  all_goals first | (left; rfl) | (right; rfl)
theorem bare_fields {x : Hv} {v : Val} (hk : x.k = v.kind) (hn : x.n = v.n) (hg : x.g = v.g) (hs : x.s = v.s) (hl : x.l.len = v.l.length) (hd : x.d.len = v.d.length) :
    (bareH x).n = (bareV v).n ∧ (bareH x).g = (bareV v).g ∧ (bareH x).s.size = (bareV v).s.size ∧ (bareH x).l.len = (bareV v).l.length ∧ (bareH x).d.len = (bareV v).d.length := by
  cases v with
  | mk k n g s l d =>
    rw [Val.kind_mk] at hk
    rw [Val.n_mk] at hn
    rw [Val.g_mk] at hg
    rw [Val.s_mk] at hs
    rw [Val.l_mk] at hl
    rw [Val.d_mk] at hd
    unfold bareH
    rw [bareV, hk]
    repeat' split
    all_goals simp only [Val.n_mk, Val.g_mk, Val.s_mk, Val.l_mk, Val.d_mk, Hv.nil, Val.null, List.length_nil]
    all_goals exact ⟨by first | trivial | exact hn, by first | trivial | exact hg, by first | trivial | rw [hs], by first | trivial | exact hl, by first | trivial | exact hd⟩
theorem vtext_ne {a b : ByteArray} (h : b = a ∨ b = ⟨#[]⟩) : (!(a.toList == b.toList)) = true ↔ a.size ≠ b.size := by
  rcases h with rfl | rfl
  · simp
  · rw [ByteArray.toList_eq, ByteArray.toList_eq]
    rcases a with ⟨⟨l⟩⟩
    cases l <;> simp [ByteArray.size]

set_option maxHeartbeats 8000000 in
theorem hasMore_any (x : Hv) (v : Val) (w : World) (hk : x.k = v.kind) (hn : x.n = v.n) (hg : x.g = v.g) (hs : x.s = v.s) (hl : x.l.len = v.l.length) (hd : x.d.len = v.d.length) :
    Calls Tryz.prog 64 #[.agg x.arr] w fun e w' => e = .returned (.bool (extraV v)) ∧ Below w.heap.size w w' := by
  obtain ⟨t, ht⟩ : ∃ t, extraV v = t := ⟨_, rfl⟩
  have he : t = false ↔ x.n = (bareH x).n ∧ x.g = (bareH x).g ∧ x.s.size = (bareH x).s.size ∧ x.l.len = (bareH x).l.len ∧ x.d.len = (bareH x).d.len := by
    have hf := bare_fields hk hn hg hs hl hd
    rw [← ht, extraV_iff, ← hn, ← hg, ← hs, ← hl, ← hd, ← hf.1, ← hf.2.1, ← hf.2.2.1, ← hf.2.2.2.1, ← hf.2.2.2.2]
  rw [ht]
  have Hs := Lib.hid (bareH_s x)
  have Hc := Lib.hid (fun W => bare_any x W)
  clear hk hn hg hs hl hd ht
  generalize bareH x = y at *
  have He := Lib.hid he
  clear he
  obtain ⟨k, n, g, s, ⟨lp, ll, lc⟩, ⟨dp, dl, dc⟩⟩ := x
  obtain ⟨k', n', g', s', ⟨lp', ll', lc'⟩, ⟨dp', dl', dc'⟩⟩ := y
  dsimp only at He Hs
  obtain ⟨w1, hw1⟩ : ∃ w1, w.alloc (.cells #[.int .i64 k, .int .i64 n, .int .i64 g, .string s, .slice lp ll lc, .slice dp dl dc] 25) = w1 := ⟨_, rfl⟩
  have Hv1 : Hid (VCell w1 w.heap.size ⟨k, n, g, s, ⟨lp, ll, lc⟩, ⟨dp, dl, dc⟩⟩) := Lib.hid (by rw [← hw1]; exact heap_alloc_new w _)
  have Hb1 : Hid (Below w.heap.size w w1) := Lib.hid (by rw [← hw1]; exact (Below.refl _ w).alloc (Nat.le_refl _) _)
  have Hlt : Hid (w.heap.size < w1.heap.size) := Lib.hid (by rw [← hw1]; simp)
  have Hw1 := Lib.hid hw1
  clear hw1
  show Calls Tryz.prog 64 #[.agg #[.int .i64 k, .int .i64 n, .int .i64 g, .string s, .slice lp ll lc, .slice dp dl dc]] w _
  go_enter Tryz.func64, Tryz.ntmps64
  iterate 12 go_step
  rw [Hw1.out]
  go_wp2_with (first
    | (refine VCell.load rfl (.tmp 1) rfl w.heap.size _ rfl Hv1.out ?_))
  refine (Hc.out w1).mono ?_
  rintro e w2 ⟨he, hb⟩
  replace he : e = .returned (.agg #[.int .i64 k', .int .i64 n', .int .i64 g', .string s', .slice lp' ll' lc', .slice dp' dl' dc']) := he
  subst he
  have Hb2 := Lib.hid hb
  clear hb
  dsimp only
  obtain ⟨bn, hbn⟩ : ∃ b, (n != n') = b := ⟨_, rfl⟩
  obtain ⟨bg, hbg⟩ : ∃ b, (g != g') = b := ⟨_, rfl⟩
  repeat (first
    | (with_reducible (change wpList _ _ _ _ _ _)
       refine VCell.store rfl rfl (.tmp 3) (.tmp 5) rfl w2.heap.size .nil ⟨k', n', g', s', ⟨lp', ll', lc'⟩, ⟨dp', dl', dc'⟩⟩ rfl rfl (heap_alloc_new w2 _) ?_
       intro w3 HC3 HK3 HB3 HZ3
       have hlt2 : w.heap.size < w2.heap.size := Nat.lt_of_lt_of_le Hlt.out Hb2.out.size
       have HV3 : Hid (VCell w3 w.heap.size ⟨k, n, g, s, ⟨lp, ll, lc⟩, ⟨dp, dl, dc⟩⟩) := Lib.hid ((Hv1.out.later Hb2.out Hlt.out).same ((HK3.out _ (Nat.ne_of_lt hlt2)).trans (push_old rfl hlt2)))
       have HB3' : Hid (Below w.heap.size w w3) := Lib.hid (Hb1.out.trans ((Hb2.out.mono Hb1.out.size).trans ((((Below.refl _ w2).alloc (Nat.le_refl _) _).mono (Nat.le_of_lt hlt2)).trans (HB3.out.mono (Nat.le_of_lt hlt2)))))
       obtain ⟨a0, a1, a2, a3, a4, a5⟩ := HV3.out.at
       obtain ⟨d0, d1, d2, d3, d4, d5⟩ := HC3.out.at
       dsimp only [Nat.zero_add] at a0 a1 a2 a3 a4 a5 d0 d1 d2 d3 d4 d5
       clear a0 d0 HC3 HK3 HZ3)
    | (with_reducible (change wpList _ _ _ _ _ _)
       refine wpList_pickAndF (A := ?_) rfl rfl rfl rfl rfl rfl rfl (fun r => ?_) (fun r hr => ?_)
       case refine_2 => (simp only [Act.put, List.setIfInBounds_toArray, List.set_cons_succ, List.set_cons_zero]; try rfl))
    | (with_reducible (change wpList _ _ _ _ _ _)
       refine wpList_pickAnd (A := ?_) rfl rfl rfl rfl rfl (fun r => ?_) (fun r hr => ?_)
       case refine_2 => (simp only [Act.put, List.setIfInBounds_toArray, List.set_cons_succ, List.set_cons_zero]; try rfl))
    | (with_reducible (change wpList _ _ _ _ _ _)
       refine wpList_pickOr (A := ?_) rfl rfl rfl rfl rfl (fun r => ?_) (fun r hr => ?_)
       case refine_2 => (simp only [Act.put, List.setIfInBounds_toArray, List.set_cons_succ, List.set_cons_zero]; try rfl))
    | (with_reducible (change wpList _ _ _ _ _ _)
       refine wpList_symT (v := ?_) (a' := ?_) rfl rfl rfl (fun hb2 => ?_) ?_ ?_
       case refine_3 => (go_simp; try rfl)
       case refine_4 => (simp only [Act.put, List.setIfInBounds_toArray, List.set_cons_succ, List.set_cons_zero]; try rfl))
    | (with_reducible (change wpList _ _ _ _ _ _)
       refine wpList_symF (v := ?_) (a' := ?_) rfl rfl rfl (fun hb2 => ?_) ?_ ?_
       case refine_3 => (go_simp; try rfl)
       case refine_4 => (simp only [Act.put, List.setIfInBounds_toArray, List.set_cons_succ, List.set_cons_zero]; try rfl))
    | (with_reducible (change wpList _ _ _ _ _ _)
       refine wpList_symS (v := ?_) (a' := ?_) rfl rfl rfl (fun hb2 hb3 => ?_) ?_ ?_
       case refine_3 => (go_simp; try rfl)
       case refine_4 => (simp only [Act.put, List.setIfInBounds_toArray, List.set_cons_succ, List.set_cons_zero]; try rfl))
    | go_step)
  go_ret
  refine ⟨congrArg (fun b => Ending.returned (Value.bool b)) ?_, HB3'.out⟩
  have hts : (!(s.toList == s'.toList)) = false ↔ s.size = s'.size := by
    have h := vtext_ne Hs.out
    rw [← Bool.not_eq_true, h]
    omega
  have h : r = false ↔ (n = n' ∧ g = g' ∧ s.size = s'.size ∧ ll = ll' ∧ dl = dl') := by
    clear He Hc
    unfold Hid at *
    subst_vars
    rw [Bool.or_eq_false_iff, Bool.or_eq_false_iff, Bool.or_eq_false_iff, Bool.or_eq_false_iff, hts, bne_eq_false_iff_eq, bne_eq_false_iff_eq, bne_eq_false_iff_eq, bne_eq_false_iff_eq]
    omega
  have h2 := h.trans He.out.symm
  clear h
  cases r <;> cases t <;> simp_all
end
end Go.Proofs.YtejgcnmbngdkiaaGreatDoor
/-
  Is a value's number such as its kind may have?
-/
namespace Go.Proofs.YtejgcnmbngdkiaaGreatDoor
section
open Go.RowKit
set_option maxRecDepth 100000
attribute [local go_sem] undef

set_option maxHeartbeats 4000000 in
theorem inRange_any (x : Hv) (v : Val) (w : World) (hk : x.k = v.kind) (hn : x.n = v.n) (hg : x.g = v.g) :
    Calls Tryz.prog 66 #[.agg x.arr] w fun e w' => e = .returned (.bool (!outV v)) ∧ Below w.heap.size w w' := by
  obtain ⟨k, n, g, s, ⟨lp, ll, lc⟩, ⟨dp, dl, dc⟩⟩ := x
  dsimp only at hk hn hg
  obtain ⟨r, hr⟩ : ∃ r, outV v = r := ⟨_, rfl⟩
  rw [hr]
  have hv : (if k = 1 then decide (n ≠ 0 ∧ n ≠ 1) else if k = 2 then decide (n < -2147483647 ∨ 2147483647 < n) else if k = 7 then decide (n < 1 ∨ 8388607 < n ∨ g < 0 ∨ 65535 < g) else false) = r := by
    rw [← hr]; unfold outV; rw [hk, hn, hg]
  clear hr hk hn hg
  show Calls Tryz.prog 66 #[.agg #[.int .i64 k, .int .i64 n, .int .i64 g, .string s, .slice lp ll lc, .slice dp dl dc]] w _
  by_cases hk1 : k = 1
  · subst hk1
    by_cases h0 : n = 0
    · subst h0
      obtain rfl : r = false := by rw [← hv]; simp
      clear hv
      go_enter Tryz.func66, Tryz.ntmps66
      go_wp2
      go_ret
      exact ⟨rfl, (Below.refl _ w).alloc (Nat.le_refl _) _⟩
    by_cases h1 : n = 1
    · subst h1
      obtain rfl : r = false := by rw [← hv]; simp
      clear hv
      go_enter Tryz.func66, Tryz.ntmps66
      go_wp2
      go_ret
      exact ⟨rfl, (Below.refl _ w).alloc (Nat.le_refl _) _⟩
    obtain rfl : r = true := by rw [← hv]; rw [if_pos rfl]; exact decide_eq_true ⟨h0, h1⟩
    clear hv
    have h01 : (n == 0 || n == 1) = false := by simp [h0, h1]
    go_enter Tryz.func66, Tryz.ntmps66
    go_wp2
    go_ret
    exact ⟨rfl, (Below.refl _ w).alloc (Nat.le_refl _) _⟩
  by_cases hk2 : k = 2
  · subst hk2
    by_cases h0 : n < -2147483647
    · have gh0 : ¬ (-2147483647 ≤ n) := by omega
      obtain rfl : r = true := by rw [← hv]; rw [if_neg (by decide), if_pos rfl]; exact decide_eq_true (by omega)
      clear hv
      go_enter Tryz.func66, Tryz.ntmps66
      go_wp2
      go_ret
      exact ⟨rfl, (Below.refl _ w).alloc (Nat.le_refl _) _⟩
    have gh0 : -2147483647 ≤ n := by omega
    by_cases h1 : 2147483647 < n
    · have gh1 : ¬ (n ≤ 2147483647) := by omega
      obtain rfl : r = true := by rw [← hv]; rw [if_neg (by decide), if_pos rfl]; exact decide_eq_true (by omega)
      clear hv
      go_enter Tryz.func66, Tryz.ntmps66
      go_wp2
      go_ret
      exact ⟨rfl, (Below.refl _ w).alloc (Nat.le_refl _) _⟩
    have gh1 : n ≤ 2147483647 := by omega
    obtain rfl : r = false := by rw [← hv]; rw [if_neg (by decide), if_pos rfl]; exact decide_eq_false (by omega)
    clear hv
    go_enter Tryz.func66, Tryz.ntmps66
    go_wp2
    go_ret
    exact ⟨rfl, (Below.refl _ w).alloc (Nat.le_refl _) _⟩
  by_cases hk7 : k = 7
  · subst hk7
    by_cases h0 : n < 1
    · have gh0 : ¬ (1 ≤ n) := by omega
      obtain rfl : r = true := by rw [← hv]; rw [if_neg (by decide), if_neg (by decide), if_pos rfl]; exact decide_eq_true (by omega)
      clear hv
      go_enter Tryz.func66, Tryz.ntmps66
      go_wp2
      go_ret
      exact ⟨rfl, (Below.refl _ w).alloc (Nat.le_refl _) _⟩
    have gh0 : 1 ≤ n := by omega
    by_cases h1 : 8388607 < n
    · have gh1 : ¬ (n ≤ 8388607) := by omega
      obtain rfl : r = true := by rw [← hv]; rw [if_neg (by decide), if_neg (by decide), if_pos rfl]; exact decide_eq_true (by omega)
      clear hv
      go_enter Tryz.func66, Tryz.ntmps66
      go_wp2
      go_ret
      exact ⟨rfl, (Below.refl _ w).alloc (Nat.le_refl _) _⟩
    have gh1 : n ≤ 8388607 := by omega
    by_cases h2 : g < 0
    · have gh2 : ¬ (0 ≤ g) := by omega
      obtain rfl : r = true := by rw [← hv]; rw [if_neg (by decide), if_neg (by decide), if_pos rfl]; exact decide_eq_true (by omega)
      clear hv
      go_enter Tryz.func66, Tryz.ntmps66
      go_wp2
      go_ret
      exact ⟨rfl, (Below.refl _ w).alloc (Nat.le_refl _) _⟩
    have gh2 : 0 ≤ g := by omega
    by_cases h3 : 65535 < g
    · have gh3 : ¬ (g ≤ 65535) := by omega
      obtain rfl : r = true := by rw [← hv]; rw [if_neg (by decide), if_neg (by decide), if_pos rfl]; exact decide_eq_true (by omega)
      clear hv
      go_enter Tryz.func66, Tryz.ntmps66
      go_wp2
      go_ret
      exact ⟨rfl, (Below.refl _ w).alloc (Nat.le_refl _) _⟩
    have gh3 : g ≤ 65535 := by omega
    obtain rfl : r = false := by rw [← hv]; rw [if_neg (by decide), if_neg (by decide), if_pos rfl]; exact decide_eq_false (by omega)
    clear hv
    go_enter Tryz.func66, Tryz.ntmps66
    go_wp2
    go_ret
    exact ⟨rfl, (Below.refl _ w).alloc (Nat.le_refl _) _⟩
  obtain rfl : r = false := by rw [← hv]; rw [if_neg hk1, if_neg hk2, if_neg hk7]
  clear hv
  go_enter Tryz.func66, Tryz.ntmps66
  go_wp2
  go_ret
  exact ⟨rfl, (Below.refl _ w).alloc (Nat.le_refl _) _⟩
end
end Go.Proofs.YtejgcnmbngdkiaaGreatDoor
