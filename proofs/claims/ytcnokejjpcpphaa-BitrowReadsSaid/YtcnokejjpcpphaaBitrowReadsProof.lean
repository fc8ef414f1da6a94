/-
  For every text and every list of questions the law BitrowReads returns true and leaves what lay in memory as it was; no condition.
  The frame of this text (how the call's arguments are read, and what is said of the memory behind it) is laid by a program of ours after the guide's worked rows.
-/
import Derived.Test.YtcnokejjpcpphaaRows
import Derived.Test.YtcnokejjpcpphaaBitArgs
import Derived.WalkKit
import Derived.ProofKit
import Derived.OpenShut
import Derived.ShutString
import Derived.ChangeOld
import Derived.Below
import Derived.SizedLaws
import Derived.SliceStrings
import Derived.Test.YtcnokejjpcpphaaStructRows
namespace Go.Proofs.Ytcnokejjpcpphaa.bitrowReads
open Go.ChangeShapes Go.WideShapes Go.ChangeAt Go.RowKit
open Go.ChangeMaps (open_string shut_string)
set_option linter.unusedVariables false

theorem own : ownKnob Try.prog.godebug = none := by kernel_rfl
theorem laidOut : laidOutB Try.prog = true := by kernel_rfl

def IsRecs1 (w : World) (a : Option Addr) (len cap : Nat) (zs : List (Int × Int)) : Prop :=
  (a = none ∧ len = 0 ∧ cap = 0 ∧ zs = []) ∨
  ∃ x, a = some x ∧ len ≤ cap ∧ cap ≤ maxLen ∧ zs.length = len ∧ ∀ i (h : i < zs.length), (w.cell? (x.add (i * 2 + 0)) = some (.int .u8 zs[i].1) ∧ (Lit.int .u8 zs[i].1).wf = true) ∧ (w.cell? (x.add (i * 2 + 1)) = some (.int .i64 zs[i].2) ∧ (Lit.int .i64 zs[i].2).wf = true)

theorem walk (a0 : ByteArray) (a1 : Option Addr) (len1 cap1 : Nat) (z1 : List (Int × Int)) (w : World) (w0 : a0.size ≤ maxLen) (r0 : a0.size ≤ reachBytes) (w1 : IsRecs1 w a1 len1 cap1 z1) :
    Calls Try.prog 4 #[.string a0, .slice a1 len1 cap1] w fun e w' => e = .returned (.bool true) ∧ Below w.heap.size w w' := by
  have h : Asks w a1 z1 ∧ z1.length = len1 ∧ len1 ≤ 9223372036854775807 := asks_of_row w1
  obtain ⟨h1, h2, h3⟩ := h
  subst h2
  exact breads_walk a0 a1 cap1 z1 w w0 h3 h1

set_option maxRecDepth 100000 in
theorem lifted (os : Os) (started : os.Started) (H : Type) (enc : TypeId × Value → H) :
    ReturnsInHanded {} Try.checked os 4 .any (Rows.bitrowReadsSpec.pre6 enc Try.prog Try.f4 Rows.bitrowReadsRow.domain false) (Rows.bitrowReadsSpec.post enc Try.prog Try.f4 false true false false) := by
  refine returnsInHanded_of_change_sized (C := Try.checked) own started (by kernel_rfl) Try.func4
    (ChangeSpec.witness6 (enc := enc) (C := Try.checked) false ⟨#[], #[.string ⟨#[]⟩, .slice none 0 0], []⟩ 8 (by kernel_rfl) (by kernel_rfl) (by kernel_rfl) (by kernel_rfl)) ?_
  intro W base args ds gs before hval0 hW _ hsz0 _
  have hsz : (DataW.weightsEach Try.prog (Try.f4.params.toList ++ Rows.bitrowReadsSpec.plain.varTypes Try.prog) (ds ++ gs)).all (· ≤ reachBytes) = true := hsz0
  clear hsz0
  have hval : ∀ (j : Nat) t v, Try.f4.params[j]? = some t → args[j]? = some v → Value.okWide Try.prog W .any base t v := hval0
  have hW' := hW
  obtain ⟨p, q, hA0, hV, rfl, hfz, hnd⟩ := hW
  have hA : DataW.TrodAll enc Try.prog W 0 (fun _ => true) true Try.f4.params.toList args.toList ds p := hA0
  rw [Try.params4] at hA hval hsz
  obtain ⟨v0, vs0, d0, ds0, p0, q0, hargs, rfl, rfl, h0, k0⟩ := trodAll_cons hA
  obtain ⟨v1, vs1, d1, ds1, p1, q1, rfl, rfl, rfl, h1, k1⟩ := trodAll_cons k0
  obtain ⟨rfl, rfl, rfl⟩ := trodAll_nil k1
  obtain rfl : args = #[v0, v1] := by cases args; simp_all
  obtain ⟨rfl, rfl⟩ := trodVars_none hV
  obtain ⟨a0, rfl, rfl, rfl, w0⟩ := open_string Try.underlying9 (hval 0 9 v0 rfl rfl) h0
  have rr0 : a0.size ≤ reachBytes := by
    have h1 := sized_string hsz (j := 0) (t := 9) rfl rfl
    have e2 : a0.data.toList.length = a0.size := by simp
    omega
  obtain ⟨a1, len1, cap1, rfl⟩ := okWide_slice Try.underlying41 (hval 1 41 v1 rfl rfl)
  have m1 := h1
  have lt1 : ∀ x ∈ p1, x.block < W.heap.size := by obtain ⟨m, hm⟩ := m1; exact DataW.trod_lt m _ _ _ hm
  obtain ⟨z1, w1⟩ : ∃ zs, IsRecs1 W a1 len1 cap1 zs := by
    obtain ⟨fuel, hf⟩ := h1
    rcases slice_of_structs Try.underlying41 Try.underlying45 (nf := 2) (by kernel_rfl) (by
      intro j f hj
      rcases j with _ | _ | j <;> simp at hj
      all_goals (subst hj; exact ⟨by omega, rfl, by kernel_rfl⟩)) hf with hcs | ⟨x, l, c, hcs, hl, hm, hh⟩
    · simp [Value.cells] at hcs
      obtain ⟨rfl, rfl, rfl⟩ := hcs
      exact ⟨[], .inl ⟨rfl, rfl, rfl, rfl⟩⟩
    · simp [Value.cells] at hcs
      obtain ⟨rfl, rfl, rfl⟩ := hcs
      obtain ⟨zs, hzl, hzs⟩ := list_of (P := fun (i : Nat) (r : Int × Int) => (W.cell? (x.add (i * 2 + 0)) = some (.int .u8 r.1) ∧ (Lit.int .u8 r.1).wf = true) ∧ (W.cell? (x.add (i * 2 + 1)) = some (.int .i64 r.2) ∧ (Lit.int .i64 r.2).wf = true)) (n := len1) (by
        intro i hi
        obtain ⟨v0', y0', n0', c0', r0'⟩ := hh i hi 0 _ rfl
        obtain ⟨b0', e0', _, g0'⟩ := DataW.trod_int Try.underlying5 r0'
        obtain rfl : v0' = .int .u8 b0' := by simpa using e0'
        obtain ⟨v1', y1', n1', c1', r1'⟩ := hh i hi 1 _ rfl
        obtain ⟨b1', e1', _, g1'⟩ := DataW.trod_int Try.underlying3 r1'
        obtain rfl : v1' = .int .i64 b1' := by simpa using e1'
        exact ⟨(b0', b1'), ⟨c0', g0'⟩, ⟨c1', g1'⟩⟩)
      exact ⟨zs, .inr ⟨_, rfl, hl, hm, hzl, hzs⟩⟩
  clear hA0 hval0
  refine (walk a0 a1 len1 cap1 z1 W w0 rr0 w1).mono fun e W' ⟨he, bel⟩ => ?_
  subst he
  exact ⟨_, rfl, _, _, _, [], _, [], hW', trodAll_mk1 (shut_bool Try.underlying4 _), (trodAll_cons_mk (shut_string Try.underlying9 w0) (trodAll_cons_mk (Below.trod laidOut (by kernel_rfl) (of_decide_eq_true (by kernel_rfl)) m1 bel lt1) trodAll_mk0)), rfl, bel.frame _, fun h => by cases h⟩

theorem over : Rows.bitrowReadsRow.holds Try.pinned (OpenSpec.ofChange Rows.bitrowReadsSpec) :=
  OpenClaim.holds_of_wide 4 Try.f4 rfl rfl rfl rfl rfl rfl rfl ⟨rfl, rfl, rfl, rfl, rfl⟩ rfl rfl rfl rfl rfl (by kernel_rfl) Try.func4 (by kernel_rfl)
    (of_decide_eq_true (by kernel_rfl)) (by unfold Func.isWrapper; first | (rw [if_pos (by decide +kernel)]; kernel_rfl) | (rw [if_neg (by decide +kernel)]; exact ⟨rfl, rfl⟩))
    (fun os started H enc _ => lifted os started H enc)
end Go.Proofs.Ytcnokejjpcpphaa.bitrowReads

namespace Go.Proofs.Ytcnokejjpcpphaa
theorem bitrowReads_holds : Rows.BitrowReadsSaid := bitrowReads.over
end Go.Proofs.Ytcnokejjpcpphaa
