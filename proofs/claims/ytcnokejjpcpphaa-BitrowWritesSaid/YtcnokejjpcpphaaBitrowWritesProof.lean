/-
  For every list of acts the law BitrowWrites returns true and leaves what lay in memory as it was; no condition.
  The frame of this text (how the call's arguments are read, and what is said of the memory behind it) is laid by a program of ours after the guide's worked rows.
-/
import Derived.Test.YtcnokejjpcpphaaRows
import Derived.Test.YtcnokejjpcpphaaBitArgs
import Derived.WalkKit
import Derived.ProofKit
import Derived.OpenShut
import Derived.ShutString
import Derived.ChangeOld
import Derived.Below
import Derived.SizedLaws
import Derived.SliceStrings
import Derived.Test.YtcnokejjpcpphaaStructRows
namespace Go.Proofs.Ytcnokejjpcpphaa.bitrowWrites
open Go.ChangeShapes Go.WideShapes Go.ChangeAt Go.RowKit
open Go.ChangeMaps (open_string shut_string)
set_option linter.unusedVariables false

theorem own : ownKnob Try.prog.godebug = none := by kernel_rfl
theorem laidOut : laidOutB Try.prog = true := by kernel_rfl

def IsRecs0 (w : World) (a : Option Addr) (len cap : Nat) (zs : List (Int × Int × Bool)) : Prop :=
  (a = none ∧ len = 0 ∧ cap = 0 ∧ zs = []) ∨
  ∃ x, a = some x ∧ len ≤ cap ∧ cap ≤ maxLen ∧ zs.length = len ∧ ∀ i (h : i < zs.length), (w.cell? (x.add (i * 3 + 0)) = some (.int .i64 zs[i].1) ∧ (Lit.int .i64 zs[i].1).wf = true) ∧ (w.cell? (x.add (i * 3 + 1)) = some (.int .i64 zs[i].2.1) ∧ (Lit.int .i64 zs[i].2.1).wf = true) ∧ w.cell? (x.add (i * 3 + 2)) = some (.bool zs[i].2.2)

theorem walk (a0 : Option Addr) (len0 cap0 : Nat) (z0 : List (Int × Int × Bool)) (w : World) (w0 : IsRecs0 w a0 len0 cap0 z0) :
    Calls Try.prog 3 #[.slice a0 len0 cap0] w fun e w' => e = .returned (.bool true) ∧ Below w.heap.size w w' := by
  have h : Acts w a0 z0 ∧ z0.length = len0 ∧ len0 ≤ 9223372036854775807 := acts_of_row w0
  obtain ⟨h1, h2, h3⟩ := h
  subst h2
  exact bwrites_walk a0 cap0 z0 w h3 h1

set_option maxRecDepth 100000 in
theorem lifted (os : Os) (started : os.Started) (H : Type) (enc : TypeId × Value → H) :
    ReturnsInHanded {} Try.checked os 3 .any (Rows.bitrowWritesSpec.pre6 enc Try.prog Try.f3 Rows.bitrowWritesRow.domain false) (Rows.bitrowWritesSpec.post enc Try.prog Try.f3 false true false false) := by
  refine returnsInHanded_of_change_sized (C := Try.checked) own started (by kernel_rfl) Try.func3
    (ChangeSpec.witness6 (enc := enc) (C := Try.checked) false ⟨#[], #[.slice none 0 0], []⟩ 8 (by kernel_rfl) (by kernel_rfl) (by kernel_rfl) (by kernel_rfl)) ?_
  intro W base args ds gs before hval0 hW _ hsz0 _
  have hsz : (DataW.weightsEach Try.prog (Try.f3.params.toList ++ Rows.bitrowWritesSpec.plain.varTypes Try.prog) (ds ++ gs)).all (· ≤ reachBytes) = true := hsz0
  clear hsz0
  have hval : ∀ (j : Nat) t v, Try.f3.params[j]? = some t → args[j]? = some v → Value.okWide Try.prog W .any base t v := hval0
  have hW' := hW
  obtain ⟨p, q, hA0, hV, rfl, hfz, hnd⟩ := hW
  have hA : DataW.TrodAll enc Try.prog W 0 (fun _ => true) true Try.f3.params.toList args.toList ds p := hA0
  rw [Try.params3] at hA hval hsz
  obtain ⟨v0, vs0, d0, ds0, p0, q0, hargs, rfl, rfl, h0, k0⟩ := trodAll_cons hA
  obtain ⟨rfl, rfl, rfl⟩ := trodAll_nil k0
  obtain rfl : args = #[v0] := by cases args; simp_all
  obtain ⟨rfl, rfl⟩ := trodVars_none hV
  obtain ⟨a0, len0, cap0, rfl⟩ := okWide_slice Try.underlying22 (hval 0 22 v0 rfl rfl)
  have m0 := h0
  have lt0 : ∀ x ∈ p0, x.block < W.heap.size := by obtain ⟨m, hm⟩ := m0; exact DataW.trod_lt m _ _ _ hm
  obtain ⟨z0, w0⟩ : ∃ zs, IsRecs0 W a0 len0 cap0 zs := by
    obtain ⟨fuel, hf⟩ := h0
    rcases slice_of_structs Try.underlying22 Try.underlying31 (nf := 3) (by kernel_rfl) (by
      intro j f hj
      rcases j with _ | _ | _ | j <;> simp at hj
      all_goals (subst hj; exact ⟨by omega, rfl, by kernel_rfl⟩)) hf with hcs | ⟨x, l, c, hcs, hl, hm, hh⟩
    · simp [Value.cells] at hcs
      obtain ⟨rfl, rfl, rfl⟩ := hcs
      exact ⟨[], .inl ⟨rfl, rfl, rfl, rfl⟩⟩
    · simp [Value.cells] at hcs
      obtain ⟨rfl, rfl, rfl⟩ := hcs
      obtain ⟨zs, hzl, hzs⟩ := list_of (P := fun (i : Nat) (r : Int × Int × Bool) => (W.cell? (x.add (i * 3 + 0)) = some (.int .i64 r.1) ∧ (Lit.int .i64 r.1).wf = true) ∧ (W.cell? (x.add (i * 3 + 1)) = some (.int .i64 r.2.1) ∧ (Lit.int .i64 r.2.1).wf = true) ∧ W.cell? (x.add (i * 3 + 2)) = some (.bool r.2.2)) (n := len0) (by
        intro i hi
        obtain ⟨v0', y0', n0', c0', r0'⟩ := hh i hi 0 _ rfl
        obtain ⟨b0', e0', _, g0'⟩ := DataW.trod_int Try.underlying3 r0'
        obtain rfl : v0' = .int .i64 b0' := by simpa using e0'
        obtain ⟨v1', y1', n1', c1', r1'⟩ := hh i hi 1 _ rfl
        obtain ⟨b1', e1', _, g1'⟩ := DataW.trod_int Try.underlying3 r1'
        obtain rfl : v1' = .int .i64 b1' := by simpa using e1'
        obtain ⟨v2', y2', n2', c2', r2'⟩ := hh i hi 2 _ rfl
        obtain ⟨b2', e2', _⟩ := DataW.trod_bool Try.underlying4 r2'
        obtain rfl : v2' = .bool b2' := by simpa using e2'
        exact ⟨(b0', b1', b2'), ⟨c0', g0'⟩, ⟨c1', g1'⟩, c2'⟩)
      exact ⟨zs, .inr ⟨_, rfl, hl, hm, hzl, hzs⟩⟩
  clear hA0 hval0
  refine (walk a0 len0 cap0 z0 W w0).mono fun e W' ⟨he, bel⟩ => ?_
  subst he
  exact ⟨_, rfl, _, _, _, [], _, [], hW', trodAll_mk1 (shut_bool Try.underlying4 _), (trodAll_cons_mk (Below.trod laidOut (by kernel_rfl) (of_decide_eq_true (by kernel_rfl)) m0 bel lt0) trodAll_mk0), rfl, bel.frame _, fun h => by cases h⟩

theorem over : Rows.bitrowWritesRow.holds Try.pinned (OpenSpec.ofChange Rows.bitrowWritesSpec) :=
  OpenClaim.holds_of_wide 3 Try.f3 rfl rfl rfl rfl rfl rfl rfl ⟨rfl, rfl, rfl, rfl, rfl⟩ rfl rfl rfl rfl rfl (by kernel_rfl) Try.func3 (by kernel_rfl)
    (of_decide_eq_true (by kernel_rfl)) (by unfold Func.isWrapper; first | (rw [if_pos (by decide +kernel)]; kernel_rfl) | (rw [if_neg (by decide +kernel)]; exact ⟨rfl, rfl⟩))
    (fun os started H enc _ => lifted os started H enc)
end Go.Proofs.Ytcnokejjpcpphaa.bitrowWrites

namespace Go.Proofs.Ytcnokejjpcpphaa
theorem bitrowWrites_holds : Rows.BitrowWritesSaid := bitrowWrites.over
end Go.Proofs.Ytcnokejjpcpphaa
