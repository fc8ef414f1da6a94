/-
  What is plain is plain itself, what may be may be plain, and what is put under a key of a dictionary, and is not null, is got there, and nothing else is turned.
  The frame of this text (how the call's arguments are read, and what is said of the memory behind it) is laid by a program of ours after the guide's worked rows.
-/
import Derived.Test.YtlmgjhidmipadaaRows
import Derived.Test.YtlmgjhidmipadaaHMem
import Derived.Test.YtlmgjhidmipadaaVVal
import Derived.Test.YtlmgjhidmipadaaVLaw5
import Derived.WalkKit
import Derived.ProofKit
import Derived.OpenShut
import Derived.ShutString
import Derived.ChangeOld
import Derived.Below
import Derived.SizedLaws
import Derived.SliceStrings
namespace Go.Proofs.Ytlmgjhidmipadaa.valueTwice
open Go.ChangeShapes Go.WideShapes Go.ChangeAt Go.RowKit
open Go.ChangeMaps (open_string shut_string)
set_option linter.unusedVariables false

theorem own : ownKnob Try.prog.godebug = none := by kernel_rfl
theorem laidOut : laidOutB Try.prog = true := by kernel_rfl

theorem walk (a0 : Hv) (z0 : Val) (a1 : ByteArray) (a2 : ByteArray) (a3 : Hv) (z3 : Val) (w : World) (w0 : Rd w (fun k => k < w.heap.size) a0 z0) (w1 : a1.size ≤ maxLen) (r1 : a1.size ≤ reachBytes) (w2 : a2.size ≤ maxLen) (r2 : a2.size ≤ reachBytes) (w3 : Rd w (fun k => k < w.heap.size) a3 z3) :
    Calls Try.prog 7 #[.agg a0.arr, .string a1, .string a2, .agg a3.arr] w fun e w' => e = .returned (.bool true) ∧ Below w.heap.size w w' := by
  exact twice_law values_any z0 z3 a1 a2 a0 a3 w _ w0 w3 (fun _ h => h)

set_option maxRecDepth 100000 in
theorem lifted (os : Os) (started : os.Started) (H : Type) (enc : TypeId × Value → H) :
    ReturnsInHanded {} Try.checked os 7 .any (Rows.valueTwiceSpec.pre6 enc Try.prog Try.f7 Rows.valueTwiceRow.domain false) (Rows.valueTwiceSpec.post enc Try.prog Try.f7 false true false false) := by
  refine returnsInHanded_of_change_sized (C := Try.checked) own started (by kernel_rfl) Try.func7
    (ChangeSpec.witness6 (enc := enc) (C := Try.checked) false ⟨#[], #[.agg #[.int .i64 0, .int .i64 0, .int .i64 0, .string ⟨#[]⟩, .slice none 0 0, .slice none 0 0], .string ⟨#[]⟩, .string ⟨#[]⟩, .agg #[.int .i64 0, .int .i64 0, .int .i64 0, .string ⟨#[]⟩, .slice none 0 0, .slice none 0 0]], []⟩ 8 (by kernel_rfl) (by kernel_rfl) (by kernel_rfl) (by kernel_rfl)) ?_
  intro W base args ds gs before hval0 hW _ hsz0 _
  have hsz : (DataW.weightsEach Try.prog (Try.f7.params.toList ++ Rows.valueTwiceSpec.plain.varTypes Try.prog) (ds ++ gs)).all (· ≤ reachBytes) = true := hsz0
  clear hsz0
  have hval : ∀ (j : Nat) t v, Try.f7.params[j]? = some t → args[j]? = some v → Value.okWide Try.prog W .any base t v := hval0
  have hW' := hW
  obtain ⟨p, q, hA0, hV, rfl, hfz, hnd⟩ := hW
  have hA : DataW.TrodAll enc Try.prog W 0 (fun _ => true) true Try.f7.params.toList args.toList ds p := hA0
  rw [Try.params7] at hA hval hsz
  obtain ⟨v0, vs0, d0, ds0, p0, q0, hargs, rfl, rfl, h0, k0⟩ := trodAll_cons hA
  obtain ⟨v1, vs1, d1, ds1, p1, q1, rfl, rfl, rfl, h1, k1⟩ := trodAll_cons k0
  obtain ⟨v2, vs2, d2, ds2, p2, q2, rfl, rfl, rfl, h2, k2⟩ := trodAll_cons k1
  obtain ⟨v3, vs3, d3, ds3, p3, q3, rfl, rfl, rfl, h3, k3⟩ := trodAll_cons k2
  obtain ⟨rfl, rfl, rfl⟩ := trodAll_nil k3
  obtain rfl : args = #[v0, v1, v2, v3] := by cases args; simp_all
  obtain ⟨rfl, rfl⟩ := trodVars_none hV
  obtain ⟨cs0, rfl, hsz0⟩ := okWide_struct Try.underlying25 (hval 0 25 v0 rfl rfl)
  have m0 := h0
  have lt0 : ∀ x ∈ p0, x.block < W.heap.size := by obtain ⟨m, hm⟩ := m0; exact DataW.trod_lt m _ _ _ hm
  obtain ⟨a0, z0, rfl, w0⟩ : ∃ (y : Hv) (v : Val), cs0 = y.arr ∧ Rd W (fun k => k < W.heap.size) y v := by
    obtain ⟨fuel, hf⟩ := h0
    obtain ⟨y, v, hy, hr⟩ := rd_trod fuel _ _ hf
    exact ⟨y, v, Array.toList_inj.1 hy, hr⟩
  obtain ⟨a1, rfl, rfl, rfl, w1⟩ := open_string Try.underlying9 (hval 1 9 v1 rfl rfl) h1
  have rr1 : a1.size ≤ reachBytes := by
    have h1 := sized_string hsz (j := 1) (t := 9) rfl rfl
    have e2 : a1.data.toList.length = a1.size := by simp
    omega
  obtain ⟨a2, rfl, rfl, rfl, w2⟩ := open_string Try.underlying9 (hval 2 9 v2 rfl rfl) h2
  have rr2 : a2.size ≤ reachBytes := by
    have h1 := sized_string hsz (j := 2) (t := 9) rfl rfl
    have e2 : a2.data.toList.length = a2.size := by simp
    omega
  obtain ⟨cs3, rfl, hsz3⟩ := okWide_struct Try.underlying25 (hval 3 25 v3 rfl rfl)
  have m3 := h3
  have lt3 : ∀ x ∈ p3, x.block < W.heap.size := by obtain ⟨m, hm⟩ := m3; exact DataW.trod_lt m _ _ _ hm
  obtain ⟨a3, z3, rfl, w3⟩ : ∃ (y : Hv) (v : Val), cs3 = y.arr ∧ Rd W (fun k => k < W.heap.size) y v := by
    obtain ⟨fuel, hf⟩ := h3
    obtain ⟨y, v, hy, hr⟩ := rd_trod fuel _ _ hf
    exact ⟨y, v, Array.toList_inj.1 hy, hr⟩
  clear hA0 hval0
  refine (walk a0 z0 a1 a2 a3 z3 W w0 w1 rr1 w2 rr2 w3).mono fun e W' ⟨he, bel⟩ => ?_
  subst he
  exact ⟨_, rfl, _, _, _, [], _, [], hW', trodAll_mk1 (shut_bool Try.underlying4 _), (trodAll_cons_mk (Below.trod laidOut (by kernel_rfl) (of_decide_eq_true (by kernel_rfl)) m0 bel lt0) (trodAll_cons_mk (shut_string Try.underlying9 w1) (trodAll_cons_mk (shut_string Try.underlying9 w2) (trodAll_cons_mk (Below.trod laidOut (by kernel_rfl) (of_decide_eq_true (by kernel_rfl)) m3 bel lt3) trodAll_mk0)))), rfl, bel.frame _, fun h => by cases h⟩

theorem over : Rows.valueTwiceRow.holds Try.pinned (OpenSpec.ofChange Rows.valueTwiceSpec) :=
  OpenClaim.holds_of_wide 7 Try.f7 rfl rfl rfl rfl rfl rfl rfl ⟨rfl, rfl, rfl, rfl, rfl⟩ rfl rfl rfl rfl rfl (by kernel_rfl) Try.func7 (by kernel_rfl)
    (of_decide_eq_true (by kernel_rfl)) (by unfold Func.isWrapper; first | (rw [if_pos (by decide +kernel)]; kernel_rfl) | (rw [if_neg (by decide +kernel)]; exact ⟨rfl, rfl⟩))
    (fun os started H enc _ => lifted os started H enc)
end Go.Proofs.Ytlmgjhidmipadaa.valueTwice

namespace Go.Proofs.Ytlmgjhidmipadaa
theorem valueTwice_holds : Rows.ValueTwiceSaid := valueTwice.over
end Go.Proofs.Ytlmgjhidmipadaa
