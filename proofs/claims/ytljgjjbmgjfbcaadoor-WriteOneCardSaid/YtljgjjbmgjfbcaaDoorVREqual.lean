/-
  The document's answer: are two values the same, field by field?
-/
import Derived.Test.YtljgjjbmgjfbcaaDoorMRow
namespace Go.Proofs.YtljgjjbmgjfbcaaDoor
open Go.RowKit
set_option maxRecDepth 100000
attribute [local go_sem] Hv.arr

theorem equalL_len : ∀ {l l' : List Val}, equalL l l' = true → l.length = l'.length
  | [], [], _ => rfl
  | _ :: t, _ :: t', h => by rw [equalL, Bool.and_eq_true] at h; rw [List.length_cons, List.length_cons, equalL_len h.2]
  | [], _ :: _, h => by simp [equalL] at h
  | _ :: _, [], h => by simp [equalL] at h
theorem equalD_len : ∀ {l l' : Prs}, equalD l l' = true → l.length = l'.length
  | [], [], _ => rfl
  | (_, _) :: t, (_, _) :: t', h => by rw [equalD, Bool.and_eq_true] at h; rw [List.length_cons, List.length_cons, equalD_len h.2]
  | [], _ :: _, h => by simp [equalD] at h
  | _ :: _, [], h => by simp [equalD] at h

end Go.Proofs.YtljgjjbmgjfbcaaDoor
