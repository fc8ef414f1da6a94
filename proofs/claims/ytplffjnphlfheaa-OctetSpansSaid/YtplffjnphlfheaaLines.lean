/-
  The iterator that tells where lines begin: which places come, in which order, whatever the loop's body does.
-/
import Derived.RangeFuncNested
import Derived.RangeFuncBound
import Derived.RangeFuncBox
import Derived.RangeFuncCalls
import Derived.RangeFuncLeaves
import Derived.Shelf.Abstract
import Derived.Shelf.RegionOpen
import Derived.WalkKit
import Derived.OwnWalkIn
import Derived.TacticsInMore
import Derived.LoopNIn
import Derived.LoopIn
import Derived.Maps.AppendAt
import Derived.Test.YtplffjnphlfheaaEnds
namespace Go.Proofs.Ytplffjnphlfheaa
open Go.RowKit Go.Shelf

attribute [local go_sem] Oper.semAt_some

/-- A place in the text. -/
abbrev Place (s : ByteArray) := { k : Nat // k < s.size }
/-- What a round hands on of the text's own box. -/
def KeepsBox (B : Nat) (W W' : World) : Prop := W'.cell? ⟨B, 0, none⟩ = W.cell? ⟨B, 0, none⟩

set_option maxRecDepth 100000 in
set_option maxHeartbeats 1000000 in
theorem iter_in (n : Nat) (hn : 1 ≤ n) (l Bn : Nat) (s : ByteArray) (hs : s.size ≤ maxLen) (J Jx : List (Place s) → World → Prop)
    (hY : ∀ pre x W, J pre W → pre.length < s.size → YieldAt Fence.wide (n - 1) Try.prog l #[.int .i64 (x.val : Int)] W fun e W' =>
      (e = .returned (.bool true) ∧ J (pre ++ [x]) W' ∧ KeepsBox Bn W W') ∨ (e = .returned (.bool false) ∧ Jx (pre ++ [x]) W'))
    (W : World) (hBn : W.cell? ⟨Bn, 0, none⟩ = some (.string s)) (h0 : J [] W) :
    CallsIn Fence.wide n Try.prog 25 #[.func (.yield l) #[] #[], .pointer (some ⟨Bn, 0, none⟩)] W fun e W' => (∃ v, e = .returned v) ∧
      ((∃ ys, ys.map Subtype.val = linesN s.data.toList ∧ J ys W') ∨ (∃ pre, pre.map Subtype.val <+: linesN s.data.toList ∧ Jx pre W')) := by
  have hs' := hs
  unfold maxLen at hs
  have hsz : s.data.toList.length = s.size := by simp
  refine callsIn_of_wp Try.func25 rfl trivial ?_ rfl
  simp only [Try.ntmps25, List.size_toArray, List.length_cons, List.length_nil, Nat.reduceAdd, Nat.reduceSub, Array.replicate_succ, Array.replicate_zero, List.push_toArray, List.append_toArray, List.nil_append, List.cons_append]
  gi_wp2
  gi_loopw [3] (fun p wr => ∃ (pre : List (Place s)) (k : Nat), p = .int .i64 k ∧ k ≤ s.size ∧ pre.map Subtype.val = upto s.data.toList k ∧ (k < s.size → beginsN s.data.toList k = true) ∧ wr.cell? ⟨Bn, 0, none⟩ = some (.string s) ∧ J pre wr)
    (fun p _ => s.size - (intOf p).toNat)
  case atStart =>
    exact ⟨[], 0, rfl, Nat.zero_le _, rfl, fun h => begins_first _ (by omega), hBn, h0⟩
  case round =>
    obtain ⟨pre, k, rfl, hk, hpre, hbeg, hbox, hJs⟩ := hrel
    have Hpre := Lib.hid hpre
    clear hpre
    by_cases hlt : k < s.size
    · have Hbeg := Lib.hid (hbeg hlt)
      clear hbeg
      obtain ⟨fn, tmps, assign, body, hy, hR⟩ := hY pre ⟨k, hlt⟩ wr hJs (by have := congrArg List.length Hpre.out; rw [List.length_map] at this; have := upto_le s.data.toList k; omega)
      dsimp only at hy
      gi_wp2
      refine hR.mono ?_
      rintro e W3 (⟨rfl, hJ3, hk3⟩ | ⟨rfl, hJx3⟩)
      · have hbox3 : W3.cell? ⟨Bn, 0, none⟩ = some (.string s) := hk3.trans hbox
        have Hk3 := Lib.hid hk3
        clear hk3
        gi_wp2_with (refine ⟨trivial, ?_⟩; gi_at_call 26; refine (callsIn_wide.2 (behind_any s k _ hs' (by omega))).mono ?_; rintro e w' ⟨b, rfl, hbb, rfl⟩; have Hbb := Lib.hid hbb; clear hbb)
        have hst := behind_step (by omega) Hbeg.out Hbb.out
        go_roundw
        case rel => exact ⟨pre ++ [⟨k, hlt⟩], b, rfl, by omega, by rw [List.map_append, Hpre.out]; exact hst.1.symm, fun h => hst.2.2.2 (by omega), hbox3, hJ3⟩
        case measure => have := hst.2.1; simp [intOf]; omega
      · gi_wp2
        refine bodyPost_ret (results_none rfl _ _ _) rfl ?_
        exact ⟨⟨_, rfl⟩, .inr ⟨pre ++ [⟨k, hlt⟩], by
          rw [List.map_append, Hpre.out]
          exact upto_snoc Hbeg.out (by omega), hJx3⟩⟩
    · obtain rfl : k = s.size := by omega
      gi_wp2
      go_end0
      exact ⟨⟨_, rfl⟩, .inl ⟨pre, by rw [Hpre.out]; unfold linesN; rw [hsz], hJs⟩⟩

set_option maxHeartbeats 1000000 in
theorem lines_maker (n : Nat) (s : ByteArray) (w : World) :
    CallsIn Fence.wide n Try.prog 18 #[.string s] w fun e w' => e = .returned (.func (.func 25) #[] #[.pointer (some ⟨w.heap.size, 0, none⟩)]) ∧ w' = w.alloc (.cells #[.string s] 9) := by
  refine callsIn_of_wp Try.func18 rfl trivial ?_ rfl
  simp only [Try.ntmps18, List.size_toArray, List.length_cons, List.length_nil, Nat.reduceAdd, Nat.reduceSub, Array.replicate_succ, Array.replicate_zero, List.push_toArray, List.append_toArray, List.nil_append, List.cons_append]
  gi_wp2
  go_ret
  exact ⟨rfl, rfl⟩

/-- What Lines hands back tells just where the text's lines begin; or, where a round has said that it wants no more, those as far as it has come. -/
theorem lines_stop (n : Nat) (hn : 1 ≤ n) (Bn : Nat) (s : ByteArray) (hs : s.size ≤ maxLen) (w : World) (hBn : Bn < w.heap.size) (hc : w.cell? ⟨Bn, 0, none⟩ = some (.string s)) :
    SeqStopsK Fence.wide n Try.prog 25 #[.pointer (some ⟨Bn, 0, none⟩)] (fun x : Place s => #[Value.int .i64 (x.val : Int)]) (KeepsBox Bn)
      (fun ys => ys.map Subtype.val = linesN s.data.toList) (fun pre => pre.map Subtype.val <+: linesN s.data.toList) s.size w := fun l J Jx W hW _ _ hY h0 =>
  iter_in n hn l Bn s hs J Jx hY W ((hW.cell (p := ⟨Bn, 0, none⟩) hBn).trans hc) h0

theorem keepsBox_t {Bn : Nat} {A B C : World} (h : KeepsBox Bn A B) (h' : KeepsBox Bn B C) : KeepsBox Bn A C := h'.trans h
theorem keepsBox_b {Bn : Nat} {w : World} (hB : Bn < w.heap.size) (W : World) (l : Nat) (o o' : Obj) (hl : w.heap.size ≤ l) (_ : W.heap[l]? = some o) (_ : o.isCells = false) (_ : o.isWalk = false) : KeepsBox Bn W (W.putObj l o') := by
  have h : (W.putObj l o').heap[Bn]? = W.heap[Bn]? := World.putObj_heap_other (by omega)
  unfold KeepsBox World.cell?
  simp only [h]

end Go.Proofs.Ytplffjnphlfheaa
