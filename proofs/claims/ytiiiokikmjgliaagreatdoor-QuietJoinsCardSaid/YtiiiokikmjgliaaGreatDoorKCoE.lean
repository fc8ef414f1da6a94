/-
  CoIter, CoPut, CoDec, CoEnc: texts merged.
-/
import Derived.RangeFuncNested
import Derived.RangeFuncBound
import Derived.RangeFuncBox
import Derived.RangeFuncCalls
import Derived.RangeFuncLeaves
import Derived.Shelf.Abstract
import Derived.Shelf.RegionOpen
import Derived.WalkKit
import Derived.OwnWalkIn
import Derived.TacticsInMore
import Derived.LoopNIn
import Derived.LoopIn
import Derived.Test.YtiiiokikmjgliaaGreatDoorKRows
import Derived.Test.YtiiiokikmjgliaaGreatDoorKCo
import Derived.Test.YtiiiokikmjgliaaGreatDoorKCoP
import Derived.Test.YtiiiokikmjgliaaGreatDoorKHex
import Derived.Test.YtiiiokikmjgliaaGreatDoorKRun
import Derived.Test.YtiiiokikmjgliaaGreatDoorZwWrap
import Derived.Test.YtiiiokikmjgliaaGreatDoorZwUnwrap
import Derived.Test.YtiiiokikmjgliaaGreatDoorKPr
/-
  slices.Backward over texts: which come, in which order, whatever the loop's body does.
-/
namespace Go.Proofs.YtiiiokikmjgliaaGreatDoor
section
open Go.RowKit Go.Shelf
set_option maxRecDepth 100000
attribute [local go_sem] Oper.semAt_some
abbrev Idx (n : Nat) := { k : Nat // k < n }
def downTo (n m : Nat) : List Nat := (List.range m).map fun r => n - 1 - r
theorem downTo_succ (n m : Nat) : downTo n (m + 1) = downTo n m ++ [n - 1 - m] := by
  unfold downTo
  rw [List.range_succ, List.map_append]
  rfl
theorem downTo_length (n m : Nat) : (downTo n m).length = m := by simp [downTo]
def KeepsNames (B Bn : Nat) (W W' : World) : Prop := Below B W W' ∧ W'.cell? ⟨Bn, 0, none⟩ = W.cell? ⟨Bn, 0, none⟩
theorem keepsNames_t {B Bn : Nat} {X Y Z : World} (h : KeepsNames B Bn X Y) (h' : KeepsNames B Bn Y Z) : KeepsNames B Bn X Z := ⟨h.1.trans h'.1, h'.2.trans h.2⟩
theorem keepsNames_b {B Bn : Nat} {w : World} (hB : Bn < w.heap.size) (hn : B ≤ w.heap.size) (W : World) (l : Nat) (o o' : Obj) (hl : w.heap.size ≤ l) (h : W.heap[l]? = some o) (hc : o.isCells = false) (hk : o.isWalk = false) : KeepsNames B Bn W (W.putObj l o') := by
  refine ⟨belowK_b hn W l o o' hl h hc hk, ?_⟩
  have h2 : (W.putObj l o').heap[Bn]? = W.heap[Bn]? := World.putObj_heap_other (by omega)
  unfold World.cell?
  simp only [h2]
def encI (xs : List ByteArray) (x : Idx xs.length) : Array Value := #[.int .i64 (x.val : Int), .string (xs[x.val]?.getD ByteArray.empty)]
set_option maxHeartbeats 1000000 in
theorem back_in (n : Nat) (hn : 1 ≤ n) (l Bn : Nat) (a : Option Addr) (cap : Nat) (xs : List ByteArray) (w0 : World) (hlen : xs.length ≤ 1000) (hT : Texts w0 a xs) (J Jx : List (Idx xs.length) → World → Prop)
    (hY : ∀ pre x W, J pre W → pre.length < xs.length → YieldAt Fence.wide (n - 1) Tryz.prog l (encI xs x) W fun e W' =>
      (e = .returned (.bool true) ∧ J (pre ++ [x]) W' ∧ KeepsNames w0.heap.size Bn W W') ∨ (e = .returned (.bool false) ∧ Jx (pre ++ [x]) W'))
    (W : World) (hBn : W.cell? ⟨Bn, 0, none⟩ = some (.slice a xs.length cap)) (hb0 : Below w0.heap.size w0 W) (h0 : J [] W) :
    CallsIn Fence.wide n Tryz.prog 39 #[.func (.yield l) #[] #[], .pointer (some ⟨Bn, 0, none⟩)] W fun e W' => (∃ v, e = .returned v) ∧
      ((∃ ys : List (Idx xs.length), ys.map Subtype.val = downTo xs.length xs.length ∧ J ys W') ∨ (∃ pre, True ∧ Jx pre W')) := by
  have HT := Lib.hid hT
  clear hT
  refine callsIn_of_wp Tryz.func39 rfl trivial ?_ rfl
  simp only [Tryz.ntmps39, List.size_toArray, List.length_cons, List.length_nil, Nat.reduceAdd, Nat.reduceSub, Array.replicate_succ, Array.replicate_zero, List.push_toArray, List.append_toArray, List.nil_append, List.cons_append]
  gi_wp2
  gi_loopw [3] (fun p wr => ∃ (pre : List (Idx xs.length)) (m : Nat) (i : Int), p = .int .i64 i ∧ i + 1 + m = xs.length ∧ m ≤ xs.length ∧ Aside (pre.map Subtype.val = downTo xs.length m) ∧ wr.cell? ⟨Bn, 0, none⟩ = some (.slice a xs.length cap) ∧ Below w0.heap.size w0 wr ∧ J pre wr)
    (fun p _ => (intOf p + 1).toNat)
  case atStart =>
    exact ⟨[], 0, _, rfl, by omega, Nat.zero_le _, rfl, hBn, hb0, h0⟩
  case round =>
    obtain ⟨pre, m, i, rfl, hi, hm, hpre, hbox, hb, hJs⟩ := hrel
    have Hb := Lib.hid hb
    clear hb
    have hpl : pre.length = m := by
      have h := congrArg List.length hpre.out
      rwa [List.length_map, downTo_length] at h
    by_cases hlt : m < xs.length
    · obtain ⟨j, hj⟩ : ∃ j, xs.length - 1 - m = j := ⟨_, rfl⟩
      have hjn : j < xs.length := by omega
      obtain rfl : i = (j : Int) := by omega
      obtain ⟨fn, tmps, assign, body, hy, hR⟩ := hY pre ⟨j, hjn⟩ wr hJs (by omega)
      obtain ⟨p, off, rfl, hcell⟩ := (HT.out.later Hb.out).at j hjn
      dsimp only [encI] at hy
      obtain ⟨x, hx⟩ : ∃ x, xs[j]?.getD ByteArray.empty = x := ⟨_, rfl⟩
      rw [hx] at hy hcell
      have hjz : (j : Int) < (xs.length : Int) := by omega
      have hj0 : 0 ≤ (j : Int) := by omega
      have Hj := Lib.hid hj
      have Hi := Lib.hid hi
      clear hj hi hx
      gi_wp2
      refine hR.mono ?_
      rintro e W3 (⟨rfl, hJ3, hk3⟩ | ⟨rfl, hJx3⟩)
      · have hbox3 : W3.cell? ⟨Bn, 0, none⟩ = some (.slice (some ⟨p, off, none⟩) xs.length cap) := hk3.2.trans hbox
        have Hb3 := Lib.hid (Hb.out.trans hk3.1)
        clear hk3 hcell
        gi_wp2
        go_roundw
        case rel => exact ⟨pre ++ [⟨j, hjn⟩], m + 1, (j : Int) - 1, rfl, by have := Hi.out; omega, by omega, by
          show (pre ++ [(⟨j, hjn⟩ : Idx xs.length)]).map Subtype.val = _
          rw [List.map_append, hpre.out, downTo_succ, Hj.out]; rfl, hbox3, Hb3.out, hJ3⟩
        case measure => simp [intOf]
      · gi_wp2
        refine bodyPost_ret (results_none rfl _ _ _) rfl ?_
        exact ⟨⟨_, rfl⟩, .inr ⟨_, trivial, hJx3⟩⟩
    · obtain rfl : m = xs.length := by omega
      obtain rfl : i = -1 := by omega
      gi_wp2
      go_end0
      exact ⟨⟨_, rfl⟩, .inl ⟨pre, hpre.out, hJs⟩⟩
set_option maxHeartbeats 1000000 in
theorem back_maker (n : Nat) (a : Option Addr) (len cap : Nat) (w : World) :
    CallsIn Fence.wide n Tryz.prog 20 #[.slice a len cap] w fun e w' => e = .returned (.func (.func 39) #[] #[.pointer (some ⟨w.heap.size, 0, none⟩)]) ∧ w' = w.alloc (.cells #[.slice a len cap] 22) := by
  refine callsIn_of_wp Tryz.func20 rfl trivial ?_ rfl
  simp only [Tryz.ntmps20, List.size_toArray, List.length_cons, List.length_nil, Nat.reduceAdd, Nat.reduceSub, Array.replicate_succ, Array.replicate_zero, List.push_toArray, List.append_toArray, List.nil_append, List.cons_append]
  gi_wp2
  go_ret
  exact ⟨rfl, rfl⟩
theorem back_stops (n : Nat) (hn : 1 ≤ n) (Bn : Nat) (a : Option Addr) (cap : Nat) (xs : List ByteArray) (w0 w : World) (hlen : xs.length ≤ 1000) (hT : Texts w0 a xs) (hb0 : Below w0.heap.size w0 w) (hBn : Bn < w.heap.size)
    (hc : w.cell? ⟨Bn, 0, none⟩ = some (.slice a xs.length cap)) :
    SeqStopsK Fence.wide n Tryz.prog 39 #[.pointer (some ⟨Bn, 0, none⟩)] (encI xs) (KeepsNames w0.heap.size Bn)
      (fun ys : List (Idx xs.length) => ys.map Subtype.val = downTo xs.length xs.length) (fun _ => True) xs.length w := fun l J Jx W hW _ _ hY h0 =>
  back_in n hn l Bn a cap xs w0 hlen hT J Jx hY W ((hW.cell (p := ⟨Bn, 0, none⟩) hBn).trans hc) (hb0.trans (hW.mono hb0.size)) h0
end
end Go.Proofs.YtiiiokikmjgliaaGreatDoor
/-
  coat: what encodes and what decodes, by a filter's number.
-/
namespace Go.Proofs.YtiiiokikmjgliaaGreatDoor
section
open Go.RowKit
set_option maxRecDepth 100000
theorem toHex_is (s u : ByteArray) (room : Int) (w : World) (hs : s.size ≤ 100000) (h : encH s.data.toList = u.data.toList) :
    Calls Tryz.prog 54 #[givenV s room] w fun e w' => e = .returned (.string u) ∧ Below w.heap.size w w' := by
  have H := Lib.hid (fun W => hexEnc_is s u W hs h)
  unfold givenV
  clear h
  go_enter Tryz.func54, Tryz.ntmps54
  go_wp2_with fail
  refine (H.out _).mono ?_
  rintro e w1 ⟨rfl, hb⟩
  have Hb := Lib.hid (((Below.refl _ w).alloc (Nat.le_refl _) (.cells #[.string s, .int .i64 room] 54)).trans (hb.mono (by simp)))
  clear hb
  go_wp2_with fail
  go_ret
  exact ⟨rfl, Hb.out⟩
theorem toRuns_is (s u : ByteArray) (room : Int) (w : World) (hs : s.size ≤ 100000) (h : encAll s.data.toList = u.data.toList) :
    Calls Tryz.prog 56 #[givenV s room] w fun e w' => e = .returned (.string u) ∧ Below w.heap.size w w' := by
  have H := Lib.hid (fun W => runEnc_is s u W hs h)
  unfold givenV
  clear h
  go_enter Tryz.func56, Tryz.ntmps56
  go_wp2_with fail
  refine (H.out _).mono ?_
  rintro e w1 ⟨rfl, hb⟩
  have Hb := Lib.hid (((Below.refl _ w).alloc (Nat.le_refl _) (.cells #[.string s, .int .i64 room] 54)).trans (hb.mono (by simp)))
  clear hb
  go_wp2_with fail
  go_ret
  exact ⟨rfl, Hb.out⟩
theorem deflate_is (s u : ByteArray) (room : Int) (w : World) (hs : s.size ≤ 10000) (hL : LaidQ w) (h : wrapZ s.data.toList = u.data.toList) :
    Calls Tryz.prog 58 #[givenV s room] w fun e w' => e = .returned (.string u) ∧ Below w.heap.size w w' := by
  have H := Lib.hid (fun W (hW : Below w.heap.size w W) => wrap_is s W hs (hL.later hW) h)
  unfold givenV
  clear h hL
  go_enter Tryz.func58, Tryz.ntmps58
  go_wp2_with fail
  refine (H.out _ ((Below.refl _ w).alloc (Nat.le_refl _) _)).mono ?_
  rintro e w1 ⟨rfl, hb⟩
  have Hb := Lib.hid (((Below.refl _ w).alloc (Nat.le_refl _) (.cells #[.string s, .int .i64 room] 54)).trans (hb.mono (by simp)))
  clear hb
  go_wp2_with fail
  go_ret
  exact ⟨rfl, Hb.out⟩
theorem fromHex_is (s u : ByteArray) (room b : Int) (w : World) (hs : s.size ≤ 100000) (h : decH s.data.toList = (u.data.toList, b)) :
    Calls Tryz.prog 55 #[givenV s room] w fun e w' => e = .returned (.tuple #[.string u, .int .i64 b]) ∧ Below w.heap.size w w' := by
  have H := Lib.hid (fun W => hexDec_is s u b W hs h)
  unfold givenV
  clear h
  go_enter Tryz.func55, Tryz.ntmps55
  go_wp2_with fail
  refine (H.out _).mono ?_
  rintro e w1 ⟨rfl, hb⟩
  have Hb := Lib.hid (((Below.refl _ w).alloc (Nat.le_refl _) (.cells #[.string s, .int .i64 room] 54)).trans (hb.mono (by simp)))
  clear hb
  go_wp2_with fail
  go_ret2
  exact ⟨rfl, Hb.out⟩
theorem fromRuns_is (s u : ByteArray) (room b : Int) (w : World) (hs : s.size ≤ 100000) (h0 : -9223372036854775808 ≤ room) (h1 : room ≤ 9223372036854775807) (h : decAll s.data.toList room = (u.data.toList, b)) :
    Calls Tryz.prog 57 #[givenV s room] w fun e w' => e = .returned (.tuple #[.string u, .int .i64 b]) ∧ Below w.heap.size w w' := by
  have H := Lib.hid (fun W => runDec_is s u room b W hs h0 h1 h)
  unfold givenV
  clear h
  go_enter Tryz.func57, Tryz.ntmps57
  go_wp2_with fail
  refine (H.out _).mono ?_
  rintro e w1 ⟨rfl, hb⟩
  have Hb := Lib.hid (((Below.refl _ w).alloc (Nat.le_refl _) (.cells #[.string s, .int .i64 room] 54)).trans (hb.mono (by simp)))
  clear hb
  go_wp2_with fail
  go_ret2
  exact ⟨rfl, Hb.out⟩
theorem inflateG_is (s u : ByteArray) (room b : Int) (w : World) (hs : s.size ≤ 10000) (h1 : room ≤ 100000) (hL : Laid w) (h : unwrapZ s.data.toList room = (u.data.toList, b)) :
    Calls Tryz.prog 59 #[givenV s room] w fun e w' => e = .returned (.tuple #[.string u, .int .i64 b]) ∧ Below w.heap.size w w' := by
  have H := Lib.hid (fun W (hW : Below w.heap.size w W) => unwrap_is s u room W hs h1 (hL.later hW) h)
  unfold givenV
  clear h hL
  go_enter Tryz.func59, Tryz.ntmps59
  go_wp2_with fail
  refine (H.out _ ((Below.refl _ w).alloc (Nat.le_refl _) _)).mono ?_
  rintro e w1 ⟨rfl, hb⟩
  have Hb := Lib.hid (((Below.refl _ w).alloc (Nat.le_refl _) (.cells #[.string s, .int .i64 room] 54)).trans (hb.mono (by simp)))
  clear hb
  go_wp2_with fail
  go_ret2
  exact ⟨rfl, Hb.out⟩
theorem encM_is (k : Nat) (s u : ByteArray) (room : Int) (w : World) (h0 : 1 ≤ k) (h3 : k ≤ 3) (hs : s.size ≤ 10000) (hL : LaidQ w) (h : encK k s.data.toList = u.data.toList) :
    Calls Tryz.prog (encFn k) #[givenV s room] w fun e w' => e = .returned (.string u) ∧ Below w.heap.size w w' := by
  have hk : k = 1 ∨ k = 2 ∨ k = 3 := by omega
  rcases hk with rfl | rfl | rfl
  · exact toHex_is s u room w (by omega) h
  · exact toRuns_is s u room w (by omega) h
  · exact deflate_is s u room w hs hL h
theorem encM_call (k : Nat) (h0 : 1 ≤ k) (h3 : k ≤ 3) : ∀ args W, (callFunc (encFn k) args).run Tryz.prog W = .ok (.enter (encFn k) args) W := by
  have hk : k = 1 ∨ k = 2 ∨ k = 3 := by omega
  rcases hk with rfl | rfl | rfl
  · exact fun args W => Tryz.call54 args W
  · exact fun args W => Tryz.call56 args W
  · exact fun args W => Tryz.call58 args W
theorem decM_is (k : Nat) (s u : ByteArray) (room b : Int) (w : World) (h0 : 1 ≤ k) (h3 : k ≤ 3) (hs : s.size ≤ 100000) (hs3 : k = 3 → s.size ≤ 10000) (hr0 : 0 ≤ room) (hr1 : room ≤ 100000) (hL : Laid w) (h : decK k s.data.toList room = (u.data.toList, b)) :
    Calls Tryz.prog (decFn k) #[givenV s room] w fun e w' => e = .returned (.tuple #[.string u, .int .i64 b]) ∧ Below w.heap.size w w' := by
  have hk : k = 1 ∨ k = 2 ∨ k = 3 := by omega
  rcases hk with rfl | rfl | rfl
  · exact fromHex_is s u room b w hs h
  · exact fromRuns_is s u room b w hs (by omega) (by omega) h
  · exact inflateG_is s u room b w (hs3 rfl) hr1 hL h
theorem decM_call (k : Nat) (h0 : 1 ≤ k) (h3 : k ≤ 3) : ∀ args W, (callFunc (decFn k) args).run Tryz.prog W = .ok (.enter (decFn k) args) W := by
  have hk : k = 1 ∨ k = 2 ∨ k = 3 := by omega
  rcases hk with rfl | rfl | rfl
  · exact fun args W => Tryz.call55 args W
  · exact fun args W => Tryz.call57 args W
  · exact fun args W => Tryz.call59 args W
end
end Go.Proofs.YtiiiokikmjgliaaGreatDoor
/-
  The contract of coat.Decode.
-/
namespace Go.Proofs.YtiiiokikmjgliaaGreatDoor
section
open Go.RowKit
set_option maxRecDepth 100000
theorem own_is (s : ByteArray) (w : World) (hs : s.size ≤ 100000) : Calls Tryz.prog 22 #[.string s] w fun e w' => e = .returned (.string s) ∧ Below w.heap.size w w' := by
  have H := Lib.hid (clone_is s w hs)
  go_enter Tryz.func22, Tryz.ntmps22
  go_wp2_with fail
  refine H.out.mono ?_
  rintro e w1 ⟨rfl, hb⟩
  have Hb := Lib.hid hb
  clear hb
  go_wp2_with fail
  go_ret
  exact ⟨rfl, Hb.out⟩
theorem decP_text' (l : List UInt8) (columns : Int) : ∃ (u : ByteArray) (b : Int), decP l columns = (u.data.toList, b) := ⟨bytes (decP l columns).1, (decP l columns).2, by rw [bytes_data]⟩
theorem decK_text (k : Nat) (l : List UInt8) (room : Int) : ∃ (u : ByteArray) (b : Int), decK k l room = (u.data.toList, b) := ⟨bytes (decK k l room).1, (decK k l room).2, by rw [bytes_data]⟩
theorem filterV_some {k : Nat} (h : 1 ≤ k) (x s : ByteArray) (room : Int) : filterV k x s room = .agg #[.string x, .func (.func (encFn k)) #[givenV s room] #[], .func (.func (decFn k)) #[givenV s room] #[]] := by
  unfold filterV
  rw [if_neg (by omega)]
set_option maxHeartbeats 4000000 in
theorem decode_is (a : Option Addr) (cap : Nat) (xs : List ByteArray) (columns : Int) (s : ByteArray) (most : Int) (w : World) (hn : xs.length ≤ 9223372036854775807) (hT : Texts w a xs) (hs : s.size ≤ 100000)
    (hc0 : -9223372036854775808 ≤ columns) (hc1 : columns ≤ 9223372036854775807) (hm : most ≤ 6000) (hL : Laid w)
    (hfit : checkC (kindsC xs) columns = 0 → 0 ≤ most → decFits (kindsC xs) s.data.toList (16 * most + 1024)) {o : List UInt8} {c : Int} (hD : decC (kindsC xs) columns s.data.toList most = (o, c)) :
    Calls Tryz.prog 13 #[.slice a xs.length cap, .int .i64 columns, .string s, .int .i64 most] w fun e w' => e = .returned (.tuple #[.string (bytes o), .int .i64 c]) ∧ Below w.heap.size w w' := by
  obtain ⟨ch, hch⟩ : ∃ ch, checkC (kindsC xs) columns = ch := ⟨_, rfl⟩
  have HC := Lib.hid (coCheck_is a cap xs columns w hn hT hch)
  by_cases h0 : ch = 0
  · subst h0
    by_cases hmo : most < 0
    · rw [decC_arg hch (.inl hmo)] at hD
      obtain ⟨rfl, rfl⟩ := Prod.mk.inj hD
      clear hD hch hfit hT hL
      go_enter Tryz.func13, Tryz.ntmps13
      go_wp2_with fail
      refine HC.out.mono ?_
      rintro e w1 ⟨rfl, hb⟩
      have Hb := Lib.hid hb
      clear hb
      go_wp2_with fail
      go_ret2
      exact ⟨rfl, Hb.out⟩
    · have hm1 : ¬ (1048576 : Int) < most := by omega
      have Hfit := Lib.hid (hfit hch (by omega))
      have Hch := Lib.hid hch
      have HD := Lib.hid hD
      have HT := Lib.hid hT
      have HL := Lib.hid hL
      obtain ⟨room, hroom⟩ : ∃ room, 16 * most + 1024 = room := ⟨_, rfl⟩
      have hr0 : 0 ≤ room := by omega
      have hr1 : room ≤ 100000 := by omega
      obtain ⟨_, hc256, h4, hz, _⟩ := checkC_ok hch
      rw [kindsC_length] at h4
      have Hz := Lib.hid hz
      have Hroom := Lib.hid hroom
      rw [hroom] at Hfit
      obtain ⟨KO, hKO⟩ : ∃ KO, decKs (kindsC xs) s.data.toList room = KO := ⟨_, rfl⟩
      have HKO := Lib.hid hKO
      clear hD hch hfit hT hL hz hroom hKO
      go_enter Tryz.func13, Tryz.ntmps13
      go_wp2_with fail
      refine HC.out.mono ?_
      rintro e w1 ⟨rfl, hb⟩
      have Hb := Lib.hid hb
      clear hb
      go_wp2_with fail
      go_loopg [2, 30] xs.length (fun g s2 s30 wx => ∃ (j : Nat) (t : ByteArray), j + g = xs.length ∧ s30 = .int .i64 j ∧ s2 = .string t ∧ t.size ≤ 100000 ∧ Aside (decKs ((kindsC xs).drop j) t.data.toList room = KO) ∧ Aside (decFits ((kindsC xs).drop j) t.data.toList room) ∧ Below w.heap.size w wx)
      case atStart => exact ⟨0, s, by omega, rfl, rfl, hs, HKO.out, Hfit.out, Hb.out⟩
      case round =>
        obtain ⟨j, t, hjg, rfl, rfl, hts, HA, HF, hb⟩ := hrel
        have Hb := Lib.hid hb
        clear hb
        cases gk with
        | zero =>
          obtain rfl : j = xs.length := by omega
          have hko := HA.out
          rw [← kindsC_length, List.drop_length] at hko
          rw [show decKs [] t.data.toList room = (t.data.toList, 0) from rfl] at hko
          rw [← hko] at HKO
          by_cases h3 : columns = 0
          · subst h3
            have HD2 := HD.out
            rw [decC_plain Hch.out (by omega) (by omega) (by rw [Hroom.out]; exact HKO.out)] at HD2
            unfold mostC at HD2
            rw [← size_data] at HD2
            by_cases h5 : most < (t.size : Int)
            · rw [if_pos h5] at HD2
              obtain ⟨rfl, rfl⟩ := Prod.mk.inj HD2
              clear HD2 hko
              go_wp2_with fail
              go_ret2
              exact ⟨rfl, Hb.out⟩
            · rw [if_neg h5] at HD2
              obtain ⟨rfl, rfl⟩ := Prod.mk.inj HD2
              have HO := Lib.hid (own_is t wr hts)
              clear HD2 hko
              go_wp2_with fail
              refine HO.out.mono ?_
              rintro e w2 ⟨rfl, hb⟩
              have Hb2 := Lib.hid (Hb.out.trans (hb.mono Hb.out.size))
              clear hb
              go_wp2_with fail
              go_ret2
              exact ⟨by rw [bytes_of]; rfl, Hb2.out⟩
          · have h3' : (columns != 0) = true := by simpa using h3
            obtain ⟨p, e1, hp⟩ := decP_text' t.data.toList columns
            have HD2 := HD.out
            rw [decC_rows Hch.out (by omega) (by omega) (by rw [Hroom.out]; exact HKO.out) h3 hp] at HD2
            have HP := Lib.hid (dec_is t columns wr hts hc0 hc1 hp)
            rw [bytes_of] at HP
            by_cases h6 : e1 = 0
            · subst h6
              rw [if_neg (by simp)] at HD2
              unfold mostC at HD2
              rw [← size_data] at HD2
              have hps : p.size ≤ 100000 := by
                have h7 := decP_length t.data.toList columns
                rw [hp] at h7
                rw [size_data] at hts ⊢
                exact Nat.le_trans h7 hts
              by_cases h5 : most < (p.size : Int)
              · rw [if_pos h5] at HD2
                obtain ⟨rfl, rfl⟩ := Prod.mk.inj HD2
                clear HD2 hko hp
                go_wp2_with fail
                refine HP.out.mono ?_
                rintro e w2 ⟨rfl, hb⟩
                have Hb2 := Lib.hid (Hb.out.trans (hb.mono Hb.out.size))
                clear hb
                go_wp2_with fail
                go_ret2
                exact ⟨rfl, Hb2.out⟩
              · rw [if_neg h5] at HD2
                obtain ⟨rfl, rfl⟩ := Prod.mk.inj HD2
                have HO := Lib.hid (fun W => own_is p W hps)
                clear HD2 hko hp
                go_wp2_with fail
                refine HP.out.mono ?_
                rintro e w2 ⟨rfl, hb⟩
                have Hb2 := Lib.hid (Hb.out.trans (hb.mono Hb.out.size))
                clear hb
                go_wp2_with fail
                refine (HO.out _).mono ?_
                rintro e w3 ⟨rfl, hb⟩
                have Hb3 := Lib.hid (Hb2.out.trans (hb.mono Hb2.out.size))
                clear hb
                go_wp2_with fail
                go_ret2
                exact ⟨by rw [bytes_of]; rfl, Hb3.out⟩
            · have h6' : (e1 != 0) = true := by simpa using h6
              rw [if_pos h6] at HD2
              obtain ⟨rfl, rfl⟩ := Prod.mk.inj HD2
              clear HD2 hko hp
              go_wp2_with fail
              refine HP.out.mono ?_
              rintro e w2 ⟨rfl, hb⟩
              have Hb2 := Lib.hid (Hb.out.trans (hb.mono Hb.out.size))
              clear hb
              go_wp2_with fail
              go_ret2
              exact ⟨rfl, Hb2.out⟩
        | succ g =>
          have hj : j < xs.length := by omega
          have hjz : (j : Int) < (xs.length : Int) := by omega
          obtain ⟨x, hx⟩ : ∃ x, xs[j]?.getD ByteArray.empty = x := ⟨_, rfl⟩
          obtain ⟨q, off, rfl, hcell⟩ := (HT.out.later Hb.out).at j hj
          rw [hx] at hcell
          obtain ⟨k, hk⟩ : ∃ k, knownC x.data.toList = k := ⟨_, rfl⟩
          have hkj : (kindsC xs)[j]? = some k := by rw [kindsC_at hj, hx, hk]
          have hk1 : 1 ≤ k := by
            rcases Nat.eq_zero_or_pos k with h | h
            · exact absurd (by rw [← h]; exact List.mem_of_getElem? hkj) Hz.out
            · exact h
          have hk3 : k ≤ 3 := by rw [← hk]; exact knownC_le _
          obtain ⟨u, e1, hu⟩ := decK_text k t.data.toList room
          have hstep := decKs_step hkj hu
          rw [HA.out] at hstep
          obtain ⟨f1, f2, f3⟩ := decFits_step (o := u.data.toList) hkj HF.out
          have HFind := Lib.hid (find_is t x room wr hk)
          rw [filterV_some hk1] at HFind
          have hkb : (!(k == 0)) = true := by
            cases k with
            | zero => omega
            | succ k => rfl
          rw [hkb] at HFind
          have HM := Lib.hid (fun W (hW : Below w.heap.size w W) => decM_is k t u room e1 W hk1 hk3 hts (fun h => by have := f2 h; rw [size_data]; exact this) hr0 hr1 (HL.out.later hW) hu)
          have hent := decM_call k hk1 hk3
          unfold givenV at HFind HM
          generalize encFn k = fe at HFind
          generalize decFn k = fd at HFind HM hent
          have Hstep := Lib.hid hstep
          have Hf3 := Lib.hid f3
          have Hu := Lib.hid hu
          have Hjg := Lib.hid hjg
          have hrz : 16 * most + 1024 = room := Hroom.out
          clear hx hk hkj hstep f1 f2 f3 hkb hjg hu
          by_cases h6 : e1 = 0
          · subst h6
            have hus : u.size ≤ 100000 := by
              rw [size_data]
              exact decFits_first (Hf3.out Hu.out)
            have Hk2 : Hid (decKs ((kindsC xs).drop (j + 1)) u.data.toList room = KO) := Lib.hid (by rw [Hstep.out, if_neg (by simp)])
            clear Hstep
            go_wp2_with fail
            refine HFind.out.mono ?_
            rintro e w2 ⟨rfl, hb⟩
            have Hb2 := Lib.hid (Hb.out.trans (hb.mono Hb.out.size))
            have HM2 := Lib.hid (HM.out _ (Hb2.out.alloc Hb2.out.size (.cells #[.string x, .func (.func fe) #[.agg #[.string t, .int .i64 room]] #[], .func (.func fd) #[.agg #[.string t, .int .i64 room]] #[]] 51)))
            clear hb hcell
            go_wp2_with fail
            refine HM2.out.mono ?_
            rintro e w3 ⟨rfl, hb⟩
            have Hb3 := Lib.hid ((Hb2.out.alloc Hb2.out.size _).trans (hb.mono (Hb2.out.alloc Hb2.out.size _).size))
            clear hb hent
            go_wp2_with fail
            go_roundg g
            case measure => omega
            case rel => exact ⟨j + 1, u, by have := Hjg.out; omega, by go_num, rfl, hus, Hk2.out, Hf3.out Hu.out, Hb3.out⟩
          · have h6' : (e1 != 0) = true := by simpa using h6
            have Hko : Hid (KO = ([], e1)) := Lib.hid (by rw [Hstep.out, if_pos h6])
            have HD2 := HD.out
            rw [decC_err Hch.out (by omega) (by omega) (by rw [Hroom.out, HKO.out]; exact Hko.out) h6] at HD2
            obtain ⟨rfl, rfl⟩ := Prod.mk.inj HD2
            clear Hstep HD2
            go_wp2_with fail
            refine HFind.out.mono ?_
            rintro e w2 ⟨rfl, hb⟩
            have Hb2 := Lib.hid (Hb.out.trans (hb.mono Hb.out.size))
            have HM2 := Lib.hid (HM.out _ (Hb2.out.alloc Hb2.out.size (.cells #[.string x, .func (.func fe) #[.agg #[.string t, .int .i64 room]] #[], .func (.func fd) #[.agg #[.string t, .int .i64 room]] #[]] 51)))
            clear hb hcell
            go_wp2_with fail
            refine HM2.out.mono ?_
            rintro e w3 ⟨rfl, hb⟩
            have Hb3 := Lib.hid ((Hb2.out.alloc Hb2.out.size _).trans (hb.mono (Hb2.out.alloc Hb2.out.size _).size))
            clear hb hent
            go_wp2_with fail
            go_ret2
            exact ⟨rfl, Hb3.out⟩
  · have h0' : (ch != 0) = true := by simpa using h0
    rw [decC_check hch h0] at hD
    obtain ⟨rfl, rfl⟩ := Prod.mk.inj hD
    clear hD hch hfit hT hL
    go_enter Tryz.func13, Tryz.ntmps13
    go_wp2_with fail
    refine HC.out.mono ?_
    rintro e w1 ⟨rfl, hb⟩
    have Hb := Lib.hid hb
    clear hb
    go_wp2_with fail
    go_ret2
    exact ⟨rfl, Hb.out⟩
end
end Go.Proofs.YtiiiokikmjgliaaGreatDoor
/-
  The contract of coat.Encode.
-/
namespace Go.Proofs.YtiiiokikmjgliaaGreatDoor
section
open Go.RowKit Go.Shelf
set_option maxRecDepth 100000
attribute [local go_sem] Oper.semAt_some
def foldE (ks : List Nat) (js : List Nat) (l : List UInt8) : List UInt8 := js.foldl (fun l j => encK (ks[j]?.getD 0) l) l
theorem foldE_snoc (ks js : List Nat) (j : Nat) (l : List UInt8) : foldE ks (js ++ [j]) l = encK (ks[j]?.getD 0) (foldE ks js l) := by
  unfold foldE
  rw [List.foldl_append]
  rfl
theorem growC_in : ∀ m n : Nat, growC m (2 * n + 11) = growC (m + 1) n
  | 0, n => rfl
  | m + 1, n => by
    rw [growC, growC_in m n]
    rfl
theorem foldE_length (ks : List Nat) : ∀ (js : List Nat) (l : List UInt8), growC js.length l.length ≤ 65535 → (foldE ks js l).length ≤ growC js.length l.length
  | [], l, _ => Nat.le_refl _
  | j :: js, l, h => by
    show (foldE ks js (encK (ks[j]?.getD 0) l)).length ≤ _
    rw [List.length_cons] at h ⊢
    have h0 : l.length ≤ 65535 := Nat.le_trans (growC_le (js.length + 1) l.length) h
    have h1 := encK_length (k := ks[j]?.getD 0) h0
    have h2 := growC_mono js.length _ _ h1
    rw [growC_in] at h2
    have h3 := foldE_length ks js (encK (ks[j]?.getD 0) l) (Nat.le_trans h2 h)
    exact Nat.le_trans h3 h2
theorem foldE_down {ks : List Nat} {l : List UInt8} : ∀ m, m ≤ ks.length → foldE ks (downTo ks.length m) l = encKs (ks.drop (ks.length - m)) l
  | 0, _ => by rw [Nat.sub_zero, List.drop_length]; rfl
  | m + 1, h => by
    rw [downTo_succ, foldE_snoc, foldE_down m (by omega), Nat.sub_sub, Nat.add_comm 1 m]
    have hj : ks.length - (m + 1) < ks.length := by omega
    rw [encKs_step (List.getElem?_eq_getElem hj), List.getElem?_eq_getElem hj, show ks.length - (m + 1) + 1 = ks.length - m by omega]
    rfl
theorem foldE_all {ks : List Nat} {l : List UInt8} : foldE ks (downTo ks.length ks.length) l = encKs ks l := by
  rw [foldE_down _ (Nat.le_refl _), Nat.sub_self, List.drop_zero]
theorem OwnFrom_and_own {β : Type} {I I' : β → World → Prop} (h : Own I) (h' : Own I') : Own (fun s W => I s W ∧ I' s W) := fun s W W' row hs hg hr => ⟨h s W W' row hs.1 hg hr, h' s W W' row hs.2 hg hr⟩
theorem growC_mono_left : ∀ {m k : Nat}, m ≤ k → ∀ n, growC m n ≤ growC k n
  | 0, k, _, n => growC_le k n
  | m + 1, 0, h, n => absurd h (by omega)
  | m + 1, k + 1, h, n => by
    have := growC_mono_left (m := m) (k := k) (by omega) n
    rw [growC, growC]
    omega
theorem growC_last {m n : Nat} : growC m n ≤ 2 * growC (m - 1) n + 11 := by
  cases m with
  | zero => show n ≤ 2 * n + 11; omega
  | succ m => exact Nat.le_refl _
set_option maxHeartbeats 4000000 in
theorem encode_plain (n : Nat) (hn3 : 3 ≤ n) (a : Option Addr) (cap : Nat) (xs : List ByteArray) (s : ByteArray) (w : World) (hn : xs.length ≤ 9223372036854775807) (hT : Texts w a xs) (hs : s.size ≤ 100000) (hL : LaidQ w)
    (hch : checkC (kindsC xs) 0 = 0) (hfit : growC (xs.length - 1) s.data.toList.length ≤ 10000) :
    CallsIn Fence.wide n Tryz.prog 12 #[.slice a xs.length cap, .int .i64 0, .string s] w fun e w' => e = .returned (.tuple #[.string (bytes (encKs (kindsC xs) s.data.toList)), .int .i64 0]) ∧ Below w.heap.size w w' := by
  have h1 : 1 ≤ n := by omega
  have HC := Lib.hid (fun W (hW : Below w.heap.size w W) => coCheck_is a cap xs 0 W hn (hT.later hW) hch)
  obtain ⟨_, _, h4, hz, _⟩ := checkC_ok hch
  rw [kindsC_length] at h4
  have hsz : ¬ (1048576 : Int) < (s.size : Int) := by omega
  refine callsIn_of_wp_marks Tryz.func12 rfl trivial ?_ rfl
  simp only [Tryz.ntmps12, List.size_toArray, List.length_cons, List.length_nil, Nat.reduceAdd, Nat.reduceSub, Array.replicate_succ, Array.replicate_zero, List.push_toArray, List.append_toArray, List.nil_append, List.cons_append]
  gi_wp2_with fail
  refine ⟨trivial, ?_⟩
  refine (callsIn_wide.2 (HC.out _ ((Below.refl _ w).alloc (Nat.le_refl _) _))).mono ?_
  rintro e w1 ⟨rfl, hb⟩
  have bS : Boxed w1 w.heap.size 9 (.string s) := (hb.block w.heap.size (by simp)).trans (Boxed.new w 9 (.string s))
  have Hb1 := Lib.hid (((Below.refl _ w).alloc (Nat.le_refl _) (.cells #[.string s] 9)).trans (hb.mono (by simp)))
  have hsz1 : w.heap.size + 1 ≤ w1.heap.size := by have := hb.size; simpa using this
  clear hb
  have cS := bS.cell
  gi_wp2_with fail
  refine ⟨trivial, ?_⟩
  refine (back_maker _ a xs.length cap w1).mono ?_
  rintro e w2 ⟨rfl, hw2⟩
  have bN : Boxed w2 w1.heap.size 22 (.slice a xs.length cap) := by rw [hw2]; exact Boxed.new w1 _ _
  have bS2 : Boxed w2 w.heap.size 9 (.string s) := by rw [hw2]; exact bS.alloc _
  have Hb2 := Lib.hid (show Below w.heap.size w w2 by rw [hw2]; exact Hb1.out.alloc Hb1.out.size _)
  have hsz2 : w1.heap.size < w2.heap.size := bN.lt
  clear hw2 bS cS
  gi_wp2_with fail
  refine wpIn_rangeFunc_ownG rfl h1 (gf := 39) (lb := #[.pointer (some ⟨w1.heap.size, 0, none⟩)]) rfl trivial (enters_of Tryz.func39 (by kernel_rfl) rfl)
    (back_stops (n - 1) (by omega) w1.heap.size a cap xs w w2 (by omega) hT (Hb2.out) hsz2 bN.cell) keepsNames_t (keepsNames_b hsz2 (by omega)) (Below.refl _ _) (fun _ => rfl)
    (fun pre W => (Boxed W w.heap.size 9 (.string (bytes (foldE (kindsC xs) (pre.map Subtype.val) s.data.toList))) ∧ Boxed W w1.heap.size 22 (.slice a xs.length cap)) ∧ Below w.heap.size w W)
    (fun _ _ _ => False)
    (OwnFrom.and (Own.from (OwnFrom_and_own (boxed_own w.heap.size 9 (fun pre : List (Idx xs.length) => .string (bytes (foldE (kindsC xs) (pre.map Subtype.val) s.data.toList)))) (boxed_own w1.heap.size 22 (fun _ : List (Idx xs.length) => .slice a xs.length cap))) _) (ownFrom_below (Nat.le_refl _) (by omega)))
    (fun _ _ _ _ _ hs _ _ => hs)
    ⟨⟨by rw [show foldE (kindsC xs) (([] : List (Idx xs.length)).map Subtype.val) s.data.toList = s.data.toList from rfl, bytes_of]; exact bS2, bN⟩, Hb2.out⟩
    (fun x => { tmps := #[.slice a xs.length cap, .int .i64 0, .string s, undef, undef, .pointer (some ⟨w.heap.size, 0, none⟩), .string ⟨#[]⟩, .int .i64 0, .int .i64 0, undef, undef, .string (xs[x.val]?.getD ByteArray.empty), undef, undef, .slice a xs.length cap, .int .i64 0, .int .i64 0, .int .i64 0, .bool false, undef, .string s, .int .i64 s.size, .bool (decide (1048576 < (s.size : Int))), .int .i64 0, .bool false, undef, undef, undef, undef, undef, undef, undef, undef, undef, .slice a xs.length cap, .func (.func 39) #[] #[.pointer (some ⟨w1.heap.size, 0, none⟩)], .int .i64 (x.val : Int), .string (xs[x.val]?.getD ByteArray.empty), undef, undef, undef, undef, undef, undef, undef, undef, undef, undef, undef, undef], defers := [] }) ?assign ?body ?done ?stop
  case assign =>
    intro l x W K hK
    dsimp only [encI]
    generalize xs[x.val]?.getD ByteArray.empty = y at hK ⊢
    gi_wp2
    exact hK
  case body =>
    rintro l pre ⟨j, hjn⟩ W ⟨⟨bS3, bN3⟩, hB⟩ hlt
    obtain ⟨y, hy⟩ : ∃ y, xs[j]?.getD ByteArray.empty = y := ⟨_, rfl⟩
    obtain ⟨k, hk⟩ : ∃ k, knownC y.data.toList = k := ⟨_, rfl⟩
    have hkj : (kindsC xs)[j]? = some k := by rw [kindsC_at hjn, hy, hk]
    have hk1 : 1 ≤ k := by
      rcases Nat.eq_zero_or_pos k with h | h
      · exact absurd (by rw [← h]; exact List.mem_of_getElem? hkj) hz
      · exact h
    have hk3 : k ≤ 3 := by rw [← hk]; exact knownC_le _
    have hgrow : growC (pre.map Subtype.val).length s.data.toList.length ≤ 10000 := by
      rw [List.length_map]
      exact Nat.le_trans (growC_mono_left (by omega) _) hfit
    have hlen := foldE_length (kindsC xs) (pre.map Subtype.val) s.data.toList (by omega)
    have hnext : foldE (kindsC xs) ((pre ++ [(⟨j, hjn⟩ : Idx xs.length)]).map Subtype.val) s.data.toList = encK k (foldE (kindsC xs) (pre.map Subtype.val) s.data.toList) := by
      rw [List.map_append, List.map_cons, List.map_nil, foldE_snoc, hkj]
      rfl
    obtain ⟨t, ht⟩ : ∃ t, bytes (foldE (kindsC xs) (pre.map Subtype.val) s.data.toList) = t := ⟨_, rfl⟩
    have htd : foldE (kindsC xs) (pre.map Subtype.val) s.data.toList = t.data.toList := by rw [← ht, bytes_data]
    rw [ht] at bS3
    rw [htd] at hlen hnext
    have hts : t.size ≤ 10000 := by rw [size_data]; omega
    obtain ⟨u, hu⟩ : ∃ u : ByteArray, encK k t.data.toList = u.data.toList := ⟨bytes (encK k t.data.toList), by rw [bytes_data]⟩
    rw [hu] at hnext
    have HFind := Lib.hid (find_is t y 0 W hk)
    rw [filterV_some hk1] at HFind
    have hkb : (!(k == 0)) = true := by
      cases k with
      | zero => omega
      | succ k => rfl
    rw [hkb] at HFind
    have HM := Lib.hid (fun V (hV : Below w.heap.size w V) => encM_is k t u 0 V hk1 hk3 hts (hL.later hV) hu)
    have hent := encM_call k hk1 hk3
    unfold givenV at HFind HM
    generalize encFn k = fe at HFind HM hent
    generalize decFn k = fd at HFind
    have Hnext := Lib.hid hnext
    have HBW := Lib.hid hB
    have c3 := bS3.cell
    dsimp only
    rw [hy]
    clear hy hk hkj hgrow hlen hnext ht htd hkb hu hB
    have hd1 : 1 ≤ n - 1 - 1 := by omega
    gi_wp2_with fail
    refine ⟨trivial, ?_⟩
    refine (CallsIn.inRound l (callsIn_wide.2 HFind.out)).mono ?_
    rintro e v1 ⟨rfl, hb⟩
    have HB1 := Lib.hid hb
    have HB2 := Lib.hid (HBW.out.trans (hb.mono HBW.out.size))
    have HM2 := Lib.hid (HM.out _ (HB2.out.alloc HB2.out.size (.cells #[.string y, .func (.func fe) #[.agg #[.string t, .int .i64 0]] #[], .func (.func fd) #[.agg #[.string t, .int .i64 0]] #[]] 51)))
    clear hb
    gi_wp2_with fail
    refine ⟨trivial, ?_⟩
    refine (CallsIn.inRound l (callsIn_wide.2 HM2.out)).mono ?_
    rintro e v2 ⟨rfl, hb⟩
    have HB3 := Lib.hid ((HB1.out.alloc HB1.out.size _).trans (hb.mono (HB1.out.alloc HB1.out.size _).size))
    have hbW := HB3.out
    have HB4 := Lib.hid (HBW.out.trans (hbW.mono HBW.out.size))
    have bS4 : Boxed v2 w.heap.size 9 (.string t) := (hbW.block w.heap.size bS3.lt).trans bS3
    have bN4 : Boxed v2 w1.heap.size 22 (.slice a xs.length cap) := (hbW.block w1.heap.size bN3.lt).trans bN3
    have bS5 := bS4.set (.string u)
    have bN5 := bN4.other (B' := w.heap.size) (by omega) (.string u)
    have c4 := bS4.cell
    have f4 := bS4.frozen
    have Hkeep : Hid (KeepsOthers W v2) := Lib.hid ⟨hbW.size, fun k o hk _ => (hbW.block k (Array.getElem?_eq_some_iff.1 hk).1).trans hk⟩
    clear hb hbW hent bS4 c3
    gi_wp2_with fail
    exact ⟨(Hkeep.out.trans (KeepsOthers.setCell _ _ _)).from _, ⟨HB4.out.setCell (p := ⟨w.heap.size, 0, none⟩) (Nat.le_refl _) _ |> fun h => ⟨h.os.trans HBW.out.os.symm, h.tape.trans HBW.out.tape.symm, h.output.trans HBW.out.output.symm, Nat.le_trans Hkeep.out.size (by simp [World.setCell]), fun i hi => (h.block i hi).trans (HBW.out.block i hi).symm⟩, bN5.cell.trans bN3.cell.symm⟩, ⟨by rw [Hnext.out, bytes_of]; exact bS5, bN5⟩, HB4.out.setCell (p := ⟨w.heap.size, 0, none⟩) (Nat.le_refl _) _⟩
  case done =>
    rintro D ys W hD hys ⟨⟨bS3, bN3⟩, hB⟩ hK
    have hall : foldE (kindsC xs) (ys.map Subtype.val) s.data.toList = encKs (kindsC xs) s.data.toList := by
      rw [hys, ← kindsC_length, foldE_all]
    have hlen := encKs_length (kindsC xs) s.data.toList (by rw [kindsC_length]; have := growC_last (m := xs.length) (n := s.data.toList.length); omega)
    rw [hall] at bS3
    obtain ⟨t, ht⟩ : ∃ t, bytes (encKs (kindsC xs) s.data.toList) = t := ⟨_, rfl⟩
    have hts : t.size ≤ 100000 := by
      rw [← ht, bytes_size]
      rw [kindsC_length] at hlen
      have := growC_last (m := xs.length) (n := s.data.toList.length)
      omega
    rw [ht] at bS3
    have Ht := Lib.hid ht
    have HO := Lib.hid (own_is t W hts)
    have HBW := Lib.hid hB
    have c3 := bS3.cell
    have HD := Lib.hid hD
    clear hys hall hlen ht hB hD
    gi_wp2_with fail
    refine ⟨trivial, ?_⟩
    refine (callsIn_wide.2 HO.out).mono ?_
    rintro e v1 ⟨rfl, hb⟩
    have HB1 := Lib.hid hb
    have HB2 := Lib.hid (HBW.out.trans (hb.mono HBW.out.size))
    have hK1 : v1.heap[D]? = some (.deferred (some [])) := (hb.block D (Array.getElem?_eq_some_iff.1 hK).1).trans hK
    clear hb
    gi_wp2_with fail
    refine ⟨by simp, .inl ⟨_, _, rfl, run_takeDeferred hK1, ?_⟩⟩
    refine ⟨.tuple #[.string t, .int .i64 0], ?_, by rw [Ht.out], ?_⟩
    · simp [results, Tryz.f12, go_sem]
    · exact HB2.out.trans (belowK_b (w := w) (Nat.le_refl _) v1 D _ _ (by have := HD.out; omega) hK1 rfl rfl)
  case stop =>
    rintro D c pre W _ _ h _
    exact h.elim
set_option maxHeartbeats 4000000 in
theorem encode_rows (n : Nat) (hn3 : 3 ≤ n) (a : Option Addr) (cap : Nat) (xs : List ByteArray) (columns : Int) (s p : ByteArray) (w : World) (hn : xs.length ≤ 9223372036854775807) (hT : Texts w a xs) (hs : s.size ≤ 100000) (hL : LaidQ w)
    (hc0 : -9223372036854775808 ≤ columns) (hc1 : columns ≤ 9223372036854775807) (hcn : columns ≠ 0) (hp : encP s.data.toList columns = (p.data.toList, 0)) (hch : checkC (kindsC xs) columns = 0) (hfit : growC (xs.length - 1) p.data.toList.length ≤ 10000) :
    CallsIn Fence.wide n Tryz.prog 12 #[.slice a xs.length cap, .int .i64 columns, .string s] w fun e w' => e = .returned (.tuple #[.string (bytes (encKs (kindsC xs) p.data.toList)), .int .i64 0]) ∧ Below w.heap.size w w' := by
  have h1 : 1 ≤ n := by omega
  have HC := Lib.hid (fun W (hW : Below w.heap.size w W) => coCheck_is a cap xs columns W hn (hT.later hW) hch)
  obtain ⟨_, _, h4, hz, _⟩ := checkC_ok hch
  rw [kindsC_length] at h4
  have hcn' : (columns != 0) = true := by simpa using hcn
  have HP := Lib.hid (fun W => enc_is s columns W hs hc0 hc1 hp)
  rw [bytes_of] at HP
  clear hp
  have hsz : ¬ (1048576 : Int) < (s.size : Int) := by omega
  refine callsIn_of_wp_marks Tryz.func12 rfl trivial ?_ rfl
  simp only [Tryz.ntmps12, List.size_toArray, List.length_cons, List.length_nil, Nat.reduceAdd, Nat.reduceSub, Array.replicate_succ, Array.replicate_zero, List.push_toArray, List.append_toArray, List.nil_append, List.cons_append]
  gi_wp2_with fail
  refine ⟨trivial, ?_⟩
  refine (callsIn_wide.2 (HC.out _ ((Below.refl _ w).alloc (Nat.le_refl _) _))).mono ?_
  rintro e wa ⟨rfl, hb⟩
  have bA : Boxed wa w.heap.size 9 (.string s) := (hb.block w.heap.size (by simp)).trans (Boxed.new w 9 (.string s))
  have HbA := Lib.hid (((Below.refl _ w).alloc (Nat.le_refl _) (.cells #[.string s] 9)).trans (hb.mono (by simp)))
  have hszA : w.heap.size + 1 ≤ wa.heap.size := by have := hb.size; simpa using this
  clear hb
  have cS := bA.cell
  gi_wp2_with fail
  refine ⟨trivial, ?_⟩
  refine (callsIn_wide.2 (HP.out wa)).mono ?_
  rintro e wb ⟨rfl, hb⟩
  have bB : Boxed wb w.heap.size 9 (.string s) := (hb.block w.heap.size bA.lt).trans bA
  have HbB := Lib.hid (HbA.out.trans (hb.mono HbA.out.size))
  have hszB : w.heap.size + 1 ≤ wb.heap.size := Nat.le_trans hszA hb.size
  clear hb bA cS
  have cB := bB.cell
  have fB := bB.frozen
  gi_wp2_with fail
  obtain ⟨w1, hw1⟩ : ∃ w1, wb.setCell ⟨w.heap.size, 0, none⟩ (.string p) = w1 := ⟨_, rfl⟩
  have bS : Boxed w1 w.heap.size 9 (.string p) := by rw [← hw1]; exact bB.set _
  have Hb1 := Lib.hid (show Below w.heap.size w w1 by rw [← hw1]; exact HbB.out.setCell (p := ⟨w.heap.size, 0, none⟩) (Nat.le_refl _) _)
  have hsz1 : w.heap.size + 1 ≤ w1.heap.size := by rw [← hw1]; simpa [World.setCell] using hszB
  rw [hw1]
  clear hw1 bB cB fB
  refine ⟨trivial, ?_⟩
  refine (back_maker _ a xs.length cap w1).mono ?_
  rintro e w2 ⟨rfl, hw2⟩
  have bN : Boxed w2 w1.heap.size 22 (.slice a xs.length cap) := by rw [hw2]; exact Boxed.new w1 _ _
  have bS2 : Boxed w2 w.heap.size 9 (.string p) := by rw [hw2]; exact bS.alloc _
  have Hb2 := Lib.hid (show Below w.heap.size w w2 by rw [hw2]; exact Hb1.out.alloc Hb1.out.size _)
  have hsz2 : w1.heap.size < w2.heap.size := bN.lt
  clear hw2 bS
  gi_wp2_with fail
  refine wpIn_rangeFunc_ownG rfl h1 (gf := 39) (lb := #[.pointer (some ⟨w1.heap.size, 0, none⟩)]) rfl trivial (enters_of Tryz.func39 (by kernel_rfl) rfl)
    (back_stops (n - 1) (by omega) w1.heap.size a cap xs w w2 (by omega) hT (Hb2.out) hsz2 bN.cell) keepsNames_t (keepsNames_b hsz2 (by omega)) (Below.refl _ _) (fun _ => rfl)
    (fun pre W => (Boxed W w.heap.size 9 (.string (bytes (foldE (kindsC xs) (pre.map Subtype.val) p.data.toList))) ∧ Boxed W w1.heap.size 22 (.slice a xs.length cap)) ∧ Below w.heap.size w W)
    (fun _ _ _ => False)
    (OwnFrom.and (Own.from (OwnFrom_and_own (boxed_own w.heap.size 9 (fun pre : List (Idx xs.length) => .string (bytes (foldE (kindsC xs) (pre.map Subtype.val) p.data.toList)))) (boxed_own w1.heap.size 22 (fun _ : List (Idx xs.length) => .slice a xs.length cap))) _) (ownFrom_below (Nat.le_refl _) (by omega)))
    (fun _ _ _ _ _ hs _ _ => hs)
    ⟨⟨by rw [show foldE (kindsC xs) (([] : List (Idx xs.length)).map Subtype.val) p.data.toList = p.data.toList from rfl, bytes_of]; exact bS2, bN⟩, Hb2.out⟩
    (fun x => { tmps := #[.slice a xs.length cap, .int .i64 columns, .string s, undef, undef, .pointer (some ⟨w.heap.size, 0, none⟩), .string ⟨#[]⟩, .int .i64 0, .int .i64 0, .int .i64 0, undef, .string (xs[x.val]?.getD ByteArray.empty), undef, undef, .slice a xs.length cap, .int .i64 columns, .int .i64 0, .int .i64 0, .bool false, undef, .string s, .int .i64 s.size, .bool (decide (1048576 < (s.size : Int))), .int .i64 columns, .bool true, .tuple #[.string p, .int .i64 0], .string s, .int .i64 columns, .tuple #[.string p, .int .i64 0], .string p, .int .i64 0, .int .i64 0, .bool false, undef, .slice a xs.length cap, .func (.func 39) #[] #[.pointer (some ⟨w1.heap.size, 0, none⟩)], .int .i64 (x.val : Int), .string (xs[x.val]?.getD ByteArray.empty), undef, undef, undef, undef, undef, undef, undef, undef, undef, undef, undef, undef], defers := [] }) ?assign ?body ?done ?stop
  case assign =>
    intro l x W K hK
    dsimp only [encI]
    generalize xs[x.val]?.getD ByteArray.empty = y at hK ⊢
    gi_wp2
    exact hK
  case body =>
    rintro l pre ⟨j, hjn⟩ W ⟨⟨bS3, bN3⟩, hB⟩ hlt
    obtain ⟨y, hy⟩ : ∃ y, xs[j]?.getD ByteArray.empty = y := ⟨_, rfl⟩
    obtain ⟨k, hk⟩ : ∃ k, knownC y.data.toList = k := ⟨_, rfl⟩
    have hkj : (kindsC xs)[j]? = some k := by rw [kindsC_at hjn, hy, hk]
    have hk1 : 1 ≤ k := by
      rcases Nat.eq_zero_or_pos k with h | h
      · exact absurd (by rw [← h]; exact List.mem_of_getElem? hkj) hz
      · exact h
    have hk3 : k ≤ 3 := by rw [← hk]; exact knownC_le _
    have hgrow : growC (pre.map Subtype.val).length p.data.toList.length ≤ 10000 := by
      rw [List.length_map]
      exact Nat.le_trans (growC_mono_left (by omega) _) hfit
    have hlen := foldE_length (kindsC xs) (pre.map Subtype.val) p.data.toList (by omega)
    have hnext : foldE (kindsC xs) ((pre ++ [(⟨j, hjn⟩ : Idx xs.length)]).map Subtype.val) p.data.toList = encK k (foldE (kindsC xs) (pre.map Subtype.val) p.data.toList) := by
      rw [List.map_append, List.map_cons, List.map_nil, foldE_snoc, hkj]
      rfl
    obtain ⟨t, ht⟩ : ∃ t, bytes (foldE (kindsC xs) (pre.map Subtype.val) p.data.toList) = t := ⟨_, rfl⟩
    have htd : foldE (kindsC xs) (pre.map Subtype.val) p.data.toList = t.data.toList := by rw [← ht, bytes_data]
    rw [ht] at bS3
    rw [htd] at hlen hnext
    have hts : t.size ≤ 10000 := by rw [size_data]; omega
    obtain ⟨u, hu⟩ : ∃ u : ByteArray, encK k t.data.toList = u.data.toList := ⟨bytes (encK k t.data.toList), by rw [bytes_data]⟩
    rw [hu] at hnext
    have HFind := Lib.hid (find_is t y 0 W hk)
    rw [filterV_some hk1] at HFind
    have hkb : (!(k == 0)) = true := by
      cases k with
      | zero => omega
      | succ k => rfl
    rw [hkb] at HFind
    have HM := Lib.hid (fun V (hV : Below w.heap.size w V) => encM_is k t u 0 V hk1 hk3 hts (hL.later hV) hu)
    have hent := encM_call k hk1 hk3
    unfold givenV at HFind HM
    generalize encFn k = fe at HFind HM hent
    generalize decFn k = fd at HFind
    have Hnext := Lib.hid hnext
    have HBW := Lib.hid hB
    have c3 := bS3.cell
    dsimp only
    rw [hy]
    clear hy hk hkj hgrow hlen hnext ht htd hkb hu hB
    have hd1 : 1 ≤ n - 1 - 1 := by omega
    gi_wp2_with fail
    refine ⟨trivial, ?_⟩
    refine (CallsIn.inRound l (callsIn_wide.2 HFind.out)).mono ?_
    rintro e v1 ⟨rfl, hb⟩
    have HB1 := Lib.hid hb
    have HB2 := Lib.hid (HBW.out.trans (hb.mono HBW.out.size))
    have HM2 := Lib.hid (HM.out _ (HB2.out.alloc HB2.out.size (.cells #[.string y, .func (.func fe) #[.agg #[.string t, .int .i64 0]] #[], .func (.func fd) #[.agg #[.string t, .int .i64 0]] #[]] 51)))
    clear hb
    gi_wp2_with fail
    refine ⟨trivial, ?_⟩
    refine (CallsIn.inRound l (callsIn_wide.2 HM2.out)).mono ?_
    rintro e v2 ⟨rfl, hb⟩
    have HB3 := Lib.hid ((HB1.out.alloc HB1.out.size _).trans (hb.mono (HB1.out.alloc HB1.out.size _).size))
    have hbW := HB3.out
    have HB4 := Lib.hid (HBW.out.trans (hbW.mono HBW.out.size))
    have bS4 : Boxed v2 w.heap.size 9 (.string t) := (hbW.block w.heap.size bS3.lt).trans bS3
    have bN4 : Boxed v2 w1.heap.size 22 (.slice a xs.length cap) := (hbW.block w1.heap.size bN3.lt).trans bN3
    have bS5 := bS4.set (.string u)
    have bN5 := bN4.other (B' := w.heap.size) (by omega) (.string u)
    have c4 := bS4.cell
    have f4 := bS4.frozen
    have Hkeep : Hid (KeepsOthers W v2) := Lib.hid ⟨hbW.size, fun k o hk _ => (hbW.block k (Array.getElem?_eq_some_iff.1 hk).1).trans hk⟩
    clear hb hbW hent bS4 c3
    gi_wp2_with fail
    exact ⟨(Hkeep.out.trans (KeepsOthers.setCell _ _ _)).from _, ⟨HB4.out.setCell (p := ⟨w.heap.size, 0, none⟩) (Nat.le_refl _) _ |> fun h => ⟨h.os.trans HBW.out.os.symm, h.tape.trans HBW.out.tape.symm, h.output.trans HBW.out.output.symm, Nat.le_trans Hkeep.out.size (by simp [World.setCell]), fun i hi => (h.block i hi).trans (HBW.out.block i hi).symm⟩, bN5.cell.trans bN3.cell.symm⟩, ⟨by rw [Hnext.out, bytes_of]; exact bS5, bN5⟩, HB4.out.setCell (p := ⟨w.heap.size, 0, none⟩) (Nat.le_refl _) _⟩
  case done =>
    rintro D ys W hD hys ⟨⟨bS3, bN3⟩, hB⟩ hK
    have hall : foldE (kindsC xs) (ys.map Subtype.val) p.data.toList = encKs (kindsC xs) p.data.toList := by
      rw [hys, ← kindsC_length, foldE_all]
    have hlen := encKs_length (kindsC xs) p.data.toList (by rw [kindsC_length]; have := growC_last (m := xs.length) (n := p.data.toList.length); omega)
    rw [hall] at bS3
    obtain ⟨t, ht⟩ : ∃ t, bytes (encKs (kindsC xs) p.data.toList) = t := ⟨_, rfl⟩
    have hts : t.size ≤ 100000 := by
      rw [← ht, bytes_size]
      rw [kindsC_length] at hlen
      have := growC_last (m := xs.length) (n := p.data.toList.length)
      omega
    rw [ht] at bS3
    have Ht := Lib.hid ht
    have HO := Lib.hid (own_is t W hts)
    have HBW := Lib.hid hB
    have c3 := bS3.cell
    have HD := Lib.hid hD
    clear hys hall hlen ht hB hD
    gi_wp2_with fail
    refine ⟨trivial, ?_⟩
    refine (callsIn_wide.2 HO.out).mono ?_
    rintro e v1 ⟨rfl, hb⟩
    have HB1 := Lib.hid hb
    have HB2 := Lib.hid (HBW.out.trans (hb.mono HBW.out.size))
    have hK1 : v1.heap[D]? = some (.deferred (some [])) := (hb.block D (Array.getElem?_eq_some_iff.1 hK).1).trans hK
    clear hb
    gi_wp2_with fail
    refine ⟨by simp, .inl ⟨_, _, rfl, run_takeDeferred hK1, ?_⟩⟩
    refine ⟨.tuple #[.string t, .int .i64 0], ?_, by rw [Ht.out], ?_⟩
    · simp [results, Tryz.f12, go_sem]
    · exact HB2.out.trans (belowK_b (w := w) (Nat.le_refl _) v1 D _ _ (by have := HD.out; omega) hK1 rfl rfl)
  case stop =>
    rintro D c pre W _ _ h _
    exact h.elim
set_option maxHeartbeats 1000000 in
theorem encode_bad (a : Option Addr) (cap : Nat) (xs : List ByteArray) (columns : Int) (s : ByteArray) (w : World) (hn : xs.length ≤ 9223372036854775807) (hT : Texts w a xs) {c : Int} (hch : checkC (kindsC xs) columns = c) (hc : c ≠ 0) :
    Calls Tryz.prog 12 #[.slice a xs.length cap, .int .i64 columns, .string s] w fun e w' => e = .returned (.tuple #[.string (bytes []), .int .i64 c]) ∧ Below w.heap.size w w' := by
  have HC := Lib.hid (fun W (hW : Below w.heap.size w W) => coCheck_is a cap xs columns W hn (hT.later hW) hch)
  have hc' : (c != 0) = true := by simpa using hc
  clear hT hch hc
  go_enter Tryz.func12, Tryz.ntmps12
  go_wp2_with fail
  refine (HC.out _ ((Below.refl _ w).alloc (Nat.le_refl _) _)).mono ?_
  rintro e w1 ⟨rfl, hb⟩
  have Hb1 := Lib.hid (((Below.refl _ w).alloc (Nat.le_refl _) (.cells #[.string s] 9)).trans (hb.mono (by simp)))
  clear hb
  go_wp2_with fail
  go_ret2
  exact ⟨rfl, Hb1.out⟩
set_option maxHeartbeats 1000000 in
theorem encode_rowless (a : Option Addr) (cap : Nat) (xs : List ByteArray) (columns : Int) (s p : ByteArray) (w : World) (hn : xs.length ≤ 9223372036854775807) (hT : Texts w a xs) (hs : s.size ≤ 100000) (hc0 : -9223372036854775808 ≤ columns) (hc1 : columns ≤ 9223372036854775807) (hcn : columns ≠ 0) {c : Int} (hp : encP s.data.toList columns = (p.data.toList, c)) (hc : c ≠ 0) (hch : checkC (kindsC xs) columns = 0) :
    Calls Tryz.prog 12 #[.slice a xs.length cap, .int .i64 columns, .string s] w fun e w' => e = .returned (.tuple #[.string (bytes []), .int .i64 c]) ∧ Below w.heap.size w w' := by
  have HC := Lib.hid (fun W (hW : Below w.heap.size w W) => coCheck_is a cap xs columns W hn (hT.later hW) hch)
  have hcn' : (columns != 0) = true := by simpa using hcn
  have hc' : (c != 0) = true := by simpa using hc
  have HP := Lib.hid (fun W => enc_is s columns W hs hc0 hc1 hp)
  rw [bytes_of] at HP
  have hsz : ¬ (1048576 : Int) < (s.size : Int) := by omega
  clear hp hT hch hc hcn
  go_enter Tryz.func12, Tryz.ntmps12
  go_wp2_with fail
  refine (HC.out _ ((Below.refl _ w).alloc (Nat.le_refl _) _)).mono ?_
  rintro e wa ⟨rfl, hb⟩
  have bA : Boxed wa w.heap.size 9 (.string s) := (hb.block w.heap.size (by simp)).trans (Boxed.new w 9 (.string s))
  have HbA := Lib.hid (((Below.refl _ w).alloc (Nat.le_refl _) (.cells #[.string s] 9)).trans (hb.mono (by simp)))
  clear hb
  have cS := bA.cell
  go_wp2_with fail
  refine (HP.out wa).mono ?_
  rintro e wb ⟨rfl, hb⟩
  have bB : Boxed wb w.heap.size 9 (.string s) := (hb.block w.heap.size bA.lt).trans bA
  have HbB := Lib.hid (HbA.out.trans (hb.mono HbA.out.size))
  clear hb bA cS
  have cB := bB.cell
  have fB := bB.frozen
  go_wp2_with fail
  go_ret2
  exact ⟨rfl, HbB.out.setCell (p := ⟨w.heap.size, 0, none⟩) (Nat.le_refl _) _⟩
theorem encP_text' (l : List UInt8) (columns : Int) : ∃ (u : ByteArray) (b : Int), encP l columns = (u.data.toList, b) := ⟨bytes (encP l columns).1, (encP l columns).2, by rw [bytes_data]⟩
theorem encode_is (a : Option Addr) (cap : Nat) (xs : List ByteArray) (columns : Int) (s : ByteArray) (w : World) (hn : xs.length ≤ 9223372036854775807) (hT : Texts w a xs) (hs : s.size ≤ 100000)
    (hc0 : -9223372036854775808 ≤ columns) (hc1 : columns ≤ 9223372036854775807) (hL : LaidQ w)
    (hfit : checkC (kindsC xs) columns = 0 → growC (xs.length - 1) (if columns = 0 then s.data.toList else (encP s.data.toList columns).1).length ≤ 10000) {o : List UInt8} {c : Int} (hE : encC (kindsC xs) columns s.data.toList = (o, c)) :
    Calls Tryz.prog 12 #[.slice a xs.length cap, .int .i64 columns, .string s] w fun e w' => e = .returned (.tuple #[.string (bytes o), .int .i64 c]) ∧ Below w.heap.size w w' := by
  obtain ⟨ch, hch⟩ : ∃ ch, checkC (kindsC xs) columns = ch := ⟨_, rfl⟩
  have hl : s.data.toList.length ≤ 1048576 := by rw [← size_data]; omega
  by_cases h0 : ch = 0
  · subst h0
    by_cases h3 : columns = 0
    · subst h3
      rw [encC_plain hch hl] at hE
      obtain ⟨rfl, rfl⟩ := Prod.mk.inj hE
      have hf := hfit hch
      rw [if_pos rfl] at hf
      exact (callsIn_wide (n := 3)).1 (encode_plain 3 (by omega) a cap xs s w hn hT hs hL hch hf)
    · obtain ⟨p, e, hp⟩ := encP_text' s.data.toList columns
      rw [encC_rows hch hl h3 hp] at hE
      by_cases h4 : e = 0
      · subst h4
        rw [if_neg (by simp)] at hE
        obtain ⟨rfl, rfl⟩ := Prod.mk.inj hE
        have hf := hfit hch
        rw [if_neg h3, hp] at hf
        exact (callsIn_wide (n := 3)).1 (encode_rows 3 (by omega) a cap xs columns s p w hn hT hs hL hc0 hc1 h3 hp hch hf)
      · rw [if_pos h4] at hE
        obtain ⟨rfl, rfl⟩ := Prod.mk.inj hE
        exact encode_rowless a cap xs columns s p w hn hT hs hc0 hc1 h3 hp h4 hch
  · rw [encC_check hch h0] at hE
    obtain ⟨rfl, rfl⟩ := Prod.mk.inj hE
    exact encode_bad a cap xs columns s w hn hT hch h0
end
end Go.Proofs.YtiiiokikmjgliaaGreatDoor
