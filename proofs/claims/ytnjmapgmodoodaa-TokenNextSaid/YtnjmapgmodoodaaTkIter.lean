/-
  The iterator over all signs: which come, in which order, whatever the loop's body does.
-/
import Derived.Test.YtnjmapgmodoodaaTkTokIn
import Derived.Test.YtnjmapgmodoodaaTkPlain2
import Derived.Test.YtnjmapgmodoodaaTkNext
namespace Go.Proofs.Ytnjmapgmodoodaa
open Go.RowKit Go.Shelf
set_option maxRecDepth 100000
attribute [local go_sem] Oper.semAt_some

/-- A sign and its error, as a round is handed them. -/
def encS (x : Sg) : Array Value := #[.agg (tokC x.kind x.num (bytes x.str) (x.beg : Int) (x.fin : Int)), .int .i64 x.code]
theorem next_is (s : ByteArray) (k : Nat) (w : World) (hs : s.size ≤ 100000000) (hk : k ≤ s.size) {x : Sg} (hx : nextN s.data.toList k = x) :
    Calls Try.prog 8 #[.string s, .int .i64 (k : Int)] w fun e w' => e = .returned (.tuple #[.agg (tokC x.kind x.num (bytes x.str) (x.beg : Int) (x.fin : Int)), .int .i64 x.code]) ∧ Below w.heap.size w w' := by
  have h := next_any s (k : Int) w hs
  rw [nextI_nat (by rw [← size_data]; exact hk), hx] at h
  exact h
theorem grown_new {w w1 : World} (hb : Below w.heap.size w w1) (o : Obj) (cs : Array Value) : w.grownBy ((w1.alloc o).setRow w1.heap.size cs) none := by
  refine ⟨hb.os, hb.tape, hb.output, by have := hb.size; simp; omega, fun k hk _ => ?_⟩
  have hlt : k < w1.heap.size := Nat.lt_of_lt_of_le hk hb.size
  rw [setRow_other _ _ _ _ (Nat.ne_of_lt hlt), Below.heap_alloc _ _ _ hlt]
  exact hb.block k hk

set_option maxHeartbeats 4000000 in
theorem all_in (n : Nat) (hn : 1 ≤ n) (l N bo Bn : Nat) (s : ByteArray) (hs : s.size ≤ 1000000) (W : World) (J Jx : List Sg → World → Prop) (hJ : AbidesFrom W.heap.size J)
    (hY : ∀ pre x W1, J pre W1 → pre.length < s.size + 2 → YieldAt Fence.wide (n - 1) Try.prog l (encS x) W1 fun e W' =>
      (e = .returned (.bool true) ∧ J (pre ++ [x]) W' ∧ RoundKeeps N bo Bn W1 W') ∨ (e = .returned (.bool false) ∧ Jx (pre ++ [x]) W'))
    (hNW : N ≤ W.heap.size) (hbo : bo < N) (hBnN : Bn < N) (hsure : rowOf bo W < W.heap.size) (hBn : W.cell? ⟨Bn, 0, none⟩ = some (.string s)) (h0 : J [] W) :
    CallsIn Fence.wide n Try.prog 25 #[.func (.yield l) #[] #[], .pointer (some ⟨Bn, 0, none⟩)] W fun e W' => (∃ v, e = .returned v) ∧
      ((∃ ys, ys = yields s.data.toList ∧ J ys W') ∨ (∃ pre, pre <+: yields s.data.toList ∧ Jx pre W')) := by
  obtain ⟨A, c, hA⟩ : ∃ A c, allL s.data.toList = (A, c) := ⟨_, _, rfl⟩
  have hyd : yields s.data.toList = A ++ (if c = 0 then [] else [Sg.err c]) := by unfold yields; rw [hA]
  have hAl : A.length ≤ s.size + 1 := by
    have h := (all_good s.data.toList (s.data.toList.length + 1) 0 (by omega) (Nat.zero_le _)).1
    rw [show allGo s.data.toList (s.data.toList.length + 1) 0 = (A, c) from hA, ← size_data] at h
    exact h
  have HYd := Lib.hid hyd
  have HA := Lib.hid hA
  clear hyd hA
  refine callsIn_of_wp Try.func25 rfl trivial ?_ rfl
  simp only [Try.ntmps25, List.size_toArray, List.length_cons, List.length_nil, Nat.reduceAdd, Nat.reduceSub, Array.replicate_succ, Array.replicate_zero, List.push_toArray, List.append_toArray, List.nil_append, List.cons_append]
  gi_wp2
  gi_loopw [3] (fun p wr => ∃ (pre : List Sg) (k f : Nat), p = .int .i64 k ∧ k ≤ s.size ∧ s.size < f + k ∧ Aside (pre ++ (allGo s.data.toList f k).1 = A ∧ (allGo s.data.toList f k).2 = c) ∧ wr.cell? ⟨Bn, 0, none⟩ = some (.string s) ∧ Aside (rowOf bo wr < wr.heap.size) ∧ N ≤ wr.heap.size ∧ J pre wr)
    (fun p _ => s.size - (intOf p).toNat)
  case atStart =>
    exact ⟨[], 0, s.size + 1, rfl, Nat.zero_le _, by omega, ⟨by have h := HA.out; unfold allL at h; rw [← size_data] at h; rw [h]; rfl, by have h := HA.out; unfold allL at h; rw [← size_data] at h; rw [h]⟩, hBn, hsure, hNW, h0⟩
  case round =>
    obtain ⟨pre, k, f, rfl, hk, hfk, HP, hbox, HS, hN, hJs⟩ := hrel
    obtain ⟨f, rfl⟩ : ∃ g, f = g + 1 := ⟨f - 1, by omega⟩
    obtain ⟨x, hx⟩ : ∃ x, nextN s.data.toList k = x := ⟨_, rfl⟩
    have hg := next_good s.data.toList k (by rw [← size_data]; exact hk)
    rw [hx] at hg
    have HNx := Lib.hid (fun W => next_is s k W (by omega) hk hx)
    have HJs := Lib.hid hJs
    clear hJs
    gi_wp2_with fail
    refine ⟨trivial, ?_⟩
    refine (callsIn_wide.2 (HNx.out _)).mono ?_
    rintro e w1 ⟨rfl, hb⟩
    obtain ⟨W1, hW1⟩ : ∃ W1, (w1.alloc (.cells #[.int .i64 0, .int .i64 0, .string ⟨#[]⟩, .int .i64 0, .int .i64 0] 24)).setRow w1.heap.size (tokC x.kind x.num (bytes x.str) (x.beg : Int) (x.fin : Int)) = W1 := ⟨_, rfl⟩
    have hG : wr.grownBy W1 none := by rw [← hW1]; exact grown_new hb _ _
    have hT : TokCell W1 w1.heap.size (tokC x.kind x.num (bytes x.str) (x.beg : Int) (x.fin : Int)) := by
      rw [← hW1]
      exact setRow_heap _ _ _ _ _ _ (heap_alloc_new w1 _)
    have hcell : ∀ q, q < N → W1.cell? ⟨q, 0, none⟩ = wr.cell? ⟨q, 0, none⟩ := fun q hq => by
      have h2 := hG.block q (by omega) (by simp)
      unfold World.cell?
      simp only [h2]
    have hbox1 : W1.cell? ⟨Bn, 0, none⟩ = some (.string s) := (hcell Bn hBnN).trans hbox
    have hrow1 : rowOf bo W1 = rowOf bo wr := rowOf_same (hcell bo hbo)
    have hbsz := hb.size
    have hszs : W1.heap.size = w1.heap.size + 1 := by rw [← hW1]; simp
    have Hsure : Hid (rowOf bo W1 < W1.heap.size) := Lib.hid (by rw [hrow1, hszs]; have := HS.out; omega)
    have Hne : Hid (w1.heap.size ≠ rowOf bo W1) := Lib.hid (by rw [hrow1]; have := HS.out; omega)
    have hlen : pre.length < s.size + 2 := by
      have h := congrArg List.length HP.out.1
      rw [List.length_append] at h
      omega
    obtain ⟨fn, tmps, assign, body, hy, hR⟩ := hY pre x W1 (hJ pre wr W1 none HJs.out hG (fun r e => by cases e)) hlen
    dsimp only [encS] at hy
    have HW1 := Lib.hid hW1
    have HT := Lib.hid hT
    have Hszs := Lib.hid hszs
    have HBx1 := Lib.hid hbox1
    have Hbsz := Lib.hid hbsz
    have hpfx : pre ++ [x] <+: yields s.data.toList ∧ (x.code = 0 → x.kind = 0 → pre ++ [x] = yields s.data.toList) ∧ (¬ x.code = 0 → pre ++ [x] = yields s.data.toList) ∧
        (x.code = 0 → ¬ x.kind = 0 → k < x.fin ∧ x.fin ≤ s.size ∧ pre ++ [x] ++ (allGo s.data.toList f x.fin).1 = A ∧ (allGo s.data.toList f x.fin).2 = c) := by
      have hP := HP.out
      rw [HYd.out]
      by_cases h1 : x.code = 0
      · by_cases h2 : x.kind = 0
        · rw [all_end (by rw [hx]; exact h1) (by rw [hx]; exact h2), hx] at hP
          have e : pre ++ [x] = A ++ (if c = 0 then [] else [Sg.err c]) := by rw [if_pos hP.2.symm, List.append_nil]; exact hP.1
          exact ⟨by rw [e]; exact List.prefix_refl _, fun _ _ => e, fun h => absurd h1 h, fun _ h => absurd h2 h⟩
        · rw [all_step (by rw [hx]; exact h1) (by rw [hx]; exact h2), hx] at hP
          have hs := next_step (l := s.data.toList) (k := k) (by rw [← size_data]; exact hk) (by rw [hx]; exact h1) (by rw [hx]; exact h2)
          rw [hx, ← size_data] at hs
          have e : pre ++ [x] ++ (allGo s.data.toList f x.fin).1 = A := by rw [← hP.1, List.append_assoc]; rfl
          exact ⟨⟨(allGo s.data.toList f x.fin).1 ++ (if c = 0 then [] else [Sg.err c]), by rw [← e]; simp only [List.append_assoc]⟩, fun _ h => absurd h h2, fun h => absurd h1 h, fun _ _ => ⟨hs.1, hs.2, e, hP.2⟩⟩
      · rw [all_err (by rw [hx]; exact h1), hx, List.append_nil] at hP
        have e : pre ++ [x] = A ++ (if c = 0 then [] else [Sg.err c]) := by rw [← hP.1, ← hP.2, if_neg h1, ← hg.1.1 h1]
        exact ⟨by rw [e]; exact List.prefix_refl _, fun h => absurd h h1, fun _ => e, fun h => absurd h h1⟩
    obtain ⟨hp1, hp2, hp3, hp4⟩ := hpfx
    have Hp1 := Lib.hid hp1
    have Hp2 := Lib.hid hp2
    have Hp3 := Lib.hid hp3
    have Hp4 := Lib.hid hp4
    clear hb hW1 hG hT hcell hbox hrow1 hlen hp1 hp2 hp3 hp4 hg hx hbsz hszs hbox1 HJs HNx
    gi_wp2_with (first
      | (refine TokCell.storeIn rfl rfl _ _ rfl w1.heap.size (tokC 0 0 ⟨#[]⟩ 0 0) (tokC x.kind x.num (bytes x.str) (x.beg : Int) (x.fin : Int)) rfl rfl rfl (tokC_one _ _ _ _ _) (TokCell.new w1 _) rfl ?_; rw [HW1.out])
      | (refine TokCell.loadIn rfl _ rfl w1.heap.size _ rfl HT.out rfl ?_))
    refine hR.mono ?_
    rintro e W3 (⟨rfl, hJ3, hk3⟩ | ⟨rfl, hJx3⟩)
    · have hT3 : TokCell W3 w1.heap.size (tokC x.kind x.num (bytes x.str) (x.beg : Int) (x.fin : Int)) := hk3.cells _ _ _ _ (by have := Hbsz.out; omega) HT.out Hne.out
      obtain ⟨k0, k1, k2, k3, k4⟩ := hT3.parts
      have Hbox3 := Lib.hid hk3.box
      have Hsz3 := Lib.hid hk3.size
      have Hsure3 := Lib.hid (hk3.sure Hsure.out)
      clear hk3 hT3 hy hR hY k1 k2 k3
      by_cases h1 : x.code = 0
      · have h1' : (x.code != 0) = false := by simpa using h1
        by_cases h2 : x.kind = 0
        · have h2' : (x.kind == 0) = true := by simpa using h2
          have Hys := Lib.hid (Hp2.out h1 h2)
          clear h1 h2
          gi_wp2
          refine bodyPost_ret (results_none rfl _ _ _) rfl ?_
          exact ⟨⟨_, rfl⟩, .inl ⟨_, Hys.out, hJ3⟩⟩
        · have h2' : (x.kind == 0) = false := by simpa using h2
          obtain ⟨q1, q2, q3, q4⟩ := Hp4.out h1 h2
          have Hq3 := Lib.hid q3
          have Hq4 := Lib.hid q4
          have Hbx : Hid (W3.cell? ⟨Bn, 0, none⟩ = some (.string s)) := Lib.hid (Hbox3.out.trans HBx1.out)
          clear h1 h2 q3 q4
          gi_wp2
          go_roundw
          case rel => exact ⟨pre ++ [x], x.fin, f, rfl, q2, by omega, ⟨Hq3.out, Hq4.out⟩, Hbx.out, Hsure3.out, by have := Hsz3.out; have := Hszs.out; have := Hbsz.out; omega, hJ3⟩
          case measure => simp [intOf]; omega
      · have h1' : (x.code != 0) = true := by simpa using h1
        have Hys := Lib.hid (Hp3.out h1)
        clear h1
        gi_wp2
        refine bodyPost_ret (results_none rfl _ _ _) rfl ?_
        exact ⟨⟨_, rfl⟩, .inl ⟨_, Hys.out, hJ3⟩⟩
    · clear hy hR hY
      gi_wp2
      refine bodyPost_ret (results_none rfl _ _ _) rfl ?_
      exact ⟨⟨_, rfl⟩, .inr ⟨_, Hp1.out, hJx3⟩⟩

set_option maxHeartbeats 1000000 in
theorem all_maker (n : Nat) (s : ByteArray) (w : World) :
    CallsIn Fence.wide n Try.prog 12 #[.string s] w fun e w' => e = .returned (.func (.func 25) #[] #[.pointer (some ⟨w.heap.size, 0, none⟩)]) ∧ w' = w.alloc (.cells #[.string s] 9) := by
  refine callsIn_of_wp Try.func12 rfl trivial ?_ rfl
  simp only [Try.ntmps12, List.size_toArray, List.length_cons, List.length_nil, Nat.reduceAdd, Nat.reduceSub, Array.replicate_succ, Array.replicate_zero, List.push_toArray, List.append_toArray, List.nil_append, List.cons_append]
  gi_wp2
  go_ret
  exact ⟨rfl, rfl⟩
theorem all_is (s : ByteArray) (w : World) : Calls Try.prog 12 #[.string s] w fun e w' => e = .returned (.func (.func 25) #[] #[.pointer (some ⟨w.heap.size, 0, none⟩)]) ∧ w.alloc (.cells #[.string s] 9) = w' :=
  (callsIn_wide (n := 3)).1 ((all_maker 3 s w).mono fun _ _ h => ⟨h.1, h.2.symm⟩)

/-- What All hands back tells just these signs; or, where a round has said that it wants no more, those as far as it has come. -/
theorem all_stops (n : Nat) (hn : 1 ≤ n) (bo Bn : Nat) (s : ByteArray) (hs : s.size ≤ 1000000) (w : World) (hbo : bo < w.heap.size) (hBn : Bn < w.heap.size) (hsure : rowOf bo w < w.heap.size) (hc : w.cell? ⟨Bn, 0, none⟩ = some (.string s)) :
    SeqStopsK Fence.wide n Try.prog 25 #[.pointer (some ⟨Bn, 0, none⟩)] encS (RoundKeeps w.heap.size bo Bn)
      (fun ys => ys = yields s.data.toList) (fun pre => pre <+: yields s.data.toList) (s.size + 2) w := fun l J Jx W hW hJ _ hY h0 =>
  all_in n hn l w.heap.size bo Bn s hs W J Jx hJ hY hW.size hbo hBn
    (by rw [rowOf_same (hW.cell (p := ⟨bo, 0, none⟩) hbo)]; exact Nat.lt_of_lt_of_le hsure hW.size)
    ((hW.cell (p := ⟨Bn, 0, none⟩) hBn).trans hc) h0
end Go.Proofs.Ytnjmapgmodoodaa
