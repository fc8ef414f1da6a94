/-
  The contract of codes' count.
-/
import Derived.Test.YtahanllbaclokaaCodeArr
import Derived.Test.YtahanllbaclokaaCodeRef
namespace Go.Proofs.Ytahanllbaclokaa
open Go.RowKit

theorem refusedZ_long {ls : List Int} (h : 320 < ls.length) : refusedZ ls = 2 := by
  unfold refusedZ checkZ; rw [if_pos h]; rfl
theorem refusedZ_bad {ls : List Int} {j : Nat} {v : Int} (h : ls.length ≤ 320) (hj : j < ls.length) (hv : ls[j]?.getD 0 = v) (hb : v < 0 ∨ 15 < v) : refusedZ ls = 3 := by
  unfold refusedZ; rw [check_bad h hj hv hb]; rfl
theorem refusedZ_good {ls : List Int} (h : ls.length ≤ 320) (hall : ∀ l ∈ ls, 0 ≤ l ∧ l ≤ 15) : refusedZ ls = if 32768 < endC (natsOf ls) 15 then 7 else 0 := by
  rw [endC_kraft hall]
  unfold refusedZ
  rw [check_good h hall]
  by_cases h1 : kraft ls = 0
  · have h2 : ¬ 32768 < kraft ls := by omega
    simp [h1]
  · rw [if_neg h1]
    by_cases h2 : 32768 < kraft ls
    · rw [if_pos h2, if_pos h2]; rfl
    · rw [if_neg h2, if_neg h2]
      by_cases h3 : kraft ls < 32768
      · rw [if_pos h3]; rfl
      · rw [if_neg h3]; rfl
theorem cntN_none : cntN [] = fun _ => 0 := by
  funext i; unfold cntN; split <;> rfl
theorem natsOf_take (ls : List Int) (j : Nat) : natsOf (ls.take j) = (natsOf ls).take j := by unfold natsOf; rw [List.map_take]
theorem cntN_skip {ns : List Nat} {j : Nat} (h : ns[j]? = some 0) : cntN (ns.take (j + 1)) = cntN (ns.take j) := by
  funext i
  unfold cntN
  by_cases e : i = 0
  · rw [if_pos e, if_pos e]
  · rw [if_neg e, if_neg e, take_count h, if_neg (by omega)]; rfl
theorem cntN_more {ns : List Nat} {j n c : Nat} (h : ns[j]? = some (n + 1)) (hc : cntN (ns.take j) (n + 1) = c) : (fun k => if k = n + 1 then c + 1 else cntN (ns.take j) k) = cntN (ns.take (j + 1)) := by
  funext i
  unfold cntN at hc ⊢
  rw [if_neg (by omega)] at hc
  by_cases e : i = 0
  · subst e; simp
  · rw [if_neg e, if_neg e, take_count h]
    by_cases e2 : i = n + 1
    · subst e2; rw [if_pos rfl, if_pos rfl, hc]
    · rw [if_neg e2, if_neg (by omega)]; rfl
theorem cntN_le (ns : List Nat) (i : Nat) : cntN ns i ≤ ns.length := by
  unfold cntN
  split
  · exact Nat.zero_le _
  · exact List.count_le_length
theorem ArrAt.store0 {ops : Array Oper} {rest : List Oper} {o : Oper} {a : Act} {w : World} {Q : Exit → Act → World → Prop} (hgd : o.guard = none) (hdst : o.dst = none) (x y : Operand) (ho : o.op = .store 57 x y)
    (b : Nat) (g : Nat → Nat) (hx : a.eval x = .pointer (some ⟨b, 0, none⟩)) (hy : a.eval y = .agg #[.int .i64 0, .int .i64 0, .int .i64 0, .int .i64 0, .int .i64 0, .int .i64 0, .int .i64 0, .int .i64 0, .int .i64 0, .int .i64 0, .int .i64 0, .int .i64 0, .int .i64 0, .int .i64 0, .int .i64 0, .int .i64 0]) (hg : ArrAt w b g) (B : Nat) (w0 : World) (hb : Below B w0 w) (hB : B ≤ b)
    (h : ∀ w', Hid (ArrAt w' b fun _ => 0) → Hid (Below B w0 w') → Hid (∀ k, k ≠ b → w'.heap[k]? = w.heap[k]?) → wpList Try.prog ops Q rest a w') : wpList Try.prog ops Q (o :: rest) a w :=
  ArrAt.store hgd hdst x y ho b _ g hx (by rw [arr16_zero]; exact hy) hg B w0 hb hB h
/-- What count tells. -/
def Counts (w : World) (ls : List Int) (e : Int) (en : Ending) (w' : World) : Prop :=
  en = .returned (.tuple #[.agg (arr16 (if e = 0 then cntN (natsOf ls) else fun _ => 0)), .int .i64 e]) ∧ Below w.heap.size w w'
theorem results_count (tmps : Array Value) (w : World) (b : Nat) (f : Nat → Nat) (e : Int) (hp : tmps.getD 2 undef = .pointer (some ⟨b, 0, none⟩)) (he : tmps.getD 3 undef = .int .i64 e) (hg : ArrAt w b f) :
    (results Try.f25 tmps).run Try.prog w = .ok (.tuple #[.agg (arr16 f), .int .i64 e]) w := by
  have hl : (loadVar 57 ⟨b, 0, none⟩).run Try.prog w = .ok (.agg (arr16 f)) w := run_loadVar_row w b _ _ _ _ _ hg Try.underlying57 rfl (by rw [arr16_size]; exact info_per)
  have hp' : tmps[2]?.getD undef = .pointer (some ⟨b, 0, none⟩) := by simpa using hp
  have he' : tmps[3]?.getD undef = .int .i64 e := by simpa using he
  simp [results, Try.results25, hp', he', asAddr, hl]

set_option maxHeartbeats 2000000 in
theorem count_any (p : Option Addr) (cap : Nat) (ls : List Int) (w : World) (hz : ls.length ≤ 1000) (hp : Nums w p ls) :
    Calls Try.prog 25 #[.slice p ls.length cap] w (Counts w ls (refusedZ ls)) := by
  have Hp := Lib.hid hp
  have hB : Below w.heap.size w ((w.alloc (.cells (arr16 fun _ => 0) 57)).alloc (.cells (arr16 fun _ => 0) 57)) := ((Below.refl _ w).alloc (Nat.le_refl _) _).alloc (by simp) _
  have HB := Lib.hid hB
  have HA0 : Hid (ArrAt ((w.alloc (.cells (arr16 fun _ => 0) 57)).alloc (.cells (arr16 fun _ => 0) 57)) w.heap.size fun _ => 0) := Lib.hid (heap_alloc2_old w _ _)
  have HA1 : Hid (ArrAt ((w.alloc (.cells (arr16 fun _ => 0) 57)).alloc (.cells (arr16 fun _ => 0) 57)) (w.heap.size + 1) fun _ => 0) := Lib.hid (heap_alloc2_new w _ _)
  rw [arr16_zero] at HB HA0 HA1
  clear hp hB
  by_cases hbig : (320 : Int) < (ls.length : Int)
  · have Hr := Lib.hid (refusedZ_long (ls := ls) (by omega))
    go_enter Try.func25, Try.ntmps25
    go_wp2_with (with_reducible first
        | refine ArrAt.load rfl (.tmp 4) rfl (w.heap.size + 1) _ rfl HA1.out ?_
        | (refine ArrAt.store0 rfl rfl (.tmp 2) (.tmp 10) rfl w.heap.size _ rfl rfl HA0.out w.heap.size w HB.out (Nat.le_refl _) ?_; intro w2 H2 Hb2 _))
    refine bodyPost_ret (results_count _ _ w.heap.size _ 2 rfl rfl H2.out) rfl ?_
    rw [Hr.out]
    exact ⟨rfl, Hb2.out⟩
  · have hl : ls.length ≤ 320 := by omega
    go_enter Try.func25, Try.ntmps25
    go_wp2_with fail
    go_loopg [13] ls.length (fun g s13 wx => ∃ j : Nat, j + g = ls.length ∧ s13 = .int .i64 (j : Int) ∧ Aside ((∀ l ∈ ls.take j, 0 ≤ l ∧ l ≤ 15) ∧ ArrAt wx w.heap.size (fun _ => 0) ∧ ArrAt wx (w.heap.size + 1) (cntN ((natsOf ls).take j))) ∧ Below w.heap.size w wx)
    case atStart => exact ⟨0, by omega, rfl, ⟨fun l hl => by simp at hl, HA0.out, by rw [List.take_zero, cntN_none]; exact HA1.out⟩, HB.out⟩
    case round =>
      obtain ⟨j, hjg, rfl, HI, hb⟩ := hrel
      have Hb := Lib.hid hb
      clear hb
      cases gk with
      | zero =>
        obtain rfl : j = ls.length := by omega
        have hall : ∀ l ∈ ls, 0 ≤ l ∧ l ≤ 15 := by have := HI.out.1; rwa [List.take_length] at this
        have hres := refusedZ_good hl hall
        have hnl : (natsOf ls).length = ls.length := natsOf_length ls
        have HA4 : Hid (ArrAt wr (w.heap.size + 1) (cntN (natsOf ls))) := Lib.hid (by have := HI.out.2.2; rwa [← hnl, List.take_length] at this)
        have HN : Hid ((natsOf ls).length ≤ 320) := Lib.hid (by omega)
        obtain ⟨x, hx⟩ : ∃ x, endC (natsOf ls) 15 = x := ⟨_, rfl⟩
        have Hroom := Lib.hid (fun W => room_any (natsOf ls) W HN.out)
        rw [hx] at hres Hroom
        clear hx hall hnl hjg
        by_cases hov : 32768 < x
        · have Hr : Hid (refusedZ ls = 7) := Lib.hid (by rw [hres, if_pos hov])
          have hxz : (32768 : Int) - (x : Int) < 0 := by omega
          clear hres
          go_wp2_with (with_reducible first
            | refine ArrAt.load rfl (.tmp 4) rfl (w.heap.size + 1) _ rfl HA4.out ?_)
          refine (Hroom.out _).mono ?_
          rintro e w1 ⟨rfl, hb⟩
          have HA0' := Lib.hid (HI.out.2.1.later hb)
          have Hb1 := Lib.hid (Hb.out.trans (hb.mono Hb.out.size))
          clear hb
          go_wp2_with (with_reducible first
            | (refine ArrAt.store0 rfl rfl (.tmp 2) (.tmp 35) rfl w.heap.size _ rfl rfl HA0'.out w.heap.size w Hb1.out (Nat.le_refl _) ?_; intro w2 H2 Hb2 _))
          refine bodyPost_ret (results_count _ _ w.heap.size _ 7 rfl rfl H2.out) rfl ?_
          rw [Hr.out]
          exact ⟨rfl, Hb2.out⟩
        · have Hr : Hid (refusedZ ls = 0) := Lib.hid (by rw [hres, if_neg hov])
          have hxz : ¬ (32768 : Int) - (x : Int) < 0 := by omega
          clear hres
          go_wp2_with (with_reducible first
            | refine ArrAt.load rfl (.tmp 4) rfl (w.heap.size + 1) _ rfl HA4.out ?_)
          refine (Hroom.out _).mono ?_
          rintro e w1 ⟨rfl, hb⟩
          have HA0' := Lib.hid (HI.out.2.1.later hb)
          have HA4' := Lib.hid (HA4.out.later hb)
          have Hb1 := Lib.hid (Hb.out.trans (hb.mono Hb.out.size))
          clear hb
          go_wp2_with (with_reducible first
            | refine ArrAt.load rfl (.tmp 4) rfl (w.heap.size + 1) _ rfl HA4'.out ?_
            | (refine ArrAt.store rfl rfl (.tmp 2) (.tmp 36) rfl w.heap.size _ _ rfl rfl HA0'.out w.heap.size w Hb1.out (Nat.le_refl _) ?_; intro w2 H2 Hb2 _))
          refine bodyPost_ret (results_count _ _ w.heap.size _ 0 rfl rfl H2.out) rfl ?_
          rw [Hr.out]
          exact ⟨rfl, Hb2.out⟩
      | succ g =>
        have hj : j < ls.length := by omega
        have hjz : (j : Int) < (ls.length : Int) := by omega
        obtain ⟨b, off, rfl, hc⟩ := (Hp.out.later Hb.out).at j hj
        obtain ⟨v, hv⟩ : ∃ v, ls[j]?.getD 0 = v := ⟨_, rfl⟩
        rw [hv] at hc
        by_cases hbad : v < 0 ∨ 15 < v
        · have Hr := Lib.hid (refusedZ_bad hl hj hv hbad)
          have hcase : v < 0 ∨ (¬ v < 0 ∧ 15 < v) := by omega
          clear hbad hv
          rcases hcase with h | ⟨h, h'⟩
          all_goals
            go_wp2_with (with_reducible first
              | (refine ArrAt.store0 rfl rfl (.tmp 2) (.tmp 23) rfl w.heap.size _ rfl rfl HI.out.2.1 w.heap.size w Hb.out (Nat.le_refl _) ?_; intro w2 H2 Hb2 _))
            refine bodyPost_ret (results_count _ _ w.heap.size _ 3 rfl rfl H2.out) rfl ?_
            rw [Hr.out]
            exact ⟨rfl, Hb2.out⟩
        · obtain ⟨n, rfl⟩ := Int.eq_ofNat_of_zero_le (show 0 ≤ v by omega)
          have h0 : ¬ (n : Int) < 0 := by omega
          have h15 : ¬ 15 < (n : Int) := by omega
          have Hall : Hid (∀ l ∈ ls.take (j + 1), 0 ≤ l ∧ l ≤ 15) := Lib.hid fun l hl => by
            rw [take_more hj hv] at hl
            rcases List.mem_append.1 hl with hl | hl
            · exact HI.out.1 l hl
            · simp at hl; omega
          have hns : (natsOf ls)[j]? = some n := by
            have := natsOf_at hj
            rw [hv, Int.toNat_natCast, List.getElem?_eq_getElem (by rw [natsOf_length]; exact hj)] at this
            rw [List.getElem?_eq_getElem (by rw [natsOf_length]; exact hj)]
            simpa using this
          clear hbad hv
          cases n with
          | zero =>
            have Hsk := Lib.hid (cntN_skip hns)
            clear hns
            go_wp2_with fail
            go_roundg g
            case measure => omega
            case rel => exact ⟨j + 1, by omega, by go_num, ⟨Hall.out, HI.out.2.1, by rw [Hsk.out]; exact HI.out.2.2⟩, Hb.out⟩
          | succ n =>
            have hpz : (0 : Int) < ((n + 1 : Nat) : Int) := by omega
            have hn16 : ((n + 1 : Nat) : Int) < 16 := by omega
            have hcell := HI.out.2.2.cell (i := n + 1) (by omega)
            have hfz := HI.out.2.2.free (n + 1)
            obtain ⟨c, hcv⟩ : ∃ c, cntN ((natsOf ls).take j) (n + 1) = c := ⟨_, rfl⟩
            have hcl : c ≤ 320 := by
              have := cntN_le ((natsOf ls).take j) (n + 1)
              rw [hcv, List.length_take, natsOf_length] at this; omega
            have Hmore := Lib.hid (cntN_more hns hcv)
            rw [hcv] at hcell
            clear hns hcv
            obtain ⟨m, hm⟩ : ∃ m, n + 1 = m := ⟨_, rfl⟩
            rw [hm] at hpz hn16 hcell hfz hc h0 h15 Hmore
            have hput := HI.out.2.2.put m (c + 1)
            rw [Hmore.out] at hput
            have Hput := Lib.hid hput
            clear hput
            go_wp2_with fail
            go_roundg g
            case measure => omega
            case rel => exact ⟨j + 1, by omega, by go_num, ⟨Hall.out, HI.out.2.1.other _ (by simp), Hput.out⟩, Hb.out.setCell (by simp) _⟩

end Go.Proofs.Ytahanllbaclokaa
