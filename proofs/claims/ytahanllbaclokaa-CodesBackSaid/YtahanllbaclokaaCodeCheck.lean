/-
  The contracts of codes' Check and Codes.
-/
import Derived.Test.YtahanllbaclokaaCodeDeal
import Derived.ChangeKeysEq
import Derived.Laws.StructEq
namespace Go.Proofs.Ytahanllbaclokaa
open Go.RowKit

theorem checkZ_refused {ls : List Int} (h : refusedZ ls ≠ 0) : checkZ ls = refusedZ ls := by
  unfold refusedZ at h ⊢
  split
  · rename_i hc; rw [if_pos hc] at h; exact absurd rfl h
  · rfl
theorem checkZ_told {ls : List Int} (h : refusedZ ls = 0) : checkZ ls = if endC (natsOf ls) 15 = 0 then 12 else if endC (natsOf ls) 15 < 32768 then 5 else 0 := by
  obtain ⟨h1, h2, h3⟩ := refusedZ_zero h
  rw [check_good h1 h2, endC_kraft h2]
  by_cases h4 : kraft ls = 0
  · rw [if_pos h4, if_pos h4]
  · rw [if_neg h4, if_neg h4, if_neg (by omega)]
theorem no_counts {ls : List Int} (h : ∀ l ∈ ls, 0 ≤ l ∧ l ≤ 15) : ((List.range 16).all fun i => cntN (natsOf ls) i == (0 : Nat)) = decide (endC (natsOf ls) 15 = 0) := by
  rw [Bool.eq_iff_iff, List.all_eq_true, decide_eq_true_eq, endC_kraft h, kraft_zero h]
  constructor
  · intro h1 v hv
    rcases Nat.lt_or_ge v 16 with h16 | h16
    · have := h1 v (List.mem_range.2 h16)
      unfold cntN at this
      rw [if_neg (by omega)] at this
      simpa using this
    · rw [List.count_eq_zero]
      intro hm
      have := natsOf_le h v hm
      omega
  · intro h1 i hi
    unfold cntN
    by_cases e : i = 0
    · rw [if_pos e]; rfl
    · rw [if_neg e, h1 i (by omega)]; rfl
theorem cells_int : Try.prog.cellsOf 3 = 1 := by kernel_rfl
theorem eqItems_arr (w : World) (d : Nat) (f g : Nat → Nat) : ∀ is : List Nat, (∀ i ∈ is, i < 16) →
    (Op.eqItems (d + 1) 3 1 (arr16 f) (arr16 g) is).run Try.prog w = .ok (is.all fun i => f i == g i) w
  | [], _ => by simp [Op.eqItems]
  | i :: is, h => by
    have hi := h i (by simp)
    have ih := eqItems_arr w d f g is fun j hj => h j (by simp [hj])
    have hk : Try.prog.plainKey 3 = true := by kernel_rfl
    have pf := run_part_plain (P := Try.prog) w hk (xs := arr16 f) (off := i * 1) (by rw [Nat.mul_one]; exact arr16_at hi)
    have pg := run_part_plain (P := Try.prog) w hk (xs := arr16 g) (off := i * 1) (by rw [Nat.mul_one]; exact arr16_at hi)
    have pe := run_equalIn_int (P := Try.prog) w d 3 .i64 .i64 (f i : Int) (g i : Int) Try.underlying3
    simp only [Op.eqItems, Sem.run_bind, pf, pg, pe, Result.andThen_ok, List.all_cons]
    by_cases e : f i = g i
    · have e1 : ((f i : Int) == (g i : Int)) = true := by rw [e]; simp
      have e2 : (f i == g i) = true := by rw [e]; simp
      rw [e1, e2]
      simpa using ih
    · have e1 : ((f i : Int) == (g i : Int)) = false := by rw [beq_eq_false_iff_ne]; omega
      have e2 : (f i == g i) = false := by simpa using e
      rw [e1, e2]
      simp
theorem eql_arr (w : World) (f g : Nat → Nat) {b : Bool} (hb : ((List.range 16).all fun i => f i == g i) = b) :
    (binOp .eql 57 (.agg (arr16 f)) (.agg (arr16 g))).run Try.prog w = .ok (.bool b) w := by
  obtain ⟨i0, hi, _⟩ := info_parts info64
  have h1 := run_equalIn_array (P := Try.prog) w 9999 (arr16 f) (arr16 g) Try.underlying57 hi
  rw [cells_int, eqItems_arr w 9998 f g _ (fun i hi => List.mem_range.1 hi), hb] at h1
  rw [run_eql_struct, show (10000 : Nat) = 9999 + 1 from rfl, h1]
  rfl
theorem eql_guard : Try.prog.eqGuardType Try.prog.depth 57 = false := by kernel_rfl

set_option maxHeartbeats 1000000 in
theorem cCheck_is (p : Option Addr) (cap : Nat) (ls : List Int) (w : World) (hz : ls.length ≤ 1000) (_hi : Ints ls) (hp : Nums w p ls) {e : Int} (he : checkZ ls = e) :
    Calls Try.prog 12 #[.slice p ls.length cap] w fun en w' => en = .returned (.int .i64 e) ∧ Below w.heap.size w w' := by
  have Hc := Lib.hid (count_any p cap ls w hz hp)
  have He := Lib.hid he
  clear he hp
  obtain ⟨r, hr⟩ : ∃ r, refusedZ ls = r := ⟨_, rfl⟩
  rw [hr] at Hc
  by_cases h0 : r = 0
  · subst h0
    obtain ⟨hl, hall, hk⟩ := refusedZ_zero hr
    have Hn : Hid ((natsOf ls).length ≤ 320) := Lib.hid (by rw [natsOf_length]; exact hl)
    have Hroom := Lib.hid (fun W => room_any (natsOf ls) W Hn.out)
    have hee := checkZ_told hr
    obtain ⟨x, hx⟩ : ∃ x, endC (natsOf ls) 15 = x := ⟨_, rfl⟩
    have hno := no_counts hall
    rw [hx] at hee Hroom hno
    have hxk : x ≤ 32768 := by rw [← hx, endC_kraft hall]; exact hk
    rw [He.out] at hee
    obtain ⟨f, hf⟩ : ∃ f, cntN (natsOf ls) = f := ⟨_, rfl⟩
    have hcnt : ∀ en w', Counts w ls 0 en w' → en = .returned (.tuple #[.agg (arr16 f), .int .i64 0]) ∧ Below w.heap.size w w' := fun en w' h => by
      have := h
      unfold Counts at this
      rw [if_pos rfl, hf] at this
      exact this
    have Hcnt := Lib.hid hcnt
    rw [hf] at hno Hroom
    have hq : ∀ W, (binOp .eql 57 (.agg (arr16 f)) (.agg #[.int .i64 0, .int .i64 0, .int .i64 0, .int .i64 0, .int .i64 0, .int .i64 0, .int .i64 0, .int .i64 0, .int .i64 0, .int .i64 0, .int .i64 0, .int .i64 0, .int .i64 0, .int .i64 0, .int .i64 0, .int .i64 0])).run Try.prog W = .ok (.bool (decide (x = 0))) W := fun W => by
      have := eql_arr W f (fun _ => 0) hno
      rwa [arr16_zero] at this
    have hg := eql_guard
    clear hcnt hall hk hl hx hr hf hno He
    by_cases hx0 : x = 0
    · have hd : decide (x = 0) = true := decide_eq_true hx0
      rw [hd] at hq
      obtain rfl : e = 12 := by rw [hee, if_pos hx0]
      clear hee hx0 hd
      go_enter Try.func12, Try.ntmps12
      go_wp2_with fail
      refine Hc.out.mono ?_
      intro en w1 hcn
      obtain ⟨rfl, hb⟩ := Hcnt.out _ _ hcn
      have Hb := Lib.hid hb
      clear hb hcn
      have HA : Hid (ArrAt (w1.alloc (.cells (arr16 fun _ => 0) 57)) w1.heap.size fun _ => 0) := Lib.hid (heap_alloc_new w1 _)
      rw [arr16_zero] at HA
      go_wp2_with (with_reducible first
        | (refine ArrAt.store rfl rfl (.tmp 3) (.tmp 8) rfl w1.heap.size _ _ rfl rfl HA.out w.heap.size w (Hb.out.alloc Hb.out.size _) Hb.out.size ?_; intro w2 H2 Hb2 _)
        | (refine ArrAt.load rfl (.tmp 3) rfl w1.heap.size _ rfl H2.out ?_))
      go_ret
      exact ⟨rfl, Hb2.out⟩
    · have hd : decide (x = 0) = false := decide_eq_false hx0
      rw [hd] at hq
      have hq2 := Lib.hid hq
      rw [if_neg hx0] at hee
      clear hx0 hd
      have hcase : (0 < (32768 : Int) - (x : Int) ∧ e = 5) ∨ (¬ 0 < (32768 : Int) - (x : Int) ∧ e = 0) := by
        by_cases h5 : x < 32768
        · left; rw [if_pos h5] at hee; exact ⟨by omega, hee⟩
        · right; rw [if_neg h5] at hee; exact ⟨by omega, hee⟩
      clear hee
      obtain ⟨z, hzz⟩ : ∃ z, (32768 : Int) - (x : Int) = z := ⟨_, rfl⟩
      have hzl : z ≤ 32768 := by omega
      have hzl2 : 0 ≤ z := by omega
      rw [hzz] at Hroom hcase
      clear hzz
      rcases hcase with ⟨hz5, rfl⟩ | ⟨hz5, rfl⟩
      all_goals
        go_enter Try.func12, Try.ntmps12
        go_wp2_with fail
        refine Hc.out.mono ?_
        intro en w1 hcn
        obtain ⟨rfl, hb⟩ := Hcnt.out _ _ hcn
        have Hb := Lib.hid hb
        clear hb hcn
        have HA : Hid (ArrAt (w1.alloc (.cells (arr16 fun _ => 0) 57)) w1.heap.size fun _ => 0) := Lib.hid (heap_alloc_new w1 _)
        rw [arr16_zero] at HA
        go_wp2_with (with_reducible first
          | (refine ArrAt.store rfl rfl (.tmp 3) (.tmp 8) rfl w1.heap.size _ _ rfl rfl HA.out w.heap.size w (Hb.out.alloc Hb.out.size _) Hb.out.size ?_; intro w2 H2 Hb2 _)
          | (refine ArrAt.load rfl (.tmp 3) rfl w1.heap.size _ rfl H2.out ?_))
        refine (Hroom.out _).mono ?_
        rintro en w3 ⟨rfl, hb⟩
        have Hb3 := Lib.hid (Hb2.out.trans (hb.mono Hb2.out.size))
        clear hb
        go_wp2_with fail
        go_ret
        exact ⟨rfl, Hb3.out⟩
  · have hre : e = r := by rw [← He.out, checkZ_refused (by rw [hr]; exact h0), hr]
    have h0z : (r != 0) = true := by simpa using h0
    subst hre
    clear hr h0 He
    go_enter Try.func12, Try.ntmps12
    go_wp2_with fail
    refine Hc.out.mono ?_
    rintro en w1 ⟨rfl, hb⟩
    have Hb := Lib.hid hb
    clear hb
    have HA : Hid (ArrAt (w1.alloc (.cells (arr16 fun _ => 0) 57)) w1.heap.size fun _ => 0) := Lib.hid (heap_alloc_new w1 _)
    rw [arr16_zero] at HA
    obtain ⟨f, hf⟩ : ∃ f, (if e = 0 then cntN (natsOf ls) else fun _ => 0) = f := ⟨_, rfl⟩
    rw [hf]
    clear hf
    go_wp2_with (with_reducible first
      | (refine ArrAt.store rfl rfl (.tmp 3) (.tmp 8) rfl w1.heap.size _ _ rfl rfl HA.out w.heap.size w (Hb.out.alloc Hb.out.size _) Hb.out.size ?_; intro w2 H2 Hb2 _))
    go_ret
    exact ⟨rfl, Hb2.out⟩

set_option maxHeartbeats 1000000 in
theorem cCodes_bad (p : Option Addr) (cap : Nat) (ls : List Int) (w : World) (hz : ls.length ≤ 1000) (_hi : Ints ls) (hp : Nums w p ls) {e : Int} (he : refusedZ ls = e) (hne : e ≠ 0) :
    Calls Try.prog 9 #[.slice p ls.length cap] w fun en w' => (∃ a c, en = .returned (.tuple #[.slice a 0 c, .int .i64 e])) ∧ Below w.heap.size w w' := by
  have Hc := Lib.hid (count_any p cap ls w hz hp)
  rw [he] at Hc
  have h0z : (e != 0) = true := by simpa using hne
  clear he hp hne
  go_enter Try.func9, Try.ntmps9
  go_wp2_with fail
  refine Hc.out.mono ?_
  rintro en w1 ⟨rfl, hb⟩
  have Hb := Lib.hid hb
  clear hb
  have HA : Hid (ArrAt (w1.alloc (.cells (arr16 fun _ => 0) 57)) w1.heap.size fun _ => 0) := Lib.hid (heap_alloc_new w1 _)
  rw [arr16_zero] at HA
  obtain ⟨f, hf⟩ : ∃ f, (if e = 0 then cntN (natsOf ls) else fun _ => 0) = f := ⟨_, rfl⟩
  rw [hf]
  clear hf
  go_wp2_with (with_reducible first
    | (refine ArrAt.store rfl rfl (.tmp 4) (.tmp 9) rfl w1.heap.size _ _ rfl rfl HA.out w.heap.size w (Hb.out.alloc Hb.out.size _) Hb.out.size ?_; intro w2 H2 Hb2 _))
  go_ret2
  exact ⟨⟨_, _, rfl⟩, Hb2.out⟩

set_option maxHeartbeats 1000000 in
theorem cCodes_good (p : Option Addr) (cap n : Nat) (ls : List Int) (w : World) (hn : n = ls.length) (hp : Nums w p ls) (he : refusedZ ls = 0) {cs : List Nat} (hc : codesN (natsOf ls) = cs) :
    Calls Try.prog 9 #[.slice p n cap] w fun en w' => ∃ a c, en = .returned (.tuple #[.slice a cs.length c, .int .i64 0]) ∧ Nums w' a (asZ cs) ∧ Below w.heap.size w w' := by
  subst hn
  obtain ⟨hl, hall, hk⟩ := refusedZ_zero he
  have Hc := Lib.hid (count_any p cap ls w (by omega) hp)
  rw [he] at Hc
  have Hn : Hid ((natsOf ls).length ≤ 320) := Lib.hid (by rw [natsOf_length]; exact hl)
  have Hst := Lib.hid (fun W => starts_any (natsOf ls) 2 W Hn.out (.inr rfl))
  have Hcl : Hid (cs.length = ls.length) := Lib.hid (by rw [← hc, codesN_length, natsOf_length])
  have Hd : Hid (dealN (natsOf ls) (startN (natsOf ls) 2) = cs) := Lib.hid (by rw [dealN_two, hc])
  have Hp := Lib.hid hp
  have Hall := Lib.hid hall
  have hcnt : ∀ en w', Counts w ls 0 en w' → en = .returned (.tuple #[.agg (arr16 (cntN (natsOf ls))), .int .i64 0]) ∧ Below w.heap.size w w' := fun en w' h => by
    have := h
    unfold Counts at this
    rwa [if_pos rfl] at this
  have Hcnt := Lib.hid hcnt
  clear hall hk he hc hp hcnt
  go_enter Try.func9, Try.ntmps9
  go_wp2_with fail
  refine Hc.out.mono ?_
  intro en w1 hcn
  obtain ⟨rfl, hb⟩ := Hcnt.out _ _ hcn
  have Hb := Lib.hid hb
  clear hb hcn
  have HA : Hid (ArrAt (w1.alloc (.cells (arr16 fun _ => 0) 57)) w1.heap.size fun _ => 0) := Lib.hid (heap_alloc_new w1 _)
  rw [arr16_zero] at HA
  go_wp2_with (with_reducible first
    | (refine ArrAt.store rfl rfl (.tmp 4) (.tmp 9) rfl w1.heap.size _ _ rfl rfl HA.out w.heap.size w (Hb.out.alloc Hb.out.size _) Hb.out.size ?_; intro w2 H2 Hb2 _)
    | (refine ArrAt.load rfl (.tmp 4) rfl w1.heap.size _ rfl H2.out ?_))
  refine (Hst.out _).mono ?_
  rintro en w3 ⟨rfl, hb⟩
  have Hb3 := Lib.hid (Hb2.out.trans (hb.mono Hb2.out.size))
  clear hb
  go_wp2_with fail
  refine (deal_any p cap ls _ _ hl Hall.out (fun l hl => startN_bound Hn.out (.inr rfl) hl) (Hp.out.later Hb3.out)).mono ?_
  rintro en w4 ⟨a, rfl, hr, ha, hb⟩
  have Hb4 := Lib.hid (Hb3.out.trans (hb.mono Hb3.out.size))
  rw [Hd.out] at hr
  have Hr := Lib.hid hr
  clear hb hr ha
  go_wp2_with fail
  go_ret2
  exact ⟨some ⟨a, 0, none⟩, ls.length, by rw [Hcl.out]; rfl, Hr.out.nums, Hb4.out⟩

end Go.Proofs.Ytahanllbaclokaa
