/-
  The contract of a tree's Read.
-/
import Derived.Test.YtahanllbaclokaaCodeTree
import Derived.WalkMore
import Derived.Test.YtahanllbaclokaaCodeRef3
namespace Go.Proofs.Ytahanllbaclokaa
open Go.RowKit

theorem tRead_no_tree (b : Option Addr) (w : World) : Calls Try.prog 17 #[.pointer none, .pointer b] w fun en w' => en = .returned (.tuple #[.int .i64 0, .int .i64 1]) ∧ Below w.heap.size w w' := by
  go_enter Try.func17, Try.ntmps17
  go_wp2_with fail
  go_step3
  go_wp2_with fail
  rw [Exit.noGoto_ret]
  go_ret2
  exact ⟨rfl, below_same _⟩
theorem tRead_no_reader (t : Nat) (ls : List Int) (T : List Nat) (w : World) (_ht : TreeAt w t ls T) : Calls Try.prog 17 #[.pointer (some ⟨t, 0, none⟩), .pointer none] w fun en w' => en = .returned (.tuple #[.int .i64 0, .int .i64 1]) ∧ Below w.heap.size w w' := by
  go_enter Try.func17, Try.ntmps17
  go_wp2_with fail
  go_step3
  go_wp2_with fail
  rw [Exit.noGoto_ret]
  go_ret2
  exact ⟨rfl, below_same _⟩


theorem foldl_max {ls : List Int} {m : Int} (hm : 0 ≤ m ∧ m ≤ 15) (h : ∀ l ∈ ls, 0 ≤ l ∧ l ≤ 15) : 0 ≤ ls.foldl max m ∧ ls.foldl max m ≤ 15 := by
  induction ls generalizing m with
  | nil => exact hm
  | cons l ls ih =>
    have := h l (by simp)
    exact ih (by omega) fun x hx => h x (by simp [hx])
theorem longZ_nat {ls : List Int} (h : ∀ l ∈ ls, 0 ≤ l ∧ l ≤ 15) : ∃ L : Nat, longZ ls = (L : Int) ∧ L ≤ 15 := by
  have := foldl_max (m := 0) (by omega) h
  exact ⟨(longZ ls).toNat, by unfold longZ; omega, by unfold longZ; omega⟩
theorem drop_bit {l : List Nat} {k b : Nat} (h : l[k]? = some b) : l.drop k = b :: l.drop (k + 1) := by
  obtain ⟨h1, h2⟩ := List.getElem?_eq_some_iff.1 h
  rw [List.drop_eq_getElem_cons h1, h2]

set_option maxHeartbeats 2000000 in
theorem tRead_is (t : Nat) (ls : List Int) (T : List Nat) (b : Nat) (s : ByteArray) (pos : Nat) (F : List Nat) (w : World) (hr : refusedZ ls = 0) (ht : TreeAt w t ls T) (h : ReaderAt w b s pos F) (hp : pos ≤ 8 * s.size) (hs : s.size ≤ 10000) (hd : ∀ k ∈ T, k ∉ F) {L : Nat} (hL : longZ ls = (L : Int))
    {sy e : Int} {m : Nat} (he : readC ls (codesN (natsOf ls)) L 0 0 ((bitsOf s.data.toList).drop pos) = (sy, m, e)) :
    Calls Try.prog 17 #[.pointer (some ⟨t, 0, none⟩), .pointer (some ⟨b, 0, none⟩)] w fun en w' => en = .returned (.tuple #[.int .i64 sy, .int .i64 e]) ∧ ∃ F', ReaderAt w' b s (pos + m) F' ∧ Touches F F' w w' := by
  obtain ⟨hlen, hall, hkr⟩ := refusedZ_zero hr
  obtain ⟨vl, gt, ct, go, co, L', ords, rfl, hT, hO, hLo⟩ := ht
  obtain rfl : L' = L := by omega
  have hL15 : L' ≤ 15 := by
    obtain ⟨x, h1, h2⟩ := longZ_nat hall
    omega
  have Hall := Lib.hid hall
  have Hlen := Lib.hid hlen
  have Hkr := Lib.hid hkr
  have HO := Lib.hid hO
  have HT := Lib.hid hT
  have HR := Lib.hid h
  have HD := Lib.hid hd
  have HE := Lib.hid he
  clear hall hlen hkr hr hT hO hLo hL h hd he
  obtain ⟨bs, hbs⟩ : ∃ bs, bitsOf s.data.toList = bs := ⟨_, rfl⟩
  have hbl : bs.length = 8 * s.size := by rw [← hbs, bitsOf_length, size_data]
  have Hb2 : Hid (∀ x ∈ bs, x < 2) := Lib.hid (by rw [← hbs]; exact bitsOf_two _)
  rw [hbs] at HE
  have Hbs := Lib.hid hbs
  clear hbs
  go_enter Try.func17, Try.ntmps17
  go_wp2_with fail
  go_step3
  go_wp2_with fail
  go_step3
  go_wp2_with fail
  go_loopg [6, 7, 8] L' (fun g s6 s7 s8 wx => ∃ (n num ah code : Nat) (F' : List Nat), n + g = L' ∧ s8 = .int .i64 ((n : Int) + 1) ∧ s6 = .int .i64 (num : Int) ∧ s7 = .int .i64 (ah : Int) ∧ num ≤ 32768 ∧ ah ≤ 320 ∧ pos + n ≤ bs.length ∧
    Aside (code < 2 ^ n ∧ code = endC (natsOf ls) n + num ∧ ah = startN (natsOf ls) 1 (n + 1) ∧ (sy, m, e) = onC n (readC ls (codesN (natsOf ls)) g n code (bs.drop (pos + n)))) ∧
    Aside (ReaderAt wx b s (pos + n) F' ∧ Touches F F' w wx ∧ TreeIs wx t ls vl gt ct go co L' ords ∧ ∀ k ∈ treeF t gt go vl, k ∉ F'))
  case atStart =>
    refine ⟨0, 0, 0, 0, F, by omega, rfl, rfl, rfl, by omega, by omega, by omega, ⟨by decide, rfl, rfl, ?_⟩, HR.out, Touches.refl _ _, HT.out, HD.out⟩
    rw [onC_zero]; exact HE.out.symm
  case round =>
    obtain ⟨n, num, ah, code, F', hng, rfl, rfl, rfl, hnum, hah, hpn, HC, HW⟩ := hrel
    have c18 := HW.out.2.2.1.1.longest
    cases gk with
    | zero =>
      have hnz : ¬ (n : Int) + 1 ≤ (L' : Int) := by omega
      have Hr : Hid ((sy, m, e) = (0, n, 4)) := Lib.hid (by rw [HC.out.2.2.2, readC_end]; unfold onC; simp)
      go_wp2_with fail
      go_ret2
      obtain ⟨rfl, hr2⟩ := Prod.mk.inj Hr.out
      obtain ⟨rfl, rfl⟩ := Prod.mk.inj hr2
      exact ⟨rfl, F', HW.out.1, HW.out.2.1⟩
    | succ g =>
      have hnz : (n : Int) + 1 ≤ (L' : Int) := by omega
      have hget : ∀ (b' : Int) (to : Nat) (e' : Int), getB s.data.toList (pos + n) 1 = (b', to, e') → Calls Try.prog 32 #[.pointer (some ⟨b, 0, none⟩), .int .i64 1] wr fun en w' => en = .returned (.tuple #[.int .i64 b', .int .i64 e']) ∧ ∃ F', ReaderAt w' b s to F' ∧ Touches _ F' wr w' := fun b' to e' hg =>
        rGet_is b s (pos + n) F' 1 wr HW.out.1 (by omega) (by omega) (by omega) (by omega) hg
      by_cases hend : pos + n < bs.length
      · obtain ⟨x, hx⟩ : ∃ x, bs[pos + n]? = some x := ⟨_, List.getElem?_eq_getElem hend⟩
        have hx2 : x < 2 := Hb2.out x (List.mem_of_getElem? hx)
        have hdrop := drop_bit hx
        have hg1 : getB s.data.toList (pos + n) 1 = ((x : Int), pos + n + 1, 0) := by
          have := getB_ok (l := s.data.toList) (pos := pos + n) (v := 1) (by omega) (by rw [← size_data]; omega)
          rw [Hbs.out, hdrop] at this
          simpa [numB] using this
        have Hg := Lib.hid (hget _ _ _ hg1)
        clear hget hg1
        obtain ⟨c, hc⟩ : ∃ c, (natsOf ls).count (n + 1) = c := ⟨_, rfl⟩
        have hcl : c ≤ 320 := by
          have := List.count_le_length (a := n + 1) (l := natsOf ls)
          rw [natsOf_length] at this
          have := Hlen.out
          omega
        have hcnt : cntN (natsOf ls) (n + 1) = c := by unfold cntN; rw [if_neg (by omega), hc]
        have hcode : 2 * code + x = 2 * endC (natsOf ls) n + (2 * num + x) := by have := HC.out.2.1; omega
        have hxz : 2 * (num : Int) + (x : Int) = ((2 * num + x : Nat) : Int) := by omega
        obtain ⟨num', hnum'⟩ : ∃ num', 2 * num + x = num' := ⟨_, rfl⟩
        obtain ⟨code', hcode'⟩ : ∃ code', 2 * code + x = code' := ⟨_, rfl⟩
        rw [hnum'] at hxz hcode
        rw [hcode'] at hcode
        have hnum4 : num' ≤ 65537 := by omega
        have q1 : ((n : Int) + 1).toNat = n + 1 := by omega
        have q2 : (n : Int) + 1 < 16 := by omega
        by_cases hit : num' < c
        · have hitz : ¬ (c : Int) ≤ (num' : Int) := by omega
          obtain ⟨i, hf, ho⟩ := read_hit Hall.out hcode (by rw [hc]; exact hit) HO.out
          rw [← HC.out.2.2.1] at ho
          have hlen2 : ah + num' < ls.length := by
            have := (List.getElem?_eq_some_iff.1 ho).1
            rw [HO.out.1, natsOf_length] at this; exact this
          have Hr : Hid ((sy, m, e) = ((i : Int), n + 1, 0)) := Lib.hid (by
            rw [HC.out.2.2.2, hdrop, readC_hit (by rw [hcode', hf]; omega), hcode', hf]
            unfold onC
            simp; omega)
          have Ho := Lib.hid ho
          have q3 : ((ah : Int) + (num' : Int)).toNat = ah + num' := by omega
          have q4 : (ah : Int) + (num' : Int) < (ls.length : Int) := by omega
          clear hcode hcode' hnum' hc hdrop hx hf ho
          go_wp2_with fail
          refine Hg.out.mono ?_
          rintro en w1 ⟨rfl, F1, hr, ht⟩
          have HW1 : Hid (ReaderAt w1 b s (pos + n + 1) F1 ∧ Touches F F1 w w1 ∧ TreeIs w1 t ls vl gt ct go co L' ords) := Lib.hid
            ⟨hr, HW.out.2.1.trans ht, HW.out.2.2.1.move fun k hk => (ht.out (HW.out.2.2.1.lt k hk) (HW.out.2.2.2 k hk)).1⟩
          clear hr ht
          have k1 := HW1.out.2.2.1.count (i := n + 1) (by omega)
          rw [hcnt] at k1
          have k2 := HW1.out.2.2.1.ordered
          have k3 := HW1.out.2.2.2.2.2.cell Ho.out
          clear hcnt c18
          go_wp2_with fail
          rw [Exit.noGoto_ret]
          go_ret2
          obtain ⟨rfl, hr2⟩ := Prod.mk.inj Hr.out
          obtain ⟨rfl, rfl⟩ := Prod.mk.inj hr2
          exact ⟨rfl, F1, HW1.out.1, HW1.out.2.1⟩
        · have hitz : (c : Int) ≤ (num' : Int) := by omega
          have hmiss := read_miss (ls := ls) hcode (by rw [hc]; omega)
          have hend2 : endC (natsOf ls) (n + 1) = 2 * endC (natsOf ls) n + c := by rw [endC, hc]
          have hst2 : startN (natsOf ls) 1 (n + 1 + 1) = ah + c := by rw [startN_more, hc, HC.out.2.2.1]
          have hah2 : ah + c ≤ 320 := by
            have := startN_le (natsOf ls) (n + 1 + 1)
            rw [hst2, natsOf_length] at this
            have := Hlen.out; omega
          have hcl2 : code' < 2 ^ (n + 1) := by have := HC.out.1; rw [Nat.pow_succ]; omega
          have hp15 : (2 : Nat) ^ (n + 1) ≤ 2 ^ 15 := Nat.pow_le_pow_right (by omega) (by omega)
          have hnum5 : num' - c ≤ 32768 := by omega
          have hsub : (num' : Int) - (c : Int) = ((num' - c : Nat) : Int) := by omega
          have HC2 : Hid (code' < 2 ^ (n + 1) ∧ code' = endC (natsOf ls) (n + 1) + (num' - c) ∧ ah + c = startN (natsOf ls) 1 (n + 1 + 1) ∧ (sy, m, e) = onC (n + 1) (readC ls (codesN (natsOf ls)) g (n + 1) code' (bs.drop (pos + (n + 1))))) := Lib.hid
            ⟨hcl2, by omega, hst2.symm, by rw [HC.out.2.2.2, hdrop, readC_miss (by rw [hcode', hmiss]; omega), onC_onC, hcode']; rfl⟩
          have hcc : pos + (n + 1) ≤ bs.length := by omega
          clear hcode hcode' hnum' hc hdrop hx hmiss hend2 hst2 hcl2 hp15
          obtain ⟨num2, hn2⟩ : ∃ num2, num' - c = num2 := ⟨_, rfl⟩
          rw [hn2] at hsub hnum5 HC2
          clear hn2
          go_wp2_with fail
          refine Hg.out.mono ?_
          rintro en w1 ⟨rfl, F1, hr, ht⟩
          have HW1 : Hid (ReaderAt w1 b s (pos + n + 1) F1 ∧ Touches F F1 w w1 ∧ TreeIs w1 t ls vl gt ct go co L' ords ∧ ∀ k ∈ treeF t gt go vl, k ∉ F1) := Lib.hid
            ⟨hr, HW.out.2.1.trans ht, HW.out.2.2.1.move fun k hk => (ht.out (HW.out.2.2.1.lt k hk) (HW.out.2.2.2 k hk)).1, fun k hk => (ht.out (HW.out.2.2.1.lt k hk) (HW.out.2.2.2 k hk)).2⟩
          clear hr ht
          have k1 := HW1.out.2.2.1.1.count (i := n + 1) (by omega)
          rw [hcnt] at k1
          clear hcnt c18
          go_wp2_with fail
          go_roundg g
          case measure => omega
          case rel => exact ⟨n + 1, num2, ah + c, code', F1, by omega, by go_num, by go_num, by go_num, hnum5, hah2, hcc, HC2.out, HW1.out⟩
      · have hend0 : bs.drop (pos + n) = [] := List.drop_of_length_le (by omega)
        have hg1 : getB s.data.toList (pos + n) 1 = (0, pos + n, 5) := getB_short (v := 1) (by omega) (by rw [← size_data]; omega)
        have Hg := Lib.hid (hget _ _ _ hg1)
        have Hr : Hid ((sy, m, e) = (0, n, 5)) := Lib.hid (by rw [HC.out.2.2.2, hend0, readC_short]; unfold onC; simp)
        clear hget hg1 hend0
        go_wp2_with fail
        refine Hg.out.mono ?_
        rintro en w1 ⟨rfl, F1, hr, ht⟩
        have HW1 : Hid (ReaderAt w1 b s (pos + n) F1 ∧ Touches F F1 w w1) := Lib.hid ⟨hr, HW.out.2.1.trans ht⟩
        clear hr ht
        go_wp2_with fail
        rw [Exit.noGoto_ret]
        go_ret2
        obtain ⟨rfl, hr2⟩ := Prod.mk.inj Hr.out
        obtain ⟨rfl, rfl⟩ := Prod.mk.inj hr2
        exact ⟨rfl, F1, HW1.out⟩

end Go.Proofs.Ytahanllbaclokaa
