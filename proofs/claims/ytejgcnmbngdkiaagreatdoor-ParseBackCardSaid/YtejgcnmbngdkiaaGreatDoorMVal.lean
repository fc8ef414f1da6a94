/-
  WrCtx, WrHold, WrVal: texts merged.
-/
import Derived.Test.YtejgcnmbngdkiaaGreatDoorMNm
import Derived.Test.YtejgcnmbngdkiaaGreatDoorWrSigns
import Derived.Test.YtejgcnmbngdkiaaGreatDoorNMem
import Derived.Test.YtejgcnmbngdkiaaGreatDoorNVal
/-
  A line beside values in memory: what stays while the line is written; what putValue and putHolder tell.
-/
namespace Go.Proofs.YtejgcnmbngdkiaaGreatDoor
section
open Go.RowKit
set_option maxRecDepth 100000

/-- A line whose blocks are none of S, nor lie in the world at the beginning. -/
def LnS (w0 : World) (b : Nat) (S : Nat → Prop) (u : Value) (l : List UInt8) (w : World) : Prop :=
  LnT b u l w ∧ (∀ k ∈ foot b u, w0.heap.size ≤ k) ∧ Below w0.heap.size w0 w ∧ ∀ k, S k → k < w.heap.size ∧ k ∉ foot b u
section
variable {w0 w w' : World} {b : Nat} {S S' : Nat → Prop} {u u' : Value} {l l' : List UInt8}
theorem LnS.later (h : LnS w0 b S u l w) (hb : Below w.heap.size w w') : LnS w0 b S u l w' :=
  ⟨h.1.later hb, h.2.1, h.2.2.1.trans (hb.mono h.2.2.1.size), fun k hk => ⟨Nat.lt_of_lt_of_le (h.2.2.2 k hk).1 hb.size, (h.2.2.2 k hk).2⟩⟩
theorem LnS.step (h : LnS w0 b S u l w) (h' : LnT b u' l' w') (t : Touches (foot b u) (foot b u') w w') : LnS w0 b S u' l' w' :=
  ⟨h', t.more h.2.2.1.size h.2.1, h.2.2.1.trans (t.below h.2.2.1.size h.2.1), fun k hk => ⟨Nat.lt_of_lt_of_le (h.2.2.2 k hk).1 t.size, (t.out (h.2.2.2 k hk).1 (h.2.2.2 k hk).2).2⟩⟩
theorem LnS.keep (h : LnS w0 b S u l w) {F : List Nat} (t : Touches (foot b u) F w w') : ∀ k, S k → w'.heap[k]? = w.heap[k]? := fun k hk => (t.out (h.2.2.2 k hk).1 (h.2.2.2 k hk).2).1
theorem LnS.less (h : LnS w0 b S u l w) (hS : ∀ k, S' k → S k) : LnS w0 b S' u l w := ⟨h.1, h.2.1, h.2.2.1, fun k hk => h.2.2.2 k (hS k hk)⟩
/-- A box that was made behind it. -/
theorem LnS.box (h : LnS w0 b S u l w) (hb : Below w.heap.size w w') {q : Nat} (hq : w.heap.size ≤ q) (hq' : q < w'.heap.size) : LnS w0 b (fun k => S k ∨ k = q) u l w' :=
  ⟨h.1.later hb, h.2.1, h.2.2.1.trans (hb.mono h.2.2.1.size), fun k hk => by
    rcases hk with hk | rfl
    · exact ⟨Nat.lt_of_lt_of_le (h.2.2.2 k hk).1 hb.size, (h.2.2.2 k hk).2⟩
    · exact ⟨hq', foot_new h.1 hq⟩⟩
theorem LnS.put (h : LnS w0 b S u l w) (ps : List ByteArray) (n : Nat) (hn : ps.length = n) (hlen : l.length + (flatT ps).length ≤ 1000000000) (hn2 : n ≤ 1000) (c : Nat) :
    Calls Tryz.prog 25 #[.pointer (some ⟨b, 0, none⟩), .slice (some ⟨w.heap.size, 0, none⟩) n c] (w.alloc (.cells (ps.map Value.string).toArray 9)) fun e w' => e = .returned (.tuple #[]) ∧ ∃ u', LnS w0 b S u' (l ++ flatT ps) w' ∧ Touches (foot b u) (foot b u') w w' := by
  refine (putN_is b u l ps n w h.1 hn (by omega) hn2 c).mono ?_
  rintro e w' ⟨he, u', h1, h2⟩
  exact ⟨he, u', h.step h1 h2, h2⟩
theorem LnS.put1 (h : LnS w0 b S u l w) (x : ByteArray) (hlen : l.length + x.size ≤ 1000000000) :
    Calls Tryz.prog 25 #[.pointer (some ⟨b, 0, none⟩), .slice (some ⟨w.heap.size, 0, none⟩) 1 1] (w.alloc (.cells #[.string x] 9)) fun e w' => e = .returned (.tuple #[]) ∧ ∃ u', LnS w0 b S u' (l ++ x.data.toList) w' ∧ Touches (foot b u) (foot b u') w w' := by
  have := h.put [x] 1 rfl (by simp [flatT]; omega) (by omega) 1
  simpa [flatT] using this
theorem LnS.put3 (h : LnS w0 b S u l w) (x y z : ByteArray) (hlen : l.length + x.size + y.size + z.size ≤ 1000000000) :
    Calls Tryz.prog 25 #[.pointer (some ⟨b, 0, none⟩), .slice (some ⟨w.heap.size, 0, none⟩) 3 3] (w.alloc (.cells #[.string x, .string y, .string z] 9)) fun e w' => e = .returned (.tuple #[]) ∧ ∃ u', LnS w0 b S u' (l ++ (x.data.toList ++ (y.data.toList ++ z.data.toList))) w' ∧ Touches (foot b u) (foot b u') w w' := by
  have := h.put [x, y, z] 3 rfl (by simp [flatT]; omega) (by omega) 3
  simpa [flatT] using this
theorem LnS.put4 (h : LnS w0 b S u l w) (x y z v : ByteArray) (hlen : l.length + x.size + y.size + z.size + v.size ≤ 1000000000) :
    Calls Tryz.prog 25 #[.pointer (some ⟨b, 0, none⟩), .slice (some ⟨w.heap.size, 0, none⟩) 4 4] (w.alloc (.cells #[.string x, .string y, .string z, .string v] 9)) fun e w' => e = .returned (.tuple #[]) ∧ ∃ u', LnS w0 b S u' (l ++ (x.data.toList ++ (y.data.toList ++ (z.data.toList ++ v.data.toList)))) w' ∧ Touches (foot b u) (foot b u') w w' := by
  have := h.put [x, y, z, v] 4 rfl (by simp [flatT]; omega) (by omega) 4
  simpa [flatT] using this
end
theorem rd_keep {w w' : World} {S S' : Nat → Prop} {x : Hv} {v : Val} (h : Rd w S x v) (hk : ∀ k, S' k → w'.heap[k]? = w.heap[k]?) (hS : ∀ k, S k → S' k) : Rd w' S x v := h.later fun k h => hk k (hS k h)

/-- What putValue tells of a value; putHolder. -/
def PutC (f : FuncId) (v : Val) : Prop := ∀ (x : Hv) (w0 : World) (b : Nat) (S : Nat → Prop) (u : Value) (l : List UInt8) (w : World), LnS w0 b S u l w → Laid w0 → Rd w S x v → OkV v → Fit v 4000 → l.length + (textV v).length ≤ 1000000000 →
  Calls Tryz.prog f #[.pointer (some ⟨b, 0, none⟩), .agg x.arr] w fun e w' => e = .returned (.tuple #[]) ∧ ∃ u', LnS w0 b S u' (l ++ textV v) w' ∧ Touches (foot b u) (foot b u') w w'
end
end Go.Proofs.YtejgcnmbngdkiaaGreatDoor
/-
  putHolder.
-/
namespace Go.Proofs.YtejgcnmbngdkiaaGreatDoor
section
open Go.RowKit
set_option maxRecDepth 100000

theorem gapW_size (i : Nat) {g : ByteArray} (h : bytes (gapW i) = g) : g.data.toList = gapW i ∧ g.size ≤ 1 := by
  have : g.data.toList = gapW i := by rw [← h, bytes_data]
  exact ⟨this, by rw [size_data, this]; exact gapW_length i⟩

set_option maxHeartbeats 8000000 in
theorem hold_of (v : Val) (ihl : ∀ x ∈ v.l, PutC 16 x) (ihd : ∀ p ∈ v.d, PutC 16 p.2) (hk : v.kind = 5 ∨ v.kind = 6) : PutC 30 v := by
  intro x w0 b S u l w hL hlaid hR hok hfit hlen
  obtain ⟨⟨hxk, hxn, hxg, hxs⟩, hRL, hRD⟩ := rd_iff.1 hR
  obtain ⟨hll, hlm⟩ := hRL.len_le
  obtain ⟨hdl, hdm⟩ := hRD.len_le
  obtain ⟨xk, xn, xg, xs, ⟨lp, ll, lc⟩, ⟨dp, dl, dc⟩⟩ := x
  dsimp only at hxk hxn hxg hxs hll hdl hlm hdm hRL hRD
  have hText : textV v = openW v.kind ++ (elemsW 0 v.l ++ (prsW 0 v.d ++ closeW v.kind)) := by
    rw [textV_eq, if_neg (by omega), if_neg (by omega), if_neg (by omega), if_neg (by omega), if_neg (by omega), if_neg (by omega)]
  rw [hText] at hlen ⊢
  rw [← hxk] at hk hlen ⊢
  obtain ⟨o, ho⟩ : ∃ o, bytes (openW xk) = o := ⟨_, rfl⟩
  obtain ⟨c, hc⟩ : ∃ c, bytes (closeW xk) = c := ⟨_, rfl⟩
  have hod : openW xk = o.data.toList := by rw [← ho, bytes_data]
  have hcd : closeW xk = c.data.toList := by rw [← hc, bytes_data]
  rw [hod, hcd] at hlen ⊢
  have hsg := fun W (hb : Below w0.heap.size w0 W) => signs_is xk W (hlaid.later hb) hk
  rw [ho, hc] at hsg
  obtain ⟨w1, hw1⟩ : ∃ w1, w.alloc (.cells #[.int .i64 xk, .int .i64 xn, .int .i64 xg, .string xs, .slice lp ll lc, .slice dp dl dc] 25) = w1 := ⟨_, rfl⟩
  have hb1 : Below w.heap.size w w1 := by rw [← hw1]; exact (Below.refl _ w).alloc (Nat.le_refl _) _
  have hv1 : VCell w1 w.heap.size ⟨xk, xn, xg, xs, ⟨lp, ll, lc⟩, ⟨dp, dl, dc⟩⟩ := by rw [← hw1]; exact heap_alloc_new w _
  have hz1 : w.heap.size < w1.heap.size := by rw [← hw1]; simp
  have hL1 := hL.box hb1 (Nat.le_refl _) hz1
  have hc0 : w1.cell? ⟨w.heap.size, 0, none⟩ = some (.int .i64 xk) := hv1.at.1
  have Hsg := Lib.hid (hsg w1 hL1.2.2.1)
  have Hw1 := Lib.hid hw1
  show Calls Tryz.prog 30 #[.pointer (some ⟨b, 0, none⟩), .agg #[.int .i64 xk, .int .i64 xn, .int .i64 xg, .string xs, .slice lp ll lc, .slice dp dl dc]] w _
  have hSlt : ∀ k, S k → k < w.heap.size := fun k hk => (hL.2.2.2 k hk).1
  have HSlt := Lib.hid hSlt
  have Hlaid := Lib.hid hlaid
  have HRL := Lib.hid hRL
  have HRD := Lib.hid hRD
  have Hok := Lib.hid hok
  have Hfit := Lib.hid hfit
  have Hlen : Hid (l.length + o.size + (elemsW 0 v.l).length + (prsW 0 v.d).length + c.size ≤ 1000000000) := Lib.hid (by
    rw [List.length_append, List.length_append, List.length_append, ← size_data, ← size_data] at hlen
    omega)
  have HL1 := Lib.hid hL1
  have Hv1 := Lib.hid hv1
  have Hb1 := Lib.hid hb1
  have Hihl := Lib.hid ihl
  have Hihd := Lib.hid ihd
  have Hll := Lib.hid hll
  have Hdl := Lib.hid hdl
  have hlm2 : ll ≤ 4000 := by have h1 := sizeL_length v.l; have h2 := hfit.1; rw [sizeV_eq] at h2; omega
  have hdm2 : dl ≤ 4000 := by have h1 := sizeD_length v.d; have h2 := hfit.1; rw [sizeV_eq] at h2; omega
  clear hText hsg hRL hRD hlaid hok hfit hlen hL hL1 hv1 hb1 ihl ihd hll hdl hod hcd hk hxn hxg hxs hxk hR ho hc hw1 hlm hdm hSlt
  go_enter Tryz.func30, Tryz.ntmps30
  iterate 16 go_step
  rw [Hw1.out]
  go_wp2_with (go_at_call 50; refine Hsg.out.mono ?_; rintro e w2 ⟨rfl, h2⟩; have Hb2 := Lib.hid h2; clear h2)
  obtain ⟨w3, hw3⟩ : ∃ w3, w2.alloc (.cells #[.int .i64 xk, .string o, .string c] 87) = w3 := ⟨_, rfl⟩
  have hb3 : Below w2.heap.size w2 w3 := by rw [← hw3]; exact (Below.refl _ w2).alloc (Nat.le_refl _) _
  have hs3 : w3.heap.size = w2.heap.size + 1 := by rw [← hw3]; simp
  have hg3 : w3.heap[w2.heap.size]? = some (.cells #[.int .i64 xk, .string o, .string c] 87 (0, 0)) := by rw [← hw3]; exact heap_alloc_new w2 _
  have hL3 := (HL1.out.later Hb2.out).box hb3 (Nat.le_refl _) (by omega)
  have Hp := Lib.hid (hL3.put1 o (by have := Hlen.out; omega))
  rw [hs3] at Hp
  have hbw3 : Below w.heap.size w w3 := Hb1.out.trans ((Hb2.out.trans (hb3.mono Hb2.out.size)).mono Hb1.out.size)
  have hv3 : VCell w3 w.heap.size ⟨xk, xn, xg, xs, ⟨lp, ll, lc⟩, ⟨dp, dl, dc⟩⟩ := (Hv1.out.later Hb2.out hz1).later hb3 (Nat.lt_of_lt_of_le hz1 Hb2.out.size)
  rw [hw3]
  clear hw3
  refine Hp.out.mono ?_
  rintro e w4 ⟨rfl, u4, h4, t4⟩
  have hkp4 := hL3.keep t4
  have HV4 : Hid (VCell w4 w.heap.size ⟨xk, xn, xg, xs, ⟨lp, ll, lc⟩, ⟨dp, dl, dc⟩⟩) := Lib.hid (hv3.same (hkp4 _ (.inl (.inr rfl))))
  have HG4 : Hid (w4.heap[w2.heap.size]? = some (.cells #[.int .i64 xk, .string o, .string c] 87 (0, 0))) := Lib.hid ((hkp4 _ (.inr rfl)).trans hg3)
  have HRL4 := Lib.hid (HRL.out.later (fun k hk => (hkp4 k (.inl (.inl hk))).trans (hbw3.block k (HSlt.out k hk))))
  have HRD4 := Lib.hid (HRD.out.later (fun k hk => (hkp4 k (.inl (.inl hk))).trans (hbw3.block k (HSlt.out k hk))))
  have HT4 : Hid (Touches (foot b u) (foot b u4) w w4) := Lib.hid ((Touches.of_below hbw3).trans t4)
  have HL4 := Lib.hid h4
  obtain ⟨S2, hS2⟩ : ∃ S2 : Nat → Prop, (fun k => (S k ∨ k = w.heap.size) ∨ k = w2.heap.size) = S2 := ⟨_, rfl⟩
  rw [hS2] at HL4
  have HS2a : Hid (∀ k, S k → S2 k) := Lib.hid (fun k hk => by rw [← hS2]; exact .inl (.inl hk))
  have HS2b : Hid (S2 w.heap.size ∧ S2 w2.heap.size) := Lib.hid (by rw [← hS2]; exact ⟨.inl (.inr rfl), .inr rfl⟩)
  have hc4 : w4.cell? ⟨w.heap.size, 4, none⟩ = some (.slice lp ll lc) := HV4.out.at.2.2.2.2.1
  have HLo : Aside (LnS w0 b S2 u4 (l ++ o.data.toList ++ []) w4) := by show LnS _ _ _ _ _ _; rw [List.append_nil]; exact HL4.out
  clear hkp4 h4 t4 hL3 hv3 hg3 hbw3 hb3 hs3 Hp hS2 HL4 Hv1 HL1 Hsg Hw1 Hb1 HRL HRD hc0 hz1 Hb2
  go_wp2_with fail
  clear hc4
  go_loopg [20] ll (fun f s20 wr => ∃ (i : Nat) (u' : Value) (p : List UInt8), s20 = .int .i64 i ∧ i ≤ ll ∧ ll ≤ f + i ∧ Aside (p ++ elemsW i (v.l.drop i) = elemsW 0 v.l) ∧ Aside (LnS w0 b S2 u' (l ++ o.data.toList ++ p) wr) ∧ Aside (Touches (foot b u4) (foot b u') w4 wr) ∧ Aside (∀ k, S2 k → wr.heap[k]? = w4.heap[k]?))
  case atStart => exact ⟨0, u4, [], rfl, Nat.zero_le _, Nat.le_refl _, rfl, HLo, Touches.refl _ _, fun _ _ => rfl⟩
  case round =>
    obtain ⟨i, u', p, rfl, hi, hf, HI, HL, HT, HK⟩ := hrel
    have c5 : wr.cell? ⟨w.heap.size, 5, none⟩ = some (.slice dp dl dc) := (cell_of_block (HK.out _ HS2b.out.1) 5).trans HV4.out.at.2.2.2.2.2
    by_cases hil : i < ll
    · obtain ⟨lb, lo, ⟨yk, yn, yg, ys, ⟨ylp, yll, ylc⟩, ⟨ydp, ydl, ydc⟩⟩, hiv, h3, h4, h5, h6⟩ := (HRL4.out.later (fun k hk => HK.out k (HS2a.out k hk))).at hil
      subst h3
      obtain ⟨e0, e1, e2, e3, e4, e5⟩ := h5
      dsimp only at e0 e1 e2 e3 e4 e5
      have hst : elemsW i (v.l.drop i) = gapW i ++ (textV v.l[i] ++ elemsW (i + 1) (v.l.drop (i + 1))) := by rw [drop_cons hiv, elemsW]
      have hq := Hihl.out _ (List.getElem_mem hiv)
      have hoq := Hok.out.l (List.getElem_mem hiv)
      have hfq := Hfit.out.l (List.getElem_mem hiv)
      obtain ⟨q, hqe⟩ : ∃ q, v.l[i] = q := ⟨_, rfl⟩
      rw [hqe] at hst hq hoq hfq h6
      obtain ⟨g, hg⟩ : ∃ g, bytes (gapW i) = g := ⟨_, rfl⟩
      obtain ⟨hgd, hgz⟩ := gapW_size i hg
      have hln : p.length + g.size + (textV q).length ≤ (elemsW 0 v.l).length := by
        have h1 := HI.out
        rw [hst] at h1
        rw [← h1, List.length_append, List.length_append, List.length_append, ← hgd, ← size_data]
        omega
      obtain ⟨w5, hw5⟩ : ∃ w5, wr.alloc (.cells #[.int .i64 yk, .int .i64 yn, .int .i64 yg, .string ys, .slice ylp yll ylc, .slice ydp ydl ydc] 25) = w5 := ⟨_, rfl⟩
      have hb5 : Below wr.heap.size wr w5 := by rw [← hw5]; exact (Below.refl _ wr).alloc (Nat.le_refl _) _
      have hz5 : wr.heap.size < w5.heap.size := by rw [← hw5]; simp
      have hv5 : VCell w5 wr.heap.size ⟨yk, yn, yg, ys, ⟨ylp, yll, ylc⟩, ⟨ydp, ydl, ydc⟩⟩ := by rw [← hw5]; exact heap_alloc_new wr _
      have hL5 := HL.out.box hb5 (Nat.le_refl _) hz5
      have hS2lt := fun k hk => (HL.out.2.2.2 k hk).1
      have hlp : (l ++ o.data.toList ++ p).length = l.length + o.size + p.length := by rw [List.length_append, List.length_append, ← size_data]
      have HPut := Lib.hid (hL5.put1 g (by rw [hlp]; have := Hlen.out; omega))
      have Hgap : Hid (∀ W, Calls Tryz.prog 51 #[.int .i64 (i : Int)] W fun e w' => e = .returned (.string g) ∧ W = w') := Lib.hid (fun W => by have := gap_is i W; rwa [hg] at this)
      have Hq := Lib.hid (fun (u6 : Value) (w6 : World) (h : LnS w0 b (fun k => S2 k ∨ k = wr.heap.size) u6 (l ++ o.data.toList ++ p ++ g.data.toList) w6) (hk : ∀ k, S2 k → w6.heap[k]? = wr.heap[k]?) =>
        hq ⟨yk, yn, yg, ys, ⟨ylp, yll, ylc⟩, ⟨ydp, ydl, ydc⟩⟩ w0 b _ u6 _ w6 h Hlaid.out ((h6.later (fun k hk2 => hk k (HS2a.out k hk2))).mono (fun k hk2 => .inl (HS2a.out k hk2))) hoq hfq (by rw [List.length_append, hlp, ← size_data]; have := Hlen.out; omega))
      have Hstep : Hid (elemsW i (v.l.drop i) = g.data.toList ++ (textV q ++ elemsW (i + 1) (v.l.drop (i + 1)))) := Lib.hid (by rw [hst, hgd])
      have HL5 := Lib.hid hL5
      have Hb5 := Lib.hid hb5
      have Hv5 := Lib.hid hv5
      have Hlt2 := Lib.hid hS2lt
      have Hw5 := Lib.hid hw5
      clear hst hq hoq hfq hqe hg hgd hgz hln hw5 hb5 hv5 hL5 hS2lt hlp h4 h6
      iterate 40 go_step
      rw [Hw5.out]
      go_wp2_with (first
        | (go_at_call 51; refine (Hgap.out _).mono ?_; rintro e w6 ⟨rfl, rfl⟩)
        | (go_at_call 25; refine HPut.out.mono ?_; rintro e w6 ⟨rfl, u6, h6, t6⟩; have HL6 := Lib.hid h6; have HT6 := Lib.hid t6; have HV6 : Hid (VCell w6 wr.heap.size ⟨yk, yn, yg, ys, ⟨ylp, yll, ylc⟩, ⟨ydp, ydl, ydc⟩⟩) := Lib.hid (Hv5.out.same (HL5.out.keep t6 _ (.inr rfl))); have HK6 : Hid (∀ k, S2 k → w6.heap[k]? = wr.heap[k]?) := Lib.hid (fun k hk => (HL5.out.keep t6 k (.inl hk)).trans (Hb5.out.block k (Hlt2.out k hk))); clear h6 t6)
        | (refine VCell.load rfl (.tmp 6) rfl wr.heap.size _ rfl HV6.out ?_)
        | (go_at_call 16; refine (Hq.out _ _ HL6.out HK6.out).mono ?_; rintro e w7 ⟨rfl, u7, h7, t7⟩; have HL7 := Lib.hid h7; have HT7 := Lib.hid t7; clear h7 t7))
      go_roundg (ll - (i + 1))
      case measure => omega
      case rel => exact ⟨i + 1, u7, p ++ (g.data.toList ++ textV q), by go_num, by omega, by omega, (show Aside _ from (by show _ = _; rw [← HI.out, Hstep.out]; simp only [List.append_assoc])), (show Aside _ from (by show LnS _ _ _ _ _ _; have := HL7.out.less (S' := S2) (fun k hk => .inl hk); simpa only [List.append_assoc] using this)), HT.out.trans ((Touches.of_below Hb5.out).trans (HT6.out.trans HT7.out)), fun k hk => ((HL6.out.keep HT7.out k (.inl hk)).trans (HK6.out k hk)).trans (HK.out k hk)⟩
    · have hp : p = elemsW 0 v.l := by rw [← HI.out, List.drop_eq_nil_of_le (by have := Hll.out; omega), elemsW, List.append_nil]
      subst hp
      have HLp : Aside (LnS w0 b S2 u' (l ++ o.data.toList ++ elemsW 0 v.l ++ []) wr) := by show LnS _ _ _ _ _ _; rw [List.append_nil]; exact HL.out
      clear HI HL HLo
      go_wp2_with fail
      clear c5
      go_loopg [37] dl (fun f s37 wq => ∃ (j : Nat) (u2 : Value) (r : List UInt8), s37 = .int .i64 j ∧ j ≤ dl ∧ dl ≤ f + j ∧ Aside (r ++ prsW j (v.d.drop j) = prsW 0 v.d) ∧ Aside (LnS w0 b S2 u2 (l ++ o.data.toList ++ elemsW 0 v.l ++ r) wq) ∧ Aside (Touches (foot b u4) (foot b u2) w4 wq) ∧ Aside (∀ k, S2 k → wq.heap[k]? = w4.heap[k]?))
      case atStart => exact ⟨0, u', [], rfl, Nat.zero_le _, Nat.le_refl _, rfl, HLp, HT, HK⟩
      case round =>
        clear HT HK HLp hil hi hf
        obtain ⟨j, u2, r, rfl, hj, hf, HI, HL, HT, HK⟩ := hrel
        by_cases hjl : j < dl
        · obtain ⟨lb, lo, ⟨kk, ⟨yk, yn, yg, ys, ⟨ylp, yll, ylc⟩, ⟨ydp, ydl, ydc⟩⟩⟩, hjv, h3, h4, ⟨e0, h5⟩, hky, h6⟩ := (HRD4.out.later (fun k hk => HK.out k (HS2a.out k hk))).at hjl
          subst h3
          obtain ⟨e1, e2, e3, e4, e5, e6⟩ := h5
          dsimp only at e0 e1 e2 e3 e4 e5 e6 h6 hky
          have hkz : kk.size ≤ 3000 := by rw [hky]; exact (Hfit.out.d (List.getElem_mem hjv)).2
          have hst : prsW j (v.d.drop j) = gapW j ++ (nameW kk.data.toList ++ (32 :: (textV (v.d[j]).2 ++ prsW (j + 1) (v.d.drop (j + 1))))) := by
            rw [drop_cons hjv, hky]
            generalize v.d[j] = pq
            obtain ⟨a, b'⟩ := pq
            rw [prsW]
          have hq := Hihd.out _ (List.getElem_mem hjv)
          have hoq := Hok.out.d (List.getElem_mem hjv)
          have hfq := (Hfit.out.d (List.getElem_mem hjv)).1
          obtain ⟨q, hqe⟩ : ∃ q, (v.d[j]).2 = q := ⟨_, rfl⟩
          rw [hqe] at hst hq hoq hfq h6
          obtain ⟨g, hg⟩ : ∃ g, bytes (gapW j) = g := ⟨_, rfl⟩
          obtain ⟨hgd, hgz⟩ := gapW_size j hg
          obtain ⟨nm, hnm⟩ : ∃ nm, bytes (nameW kk.data.toList) = nm := ⟨_, rfl⟩
          have hnd : nm.data.toList = nameW kk.data.toList := by rw [← hnm, bytes_data]
          have hln : r.length + g.size + nm.size + 1 + (textV q).length ≤ (prsW 0 v.d).length := by
            have h1 := HI.out
            rw [hst] at h1
            rw [← h1, List.length_append, List.length_append, List.length_append, List.length_cons, List.length_append, ← hgd, ← hnd, ← size_data, ← size_data]
            omega
          obtain ⟨w5, hw5⟩ : ∃ w5, wr.alloc (.cells #[.string kk, .int .i64 yk, .int .i64 yn, .int .i64 yg, .string ys, .slice ylp yll ylc, .slice ydp ydl ydc] 42) = w5 := ⟨_, rfl⟩
          have hb5 : Below wr.heap.size wr w5 := by rw [← hw5]; exact (Below.refl _ wr).alloc (Nat.le_refl _) _
          have hz5 : wr.heap.size < w5.heap.size := by rw [← hw5]; simp
          have hv5 : ∀ t, w5.cell? ⟨wr.heap.size, t, none⟩ = (#[.string kk, .int .i64 yk, .int .i64 yn, .int .i64 yg, .string ys, .slice ylp yll ylc, .slice ydp ydl ydc] : Array Value)[t]? := fun t => by rw [← hw5]; exact World.cell?_alloc_new _ _ _ _
          have hL5 := HL.out.box hb5 (Nat.le_refl _) hz5
          have hS2lt := fun k hk => (HL.out.2.2.2 k hk).1
          have hlp : (l ++ o.data.toList ++ elemsW 0 v.l ++ r).length = l.length + o.size + (elemsW 0 v.l).length + r.length := by rw [List.length_append, List.length_append, List.length_append, ← size_data]
          have h32 : (⟨#[32]⟩ : ByteArray).size = 1 := rfl
          have HPut := Lib.hid (fun W (hb : Below w5.heap.size w5 W) => ((hL5.later hb).put3 g nm ⟨#[32]⟩ (by rw [hlp, h32]; have := Hlen.out; omega)).mono (fun e w' (h : e = .returned (.tuple #[]) ∧ ∃ u', LnS w0 b (fun k => S2 k ∨ k = wr.heap.size) u' (l ++ o.data.toList ++ elemsW 0 v.l ++ r ++ (g.data.toList ++ (nm.data.toList ++ [32]))) w' ∧ Touches (foot b u2) (foot b u') W w') =>
            (⟨h.1, h.2.imp fun u' h => ⟨h.1, (Touches.of_below hb).trans h.2⟩⟩ : e = .returned (.tuple #[]) ∧ ∃ u', LnS w0 b (fun k => S2 k ∨ k = wr.heap.size) u' (l ++ o.data.toList ++ elemsW 0 v.l ++ r ++ (g.data.toList ++ (nm.data.toList ++ [32]))) w' ∧ Touches (foot b u2) (foot b u') w5 w')))
          have Hgap : Hid (∀ W, Calls Tryz.prog 51 #[.int .i64 (j : Int)] W fun e w' => e = .returned (.string g) ∧ W = w') := Lib.hid (fun W => by have := gap_is j W; rwa [hg] at this)
          have Hname : Hid (∀ W, Calls Tryz.prog 28 #[.string kk] W fun e w' => e = .returned (.string nm) ∧ Below W.heap.size W w') := Lib.hid (fun W => by have := name_is kk W (by omega); rwa [hnm] at this)
          have Hq := Lib.hid (fun (u6 : Value) (w6 : World) (h : LnS w0 b (fun k => S2 k ∨ k = wr.heap.size) u6 (l ++ o.data.toList ++ elemsW 0 v.l ++ r ++ (g.data.toList ++ (nm.data.toList ++ [32]))) w6) (hk : ∀ k, S2 k → w6.heap[k]? = wr.heap[k]?) =>
            hq ⟨yk, yn, yg, ys, ⟨ylp, yll, ylc⟩, ⟨ydp, ydl, ydc⟩⟩ w0 b _ u6 _ w6 h Hlaid.out ((h6.later (fun k hk2 => hk k (HS2a.out k hk2))).mono (fun k hk2 => .inl (HS2a.out k hk2))) hoq hfq (by
              rw [List.length_append, hlp, List.length_append, List.length_append, ← size_data, ← size_data]
              have := Hlen.out
              simp only [List.length_cons, List.length_nil]
              omega))
          have Hstep : Hid (prsW j (v.d.drop j) = g.data.toList ++ (nm.data.toList ++ (32 :: (textV q ++ prsW (j + 1) (v.d.drop (j + 1)))))) := Lib.hid (by rw [hst, hgd, hnd])
          have HL5 := Lib.hid hL5
          have Hb5 := Lib.hid hb5
          have Hv5 := Lib.hid hv5
          have Hlt2 := Lib.hid hS2lt
          have Hw5 := Lib.hid hw5
          have k0 : w5.cell? ⟨wr.heap.size, 0, none⟩ = some (.string kk) := hv5 0
          have Hk0 := Lib.hid (fun W (hb : Below w5.heap.size w5 W) => ((cell_of_block (hb.block _ hz5) 0).trans k0 : W.cell? ⟨wr.heap.size, 0, none⟩ = some (.string kk)))
          clear hst hq hoq hfq hqe hg hgd hgz hln hw5 hb5 hv5 hL5 hS2lt hlp h4 h6 hnm hnd hky hkz hz5
          iterate 34 go_step
          rw [Hw5.out]
          go_wp2_with fail
          go_region_held3 (fun w' => w'.cell? ⟨wr.heap.size, 0, none⟩ = some (.string kk))
            (first | exact K8.out | exact Hk0.out _ B7.out | exact Hk0.out _ (below_drewN (Below.refl _ w5) 1) | go_keep)
            (first
              | (go_simp; go_at_call 51; (with_reducible refine (Hgap.out _).mono ?_); rintro e w6 ⟨rfl, rfl⟩)
              | (go_simp; go_at_call 28; (with_reducible refine (Hname.out _).mono ?_); rintro e w7 ⟨rfl, hb⟩; have B7 : Hid (Below w5.heap.size w5 w7) := Lib.hid ⟨hb.os, hb.tape, hb.output, hb.size, hb.block⟩; clear hb)
              | (go_simp; go_at_call 25; (with_reducible refine (HPut.out _ B7.out).mono ?_); rintro e w8 ⟨rfl, u8, h8, t8⟩; have HL8 := Lib.hid h8; have HT8 := Lib.hid t8; have HP8 : Hid (w8.heap[wr.heap.size]? = w5.heap[wr.heap.size]?) := Lib.hid (HL5.out.keep t8 _ (.inr rfl)); have HK8 : Hid (∀ k, S2 k → w8.heap[k]? = wr.heap[k]?) := Lib.hid (fun k hk => (HL5.out.keep t8 k (.inl hk)).trans (Hb5.out.block k (Hlt2.out k hk))); have K8 : Hid (w8.cell? ⟨wr.heap.size, 0, none⟩ = some (.string kk)) := Lib.hid ((cell_of_block (HL5.out.keep t8 _ (.inr rfl)) 0).trans (Hk0.out w5 (Below.refl _ _))); clear h8 t8))
          have g1 : w8.cell? ⟨wr.heap.size, 1, none⟩ = some (.int .i64 yk) := (cell_of_block HP8.out 1).trans (Hv5.out 1)
          have g2 : w8.cell? ⟨wr.heap.size, 2, none⟩ = some (.int .i64 yn) := (cell_of_block HP8.out 2).trans (Hv5.out 2)
          have g3 : w8.cell? ⟨wr.heap.size, 3, none⟩ = some (.int .i64 yg) := (cell_of_block HP8.out 3).trans (Hv5.out 3)
          have g4 : w8.cell? ⟨wr.heap.size, 4, none⟩ = some (.string ys) := (cell_of_block HP8.out 4).trans (Hv5.out 4)
          have g5 : w8.cell? ⟨wr.heap.size, 5, none⟩ = some (.slice ylp yll ylc) := (cell_of_block HP8.out 5).trans (Hv5.out 5)
          have g6 : w8.cell? ⟨wr.heap.size, 6, none⟩ = some (.slice ydp ydl ydc) := (cell_of_block HP8.out 6).trans (Hv5.out 6)
          have hq := Hq.out _ _ HL8.out HK8.out
          dsimp only [Hv.arr] at hq
          have HQ := Lib.hid hq
          clear hq Hq k0 e0 e1 e2 e3 e4 e5 e6 HPut Hgap Hname
          go_wp2_with (go_at_call 16; refine HQ.out.mono ?_; rintro e w9 ⟨rfl, u9, h9, t9⟩; have HL9 := Lib.hid h9; have HT9 := Lib.hid t9; clear h9 t9)
          go_roundg (dl - (j + 1))
          case measure => omega
          case rel => exact ⟨j + 1, u9, r ++ (g.data.toList ++ (nm.data.toList ++ (32 :: textV q))), by go_num, by omega, by omega, (show Aside _ from (by show _ = _; rw [← HI.out, Hstep.out]; simp only [List.append_assoc, List.cons_append])), (show Aside _ from (by show LnS _ _ _ _ _ _; have := HL9.out.less (S' := S2) (fun k hk => .inl hk); simpa only [List.append_assoc, List.cons_append, List.nil_append] using this)), HT.out.trans ((Touches.of_below Hb5.out).trans (HT8.out.trans HT9.out)), fun k hk => ((HL8.out.keep HT9.out k (.inl hk)).trans (HK8.out k hk)).trans (HK.out k hk)⟩
        · have hr : r = prsW 0 v.d := by rw [← HI.out, List.drop_eq_nil_of_le (by have := Hdl.out; omega), prsW, List.append_nil]
          subst hr
          have cs : wr.cell? ⟨w2.heap.size, 2, none⟩ = some (.string c) := (cell_of_block (HK.out _ HS2b.out.2) 2).trans (by rw [cell_of_row _ _ _ _ _ _ HG4.out]; rfl)
          have Hp := Lib.hid (HL.out.put1 c (by
            have := Hlen.out
            rw [List.length_append, List.length_append, List.length_append, ← size_data]
            omega))
          go_wp2_with fail
          refine Hp.out.mono ?_
          rintro e w9 ⟨rfl, u9, h9, t9⟩
          have HL9 := Lib.hid h9
          have HT9 := Lib.hid t9
          clear h9 t9 cs Hp
          go_wp2
          go_end0
          refine ⟨rfl, u9, ?_, HT4.out.trans (HT.out.trans HT9.out)⟩
          have := HL9.out.less (S' := S) HS2a.out
          simpa only [List.append_assoc] using this
end
end Go.Proofs.YtejgcnmbngdkiaaGreatDoor
/-
  putValue.
-/
namespace Go.Proofs.YtejgcnmbngdkiaaGreatDoor
section
open Go.RowKit
set_option maxRecDepth 100000

set_option maxHeartbeats 8000000 in
theorem putv_any (v : Val) : PutC 16 v := by
  induction v using Val.ind with
  | h v ihl ihd =>
    intro x w0 b S u l w hL hlaid hR hok hfit hlen
    obtain ⟨⟨hxk, hxn, hxg, hxs⟩, hRL, hRD⟩ := rd_iff.1 hR
    have hkind := hok.kind
    by_cases hh : v.kind = 5 ∨ v.kind = 6
    · have hhold := hold_of v ihl ihd hh
      obtain ⟨xk, xn, xg, xs, ⟨lp, ll, lc⟩, ⟨dp, dl, dc⟩⟩ := x
      obtain ⟨w1, hw1⟩ : ∃ w1, w.alloc (.cells #[.int .i64 xk, .int .i64 xn, .int .i64 xg, .string xs, .slice lp ll lc, .slice dp dl dc] 25) = w1 := ⟨_, rfl⟩
      have hb1 : Below w.heap.size w w1 := by rw [← hw1]; exact (Below.refl _ w).alloc (Nat.le_refl _) _
      have hv1 : VCell w1 w.heap.size ⟨xk, xn, xg, xs, ⟨lp, ll, lc⟩, ⟨dp, dl, dc⟩⟩ := by rw [← hw1]; exact heap_alloc_new w _
      have hc0 : w1.cell? ⟨w.heap.size, 0, none⟩ = some (.int .i64 xk) := hv1.at.1
      have hcall := hhold ⟨xk, xn, xg, xs, ⟨lp, ll, lc⟩, ⟨dp, dl, dc⟩⟩ w0 b S u l w1 (hL.later hb1) hlaid (hR.later (fun k hk => hb1.block k (hL.2.2.2 k hk).1)) hok hfit hlen
      dsimp only at hxk
      have h0 : ¬ xk = 0 := by omega
      have h1 : ¬ xk = 1 := by omega
      have h2 : ¬ xk = 2 := by omega
      have h3 : ¬ xk = 3 := by omega
      have h4 : ¬ xk = 4 := by omega
      have h7 : ¬ xk = 7 := by omega
      have Hcall := Lib.hid hcall
      have Hw1 := Lib.hid hw1
      have Hv1 := Lib.hid hv1
      have Hb1 := Lib.hid hb1
      show Calls Tryz.prog 16 #[.pointer (some ⟨b, 0, none⟩), .agg #[.int .i64 xk, .int .i64 xn, .int .i64 xg, .string xs, .slice lp ll lc, .slice dp dl dc]] w _
      clear hcall hw1 hv1 hb1 hhold hL hlaid hR hok hfit hlen hRL hRD hxk hxn hxg hxs hh hkind ihl ihd
      go_enter Tryz.func16, Tryz.ntmps16
      iterate 16 go_step
      rw [Hw1.out]
      go_wp2_with (first
        | (refine VCell.load rfl (.tmp 3) rfl w.heap.size _ rfl Hv1.out ?_)
        | (go_at_call 30; refine Hcall.out.mono ?_; rintro e w7 ⟨rfl, u7, h7, t7⟩; have HL7 := Lib.hid h7; have HT7 := Lib.hid t7; clear h7 t7))
      go_end0
      exact ⟨rfl, u7, HL7.out, (Touches.of_below Hb1.out).trans HT7.out⟩
    · have hcs : v.kind = 0 ∨ v.kind = 1 ∨ v.kind = 2 ∨ v.kind = 3 ∨ v.kind = 4 ∨ v.kind = 7 := by omega
      have hT := textV_eq v
      have hsz := hfit.s
      obtain ⟨xk, xn, xg, xs, ⟨lp, ll, lc⟩, ⟨dp, dl, dc⟩⟩ := x
      dsimp only at hxk hxn hxg hxs
      obtain ⟨w1, hw1⟩ : ∃ w1, w.alloc (.cells #[.int .i64 xk, .int .i64 xn, .int .i64 xg, .string xs, .slice lp ll lc, .slice dp dl dc] 25) = w1 := ⟨_, rfl⟩
      have hb1 : Below w.heap.size w w1 := by rw [← hw1]; exact (Below.refl _ w).alloc (Nat.le_refl _) _
      have hv1 : VCell w1 w.heap.size ⟨xk, xn, xg, xs, ⟨lp, ll, lc⟩, ⟨dp, dl, dc⟩⟩ := by rw [← hw1]; exact heap_alloc_new w _
      obtain ⟨c0, c1, c2, c3, -, -⟩ := hv1.at
      dsimp only at c0 c1 c2 c3
      simp only [Nat.zero_add] at c0 c1 c2 c3
      have hL1 := hL.later hb1
      have hl1 := hlaid.later hL1.2.2.1
      have HPut := Lib.hid (fun (g : ByteArray) (hg : g.data.toList = textV v) W (hb : Below w1.heap.size w1 W) => ((hL1.later hb).put1 g (by rw [size_data, hg]; exact hlen)).mono (fun e w' (h : e = .returned (.tuple #[]) ∧ ∃ u', LnS w0 b S u' (l ++ g.data.toList) w' ∧ Touches (foot b u) (foot b u') W w') =>
        (⟨h.1, h.2.imp fun u' h => ⟨h.1, (Touches.of_below (hb1.trans (hb.mono hb1.size))).trans h.2⟩⟩ : e = .returned (.tuple #[]) ∧ ∃ u', LnS w0 b S u' (l ++ g.data.toList) w' ∧ Touches (foot b u) (foot b u') w w')))
      have hz1 : w.heap.size < w1.heap.size := by rw [← hw1]; simp
      have hL1b := hL.box hb1 (Nat.le_refl _) hz1
      have HPut4 := Lib.hid (fun (x y z t : ByteArray) (hg : x.data.toList ++ (y.data.toList ++ (z.data.toList ++ t.data.toList)) = textV v) W (hb : Below w1.heap.size w1 W) => ((hL1b.later hb).put4 x y z t (by rw [← hg, List.length_append, List.length_append, List.length_append, ← size_data, ← size_data, ← size_data, ← size_data] at hlen; omega)).mono (fun e w' (h : e = .returned (.tuple #[]) ∧ ∃ u', LnS w0 b (fun k => S k ∨ k = w.heap.size) u' (l ++ (x.data.toList ++ (y.data.toList ++ (z.data.toList ++ t.data.toList)))) w' ∧ Touches (foot b u) (foot b u') W w') =>
        (⟨h.1, h.2.imp fun u' h => ⟨by rw [← hg]; exact h.1.less (fun k hk => .inl hk), (Touches.of_below (hb1.trans (hb.mono hb1.size))).trans h.2, ((hL1b.later hb).keep h.2 _ (.inr rfl)).trans (hb.block _ hz1)⟩⟩ : e = .returned (.tuple #[]) ∧ ∃ u', LnS w0 b S u' (l ++ textV v) w' ∧ Touches (foot b u) (foot b u') w w' ∧ w'.heap[w.heap.size]? = w1.heap[w.heap.size]?)))
      have HBelow := Lib.hid (Below.refl w1.heap.size w1)
      have Hok := Lib.hid hok
      have Hw1 := Lib.hid hw1
      have Hl1 := Lib.hid hl1
      rw [← hxk] at hcs hT
      rw [← hxn, ← hxg, ← hxs] at hT
      rw [← hxs] at hsz
      have Hxk := Lib.hid hxk
      have Hxn := Lib.hid hxn
      have Hxg := Lib.hid hxg
      show Calls Tryz.prog 16 #[.pointer (some ⟨b, 0, none⟩), .agg #[.int .i64 xk, .int .i64 xn, .int .i64 xg, .string xs, .slice lp ll lc, .slice dp dl dc]] w _
      clear hw1 hv1 hb1 hL hlaid hR hok hfit hlen hRL hRD hxk hxn hxg hxs hh hkind ihl ihd hL1 hl1 hz1 hL1b
      rcases hcs with rfl | rfl | rfl | rfl | rfl | rfl
      · rw [if_pos rfl] at hT
        have Hg : Hid ((⟨#[110, 117, 108, 108]⟩ : ByteArray).data.toList = textV v) := Lib.hid (by rw [hT]; rfl)
        have HP := Lib.hid (HPut.out _ Hg.out w1 HBelow.out)
        clear hT c1 c2 c3
        go_enter Tryz.func16, Tryz.ntmps16
        iterate 16 go_step
        rw [Hw1.out]
        go_wp2_with (go_at_call 25; refine HP.out.mono ?_; rintro e w7 ⟨rfl, u7, h7, t7⟩; have HL7 := Lib.hid h7; have HT7 := Lib.hid t7; clear h7 t7)
        go_end0
        exact ⟨rfl, u7, by rw [← Hg.out]; exact HL7.out, HT7.out⟩
      · rw [if_neg (by decide), if_pos rfl] at hT
        obtain ⟨g, hg⟩ : ∃ g, bytes (boolW xn) = g := ⟨_, rfl⟩
        have Hg : Hid (g.data.toList = textV v) := Lib.hid (by rw [hT, ← hg, bytes_data])
        have Hc : Hid (∀ W, Calls Tryz.prog 26 #[.int .i64 xn] W fun e w' => e = .returned (.string g) ∧ W = w') := Lib.hid (fun W => by have := word_is xn W; rwa [hg] at this)
        have HP := Lib.hid (HPut.out _ Hg.out w1 HBelow.out)
        clear hT c2 c3 hg
        go_enter Tryz.func16, Tryz.ntmps16
        iterate 16 go_step
        rw [Hw1.out]
        go_wp2_with (first
          | (go_at_call 26; refine (Hc.out _).mono ?_; rintro e w2 ⟨rfl, rfl⟩)
          | (go_at_call 25; refine HP.out.mono ?_; rintro e w7 ⟨rfl, u7, h7, t7⟩; have HL7 := Lib.hid h7; have HT7 := Lib.hid t7; clear h7 t7))
        go_end0
        exact ⟨rfl, u7, by rw [← Hg.out]; exact HL7.out, HT7.out⟩
      · rw [if_neg (by decide), if_neg (by decide), if_pos rfl] at hT
        obtain ⟨g, hg⟩ : ∃ g, bytes (putL xn) = g := ⟨_, rfl⟩
        have Hg : Hid (g.data.toList = textV v) := Lib.hid (by rw [hT, ← hg, bytes_data])
        have Hc : Hid (Calls Tryz.prog 27 #[.int .i64 xn] w1 fun e w' => e = .returned (.string g) ∧ Below w1.heap.size w1 w') := Lib.hid (by have := dput_any xn w1 Hl1.out (by have := Hok.out.int Hxk.out.symm; have := Hxn.out; omega) (by have := Hok.out.int Hxk.out.symm; have := Hxn.out; omega); rwa [hg] at this)
        have HP := Lib.hid (fun W hb => HPut.out _ Hg.out W hb)
        clear hT c2 c3 hg
        go_enter Tryz.func16, Tryz.ntmps16
        iterate 16 go_step
        rw [Hw1.out]
        go_wp2_with (first
          | (go_at_call 27; refine Hc.out.mono ?_; rintro e w2 ⟨rfl, h2⟩; have HP2 := Lib.hid (HP.out w2 h2); clear h2)
          | (go_at_call 25; refine HP2.out.mono ?_; rintro e w7 ⟨rfl, u7, h7, t7⟩; have HL7 := Lib.hid h7; have HT7 := Lib.hid t7; clear h7 t7))
        go_end0
        exact ⟨rfl, u7, by rw [← Hg.out]; exact HL7.out, HT7.out⟩
      · rw [if_neg (by decide), if_neg (by decide), if_neg (by decide), if_pos rfl] at hT
        obtain ⟨g, hg⟩ : ∃ g, bytes (nameW xs.data.toList) = g := ⟨_, rfl⟩
        have Hg : Hid (g.data.toList = textV v) := Lib.hid (by rw [hT, ← hg, bytes_data])
        have Hc : Hid (Calls Tryz.prog 28 #[.string xs] w1 fun e w' => e = .returned (.string g) ∧ Below w1.heap.size w1 w') := Lib.hid (by have := name_is xs w1 (by omega); rwa [hg] at this)
        have HP := Lib.hid (fun W hb => HPut.out _ Hg.out W hb)
        clear hT c1 c2 hg
        go_enter Tryz.func16, Tryz.ntmps16
        iterate 16 go_step
        rw [Hw1.out]
        go_wp2_with (first
          | (go_at_call 28; refine Hc.out.mono ?_; rintro e w2 ⟨rfl, h2⟩; have HP2 := Lib.hid (HP.out w2 h2); clear h2)
          | (go_at_call 25; refine HP2.out.mono ?_; rintro e w7 ⟨rfl, u7, h7, t7⟩; have HL7 := Lib.hid h7; have HT7 := Lib.hid t7; clear h7 t7))
        go_end0
        exact ⟨rfl, u7, by rw [← Hg.out]; exact HL7.out, HT7.out⟩
      · rw [if_neg (by decide), if_neg (by decide), if_neg (by decide), if_neg (by decide), if_pos rfl] at hT
        obtain ⟨g, hg⟩ : ∃ g, bytes (bytesW xs.data.toList) = g := ⟨_, rfl⟩
        have Hg : Hid (g.data.toList = textV v) := Lib.hid (by rw [hT, ← hg, bytes_data])
        have Hc : Hid (Calls Tryz.prog 29 #[.string xs] w1 fun e w' => e = .returned (.string g) ∧ Below w1.heap.size w1 w') := Lib.hid (by have := wbytes_is xs w1 (by omega); rwa [hg] at this)
        have HP := Lib.hid (fun W hb => HPut.out _ Hg.out W hb)
        clear hT c1 c2 hg
        go_enter Tryz.func16, Tryz.ntmps16
        iterate 16 go_step
        rw [Hw1.out]
        go_wp2_with (first
          | (go_at_call 29; refine Hc.out.mono ?_; rintro e w2 ⟨rfl, h2⟩; have HP2 := Lib.hid (HP.out w2 h2); clear h2)
          | (go_at_call 25; refine HP2.out.mono ?_; rintro e w7 ⟨rfl, u7, h7, t7⟩; have HL7 := Lib.hid h7; have HT7 := Lib.hid t7; clear h7 t7))
        go_end0
        exact ⟨rfl, u7, by rw [← Hg.out]; exact HL7.out, HT7.out⟩
      · rw [if_neg (by decide), if_neg (by decide), if_neg (by decide), if_neg (by decide), if_neg (by decide), if_pos rfl] at hT
        obtain ⟨gn, hgn⟩ : ∃ g, bytes (putL xn) = g := ⟨_, rfl⟩
        obtain ⟨gg, hgg⟩ : ∃ g, bytes (putL xg) = g := ⟨_, rfl⟩
        have Hg : Hid (gn.data.toList ++ ((⟨#[32]⟩ : ByteArray).data.toList ++ (gg.data.toList ++ (⟨#[32, 82]⟩ : ByteArray).data.toList)) = textV v) := Lib.hid (by rw [hT, ← hgn, ← hgg, bytes_data, bytes_data]; rfl)
        have Hc : Hid (∀ W, Below w1.heap.size w1 W → Calls Tryz.prog 27 #[.int .i64 xn] W fun e w' => e = .returned (.string gn) ∧ Below W.heap.size W w') := Lib.hid (fun W hb => by have := dput_any xn W (Hl1.out.later hb) (by have := Hok.out.link Hxk.out.symm; have := Hxn.out; omega) (by have := Hok.out.link Hxk.out.symm; have := Hxn.out; omega); rwa [hgn] at this)
        have Hd : Hid (∀ W, Below w1.heap.size w1 W → Calls Tryz.prog 27 #[.int .i64 xg] W fun e w' => e = .returned (.string gg) ∧ Below W.heap.size W w') := Lib.hid (fun W hb => by have := dput_any xg W (Hl1.out.later hb) (by have := Hok.out.link Hxk.out.symm; have := Hxg.out; omega) (by have := Hok.out.link Hxk.out.symm; have := Hxg.out; omega); rwa [hgg] at this)
        have HP := Lib.hid (fun W hb => HPut4.out _ _ _ _ Hg.out W hb)
        have hkc : ∀ W, Below w1.heap.size w1 W → W.cell? ⟨w.heap.size, 1, none⟩ = some (.int .i64 xn) ∧ W.cell? ⟨w.heap.size, 2, none⟩ = some (.int .i64 xg) := fun W hb => ⟨cell_later c1 hb, cell_later c2 hb⟩
        have Hkc := Lib.hid hkc
        clear hT c3 hgn hgg hkc
        go_enter Tryz.func16, Tryz.ntmps16
        iterate 16 go_step
        rw [Hw1.out]
        go_wp2_with fail
        go_region_held3 (fun w' => w'.cell? ⟨w.heap.size, 1, none⟩ = some (.int .i64 xn) ∧ w'.cell? ⟨w.heap.size, 2, none⟩ = some (.int .i64 xg))
          (first | exact K7.out | exact Hkc.out _ B3.out | exact Hkc.out _ B2.out | exact Hkc.out _ (below_drewN (Below.refl _ w1) 1) | go_keep)
          (first
            | (go_simp; go_at_call 27; (with_reducible refine (Hc.out w1.drew (Below.drew (Below.refl _ w1))).mono ?_); rintro e w2 ⟨rfl, hb⟩; have B2 : Hid (Below w1.heap.size w1 w2) := Lib.hid ⟨hb.os, hb.tape, hb.output, hb.size, hb.block⟩; clear hb)
            | (go_simp; go_at_call 27; (with_reducible refine (Hd.out _ B2.out).mono ?_); rintro e w3 ⟨rfl, hb⟩; have B3 : Hid (Below w1.heap.size w1 w3) := Lib.hid (B2.out.trans (hb.mono B2.out.size)); clear hb)
            | (go_simp; go_at_call 25; (with_reducible refine (HP.out _ B3.out).mono ?_); rintro e w7 ⟨rfl, u7, h7, t7, k7⟩; have HL7 := Lib.hid h7; have HT7 := Lib.hid t7; have K7 : Hid (w7.cell? ⟨w.heap.size, 1, none⟩ = some (.int .i64 xn) ∧ w7.cell? ⟨w.heap.size, 2, none⟩ = some (.int .i64 xg)) := Lib.hid ⟨(cell_of_block k7 1).trans (Hkc.out _ (Below.refl _ _)).1, (cell_of_block k7 2).trans (Hkc.out _ (Below.refl _ _)).2⟩; clear h7 t7 k7))
        go_wp2
        go_end0
        exact ⟨rfl, u7, HL7.out, HT7.out⟩
end
end Go.Proofs.YtejgcnmbngdkiaaGreatDoor
