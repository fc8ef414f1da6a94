/-
  VPut, VRPairs, VRPlainL, VRPlainD, VRPlainS, VRPlain, VRWith: texts merged.
-/
import Derived.Test.YtejgcnmbngdkiaaNMem
import Derived.Test.YtejgcnmbngdkiaaNVal
import Derived.Test.YtejgcnmbngdkiaaNEl
/-
  The document's answer: a pair among pairs that rise.
-/
namespace Go.Proofs.Ytejgcnmbngdkiaa
section
open Go.RowKit
set_option maxRecDepth 100000

/-- As far as i pairs were looked at: what stands in the new row, and whether the new pair stands there. -/
theorem insP_split (p : ByteArray × Val) : ∀ (d : Prs), insP p d = d.takeWhile (fun q => !kLt p.1 q.1) ++ p :: d.dropWhile (fun q => !kLt p.1 q.1)
  | [] => rfl
  | q :: t => by
    rw [insP]
    by_cases h : kLt p.1 q.1 = true
    · rw [if_pos h, List.takeWhile_cons, List.dropWhile_cons]; simp [h]
    · have h' : kLt p.1 q.1 = false := by simpa using h
      rw [if_neg h, List.takeWhile_cons, List.dropWhile_cons, insP_split p t]; simp [h']
/-- The row behind i pairs. -/
def midP (p : ByteArray × Val) (l : Prs) : Bool → Prs
  | true => insP p l
  | false => l
/-- Has the new pair been put? -/
def doneP (p : ByteArray × Val) (l : Prs) : Bool := l.any (fun q => kLt p.1 q.1)
theorem insP_snoc (p q : ByteArray × Val) : ∀ (l : Prs), doneP p l = true → insP p (l ++ [q]) = insP p l ++ [q]
  | [], h => by simp [doneP] at h
  | r :: t, h => by
    rw [List.cons_append, insP, insP]
    by_cases h1 : kLt p.1 r.1 = true
    · rw [if_pos h1, if_pos h1]; rfl
    · rw [if_neg h1, if_neg h1, insP_snoc p q t (by unfold doneP at h ⊢; simpa [h1] using h)]; rfl
theorem insP_put (p q : ByteArray × Val) : ∀ (l : Prs), doneP p l = false → kLt p.1 q.1 = true → insP p (l ++ [q]) = l ++ [p] ++ [q]
  | [], _, h => by rw [List.nil_append, insP, if_pos h]; rfl
  | r :: t, h, h2 => by
    unfold doneP at h
    rw [List.any_cons, Bool.or_eq_false_iff] at h
    rw [List.cons_append, insP, if_neg (by rw [h.1]; decide), insP_put p q t h.2 h2]; rfl
theorem insP_end (p : ByteArray × Val) : ∀ (l : Prs), doneP p l = false → insP p l = l ++ [p]
  | [], _ => rfl
  | r :: t, h => by
    unfold doneP at h
    rw [List.any_cons, Bool.or_eq_false_iff] at h
    rw [insP, if_neg (by rw [h.1]; decide), insP_end p t h.2]; rfl

/-- Pairs as the program holds them are these. -/
def AllIs (w : World) (S : Nat → Prop) : List Hp → Prs → Prop
  | [], [] => True
  | x :: xs, p :: ps => (x.key = p.1 ∧ Rd w S x.v p.2) ∧ AllIs w S xs ps
  | _, _ => False
theorem AllIs.len {w : World} {S : Nat → Prop} : ∀ {xs : List Hp} {ps : Prs}, AllIs w S xs ps → xs.length = ps.length
  | [], [], _ => rfl
  | _ :: xs, _ :: ps, h => by rw [List.length_cons, List.length_cons, h.2.len]
  | [], _ :: _, h => h.elim
  | _ :: _, [], h => h.elim
theorem AllIs.snoc {w : World} {S : Nat → Prop} {x : Hp} {p : ByteArray × Val} (hx : x.key = p.1 ∧ Rd w S x.v p.2) : ∀ {xs : List Hp} {ps : Prs}, AllIs w S xs ps → AllIs w S (xs ++ [x]) (ps ++ [p])
  | [], [], _ => ⟨hx, trivial⟩
  | _ :: _, _ :: _, h => ⟨h.1, h.2.snoc hx⟩
  | [], _ :: _, h => h.elim
  | _ :: _, [], h => h.elim
theorem AllIs.at {w : World} {S : Nat → Prop} : ∀ {xs : List Hp} {ps : Prs}, AllIs w S xs ps → ∀ i (h : i < xs.length) (h' : i < ps.length), (xs[i]).key = (ps[i]).1 ∧ Rd w S (xs[i]).v (ps[i]).2
  | _ :: _, _ :: _, h, 0, _, _ => h.1
  | _ :: _, _ :: _, h, i + 1, h1, h2 => h.2.at i (by simpa using h1) (by simpa using h2)
  | [], _ :: _, h, _, _, _ => h.elim
  | _ :: _, [], h, _, _, _ => h.elim
/-- Such pairs, in a row of the call's own. -/
theorem AllIs.read {w w' : World} {S : Nat → Prop} {B : Nat} {q : Option Addr} {cap : Nat} {xs : List Hp} {ps : Prs} (h : AllIs w S xs ps) (hS : ∀ k, S k → w'.heap[k]? = w.heap[k]?) (ho : OwnP w' B q cap xs) (N : Nat) (hB : N ≤ B) :
    RdD w' (fun k => S k ∨ N ≤ k) ⟨q, xs.length, cap⟩ ps := by
  obtain ⟨h1, g, h2, h3⟩ := ho.form
  refine ⟨h.len, h1, g, 0, fun i => (xs[i]?).getD ⟨⟨#[]⟩, .nil⟩, fun e => ⟨(h2 e).1, .inr (Nat.le_trans hB (h2 e).2)⟩, fun i hi => ?_, fun i hi => ?_⟩
  · have hi' : i < xs.length := by rw [h.len]; exact hi
    dsimp only
    rw [List.getElem?_eq_getElem hi']
    exact h3 i hi'
  · have hi' : i < xs.length := by rw [h.len]; exact hi
    dsimp only
    rw [List.getElem?_eq_getElem hi']
    exact ⟨(h.at i hi' hi).1, ((h.at i hi' hi).2.later hS).mono (fun _ hk => .inl hk)⟩
theorem RdD.pair {w : World} {S : Nat → Prop} {sl : Sl} {d : Prs} (h : RdD w S sl d) {i : Nat} (hi : i < d.length) : ∃ (b o : Nat) (y : Hp), sl.p = some ⟨b, o, none⟩ ∧ S b ∧ HpAt w b (o + i * 7) y ∧ y.key = (d[i]).1 ∧ Rd w S y.v (d[i]).2 := by
  obtain ⟨b, o, y, _, h1⟩ := RdD.at (p := sl.p) (len := sl.len) (cap := sl.cap) h (i := i) (by rw [h.1]; exact hi)
  exact ⟨b, o, y, h1⟩
theorem bl_toList (a b : ByteArray) : Op.bytesLess a.toList b.toList = kLt a b := by unfold kLt; rw [ByteArray.toList_eq, ByteArray.toList_eq]
theorem eq_toList (a b : ByteArray) : (a.toList == b.toList) = decide (a = b) := by
  rw [ByteArray.toList_eq, ByteArray.toList_eq]
  rcases a with ⟨⟨a⟩⟩; rcases b with ⟨⟨b⟩⟩
  by_cases h : a = b
  · subst h; simp
  · simp [h]
theorem doneP_snoc (p q : ByteArray × Val) (l : Prs) : doneP p (l ++ [q]) = (doneP p l || kLt p.1 q.1) := by unfold doneP; simp
theorem hasK_snoc (k : ByteArray) (q : ByteArray × Val) (l : Prs) : hasK k (l ++ [q]) = (hasK k l || decide (q.1 = k)) := by unfold hasK; simp

set_option maxHeartbeats 4000000 in
theorem vput_any (d : Prs) (p : ByteArray × Val) (sl : Sl) (x : Hp) (w : World) (S : Nat → Prop) (hD : RdD w S sl d) (hp : x.key = p.1 ∧ Rd w S x.v p.2) (hS : ∀ k, S k → k < w.heap.size) (hlen : d.length ≤ 100000) :
    Calls Try.prog 48 #[.slice sl.p sl.len sl.cap, .agg x.arr] w fun e w' => ∃ sl', e = .returned (.slice sl'.p sl'.len sl'.cap) ∧ RdD w' (fun k => S k ∨ w.heap.size ≤ k) sl' (putP d p) ∧ Below w.heap.size w w' := by
  obtain ⟨dp, dl, dc⟩ := sl
  have Hp0 := Lib.hid hp
  obtain ⟨yy, ⟨k, n, g, s, ⟨lp, ll, lc⟩, ⟨ep, el, ec⟩⟩⟩ := x
  obtain ⟨hdl, hdm⟩ := hD.len_le
  have hky : yy = p.1 := hp.1
  dsimp only at hdl hdm
  unfold maxLen at hdm
  have HD := Lib.hid hD
  have HS := Lib.hid hS
  have Hky := Lib.hid hky
  have Hdl := Lib.hid hdl
  have hdl2 : dl ≤ 100000 := by omega
  clear hp hD hS hky hdl
  obtain ⟨w1, hw1⟩ : ∃ w1, w.alloc (.cells #[.string yy, .int .i64 k, .int .i64 n, .int .i64 g, .string s, .slice lp ll lc, .slice ep el ec] 40) = w1 := ⟨_, rfl⟩
  have hb1 : Below w.heap.size w w1 := by rw [← hw1]; exact (Below.refl _ w).alloc (Nat.le_refl _) _
  have hc0 : w1.cell? ⟨w.heap.size, 0, none⟩ = some (.string yy) := by rw [← hw1]; simp
  have hc1 : w1.cell? ⟨w.heap.size, 1, none⟩ = some (.int .i64 k) := by rw [← hw1]; simp
  have hc2 : w1.cell? ⟨w.heap.size, 2, none⟩ = some (.int .i64 n) := by rw [← hw1]; simp
  have hc3 : w1.cell? ⟨w.heap.size, 3, none⟩ = some (.int .i64 g) := by rw [← hw1]; simp
  have hc4 : w1.cell? ⟨w.heap.size, 4, none⟩ = some (.string s) := by rw [← hw1]; simp
  have hc5 : w1.cell? ⟨w.heap.size, 5, none⟩ = some (.slice lp ll lc) := by rw [← hw1]; simp
  have hc6 : w1.cell? ⟨w.heap.size, 6, none⟩ = some (.slice ep el ec) := by rw [← hw1]; simp
  have hlt : w.heap.size < w1.heap.size := by rw [← hw1]; simp
  have HO0 := Lib.hid (OwnP.made w1 (Nat.le_refl w1.heap.size))
  have Hb1 := Lib.hid hb1
  have HB0 := Lib.hid ((Below.refl w1.heap.size w1).alloc (Nat.le_refl _) (.cells #[] 40))
  show Calls Try.prog 48 #[.slice dp dl dc, .agg #[.string yy, .int .i64 k, .int .i64 n, .int .i64 g, .string s, .slice lp ll lc, .slice ep el ec]] w _
  go_enter Try.func48, Try.ntmps48
  go_wp2
  clear hw1 hb1
  go_loopg [5, 6, 7] dl (fun f s5 s6 s7 wr => ∃ (i : Nat) (b : Bool) (q : Option Addr) (cap : Nat) (xs : List Hp), s7 = .int .i64 i ∧ s6 = .bool b ∧ s5 = .slice q xs.length cap ∧ i ≤ dl ∧ dl ≤ f + i ∧ xs.length ≤ i + 1 ∧
    Aside (b = doneP p (d.take i) ∧ hasK p.1 (d.take i) = false ∧ AllIs w S xs (midP p (d.take i) b)) ∧ Aside (OwnP wr w1.heap.size q cap xs) ∧ Aside (Below w1.heap.size w1 wr))
  case atStart => exact ⟨0, false, _, 0, [], rfl, rfl, rfl, Nat.zero_le _, Nat.le_refl _, Nat.zero_le _, (show Aside _ from ⟨rfl, rfl, trivial⟩), HO0, HB0⟩
  case round =>
    obtain ⟨i, b, q, cap, xs, rfl, rfl, rfl, hi, hf, hxl, HI, HO, HB⟩ := hrel
    have c0 := (HB.out.cell (p := ⟨w.heap.size, 0, none⟩) hlt).trans hc0
    have c1 := (HB.out.cell (p := ⟨w.heap.size, 1, none⟩) hlt).trans hc1
    have c2 := (HB.out.cell (p := ⟨w.heap.size, 2, none⟩) hlt).trans hc2
    have c3 := (HB.out.cell (p := ⟨w.heap.size, 3, none⟩) hlt).trans hc3
    have c4 := (HB.out.cell (p := ⟨w.heap.size, 4, none⟩) hlt).trans hc4
    have c5 := (HB.out.cell (p := ⟨w.heap.size, 5, none⟩) hlt).trans hc5
    have c6 := (HB.out.cell (p := ⟨w.heap.size, 6, none⟩) hlt).trans hc6
    have Hww : Hid (Below w.heap.size w wr) := Lib.hid (Hb1.out.trans (HB.out.mono (Nat.le_of_lt hlt)))
    by_cases hil : i < dl
    · have hid : i < d.length := by rw [← Hdl.out]; exact hil
      obtain ⟨lb, lo, ⟨zk, ⟨yk, yn, yg, ys, ⟨ylp, yll, ylc⟩, ⟨ydp, ydl, ydc⟩⟩⟩, h3, h4, h5, hkz, h6⟩ := HD.out.pair hid
      replace h3 : dp = some ⟨lb, lo, none⟩ := h3
      subst h3
      obtain ⟨e0, e1, e2, e3, e4, e5, e6⟩ := h5.same (Hww.out.block _ (HS.out _ h4))
      dsimp only at e0 e1 e2 e3 e4 e5 e6 hkz h6
      have H6 : Hid (zk = (d[i]).1 ∧ Rd w S ⟨yk, yn, yg, ys, ⟨ylp, yll, ylc⟩, ⟨ydp, ydl, ydc⟩⟩ (d[i]).2) := Lib.hid ⟨hkz, h6⟩
      have Hts : Hid (d.take (i + 1) = d.take i ++ [d[i]]) := Lib.hid (by rw [List.take_add_one, List.getElem?_eq_getElem hid]; rfl)
      by_cases heq : zk = yy
      · have hke : (zk.toList == yy.toList) = true := by rw [eq_toList]; exact decide_eq_true heq
        have Hres : Hid (putP d p = d) := Lib.hid (by
          unfold putP
          rw [if_pos]
          unfold hasK
          rw [List.any_eq_true]
          exact ⟨d[i], List.getElem_mem hid, decide_eq_true (by rw [← hkz, heq]; exact Hky.out)⟩)
        clear hkz h6 heq
        go_wp2_with fail
        go_quiet (fail)
        go_wp2
        go_ret
        exact ⟨⟨some ⟨lb, lo, none⟩, dl, dc⟩, rfl, by rw [Hres.out]; exact (HD.out.later (below_old HS.out (below_drewN Hww.out nq))).mono (fun _ hk => .inl hk), below_drewN Hww.out nq⟩
      · have hke : (zk.toList == yy.toList) = false := by rw [eq_toList]; exact decide_eq_false heq
        have Hnk : Hid (hasK p.1 (d.take (i + 1)) = false) := Lib.hid (by rw [Hts.out, hasK_snoc, HI.out.2.1, Bool.false_or]; exact decide_eq_false (by rw [← hkz]; intro e; exact heq (e.trans Hky.out.symm)))
        obtain ⟨r, hr⟩ : ∃ r, kLt yy zk = r := ⟨_, rfl⟩
        have hbl : Op.bytesLess yy.toList zk.toList = r := by rw [bl_toList]; exact hr
        have Hr : Hid (kLt p.1 (d[i]).1 = r) := Lib.hid (by rw [← Hky.out, ← hkz]; exact hr)
        have f2 : wr.cell? ⟨lb, lo + i * 7 + 2, none⟩ = some (.int .i64 yn) := e2
        have f3 : wr.cell? ⟨lb, lo + i * 7 + 3, none⟩ = some (.int .i64 yg) := e3
        have f4 : wr.cell? ⟨lb, lo + i * 7 + 4, none⟩ = some (.string ys) := e4
        have f5 : wr.cell? ⟨lb, lo + i * 7 + 5, none⟩ = some (.slice ylp yll ylc) := e5
        have f6 : wr.cell? ⟨lb, lo + i * 7 + 6, none⟩ = some (.slice ydp ydl ydc) := e6
        clear hkz h6 heq hr
        have hrow := Lib.hid (HO.out.lt)
        cases b with
        | true =>
          have Hnew : Hid (true = doneP p (d.take (i + 1)) ∧ hasK p.1 (d.take (i + 1)) = false ∧ AllIs w S (xs ++ [⟨zk, ⟨yk, yn, yg, ys, ⟨ylp, yll, ylc⟩, ⟨ydp, ydl, ydc⟩⟩⟩]) (midP p (d.take (i + 1)) true)) := Lib.hid (by
            obtain ⟨g1, g2, g3⟩ := HI.out
            refine ⟨by rw [Hts.out, doneP_snoc, ← g1]; rfl, Hnk.out, ?_⟩
            show AllIs w S _ (insP p (d.take (i + 1)))
            rw [Hts.out, insP_snoc p _ _ g1.symm]
            exact AllIs.snoc H6.out g3)
          clear HI hbl e2 e3 e4 e5 e6 h5
          go_wp2_with fail
          go_quiet (fail)
          go_wp2_with fail
          go_quiet (fail)
          go_wp2_with (at_builtin; refine wpList_append_P rfl (.tmp 40) (.tmp 45) rfl w1.heap.size _ _ xs rfl (HO.out.push rfl) ⟨zk, ⟨yk, yn, yg, ys, ⟨ylp, yll, ylc⟩, ⟨ydp, ydl, ydc⟩⟩⟩ wr.heap.size 1 rfl (push_new rfl) (by omega) w1 (below_push HB.out HB.out.size rfl rfl rfl rfl) (by have := HB.out.size; simp; omega) ?_; intro g' cap' w2 HO2 HB2 HK2 HF2)
          have e : (xs ++ [(⟨zk, ⟨yk, yn, yg, ys, ⟨ylp, yll, ylc⟩, ⟨ydp, ydl, ydc⟩⟩⟩ : Hp)]).length = xs.length + 1 := by rw [List.length_append]; rfl
          go_roundg (dl - (i + 1))
          case measure => omega
          case rel => exact ⟨i + 1, true, _, cap', _, by go_num, rfl, by rw [e], by omega, by omega, by rw [e]; omega, Hnew.out, HO2.out, HB2.out⟩
        | false =>
          cases r with
          | false =>
            have Hnew : Hid (false = doneP p (d.take (i + 1)) ∧ hasK p.1 (d.take (i + 1)) = false ∧ AllIs w S (xs ++ [⟨zk, ⟨yk, yn, yg, ys, ⟨ylp, yll, ylc⟩, ⟨ydp, ydl, ydc⟩⟩⟩]) (midP p (d.take (i + 1)) false)) := Lib.hid (by
              obtain ⟨g1, g2, g3⟩ := HI.out
              refine ⟨by rw [Hts.out, doneP_snoc, ← g1, Hr.out]; rfl, Hnk.out, ?_⟩
              show AllIs w S _ (d.take (i + 1))
              rw [Hts.out]
              exact AllIs.snoc H6.out g3)
            clear HI e2 e3 e4 e5 e6 h5
            go_wp2_with fail
            go_quiet (fail)
            go_wp2_with fail
            go_quiet (fail)
            go_wp2_with (at_builtin; refine wpList_append_P rfl (.tmp 40) (.tmp 45) rfl w1.heap.size _ _ xs rfl (HO.out.push rfl) ⟨zk, ⟨yk, yn, yg, ys, ⟨ylp, yll, ylc⟩, ⟨ydp, ydl, ydc⟩⟩⟩ wr.heap.size 1 rfl (push_new rfl) (by omega) w1 (below_push HB.out HB.out.size rfl rfl rfl rfl) (by have := HB.out.size; simp; omega) ?_; intro g' cap' w2 HO2 HB2 HK2 HF2)
            have e : (xs ++ [(⟨zk, ⟨yk, yn, yg, ys, ⟨ylp, yll, ylc⟩, ⟨ydp, ydl, ydc⟩⟩⟩ : Hp)]).length = xs.length + 1 := by rw [List.length_append]; rfl
            go_roundg (dl - (i + 1))
            case measure => omega
            case rel => exact ⟨i + 1, false, _, cap', _, by go_num, rfl, by rw [e], by omega, by omega, by rw [e]; omega, Hnew.out, HO2.out, HB2.out⟩
          | true =>
            have Hnew : Hid (true = doneP p (d.take (i + 1)) ∧ hasK p.1 (d.take (i + 1)) = false ∧ AllIs w S ((xs ++ [⟨yy, ⟨k, n, g, s, ⟨lp, ll, lc⟩, ⟨ep, el, ec⟩⟩⟩]) ++ [⟨zk, ⟨yk, yn, yg, ys, ⟨ylp, yll, ylc⟩, ⟨ydp, ydl, ydc⟩⟩⟩]) (midP p (d.take (i + 1)) true)) := Lib.hid (by
              obtain ⟨g1, g2, g3⟩ := HI.out
              refine ⟨by rw [Hts.out, doneP_snoc, Hr.out, Bool.or_true], Hnk.out, ?_⟩
              show AllIs w S _ (insP p (d.take (i + 1)))
              rw [Hts.out, insP_put p _ _ g1.symm Hr.out]
              exact AllIs.snoc H6.out (AllIs.snoc Hp0.out g3))
            have hx2 : xs.length ≤ i := by
              have h := HI.out.2.2.len
              rw [show midP p (d.take i) false = d.take i from rfl, List.length_take] at h
              omega
            have H5 := Lib.hid h5
            clear HI e2 e3 e4 e5 e6 h5
            have e1l : (xs ++ [(⟨yy, ⟨k, n, g, s, ⟨lp, ll, lc⟩, ⟨ep, el, ec⟩⟩⟩ : Hp)]).length = xs.length + 1 := by rw [List.length_append]; rfl
            have E1l := Lib.hid e1l
            clear e1l
            go_wp2_with fail
            go_quiet (fail)
            go_wp2_with fail
            go_quiet (fail)
            go_wp2_with (first
              | (at_builtin; refine wpList_append_P rfl (.tmp 36) (.tmp 38) rfl w1.heap.size _ _ xs rfl (HO.out.push rfl) ⟨yy, ⟨k, n, g, s, ⟨lp, ll, lc⟩, ⟨ep, el, ec⟩⟩⟩ wr.heap.size 1 rfl (push_new rfl) (by omega) w1 (below_push HB.out HB.out.size rfl rfl rfl rfl) (by have := HB.out.size; simp; omega) ?_; intro g1 cap1 w2 HO2 HB2 HK2 HF2; obtain ⟨k0, k1, k2, k3, k4, k5, k6⟩ := H5.out.same ((Hb1.out.trans (HB2.out.mono (Nat.le_of_lt hlt))).block _ (HS.out _ h4)); dsimp only at k0 k1 k2 k3 k4 k5 k6)
              | (at_builtin; refine wpList_append_P rfl (.tmp 40) (.tmp 45) rfl w1.heap.size _ cap1 (xs ++ [⟨yy, ⟨k, n, g, s, ⟨lp, ll, lc⟩, ⟨ep, el, ec⟩⟩⟩]) (by rw [E1l.out]; rfl) (HO2.out.push rfl) ⟨zk, ⟨yk, yn, yg, ys, ⟨ylp, yll, ylc⟩, ⟨ydp, ydl, ydc⟩⟩⟩ w2.heap.size 1 rfl (push_new rfl) (by rw [E1l.out]; omega) w1 (below_push HB2.out HB2.out.size rfl rfl rfl rfl) (by have := HB2.out.size; simp; omega) ?_; intro g' cap' w3 HO3 HB3 HK3 HF3))
            have e : ((xs ++ [(⟨yy, ⟨k, n, g, s, ⟨lp, ll, lc⟩, ⟨ep, el, ec⟩⟩⟩ : Hp)]) ++ [(⟨zk, ⟨yk, yn, yg, ys, ⟨ylp, yll, ylc⟩, ⟨ydp, ydl, ydc⟩⟩⟩ : Hp)]).length = xs.length + 1 + 1 := by rw [List.length_append, E1l.out]; rfl
            go_roundg (dl - (i + 1))
            case measure => omega
            case rel => exact ⟨i + 1, true, _, cap', _, by go_num, rfl, by rw [e], by omega, by omega, by rw [e]; omega, Hnew.out, HO3.out, HB3.out⟩
    · have htk : d.take i = d := List.take_of_length_le (by have := Hdl.out; omega)
      rw [htk] at HI
      cases b with
      | true =>
        have Hres : Hid (AllIs w S xs (putP d p)) := Lib.hid (by
          obtain ⟨g1, g2, g3⟩ := HI.out
          unfold putP
          rw [if_neg (by rw [g2]; decide)]
          exact g3)
        clear HI
        go_wp2
        go_ret
        exact ⟨⟨q, xs.length, cap⟩, rfl, Hres.out.read (below_old HS.out Hww.out) HO.out _ (Nat.le_of_lt hlt), Hww.out⟩
      | false =>
        have Hres : Hid (AllIs w S (xs ++ [⟨yy, ⟨k, n, g, s, ⟨lp, ll, lc⟩, ⟨ep, el, ec⟩⟩⟩]) (putP d p)) := Lib.hid (by
          obtain ⟨g1, g2, g3⟩ := HI.out
          unfold putP
          rw [if_neg (by rw [g2]; decide), insP_end p _ g1.symm]
          exact AllIs.snoc Hp0.out g3)
        clear HI
        have E1l : Hid ((xs ++ [(⟨yy, ⟨k, n, g, s, ⟨lp, ll, lc⟩, ⟨ep, el, ec⟩⟩⟩ : Hp)]).length = xs.length + 1) := Lib.hid (by rw [List.length_append]; rfl)
        go_wp2_with (at_builtin; refine wpList_append_P rfl (.tmp 49) (.tmp 51) rfl w1.heap.size _ _ xs rfl (HO.out.push rfl) ⟨yy, ⟨k, n, g, s, ⟨lp, ll, lc⟩, ⟨ep, el, ec⟩⟩⟩ wr.heap.size 1 rfl (push_new rfl) (by omega) w1 (below_push HB.out HB.out.size rfl rfl rfl rfl) (by have := HB.out.size; simp; omega) ?_; intro g1 cap1 w2 HO2 HB2 HK2 HF2)
        go_ret
        have Hw2 := Hb1.out.trans (HB2.out.mono (Nat.le_of_lt hlt))
        have h8 := Hres.out.read (below_old HS.out Hw2) HO2.out _ (Nat.le_of_lt hlt)
        rw [E1l.out] at h8
        exact ⟨⟨some ⟨g1, 0, none⟩, xs.length + 1, cap1⟩, rfl, h8, Hw2⟩
end
end Go.Proofs.Ytejgcnmbngdkiaa
/-
  The document's answer: pairs, plainly.
-/
namespace Go.Proofs.Ytejgcnmbngdkiaa
section
open Go.RowKit
set_option maxRecDepth 100000

/-- What is asked of the answer at one value. -/
def RPlainC (v : Val) : Prop := ∀ (x : Hv) (w : World) (S : Nat → Prop), Rd w S x v → (∀ k, S k → k < w.heap.size) → Fit v 4000 →
  Calls Try.prog 14 #[.agg x.arr] w fun e w' => ∃ y : Hv, e = .returned (.agg y.arr) ∧ Rd w' (fun k => w.heap.size ≤ k) y (plainV v) ∧ Below w.heap.size w w'
theorem insP_length (p : ByteArray × Val) : ∀ d : Prs, (insP p d).length = d.length + 1
  | [] => rfl
  | q :: t => by rw [insP]; split; rfl; rw [List.length_cons, insP_length p t]; rfl
theorem putP_length (d : Prs) (p : ByteArray × Val) : (putP d p).length ≤ d.length + 1 := by unfold putP; split; omega; rw [insP_length]; omega
theorem fold_length : ∀ (l a : Prs), (l.foldl putP a).length ≤ a.length + l.length
  | [], a => by simp
  | p :: t, a => by rw [List.foldl_cons, List.length_cons]; have := fold_length t (putP a p); have := putP_length a p; omega
theorem plainD_length (d : Prs) : (plainD d).length = d.length := by rw [plainD_map]; simp [mapD]
theorem plainD_at {d : Prs} {i : Nat} (h : i < d.length) : (plainD d)[i]'(by rw [plainD_length]; exact h) = ((d[i]).1, plainV (d[i]).2) := by
  have e := plainD_map d
  simp only [e]
  simp [mapD]

set_option maxHeartbeats 4000000 in
theorem rpairs_of (d : Prs) (ih : ∀ p ∈ d, RPlainC p.2) (hfit : ∀ p ∈ d, Fit p.2 4000) (hlen : d.length ≤ 4000) (sl : Sl) (w : World) (S : Nat → Prop) (hD : RdD w S sl d) (hS : ∀ k, S k → k < w.heap.size) :
    Calls Try.prog 27 #[.slice sl.p sl.len sl.cap] w fun e w' => ∃ sl', e = .returned (.slice sl'.p sl'.len sl'.cap) ∧ RdD w' (fun k => w.heap.size ≤ k) sl' (pairsV (plainD d)) ∧ Below w.heap.size w w' := by
  obtain ⟨dp, dl, dc⟩ := sl
  obtain ⟨hdl, hdm⟩ := hD.len_le
  dsimp only at hdl hdm
  unfold maxLen at hdm
  have HD := Lib.hid hD
  have HS := Lib.hid hS
  have Hdl := Lib.hid hdl
  have Hih := Lib.hid ih
  have Hfit := Lib.hid hfit
  have hdl2 : dl ≤ 4000 := by omega
  clear hD hS hdl ih hfit
  have HB0 : Hid (Below w.heap.size w (w.alloc (.cells #[] 40))) := Lib.hid ((Below.refl w.heap.size w).alloc (Nat.le_refl _) _)
  have HR0 : Hid (RdD (w.alloc (.cells #[] 40)) (fun k => w.heap.size ≤ k) ⟨some ⟨w.heap.size, 0, none⟩, 0, 0⟩ []) := Lib.hid (RdD.nil _ _ _ _ (Nat.zero_le _))
  show Calls Try.prog 27 #[.slice dp dl dc] w _
  go_enter Try.func27, Try.ntmps27
  go_wp2
  go_loopg [3, 4] dl (fun f s3 s4 wr => ∃ (i : Nat) (q : Option Addr) (len cap : Nat), s4 = .int .i64 i ∧ s3 = .slice q len cap ∧ i ≤ dl ∧ dl ≤ f + i ∧
    Aside (RdD wr (fun k => w.heap.size ≤ k) ⟨q, len, cap⟩ (((plainD d).take i).foldl putP [])) ∧ Aside (Below w.heap.size w wr))
  case atStart => exact ⟨0, _, 0, 0, rfl, rfl, Nat.zero_le _, Nat.le_refl _, HR0, HB0⟩
  case round =>
    obtain ⟨i, q, len, cap, rfl, rfl, hi, hf, HR, HB⟩ := hrel
    by_cases hil : i < dl
    · have hid : i < d.length := by rw [← Hdl.out]; exact hil
      obtain ⟨lb, lo, ⟨zk, ⟨yk, yn, yg, ys, ⟨ylp, yll, ylc⟩, ⟨ydp, ydl, ydc⟩⟩⟩, h3, h4, h5, hkz, h6⟩ := HD.out.pair hid
      replace h3 : dp = some ⟨lb, lo, none⟩ := h3
      subst h3
      have h5r := h5.same (HB.out.block _ (HS.out _ h4))
      obtain ⟨e0, e1, e2, e3, e4, e5, e6⟩ := h5r
      dsimp only at e0 e1 e2 e3 e4 e5 e6 hkz h6
      have Hc := Lib.hid (fun (W : World) (hW : Below w.heap.size w W) => Hih.out _ (List.getElem_mem hid) ⟨yk, yn, yg, ys, ⟨ylp, yll, ylc⟩, ⟨ydp, ydl, ydc⟩⟩ W S (h6.later (below_old HS.out hW)) (old_later HS.out hW) (Hfit.out _ (List.getElem_mem hid)))
      have H5 := Lib.hid h5
      clear h5 h6
      go_wp2_with fail
      have hkeep : ∀ W : World, W.heap[lb]? = w.heap[lb]? → W.cell? ⟨lb, lo + i * 7, none⟩ = some (.string zk) ∧ W.cell? ⟨lb, lo + i * 7 + 1, none⟩ = some (.int .i64 yk) ∧ W.cell? ⟨lb, lo + i * 7 + 1 + 1, none⟩ = some (.int .i64 yn) ∧ W.cell? ⟨lb, lo + i * 7 + 1 + 2, none⟩ = some (.int .i64 yg) ∧ W.cell? ⟨lb, lo + i * 7 + 1 + 3, none⟩ = some (.string ys) ∧ W.cell? ⟨lb, lo + i * 7 + 1 + 4, none⟩ = some (.slice ylp yll ylc) ∧ W.cell? ⟨lb, lo + i * 7 + 1 + 5, none⟩ = some (.slice ydp ydl ydc) := fun W hW => by
        obtain ⟨a0, a1, a2, a3, a4, a5, a6⟩ := H5.out.same hW
        exact ⟨a0, a1, a2, a3, a4, a5, a6⟩
      have Hkeep := Lib.hid hkeep
      clear hkeep
      have hpt : ∀ (w3 : World) (y : Hv), Below wr.heap.size wr w3 → Below w.heap.size w w3 → Rd w3 (fun k => wr.heap.size ≤ k) y (plainV (d[i]).2) →
          Hid (Calls Try.prog 48 #[.slice q len cap, .agg #[.string zk, .int .i64 y.k, .int .i64 y.n, .int .i64 y.g, .string y.s, .slice y.l.p y.l.len y.l.cap, .slice y.d.p y.d.len y.d.cap]] w3 fun e w' => ∃ sl', e = .returned (.slice sl'.p sl'.len sl'.cap) ∧ RdD w' (fun k => (w.heap.size ≤ k ∧ k < w3.heap.size) ∨ w3.heap.size ≤ k) sl' (putP (((plainD d).take i).foldl putP []) ((d[i]).1, plainV (d[i]).2)) ∧ Below w3.heap.size w3 w') := fun w3 y hb hB hy => by
        refine vput_any (((plainD d).take i).foldl putP []) ((d[i]).1, plainV (d[i]).2) ⟨q, len, cap⟩ ⟨zk, y⟩ w3 (fun k => w.heap.size ≤ k ∧ k < w3.heap.size) (HR.out.carry hb) ⟨hkz, hy.bound.mono (fun _ hk => ⟨Nat.le_trans HB.out.size hk.1, hk.2⟩)⟩ (fun _ hk => hk.2) ?_
        have h1 := fold_length ((plainD d).take i) []
        have h2 : ((plainD d).take i).length ≤ (plainD d).length := List.length_take_le' ..
        rw [plainD_length] at h2
        simp only [List.length_nil] at h1
        omega
      have Hpt := Lib.hid hpt
      clear hpt hkz
      go_region_held3 (fun w' => w'.cell? ⟨lb, lo + i * 7, none⟩ = some (.string zk) ∧ w'.cell? ⟨lb, lo + i * 7 + 1, none⟩ = some (.int .i64 yk) ∧ w'.cell? ⟨lb, lo + i * 7 + 1 + 1, none⟩ = some (.int .i64 yn) ∧ w'.cell? ⟨lb, lo + i * 7 + 1 + 2, none⟩ = some (.int .i64 yg) ∧ w'.cell? ⟨lb, lo + i * 7 + 1 + 3, none⟩ = some (.string ys) ∧ w'.cell? ⟨lb, lo + i * 7 + 1 + 4, none⟩ = some (.slice ylp yll ylc) ∧ w'.cell? ⟨lb, lo + i * 7 + 1 + 5, none⟩ = some (.slice ydp ydl ydc))
        (first | exact Hkeep.out _ (HB4.out.block _ (HS.out _ h4)) | exact Hkeep.out _ (HB3.out.block _ (HS.out _ h4)) | exact Hkeep.out _ ((below_drewN HB.out 1).block _ (HS.out _ h4)) | go_keep)
        (first
          | (go_simp; go_at_call 14; refine (Hc.out _ (below_drewN HB.out 1)).mono ?_; rintro e w3 ⟨⟨vk, vn, vg, vs, ⟨vlp, vll, vlc⟩, ⟨vdp, vdl, vdc⟩⟩, he, hy, hb⟩; replace he : e = .returned (.agg #[.int .i64 vk, .int .i64 vn, .int .i64 vg, .string vs, .slice vlp vll vlc, .slice vdp vdl vdc]) := he; subst he; have HB3 := Lib.hid ((below_drewN HB.out 1).trans (hb.mono HB.out.size)); have Hy := Lib.hid hy; have Hb := Lib.hid (below_of_drewN hb); clear hy hb; have Hput := Hpt.out w3 ⟨vk, vn, vg, vs, ⟨vlp, vll, vlc⟩, ⟨vdp, vdl, vdc⟩⟩ Hb.out HB3.out Hy.out)
          | (go_simp; go_at_call 48; refine Hput.out.mono ?_; rintro e w4 ⟨⟨q', len', cap'⟩, rfl, hR', hb'⟩; have HR4 := Lib.hid hR'; have HB4 := Lib.hid (HB3.out.trans (hb'.mono HB3.out.size)); clear hR' hb'))
      all_goals
        go_wp2
        go_roundg (dl - (i + 1))
        case measure => omega
        case rel =>
          refine ⟨i + 1, q', len', cap', by go_num, rfl, by omega, by omega, (show Aside _ from ?_), HB4.out⟩
          have hi2 : i < (plainD d).length := by rw [plainD_length]; exact hid
          show RdD w4 _ _ _
          rw [List.take_add_one, List.getElem?_eq_getElem hi2, plainD_at hid, List.foldl_append]
          exact HR4.out.mono (fun k hk => hk.elim (fun h => h.1) (fun h => Nat.le_trans HB3.out.size h))
    · have htk : (plainD d).take i = plainD d := List.take_of_length_le (by rw [plainD_length]; have := Hdl.out; omega)
      rw [htk] at HR
      obtain ⟨A, hA⟩ : ∃ A, (plainD d).foldl putP [] = A := ⟨_, rfl⟩
      have hres : pairsV (plainD d) = A.filter (fun p => some0 p.2) := by rw [← hA]; rfl
      have hAl : A.length ≤ 4000 := by
        have h1 := fold_length (plainD d) []
        rw [plainD_length, hA] at h1
        simp only [List.length_nil] at h1
        omega
      rw [hA] at HR
      have Hres := Lib.hid hres
      obtain ⟨hl1, hl2⟩ := HR.out.len_le
      dsimp only at hl1 hl2
      have Hl1 := Lib.hid hl1
      have hl3 : len ≤ 4000 := by omega
      clear htk hA hres hl1 hl2 hAl
      obtain ⟨wo, hwo⟩ : ∃ wo, wo = wr := ⟨_, rfl⟩
      subst hwo
      have HA := Lib.hid (HR.out.bound)
      obtain ⟨w2, hw2⟩ : ∃ w2, wo.alloc (.cells #[] 40) = w2 := ⟨_, rfl⟩
      have HO0 : Hid (OwnP w2 wo.heap.size (some ⟨wo.heap.size, 0, none⟩) 0 []) := Lib.hid (by rw [← hw2]; exact OwnP.made wo (Nat.le_refl _))
      have HB1 : Hid (Below wo.heap.size wo w2) := Lib.hid (by rw [← hw2]; exact (Below.refl _ wo).alloc (Nat.le_refl _) _)
      go_wp2
      clear hw2
      go_loopg [5, 6] len (fun f s5 s6 wr => ∃ (j : Nat) (p2 : Option Addr) (cap2 : Nat) (xs : List Hp), s6 = .int .i64 j ∧ s5 = .slice p2 xs.length cap2 ∧ j ≤ len ∧ len ≤ f + j ∧ xs.length ≤ j ∧
        Aside (AllIs wo (fun k => w.heap.size ≤ k ∧ k < wo.heap.size) xs ((A.take j).filter (fun p => some0 p.2))) ∧ Aside (OwnP wr wo.heap.size p2 cap2 xs) ∧ Aside (Below wo.heap.size wo wr))
      case atStart => exact ⟨0, _, 0, [], rfl, rfl, Nat.zero_le _, Nat.le_refl _, Nat.le_refl _, trivial, HO0.out, HB1.out⟩
      case round =>
        obtain ⟨j, p2, cap2, xs, rfl, rfl, hj, hfj, hxl, HI, HO, HBx⟩ := hrel
        by_cases hjl : j < len
        · have hjd : j < A.length := by rw [← Hl1.out]; exact hjl
          obtain ⟨lb, lo, ⟨zk, ⟨yk, yn, yg, ys, ⟨ylp, yll, ylc⟩, ⟨ydp, ydl, ydc⟩⟩⟩, h3, h4, h5, hkz, h6⟩ := HA.out.pair hjd
          replace h3 : q = some ⟨lb, lo, none⟩ := h3
          subst h3
          obtain ⟨e0, e1, e2, e3, e4, e5, e6⟩ := h5.same (HBx.out.block _ h4.2)
          dsimp only at e0 e1 e2 e3 e4 e5 e6 hkz h6
          have H6 : Hid (zk = (A[j]).1 ∧ Rd wo (fun k => w.heap.size ≤ k ∧ k < wo.heap.size) ⟨yk, yn, yg, ys, ⟨ylp, yll, ylc⟩, ⟨ydp, ydl, ydc⟩⟩ (A[j]).2) := Lib.hid ⟨hkz, h6⟩
          have hkk : yk = (A[j]).2.kind := (rd_iff.1 h6).1.1
          have Hts : Hid (A.take (j + 1) = A.take j ++ [A[j]]) := Lib.hid (by rw [List.take_add_one, List.getElem?_eq_getElem hjd]; rfl)
          have f2 : wr.cell? ⟨lb, lo + j * 7 + 2, none⟩ = some (.int .i64 yn) := e2
          have f3 : wr.cell? ⟨lb, lo + j * 7 + 3, none⟩ = some (.int .i64 yg) := e3
          have f4 : wr.cell? ⟨lb, lo + j * 7 + 4, none⟩ = some (.string ys) := e4
          have f5 : wr.cell? ⟨lb, lo + j * 7 + 5, none⟩ = some (.slice ylp yll ylc) := e5
          have f6 : wr.cell? ⟨lb, lo + j * 7 + 6, none⟩ = some (.slice ydp ydl ydc) := e6
          by_cases hz : yk = 0
          · have Hnew : Hid (AllIs wo (fun k => w.heap.size ≤ k ∧ k < wo.heap.size) xs ((A.take (j + 1)).filter (fun p => some0 p.2))) := Lib.hid (by
              rw [Hts.out, List.filter_append, List.filter_cons, if_neg (by unfold some0; rw [← hkk, hz]; decide), List.filter_nil, List.append_nil]
              exact HI.out)
            have hz' : (yk != 0) = false := by simpa using hz
            clear HI hkz h6 hkk h5 hz e2 e3 e4 e5 e6
            go_wp2
            go_roundg (len - (j + 1))
            case measure => omega
            case rel => exact ⟨j + 1, p2, cap2, xs, by go_num, rfl, by omega, by omega, by omega, Hnew.out, HO, HBx⟩
          · have Hnew : Hid (AllIs wo (fun k => w.heap.size ≤ k ∧ k < wo.heap.size) (xs ++ [⟨zk, ⟨yk, yn, yg, ys, ⟨ylp, yll, ylc⟩, ⟨ydp, ydl, ydc⟩⟩⟩]) ((A.take (j + 1)).filter (fun p => some0 p.2))) := Lib.hid (by
              rw [Hts.out, List.filter_append, List.filter_cons, if_pos (by unfold some0; rw [← hkk]; exact decide_eq_true hz), List.filter_nil]
              exact AllIs.snoc H6.out HI.out)
            have hz' : (yk != 0) = true := by simpa using hz
            clear HI hkz h6 hkk h5 hz e2 e3 e4 e5 e6
            go_wp2_with (at_builtin; refine wpList_append_P rfl (.tmp 42) (.tmp 47) rfl wo.heap.size _ _ xs rfl (HO.out.push rfl) ⟨zk, ⟨yk, yn, yg, ys, ⟨ylp, yll, ylc⟩, ⟨ydp, ydl, ydc⟩⟩⟩ wr.heap.size 1 rfl (push_new rfl) (by omega) wo (below_push HBx.out HBx.out.size rfl rfl rfl rfl) (by have := HBx.out.size; simp; omega) ?_; intro g' cap' w3 HO2 HB2 HK2 HF2)
            have e : (xs ++ [(⟨zk, ⟨yk, yn, yg, ys, ⟨ylp, yll, ylc⟩, ⟨ydp, ydl, ydc⟩⟩⟩ : Hp)]).length = xs.length + 1 := by rw [List.length_append]; rfl
            go_roundg (len - (j + 1))
            case measure => omega
            case rel => exact ⟨j + 1, _, cap', _, by go_num, by rw [e], by omega, by omega, by rw [e]; omega, Hnew.out, HO2.out, HB2.out⟩
        · have htk : A.take j = A := List.take_of_length_le (by have := Hl1.out; omega)
          rw [htk] at HI
          go_wp2
          go_ret
          exact ⟨⟨p2, xs.length, cap2⟩, rfl, by rw [Hres.out]; exact (HI.out.read (fun k hk => HBx.out.block k hk.2) HO.out w.heap.size HB.out.size).mono (fun k hk => hk.elim (fun h => h.1) (fun h => h)), HB.out.trans (HBx.out.mono HB.out.size)⟩
end
end Go.Proofs.Ytejgcnmbngdkiaa
/-
  The document's answer: a value, plainly.
-/
namespace Go.Proofs.Ytejgcnmbngdkiaa
section
open Go.RowKit
set_option maxRecDepth 100000
attribute [local go_sem] Hv.arr

set_option maxHeartbeats 4000000 in
theorem rplain_list (l : List Val) (ih : ∀ x ∈ l, RPlainC x) (hfit : ∀ x ∈ l, Fit x 4000) (hlen : l.length ≤ 4000) (n g : Int) (s : ByteArray) (lp dp : Option Addr) (ll lc dl dc : Nat) (w : World) (S : Nat → Prop) (hL : RdL w S ⟨lp, ll, lc⟩ l) (hS : ∀ k, S k → k < w.heap.size) :
  Calls Try.prog 14 #[.agg #[.int .i64 5, .int .i64 n, .int .i64 g, .string s, .slice lp ll lc, .slice dp dl dc]] w fun e w' => ∃ p q c, e = .returned (.agg #[.int .i64 5, .int .i64 0, .int .i64 0, .string ⟨#[]⟩, .slice p q c, .slice none 0 0]) ∧
    RdL w' (fun k => w.heap.size ≤ k) ⟨p, q, c⟩ (l.map plainV) ∧ Below w.heap.size w w' := by
  obtain ⟨hll, hlm⟩ := hL.len_le
  dsimp only at hll hlm
  unfold maxLen at hlm
  have Hll := Lib.hid hll
  have hlm2 : ll ≤ 4000 := by omega
  have HL := Lib.hid hL
  have HS := Lib.hid hS
  have Hih := Lib.hid ih
  have Hfit := Lib.hid hfit
  clear hL hS ih hfit hll
  obtain ⟨w1, hw1⟩ : ∃ w1, w.alloc (.cells #[.int .i64 5, .int .i64 n, .int .i64 g, .string s, .slice lp ll lc, .slice dp dl dc] 26) = w1 := ⟨_, rfl⟩
  obtain ⟨w2, hw2⟩ : ∃ w2, w1.alloc (.cells #[.int .i64 0, .int .i64 0, .int .i64 0, .string ⟨#[]⟩, .slice none 0 0, .slice none 0 0] 26) = w2 := ⟨_, rfl⟩
  obtain ⟨w3, hw3⟩ : ∃ w3, w2.alloc (.cells #[.int .i64 5, .int .i64 0, .int .i64 0, .string ⟨#[]⟩, .slice none 0 0, .slice none 0 0] 26) = w3 := ⟨_, rfl⟩
  have hs1 : w1.heap.size = w.heap.size + 1 := by rw [← hw1]; simp
  have hs2 : w2.heap.size = w.heap.size + 1 + 1 := by rw [← hw2]; simp [hs1]
  have hs3 : w3.heap.size = w.heap.size + 1 + 1 + 1 := by rw [← hw3]; simp [hs2]
  have hb2 : Below w1.heap.size w1 w2 := by rw [← hw2]; exact (Below.refl _ _).alloc (Nat.le_refl _) _
  have hb3 : Below w2.heap.size w2 w3 := by rw [← hw3]; exact (Below.refl _ _).alloc (Nat.le_refl _) _
  have hb1 : Below w.heap.size w w1 := by rw [← hw1]; exact (Below.refl _ _).alloc (Nat.le_refl _) _
  have Hb3 : Hid (Below w.heap.size w w3) := Lib.hid (hb1.trans ((hb2.mono (by omega)).trans (hb3.mono (by omega))))
  have hbox : VCell w3 w.heap.size ⟨5, n, g, s, ⟨lp, ll, lc⟩, ⟨dp, dl, dc⟩⟩ :=
    (show VCell w1 w.heap.size ⟨5, n, g, s, ⟨lp, ll, lc⟩, ⟨dp, dl, dc⟩⟩ by rw [← hw1]; exact heap_alloc_new w _).later ((hb2.mono (Nat.le_of_eq rfl)).trans (hb3.mono (by omega))) (by omega)
  have hres : VCell w3 (w.heap.size + 1) .nil := by
    have h : VCell w2 w1.heap.size .nil := by rw [← hw2]; exact heap_alloc_new w1 _
    rw [hs1] at h
    exact h.later hb3 (by omega)
  have hx : VCell w3 (w.heap.size + 1 + 1) ⟨5, 0, 0, ⟨#[]⟩, ⟨none, 0, 0⟩, ⟨none, 0, 0⟩⟩ := by
    have h : VCell w3 w2.heap.size ⟨5, 0, 0, ⟨#[]⟩, ⟨none, 0, 0⟩, ⟨none, 0, 0⟩⟩ := by rw [← hw3]; exact heap_alloc_new w2 _
    rw [hs2] at h
    exact h
  have Hw1 := Lib.hid hw1
  have Hw2 := Lib.hid hw2
  have Hw3 := Lib.hid hw3
  clear hw1 hw2 hw3 hs1 hs2 hb1 hb2 hb3
  have Hbox := Lib.hid hbox
  have Hres := Lib.hid hres
  have Hx := Lib.hid hx
  have HR0 := Lib.hid (RowV.made w3 (Nat.le_refl w3.heap.size))
  have HB0 := Lib.hid ((Below.refl w3.heap.size w3).alloc (Nat.le_refl _) (.cells #[] 26))
  rw [hs3] at HR0
  have Hs3 := Lib.hid hs3
  clear hbox hres hx hs3
  go_enter Try.func14, Try.ntmps14
  go_wp2
  rw [Hw1.out, Hw2.out, Hw3.out]
  go_loopg [4, 5] ll (fun f s4 s5 wr => ∃ (i : Nat) (p : Option Addr) (cap : Nat) (xs : List Hv), s5 = .int .i64 i ∧ s4 = .slice p xs.length cap ∧ i ≤ ll ∧ ll ≤ f + i ∧ xs.length ≤ i ∧
    Aside (RowV wr w3.heap.size p cap xs ((l.take i).map plainV)) ∧ Aside (Below w3.heap.size w3 wr))
  case atStart => exact ⟨0, _, 0, [], rfl, rfl, Nat.zero_le _, Nat.le_refl _, Nat.le_refl _, by rw [Hs3.out] at *; exact HR0.out, HB0.out⟩
  case round =>
    obtain ⟨i, p, cap, xs, rfl, rfl, hi, hf, hxl, HR, HB⟩ := hrel
    obtain ⟨b0, b1, b2, b3, b4, b5⟩ := (Hbox.out.later HB.out (by have := Hs3.out; omega)).at
    dsimp only at b0 b1 b2 b3 b4 b5
    by_cases hil : i < ll
    · have Hww : Hid (Below w.heap.size w wr) := Lib.hid (Hb3.out.trans (HB.out.mono (by have := Hs3.out; omega)))
      obtain ⟨lb, lo, ⟨yk, yn, yg, ys, ⟨ylp, yll, ylc⟩, ⟨ydp, ydl, ydc⟩⟩, hiv, h3, h4, h5, h6⟩ := (HL.out.later (below_old HS.out Hww.out)).at hil
      subst h3
      obtain ⟨e0, e1, e2, e3, e4, e5⟩ := h5
      dsimp only at e0 e1 e2 e3 e4 e5
      have Hc := Lib.hid (Hih.out _ (List.getElem_mem hiv) _ wr S h6 (old_later HS.out Hww.out) (Hfit.out _ (List.getElem_mem hiv)))
      clear h4 h6
      go_wp2_with fail
      refine Hc.out.mono ?_
      rintro e w5 ⟨⟨vk, vn, vg, vs, ⟨vlp, vll, vlc⟩, ⟨vdp, vdl, vdc⟩⟩, he, hy, hb⟩
      replace he : e = .returned (.agg #[.int .i64 vk, .int .i64 vn, .int .i64 vg, .string vs, .slice vlp vll vlc, .slice vdp vdl vdc]) := he
      subst he
      have Hy := Lib.hid hy
      have Hb := Lib.hid hb
      have HB5 := Lib.hid (HB.out.trans (hb.mono HB.out.size))
      clear hy hb e0 e1 e2 e3 e4 e5 b0 b1 b2 b3 b4 b5
      go_wp2_with (at_builtin; refine wpList_append_V rfl (.tmp 34) (.tmp 41) rfl w3.heap.size _ _ xs rfl ((HR.out.1.later Hb.out).push rfl) ⟨vk, vn, vg, vs, ⟨vlp, vll, vlc⟩, ⟨vdp, vdl, vdc⟩⟩ w5.heap.size 1 rfl (push_new rfl) (by omega) w3 (below_push HB5.out HB5.out.size rfl rfl rfl rfl) (by have := HB5.out.size; simp; omega) ?_; intro g' cap' w6 HO2 HB2 HK2 HF2)
      have e : (xs ++ [(⟨vk, vn, vg, vs, ⟨vlp, vll, vlc⟩, ⟨vdp, vdl, vdc⟩⟩ : Hv)]).length = xs.length + 1 := by rw [List.length_append]; rfl
      go_roundg (ll - (i + 1))
      case measure => omega
      case rel =>
        refine ⟨i + 1, _, cap', _, by go_num, by rw [e], by omega, by omega, by rw [e]; omega, (show Aside _ from ?_), HB2.out⟩
        rw [List.take_add_one, List.getElem?_eq_getElem hiv, Option.toList_some, List.map_append]
        exact HR.out.snoc (Hb.out.alloc Hb.out.size (.cells #[.int .i64 vk, .int .i64 vn, .int .i64 vg, .string vs, .slice vlp vll vlc, .slice vdp vdl vdc] 26)) (Hy.out.bound.later (fun k hk => heap_alloc_old _ _ hk.2) |>.mono (fun _ hk => hk.1)) HB.out.size HO2.out HK2.out HF2.out
    · have htk : l.take i = l := List.take_of_length_le (by have := Hll.out; omega)
      rw [htk] at HR
      have hxr : VCell wr (w.heap.size + 1 + 1) ⟨5, 0, 0, ⟨#[]⟩, ⟨none, 0, 0⟩, ⟨none, 0, 0⟩⟩ := Hx.out.later HB.out (by have := Hs3.out; omega)
      have hrr : VCell wr (w.heap.size + 1) .nil := Hres.out.later HB.out (by have := Hs3.out; omega)
      have hx4 := hxr.cell 4
      have hf4 := hxr.free 4
      have hx4' : wr.cell? ⟨w.heap.size + 1 + 1, 4, none⟩ = some (.slice none 0 0) := hx4
      have Hxs := Lib.hid (hxr.setL p xs.length cap)
      have Hrs : Hid (VCell (wr.setCell ⟨w.heap.size + 1 + 1, 4, none⟩ (.slice p xs.length cap)) (w.heap.size + 1) .nil) := Lib.hid (hrr.same (by rw [Below.heap_setCell]; show w.heap.size + 1 ≠ w.heap.size + 1 + 1; omega))
      clear hx4 hxr hrr
      go_wp2_with (first
        | (refine VCell.load rfl (.tmp 3) rfl (w.heap.size + 1 + 1) _ rfl Hxs.out ?_)
        | (refine VCell.store rfl rfl (.tmp 2) (.tmp 68) rfl (w.heap.size + 1) .nil ⟨5, 0, 0, ⟨#[]⟩, ⟨p, xs.length, cap⟩, ⟨none, 0, 0⟩⟩ rfl rfl Hrs.out ?_; intro w7 HC7 HK7 HB7 HZ7; obtain ⟨k0, k1, k2, k3, k4, k5⟩ := HC7.out.at; dsimp only at k0 k1 k2 k3 k4 k5))
      have hs3 := Hs3.out
      have hRL := (HR.out.read.bound.later (w' := w7) (fun k hk => by
        rw [HK7.out k (by have := hk.1; omega), Below.heap_setCell]
        show k ≠ w.heap.size + 1 + 1
        have := hk.1; omega)).mono (S' := fun k => w.heap.size ≤ k) (fun k hk => by have := hk.1; omega)
      refine bodyPost_ret (v := .agg #[.int .i64 5, .int .i64 0, .int .i64 0, .string ⟨#[]⟩, .slice p xs.length cap, .slice none 0 0]) (by simp [results, Try.results14, go_sem, k0, k1, k2, k3, k4, k5]) rfl ⟨p, xs.length, cap, rfl, hRL, ?_⟩
      exact (Hb3.out.trans (HB.out.mono (by omega))).trans (((Below.refl w.heap.size wr).setCell (p := ⟨w.heap.size + 1 + 1, 4, none⟩) (by show w.heap.size ≤ w.heap.size + 1 + 1; omega) _).trans (HB7.out.mono (by omega)))
end
end Go.Proofs.Ytejgcnmbngdkiaa
/-
  The document's answer: a value, plainly.
-/
namespace Go.Proofs.Ytejgcnmbngdkiaa
section
open Go.RowKit
set_option maxRecDepth 100000
attribute [local go_sem] Hv.arr

set_option maxHeartbeats 4000000 in
theorem rplain_dict (d : Prs) (ih : ∀ p ∈ d, RPlainC p.2) (hfit : ∀ p ∈ d, Fit p.2 4000) (hlen : d.length ≤ 4000) (n g : Int) (s : ByteArray) (lp dp : Option Addr) (ll lc dl dc : Nat) (w : World) (S : Nat → Prop) (hD : RdD w S ⟨dp, dl, dc⟩ d) (hS : ∀ k, S k → k < w.heap.size) :
  Calls Try.prog 14 #[.agg #[.int .i64 6, .int .i64 n, .int .i64 g, .string s, .slice lp ll lc, .slice dp dl dc]] w fun e w' => ∃ p q c, e = .returned (.agg #[.int .i64 6, .int .i64 0, .int .i64 0, .string ⟨#[]⟩, .slice none 0 0, .slice p q c]) ∧
    RdD w' (fun k => w.heap.size ≤ k) ⟨p, q, c⟩ (pairsV (plainD d)) ∧ Below w.heap.size w w' := by
  obtain ⟨w1, hw1⟩ : ∃ w1, w.alloc (.cells #[.int .i64 6, .int .i64 n, .int .i64 g, .string s, .slice lp ll lc, .slice dp dl dc] 26) = w1 := ⟨_, rfl⟩
  obtain ⟨w2, hw2⟩ : ∃ w2, w1.alloc (.cells #[.int .i64 0, .int .i64 0, .int .i64 0, .string ⟨#[]⟩, .slice none 0 0, .slice none 0 0] 26) = w2 := ⟨_, rfl⟩
  obtain ⟨w3, hw3⟩ : ∃ w3, w2.alloc (.cells #[.int .i64 6, .int .i64 0, .int .i64 0, .string ⟨#[]⟩, .slice none 0 0, .slice none 0 0] 26) = w3 := ⟨_, rfl⟩
  have hs1 : w1.heap.size = w.heap.size + 1 := by rw [← hw1]; simp
  have hs2 : w2.heap.size = w.heap.size + 1 + 1 := by rw [← hw2]; simp [hs1]
  have hs3 : w3.heap.size = w.heap.size + 1 + 1 + 1 := by rw [← hw3]; simp [hs2]
  have hb2 : Below w1.heap.size w1 w2 := by rw [← hw2]; exact (Below.refl _ _).alloc (Nat.le_refl _) _
  have hb3 : Below w2.heap.size w2 w3 := by rw [← hw3]; exact (Below.refl _ _).alloc (Nat.le_refl _) _
  have hb1 : Below w.heap.size w w1 := by rw [← hw1]; exact (Below.refl _ _).alloc (Nat.le_refl _) _
  have Hb3 : Hid (Below w.heap.size w w3) := Lib.hid (hb1.trans ((hb2.mono (by omega)).trans (hb3.mono (by omega))))
  have hbox : VCell w3 w.heap.size ⟨6, n, g, s, ⟨lp, ll, lc⟩, ⟨dp, dl, dc⟩⟩ :=
    (show VCell w1 w.heap.size ⟨6, n, g, s, ⟨lp, ll, lc⟩, ⟨dp, dl, dc⟩⟩ by rw [← hw1]; exact heap_alloc_new w _).later ((hb2.mono (Nat.le_of_eq rfl)).trans (hb3.mono (by omega))) (by omega)
  have hres : VCell w3 (w.heap.size + 1) .nil := by
    have h : VCell w2 w1.heap.size .nil := by rw [← hw2]; exact heap_alloc_new w1 _
    rw [hs1] at h
    exact h.later hb3 (by omega)
  have hx : VCell w3 (w.heap.size + 1 + 1) ⟨6, 0, 0, ⟨#[]⟩, ⟨none, 0, 0⟩, ⟨none, 0, 0⟩⟩ := by
    have h : VCell w3 w2.heap.size ⟨6, 0, 0, ⟨#[]⟩, ⟨none, 0, 0⟩, ⟨none, 0, 0⟩⟩ := by rw [← hw3]; exact heap_alloc_new w2 _
    rw [hs2] at h
    exact h
  have Hw1 := Lib.hid hw1
  have Hw2 := Lib.hid hw2
  have Hw3 := Lib.hid hw3
  clear hw1 hw2 hw3 hs1 hs2 hb1 hb2 hb3
  have Hbox := Lib.hid hbox
  have Hres := Lib.hid hres
  have Hx := Lib.hid hx
  have Hc := Lib.hid (rpairs_of d ih hfit hlen ⟨dp, dl, dc⟩ w3 S (hD.later (below_old hS Hb3.out)) (old_later hS Hb3.out))
  have Hs3 := Lib.hid hs3
  obtain ⟨b0, b1, b2, b3, b4, b5⟩ := hbox.at
  dsimp only at b0 b1 b2 b3 b4 b5
  clear ih hfit hlen hD hS hbox hres hx hs3
  go_enter Try.func14, Try.ntmps14
  go_wp2_with fail
  rw [Hw1.out, Hw2.out, Hw3.out]
  refine Hc.out.mono ?_
  rintro e w5 ⟨⟨p', q', c'⟩, rfl, hr, hb⟩
  have Hb5 := Lib.hid hb
  have Hr := Lib.hid hr
  clear hb hr b0 b1 b2 b3 b4 b5
  have hxr : VCell w5 (w.heap.size + 1 + 1) ⟨6, 0, 0, ⟨#[]⟩, ⟨none, 0, 0⟩, ⟨none, 0, 0⟩⟩ := Hx.out.later Hb5.out (by have := Hs3.out; omega)
  have hrr : VCell w5 (w.heap.size + 1) .nil := Hres.out.later Hb5.out (by have := Hs3.out; omega)
  have hf4 := hxr.free 5
  have hx4' : w5.cell? ⟨w.heap.size + 1 + 1, 5, none⟩ = some (.slice none 0 0) := hxr.cell 5
  have Hxs := Lib.hid (hxr.setD p' q' c')
  have Hrs : Hid (VCell (w5.setCell ⟨w.heap.size + 1 + 1, 5, none⟩ (.slice p' q' c')) (w.heap.size + 1) .nil) := Lib.hid (hrr.same (by rw [Below.heap_setCell]; show w.heap.size + 1 ≠ w.heap.size + 1 + 1; omega))
  have HBz : Hid (Below w.heap.size w5 (w5.setCell ⟨w.heap.size + 1 + 1, 5, none⟩ (.slice p' q' c'))) := Lib.hid ((Below.refl w.heap.size w5).setCell (p := ⟨w.heap.size + 1 + 1, 5, none⟩) (by show w.heap.size ≤ w.heap.size + 1 + 1; omega) _)
  have HZ : Hid (∀ k, w.heap.size + 1 + 1 + 1 ≤ k → (w5.setCell ⟨w.heap.size + 1 + 1, 5, none⟩ (.slice p' q' c')).heap[k]? = w5.heap[k]?) := Lib.hid (fun k hk => Below.heap_setCell _ _ _ _ (by show k ≠ w.heap.size + 1 + 1; omega))
  clear hxr hrr
  go_wp2_with (first
    | (refine VCell.load rfl (.tmp 3) rfl (w.heap.size + 1 + 1) _ rfl Hxs.out ?_)
    | (refine VCell.store rfl rfl (.tmp 2) (.tmp 68) rfl (w.heap.size + 1) .nil ⟨6, 0, 0, ⟨#[]⟩, ⟨none, 0, 0⟩, ⟨p', q', c'⟩⟩ rfl rfl Hrs.out ?_; intro w7 HC7 HK7 HB7 HZ7; obtain ⟨k0, k1, k2, k3, k4, k5⟩ := HC7.out.at; dsimp only at k0 k1 k2 k3 k4 k5))
  have hr := Hr.out
  have hs3 := Hs3.out
  have hRD := (hr.bound.later (w' := w7) (fun k hk => by
    rw [HK7.out k (by have := hk.1; omega)]
    exact HZ.out k (by have := hk.1; omega))).mono (S' := fun k => w.heap.size ≤ k) (fun k hk => by have := hk.1; omega)
  refine bodyPost_ret (v := .agg #[.int .i64 6, .int .i64 0, .int .i64 0, .string ⟨#[]⟩, .slice none 0 0, .slice p' q' c']) (by simp [results, Try.results14, go_sem, k0, k1, k2, k3, k4, k5]) rfl ⟨p', q', c', rfl, hRD, ?_⟩
  exact (Hb3.out.trans (Hb5.out.mono (by omega))).trans (HBz.out.trans (HB7.out.mono (by omega)))
end
end Go.Proofs.Ytejgcnmbngdkiaa
/-
  The document's answer: a value, plainly.
-/
namespace Go.Proofs.Ytejgcnmbngdkiaa
section
open Go.RowKit
set_option maxRecDepth 100000
attribute [local go_sem] Hv.arr

set_option maxHeartbeats 4000000 in
theorem rplain_stream (d : Prs) (ih : ∀ p ∈ d, RPlainC p.2) (hfit : ∀ p ∈ d, Fit p.2 4000) (hlen : d.length ≤ 4000) (n g : Int) (s : ByteArray) (lp dp : Option Addr) (ll lc dl dc : Nat) (w : World) (S : Nat → Prop) (hD : RdD w S ⟨dp, dl, dc⟩ d) (hS : ∀ k, S k → k < w.heap.size) :
  Calls Try.prog 14 #[.agg #[.int .i64 8, .int .i64 n, .int .i64 g, .string s, .slice lp ll lc, .slice dp dl dc]] w fun e w' => ∃ p q c, e = .returned (.agg #[.int .i64 8, .int .i64 0, .int .i64 0, .string s, .slice none 0 0, .slice p q c]) ∧
    RdD w' (fun k => w.heap.size ≤ k) ⟨p, q, c⟩ (pairsV (plainD d)) ∧ Below w.heap.size w w' := by
  obtain ⟨w1, hw1⟩ : ∃ w1, w.alloc (.cells #[.int .i64 8, .int .i64 n, .int .i64 g, .string s, .slice lp ll lc, .slice dp dl dc] 26) = w1 := ⟨_, rfl⟩
  obtain ⟨w2, hw2⟩ : ∃ w2, w1.alloc (.cells #[.int .i64 0, .int .i64 0, .int .i64 0, .string ⟨#[]⟩, .slice none 0 0, .slice none 0 0] 26) = w2 := ⟨_, rfl⟩
  obtain ⟨w3, hw3⟩ : ∃ w3, w2.alloc (.cells #[.int .i64 8, .int .i64 0, .int .i64 0, .string ⟨#[]⟩, .slice none 0 0, .slice none 0 0] 26) = w3 := ⟨_, rfl⟩
  have hs1 : w1.heap.size = w.heap.size + 1 := by rw [← hw1]; simp
  have hs2 : w2.heap.size = w.heap.size + 1 + 1 := by rw [← hw2]; simp [hs1]
  have hs3 : w3.heap.size = w.heap.size + 1 + 1 + 1 := by rw [← hw3]; simp [hs2]
  have hb2 : Below w1.heap.size w1 w2 := by rw [← hw2]; exact (Below.refl _ _).alloc (Nat.le_refl _) _
  have hb3 : Below w2.heap.size w2 w3 := by rw [← hw3]; exact (Below.refl _ _).alloc (Nat.le_refl _) _
  have hb1 : Below w.heap.size w w1 := by rw [← hw1]; exact (Below.refl _ _).alloc (Nat.le_refl _) _
  have Hb3 : Hid (Below w.heap.size w w3) := Lib.hid (hb1.trans ((hb2.mono (by omega)).trans (hb3.mono (by omega))))
  have hbox : VCell w3 w.heap.size ⟨8, n, g, s, ⟨lp, ll, lc⟩, ⟨dp, dl, dc⟩⟩ :=
    (show VCell w1 w.heap.size ⟨8, n, g, s, ⟨lp, ll, lc⟩, ⟨dp, dl, dc⟩⟩ by rw [← hw1]; exact heap_alloc_new w _).later ((hb2.mono (Nat.le_of_eq rfl)).trans (hb3.mono (by omega))) (by omega)
  have hres : VCell w3 (w.heap.size + 1) .nil := by
    have h : VCell w2 w1.heap.size .nil := by rw [← hw2]; exact heap_alloc_new w1 _
    rw [hs1] at h
    exact h.later hb3 (by omega)
  have hx : VCell w3 (w.heap.size + 1 + 1) ⟨8, 0, 0, ⟨#[]⟩, ⟨none, 0, 0⟩, ⟨none, 0, 0⟩⟩ := by
    have h : VCell w3 w2.heap.size ⟨8, 0, 0, ⟨#[]⟩, ⟨none, 0, 0⟩, ⟨none, 0, 0⟩⟩ := by rw [← hw3]; exact heap_alloc_new w2 _
    rw [hs2] at h
    exact h
  have Hw1 := Lib.hid hw1
  have Hw2 := Lib.hid hw2
  have Hw3 := Lib.hid hw3
  clear hw1 hw2 hw3 hs1 hs2 hb1 hb2 hb3
  have Hbox := Lib.hid hbox
  have Hres := Lib.hid hres
  have Hx := Lib.hid hx
  have Hc := Lib.hid (rpairs_of d ih hfit hlen ⟨dp, dl, dc⟩ w3 S (hD.later (below_old hS Hb3.out)) (old_later hS Hb3.out))
  have Hcd : Hid (∀ W : World, W = w3.drewN 1 → Calls Try.prog 27 #[.slice dp dl dc] W fun e w' => ∃ sl', e = .returned (.slice sl'.p sl'.len sl'.cap) ∧ RdD w' (fun k => W.heap.size ≤ k) sl' (pairsV (plainD d)) ∧ Below W.heap.size W w') := Lib.hid (fun W hW => by
    subst hW
    exact rpairs_of d ih hfit hlen ⟨dp, dl, dc⟩ (w3.drewN 1) S ((hD.later (below_old hS Hb3.out)).later (fun _ _ => rfl)) (old_later hS (below_drewN Hb3.out 1)))
  have Hs3 := Lib.hid hs3
  have hbx := hbox
  obtain ⟨b0, b1, b2, b3, b4, b5⟩ := hbox.at
  dsimp only at b0 b1 b2 b3 b4 b5
  clear ih hfit hlen hD hS hbox hres hx hs3
  go_enter Try.func14, Try.ntmps14
  go_wp2_with fail
  rw [Hw1.out, Hw2.out, Hw3.out]
  have Hboxh := Lib.hid hbx
  clear hbx
  go_region_with (go_at_call 27; refine (Hcd.out _ rfl).mono ?_; rintro e w5 ⟨⟨p', q', c'⟩, rfl, hr, hb⟩; have Hb5 := Lib.hid (below_of_drewN (n := 1) hb); have Hr := Lib.hid hr; clear hb hr; obtain ⟨y0, y1, y2, y3, y4, y5⟩ := (Hboxh.out.later Hb5.out (by have := Hs3.out; omega)).at; dsimp only at y0 y1 y2 y3 y4 y5; have hxr : VCell w5 (w.heap.size + 1 + 1) ⟨8, 0, 0, ⟨#[]⟩, ⟨none, 0, 0⟩, ⟨none, 0, 0⟩⟩ := Hx.out.later Hb5.out (by have := Hs3.out; omega); obtain ⟨x0, x1, x2, x3, x4, x5⟩ := hxr.at; dsimp only at x0 x1 x2 x3 x4 x5; have hf3 := hxr.free 3; have hf5 := hxr.free 5)
  all_goals
    have Hxs := Lib.hid ((hxr.setS s).setD p' q' c')
    have hrr : VCell w5 (w.heap.size + 1) .nil := Hres.out.later Hb5.out (by have := Hs3.out; omega)
    have Hrs : Hid (VCell ((w5.setCell ⟨w.heap.size + 1 + 1, 3, none⟩ (.string s)).setCell ⟨w.heap.size + 1 + 1, 5, none⟩ (.slice p' q' c')) (w.heap.size + 1) .nil) := Lib.hid (hrr.same (by rw [Below.heap_setCell, Below.heap_setCell] <;> (show w.heap.size + 1 ≠ w.heap.size + 1 + 1; omega)))
    have HBz : Hid (Below w.heap.size w5 ((w5.setCell ⟨w.heap.size + 1 + 1, 3, none⟩ (.string s)).setCell ⟨w.heap.size + 1 + 1, 5, none⟩ (.slice p' q' c'))) := Lib.hid (((Below.refl w.heap.size w5).setCell (p := ⟨w.heap.size + 1 + 1, 3, none⟩) (by show w.heap.size ≤ w.heap.size + 1 + 1; omega) _).setCell (p := ⟨w.heap.size + 1 + 1, 5, none⟩) (by show w.heap.size ≤ w.heap.size + 1 + 1; omega) _)
    have HZ : Hid (∀ k, w.heap.size + 1 + 1 + 1 ≤ k → ((w5.setCell ⟨w.heap.size + 1 + 1, 3, none⟩ (.string s)).setCell ⟨w.heap.size + 1 + 1, 5, none⟩ (.slice p' q' c')).heap[k]? = w5.heap[k]?) := Lib.hid (fun k hk => by rw [Below.heap_setCell, Below.heap_setCell] <;> (show k ≠ w.heap.size + 1 + 1; omega))
    clear hxr hrr x0 x1 x2 x3 x4 x5 y0 y1 y2 y3 y4 y5 hf3 hf5
    go_wp2_with (first
      | (refine VCell.load rfl (.tmp 3) rfl (w.heap.size + 1 + 1) _ rfl Hxs.out ?_)
      | (refine VCell.store rfl rfl (.tmp 2) (.tmp 68) rfl (w.heap.size + 1) .nil ⟨8, 0, 0, s, ⟨none, 0, 0⟩, ⟨p', q', c'⟩⟩ rfl rfl Hrs.out ?_; intro w7 HC7 HK7 HB7 HZ7; obtain ⟨k0, k1, k2, k3, k4, k5⟩ := HC7.out.at; dsimp only at k0 k1 k2 k3 k4 k5))
    have hr := Hr.out
    have hs3 := Hs3.out
    have hRD := (hr.bound.later (w' := w7) (fun k hk => by
      have h9 : w3.heap.size ≤ k := hk.1
      rw [HK7.out k (by omega)]
      exact HZ.out k (by omega))).mono (S' := fun k => w.heap.size ≤ k) (fun k hk => by have h9 : w3.heap.size ≤ k := hk.1; omega)
    refine bodyPost_ret (v := .agg #[.int .i64 8, .int .i64 0, .int .i64 0, .string s, .slice none 0 0, .slice p' q' c']) (by simp [results, Try.results14, go_sem, k0, k1, k2, k3, k4, k5]) rfl ⟨p', q', c', rfl, hRD, ?_⟩
    exact (Hb3.out.trans (Hb5.out.mono (by omega))).trans (HBz.out.trans (HB7.out.mono (by omega)))
end
end Go.Proofs.Ytejgcnmbngdkiaa
/-
  The document's answer: a value, plainly.
-/
namespace Go.Proofs.Ytejgcnmbngdkiaa
section
open Go.RowKit
set_option maxRecDepth 100000
attribute [local go_sem] Hv.arr

set_option maxHeartbeats 4000000 in
theorem rplain_1 (n g : Int) (s : ByteArray) (lp dp : Option Addr) (ll lc dl dc : Nat) (w : World) :
    Calls Try.prog 14 #[.agg #[.int .i64 1, .int .i64 n, .int .i64 g, .string s, .slice lp ll lc, .slice dp dl dc]] w fun e w' => e = .returned (.agg #[.int .i64 1, .int .i64 n, .int .i64 0, .string ⟨#[]⟩, .slice none 0 0, .slice none 0 0]) ∧ Below w.heap.size w w' := by
  go_enter Try.func14, Try.ntmps14
  go_wp2
  exact bodyPost_ret (v := .agg #[.int .i64 1, .int .i64 n, .int .i64 0, .string ⟨#[]⟩, .slice none 0 0, .slice none 0 0]) (by simp [results, Try.results14, go_sem]) rfl ⟨rfl, (((Below.refl _ w).alloc (Nat.le_refl _) _).alloc (by simp) _).alloc (by simp; omega) _⟩

set_option maxHeartbeats 4000000 in
theorem rplain_2 (n g : Int) (s : ByteArray) (lp dp : Option Addr) (ll lc dl dc : Nat) (w : World) :
    Calls Try.prog 14 #[.agg #[.int .i64 2, .int .i64 n, .int .i64 g, .string s, .slice lp ll lc, .slice dp dl dc]] w fun e w' => e = .returned (.agg #[.int .i64 2, .int .i64 n, .int .i64 0, .string ⟨#[]⟩, .slice none 0 0, .slice none 0 0]) ∧ Below w.heap.size w w' := by
  go_enter Try.func14, Try.ntmps14
  go_wp2
  exact bodyPost_ret (v := .agg #[.int .i64 2, .int .i64 n, .int .i64 0, .string ⟨#[]⟩, .slice none 0 0, .slice none 0 0]) (by simp [results, Try.results14, go_sem]) rfl ⟨rfl, (((Below.refl _ w).alloc (Nat.le_refl _) _).alloc (by simp) _).alloc (by simp; omega) _⟩

set_option maxHeartbeats 4000000 in
theorem rplain_3 (n g : Int) (s : ByteArray) (lp dp : Option Addr) (ll lc dl dc : Nat) (w : World) :
    Calls Try.prog 14 #[.agg #[.int .i64 3, .int .i64 n, .int .i64 g, .string s, .slice lp ll lc, .slice dp dl dc]] w fun e w' => e = .returned (.agg #[.int .i64 3, .int .i64 0, .int .i64 0, .string s, .slice none 0 0, .slice none 0 0]) ∧ Below w.heap.size w w' := by
  go_enter Try.func14, Try.ntmps14
  go_wp2
  exact bodyPost_ret (v := .agg #[.int .i64 3, .int .i64 0, .int .i64 0, .string s, .slice none 0 0, .slice none 0 0]) (by simp [results, Try.results14, go_sem]) rfl ⟨rfl, (((Below.refl _ w).alloc (Nat.le_refl _) _).alloc (by simp) _).alloc (by simp; omega) _⟩

set_option maxHeartbeats 4000000 in
theorem rplain_4 (n g : Int) (s : ByteArray) (lp dp : Option Addr) (ll lc dl dc : Nat) (w : World) :
    Calls Try.prog 14 #[.agg #[.int .i64 4, .int .i64 n, .int .i64 g, .string s, .slice lp ll lc, .slice dp dl dc]] w fun e w' => e = .returned (.agg #[.int .i64 4, .int .i64 0, .int .i64 0, .string s, .slice none 0 0, .slice none 0 0]) ∧ Below w.heap.size w w' := by
  go_enter Try.func14, Try.ntmps14
  go_wp2
  exact bodyPost_ret (v := .agg #[.int .i64 4, .int .i64 0, .int .i64 0, .string s, .slice none 0 0, .slice none 0 0]) (by simp [results, Try.results14, go_sem]) rfl ⟨rfl, (((Below.refl _ w).alloc (Nat.le_refl _) _).alloc (by simp) _).alloc (by simp; omega) _⟩

set_option maxHeartbeats 4000000 in
theorem rplain_7 (n g : Int) (s : ByteArray) (lp dp : Option Addr) (ll lc dl dc : Nat) (w : World) :
    Calls Try.prog 14 #[.agg #[.int .i64 7, .int .i64 n, .int .i64 g, .string s, .slice lp ll lc, .slice dp dl dc]] w fun e w' => e = .returned (.agg #[.int .i64 7, .int .i64 n, .int .i64 g, .string ⟨#[]⟩, .slice none 0 0, .slice none 0 0]) ∧ Below w.heap.size w w' := by
  go_enter Try.func14, Try.ntmps14
  go_wp2
  go_region
  all_goals go_wp2
  all_goals exact bodyPost_ret (v := .agg #[.int .i64 7, .int .i64 n, .int .i64 g, .string ⟨#[]⟩, .slice none 0 0, .slice none 0 0]) (by simp [results, Try.results14, go_sem]) rfl ⟨rfl, Below.drew ((((Below.refl _ w).alloc (Nat.le_refl _) _).alloc (by simp) _).alloc (by simp; omega) _)⟩

set_option maxHeartbeats 4000000 in
theorem rplain_0 (k n g : Int) (s : ByteArray) (lp dp : Option Addr) (ll lc dl dc : Nat) (w : World) (h : k ≠ 1 ∧ k ≠ 2 ∧ k ≠ 3 ∧ k ≠ 4 ∧ k ≠ 5 ∧ k ≠ 6 ∧ k ≠ 7 ∧ k ≠ 8) :
    Calls Try.prog 14 #[.agg #[.int .i64 k, .int .i64 n, .int .i64 g, .string s, .slice lp ll lc, .slice dp dl dc]] w fun e w' => e = .returned (.agg #[.int .i64 0, .int .i64 0, .int .i64 0, .string ⟨#[]⟩, .slice none 0 0, .slice none 0 0]) ∧ Below w.heap.size w w' := by
  have k1 : (k == 1) = false := by simp; omega
  have k2 : (k == 2) = false := by simp; omega
  have k3 : (k == 3) = false := by simp; omega
  have k4 : (k == 4) = false := by simp; omega
  have k5 : (k == 5) = false := by simp; omega
  have k6 : (k == 6) = false := by simp; omega
  have k7 : (k == 7) = false := by simp; omega
  have k8 : (k == 8) = false := by simp; omega
  clear h
  go_enter Try.func14, Try.ntmps14
  go_wp2
  exact bodyPost_ret (v := .agg #[.int .i64 0, .int .i64 0, .int .i64 0, .string ⟨#[]⟩, .slice none 0 0, .slice none 0 0]) (by simp [results, Try.results14, go_sem]) rfl ⟨rfl, (((Below.refl _ w).alloc (Nat.le_refl _) _).alloc (by simp) _).alloc (by simp; omega) _⟩

theorem rplain_any (v : Val) : RPlainC v := by
  induction v using Val.ind with
  | h v ihl ihd =>
    intro x w S hR hS hfit
    obtain ⟨⟨hk, hn, hg, hs⟩, hL, hD⟩ := rd_iff.1 hR
    have hll : v.l.length ≤ 4000 := by have h1 := sizeL_length v.l; have h2 := hfit.1; rw [sizeV_eq] at h2; omega
    have hdl : v.d.length ≤ 4000 := by have h1 := sizeD_length v.d; have h2 := hfit.1; rw [sizeV_eq] at h2; omega
    have hfl : ∀ x ∈ v.l, Fit x 4000 := fun x hx => hfit.l hx
    have hfd : ∀ p ∈ v.d, Fit p.2 4000 := fun p hp => (hfit.d hp).1
    clear hR hfit
    obtain ⟨k, n, g, s, ⟨lp, ll, lc⟩, ⟨dp, dl, dc⟩⟩ := x
    cases v with
    | mk vk vn vg vs vl vd =>
      dsimp only [Val.kind_mk, Val.n_mk, Val.g_mk, Val.s_mk, Val.l_mk, Val.d_mk] at *
      subst hk hn hg hs
      rw [plainV]
      have N : ∀ (w' : World) (B : Nat), RdL w' (fun k => B ≤ k) ⟨none, 0, 0⟩ [] := fun w' B => RdL.nil w' _ none 0 (Nat.zero_le _)
      have M : ∀ (w' : World) (B : Nat), RdD w' (fun k => B ≤ k) ⟨none, 0, 0⟩ [] := fun w' B => RdD.nil w' _ none 0 (Nat.zero_le _)
      by_cases h1 : k = 1
      · subst h1
        exact (rplain_1 n g s lp dp ll lc dl dc w).mono fun e w' h => ⟨⟨1, n, 0, ⟨#[]⟩, ⟨none, 0, 0⟩, ⟨none, 0, 0⟩⟩, h.1, rd_iff.2 ⟨⟨rfl, rfl, rfl, rfl⟩, N _ _, M _ _⟩, h.2⟩
      by_cases h2 : k = 2
      · subst h2
        exact (rplain_2 n g s lp dp ll lc dl dc w).mono fun e w' h => ⟨⟨2, n, 0, ⟨#[]⟩, ⟨none, 0, 0⟩, ⟨none, 0, 0⟩⟩, h.1, rd_iff.2 ⟨⟨rfl, rfl, rfl, rfl⟩, N _ _, M _ _⟩, h.2⟩
      by_cases h3 : k = 3
      · subst h3
        exact (rplain_3 n g s lp dp ll lc dl dc w).mono fun e w' h => ⟨⟨3, 0, 0, s, ⟨none, 0, 0⟩, ⟨none, 0, 0⟩⟩, h.1, rd_iff.2 ⟨⟨rfl, rfl, rfl, rfl⟩, N _ _, M _ _⟩, h.2⟩
      by_cases h4 : k = 4
      · subst h4
        exact (rplain_4 n g s lp dp ll lc dl dc w).mono fun e w' h => ⟨⟨4, 0, 0, s, ⟨none, 0, 0⟩, ⟨none, 0, 0⟩⟩, h.1, rd_iff.2 ⟨⟨rfl, rfl, rfl, rfl⟩, N _ _, M _ _⟩, h.2⟩
      by_cases h5 : k = 5
      · subst h5
        refine (rplain_list vl ihl hfl hll n g s lp dp ll lc dl dc w S hL hS).mono fun e w' h => ?_
        obtain ⟨p, q, c, h6, h7, h8⟩ := h
        rw [if_neg (by decide), if_neg (by decide), if_pos rfl, plainL_map]
        exact ⟨⟨5, 0, 0, ⟨#[]⟩, ⟨p, q, c⟩, ⟨none, 0, 0⟩⟩, h6, rd_iff.2 ⟨⟨rfl, rfl, rfl, rfl⟩, h7, M _ _⟩, h8⟩
      by_cases h6 : k = 6
      · subst h6
        refine (rplain_dict vd ihd hfd hdl n g s lp dp ll lc dl dc w S hD hS).mono fun e w' h => ?_
        obtain ⟨p, q, c, h6, h7, h8⟩ := h
        rw [if_neg (by decide), if_neg (by decide), if_neg (by decide), if_pos rfl]
        exact ⟨⟨6, 0, 0, ⟨#[]⟩, ⟨none, 0, 0⟩, ⟨p, q, c⟩⟩, h6, rd_iff.2 ⟨⟨rfl, rfl, rfl, rfl⟩, N _ _, h7⟩, h8⟩
      by_cases h7 : k = 7
      · subst h7
        exact (rplain_7 n g s lp dp ll lc dl dc w).mono fun e w' h => ⟨⟨7, n, g, ⟨#[]⟩, ⟨none, 0, 0⟩, ⟨none, 0, 0⟩⟩, h.1, rd_iff.2 ⟨⟨rfl, rfl, rfl, rfl⟩, N _ _, M _ _⟩, h.2⟩
      by_cases h8 : k = 8
      · subst h8
        refine (rplain_stream vd ihd hfd hdl n g s lp dp ll lc dl dc w S hD hS).mono fun e w' h => ?_
        obtain ⟨p, q, c, h6, h7, h8⟩ := h
        rw [if_neg (by decide), if_neg (by decide), if_neg (by decide), if_neg (by decide), if_neg (by decide), if_pos rfl]
        exact ⟨⟨8, 0, 0, s, ⟨none, 0, 0⟩, ⟨p, q, c⟩⟩, h6, rd_iff.2 ⟨⟨rfl, rfl, rfl, rfl⟩, N _ _, h7⟩, h8⟩
      refine (rplain_0 k n g s lp dp ll lc dl dc w ⟨h1, h2, h3, h4, h5, h6, h7, h8⟩).mono fun e w' h => ?_
      rw [if_neg (by omega), if_neg (by omega), if_neg h5, if_neg h6, if_neg h7, if_neg h8]
      exact ⟨.nil, h.1, Rd.null _ _, h.2⟩
end
end Go.Proofs.Ytejgcnmbngdkiaa
/-
  The document's answer: a value with another one under a key.
-/
namespace Go.Proofs.Ytejgcnmbngdkiaa
section
open Go.RowKit
set_option maxRecDepth 100000

attribute [local go_sem] Hv.arr
/-- Pairs in memory, as a list. -/
theorem RdD.list {w : World} {S : Nat → Prop} {p : Option Addr} {len cap : Nat} {d : Prs} (h : RdD w S ⟨p, len, cap⟩ d) :
    ∃ ys : List Hp, ys.length = len ∧ ys.length = d.length ∧ (0 < ys.length → ∃ b off, p = some ⟨b, off, none⟩ ∧ S b ∧ ∀ i (hi : i < ys.length), HpAt w b (off + i * 7) (ys[i])) ∧
      ∀ i (hi : i < ys.length) (hi' : i < d.length), (ys[i]).key = (d[i]).1 ∧ Rd w S (ys[i]).v (d[i]).2 := by
  obtain ⟨h1, h2, b, o, ds, h3, h4, h5⟩ := h
  dsimp only at h1 h2 h3
  refine ⟨(List.range len).map ds, by simp, by simpa using h1, fun hp => ?_, fun i hi hi' => ?_⟩
  · rw [List.length_map, List.length_range] at hp
    obtain ⟨e, hb⟩ := h3 (by omega)
    refine ⟨b, o, e, hb, fun i hi => ?_⟩
    rw [List.getElem_map, List.getElem_range]
    exact h4 i (by simp at hi; omega)
  · rw [List.getElem_map, List.getElem_range]
    exact h5 i hi'
/-- A row of the call's own whose pairs are read anywhere in memory. -/
theorem OwnP.read {w : World} {B : Nat} {p : Option Addr} {cap : Nat} {xs : List Hp} {vs : Prs} (h : OwnP w B p cap xs) (hl : xs.length = vs.length)
    (hr : ∀ i (hi : i < xs.length) (hi' : i < vs.length), (xs[i]).key = (vs[i]).1 ∧ Rd w (fun k => k < w.heap.size) (xs[i]).v (vs[i]).2) : RdD w (fun k => k < w.heap.size) ⟨p, xs.length, cap⟩ vs := by
  obtain ⟨h1, g, h2, h3⟩ := h.form
  refine ⟨hl, h1, g, 0, fun i => (xs[i]?).getD ⟨⟨#[]⟩, .nil⟩, fun hn => ?_, fun i hi => ?_, fun i hi => ?_⟩
  · have h4 := (h2 hn).1
    exact ⟨h4, (h.lt _ h4).2⟩
  · have hi' : i < xs.length := by rw [hl]; exact hi
    dsimp only
    rw [List.getElem?_eq_getElem hi']
    exact h3 i hi'
  · have hi' : i < xs.length := by rw [hl]; exact hi
    dsimp only
    rw [List.getElem?_eq_getElem hi']
    exact hr i hi' hi

/-- The new pair ahead of a value's own. -/
theorem with_rows {w3 w5 : World} {S : Nat → Prop} {B : Nat} {p : Option Addr} {cap : Nat} {key : ByteArray} {y : Hv} {u v : Val} {ys : List Hp} (hO : OwnP w5 B p cap ([⟨key, y⟩] ++ ys)) (hyd : ys.length = v.d.length)
    (hold : ∀ k, S k → w5.heap[k]? = w3.heap[k]?) (hS : ∀ k, S k → k < w3.heap.size) (hsz : w3.heap.size ≤ w5.heap.size)
    (hyr : ∀ i (hi : i < ys.length) (hi' : i < v.d.length), (ys[i]).key = (v.d[i]).1 ∧ Rd w3 S (ys[i]).v (v.d[i]).2) (hu : Rd w3 S y u) : RdD w5 (fun k => k < w5.heap.size) ⟨p, 1 + ys.length, cap⟩ ((key, u) :: v.d) := by
  have hm : ∀ k, S k → k < w5.heap.size := fun k hk => Nat.lt_of_lt_of_le (hS k hk) hsz
  have h := hO.read (vs := (key, u) :: v.d) (by simp [hyd]) (fun i hi hi' => by
    cases i with
    | zero => exact ⟨rfl, (hu.later hold).mono hm⟩
    | succ i =>
      have h2 := hyr i (by simp at hi; omega) (by simp at hi'; omega)
      exact ⟨h2.1, (h2.2.later hold).mono hm⟩)
  rw [List.length_append] at h
  exact h

/-- Boxes for a value, another one, and the result. -/
theorem boxes3 {w w1 w2 w3 : World} {x y : Hv} (hw1 : w.alloc (.cells x.arr 26) = w1) (hw2 : w1.alloc (.cells y.arr 26) = w2) (hw3 : w2.alloc (.cells Hv.nil.arr 26) = w3) :
    w3.heap.size = w.heap.size + 1 + 1 + 1 ∧ Below w.heap.size w w3 ∧ VCell w3 w.heap.size x ∧ VCell w3 (w.heap.size + 1) y ∧ VCell w3 (w.heap.size + 1 + 1) .nil := by
  subst hw1 hw2 hw3
  have hb3 : ∀ (u : World) (o : Obj), Below u.heap.size u (u.alloc o) := fun u o => (Below.refl _ u).alloc (Nat.le_refl _) _
  refine ⟨by simp, (hb3 _ _).trans (((hb3 _ _).trans ((hb3 _ _).mono (by simp))).mono (by simp)), ?_, ?_, ?_⟩
  · exact ((VCell.new w x).later (hb3 _ _) (by simp)).later (hb3 _ _) (by simp; omega)
  · have h := (VCell.new (w.alloc (.cells x.arr 26)) y).later (hb3 _ (.cells Hv.nil.arr 26)) (by simp)
    simpa using h
  · have h := VCell.new ((w.alloc (.cells x.arr 26)).alloc (.cells y.arr 26)) .nil
    simpa using h

end
end Go.Proofs.Ytejgcnmbngdkiaa
