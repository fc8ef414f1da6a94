/-
  VPElem, VAppAll, VPClone: texts merged.
-/
import Derived.Test.YtejgcnmbngdkiaaGreatDoorNMem
import Derived.Test.YtejgcnmbngdkiaaGreatDoorNVal
import Derived.Deep.Upon
import Derived.Test.YtejgcnmbngdkiaaGreatDoorShelf
/-
  The program's: elements, each one plain.
-/
namespace Go.Proofs.YtejgcnmbngdkiaaGreatDoor
section
open Go.RowKit
set_option maxRecDepth 100000

def PPlainC (v : Val) : Prop := ∀ (x : Hv) (w : World) (S : Nat → Prop), Rd w S x v → (∀ k, S k → k < w.heap.size) → Fit v 4000 →
  Calls Tryz.prog 11 #[.agg x.arr] w fun e w' => ∃ y : Hv, e = .returned (.agg y.arr) ∧ Rd w' (fun k => w.heap.size ≤ k) y (plainV v) ∧ Below w.heap.size w w'

set_option maxHeartbeats 4000000 in
theorem pelem_of (l : List Val) (ih : ∀ x ∈ l, PPlainC x) (hfit : ∀ x ∈ l, Fit x 4000) (hlen : l.length ≤ 4000) (sl : Sl) (w : World) (S : Nat → Prop) (hL : RdL w S sl l) (hS : ∀ k, S k → k < w.heap.size) :
  Calls Tryz.prog 22 #[.slice sl.p sl.len sl.cap] w fun e w' => ∃ p q c, e = .returned (.slice p q c) ∧ RdL w' (fun k => w.heap.size ≤ k) ⟨p, q, c⟩ (l.map plainV) ∧ Below w.heap.size w w' := by
  obtain ⟨lp, ll, lc⟩ := sl
  obtain ⟨hll, hlm⟩ := hL.len_le
  dsimp only at hll hlm
  unfold maxLen at hlm
  have hlm2 : ll ≤ 4000 := by omega
  have Hll := Lib.hid hll
  have HL := Lib.hid hL
  have HS := Lib.hid hS
  have Hih := Lib.hid ih
  have Hfit := Lib.hid hfit
  have HR0 := Lib.hid (RowV.void w w.heap.size)
  have HB0 := Lib.hid (Below.refl w.heap.size w)
  clear hL hS ih hfit hll hlen hlm
  show Calls Tryz.prog 22 #[.slice lp ll lc] w _
  go_enter Tryz.func22, Tryz.ntmps22
  go_wp2
  go_loopg [3, 8] ll (fun f s3 s8 wr => ∃ (i : Nat) (p : Option Addr) (cap : Nat) (xs : List Hv), s8 = .int .i64 i ∧ s3 = .slice p xs.length cap ∧ i ≤ ll ∧ ll ≤ f + i ∧ xs.length ≤ i ∧
    Aside (RowV wr w.heap.size p cap xs ((l.take i).map plainV)) ∧ Aside (Below w.heap.size w wr))
  case atStart => exact ⟨0, none, 0, [], rfl, rfl, Nat.zero_le _, Nat.le_refl _, Nat.le_refl _, HR0.out, HB0.out⟩
  case round =>
    obtain ⟨i, p, cap, xs, rfl, rfl, hi, hf, hxl, HR, HB⟩ := hrel
    by_cases hil : i < ll
    · obtain ⟨lb, lo, ⟨yk, yn, yg, ys, ⟨ylp, yll, ylc⟩, ⟨ydp, ydl, ydc⟩⟩, hiv, h3, h4, h5, h6⟩ := (HL.out.later (below_old HS.out HB.out)).at hil
      subst h3
      obtain ⟨e0, e1, e2, e3, e4, e5⟩ := h5
      dsimp only at e0 e1 e2 e3 e4 e5
      have hbx : ∀ o : Obj, Below wr.heap.size wr (wr.alloc o) := fun o => (Below.refl _ wr).alloc (Nat.le_refl _) _
      have Hc := Lib.hid (fun o => Hih.out _ (List.getElem_mem hiv) ⟨yk, yn, yg, ys, ⟨ylp, yll, ylc⟩, ⟨ydp, ydl, ydc⟩⟩ (wr.alloc o) S (h6.later (below_old (old_later HS.out HB.out) (hbx o))) (old_later (old_later HS.out HB.out) (hbx o)) (Hfit.out _ (List.getElem_mem hiv)))
      have HBX := Lib.hid hbx
      clear h4 h6 hbx
      go_wp2_with fail
      refine (Hc.out _).mono ?_
      rintro e w5 ⟨⟨vk, vn, vg, vs, ⟨vlp, vll, vlc⟩, ⟨vdp, vdl, vdc⟩⟩, he, hy, hb⟩
      replace he : e = .returned (.agg #[.int .i64 vk, .int .i64 vn, .int .i64 vg, .string vs, .slice vlp vll vlc, .slice vdp vdl vdc]) := he
      subst he
      have hbr : Below wr.heap.size wr w5 := (HBX.out _).trans (hb.mono (HBX.out _).size)
      have Hy : Hid (Rd w5 (fun k => wr.heap.size ≤ k) ⟨vk, vn, vg, vs, ⟨vlp, vll, vlc⟩, ⟨vdp, vdl, vdc⟩⟩ (plainV l[i])) := Lib.hid (hy.mono (fun k hk => Nat.le_trans (HBX.out _).size hk))
      have Hb := Lib.hid hbr
      have HB5 := Lib.hid (HB.out.trans (hbr.mono HB.out.size))
      clear hy hb hbr HBX e0 e1 e2 e3 e4 e5
      go_wp2_with (at_builtin; refine wpList_append_V rfl (.tmp 12) (.tmp 15) rfl w.heap.size _ _ xs rfl ((HR.out.1.later Hb.out).push rfl) ⟨vk, vn, vg, vs, ⟨vlp, vll, vlc⟩, ⟨vdp, vdl, vdc⟩⟩ w5.heap.size 1 rfl (push_new rfl) (by omega) w (below_push HB5.out HB5.out.size rfl rfl rfl rfl) (by have := HB5.out.size; simp; omega) ?_; intro g' cap' w6 HO2 HB2 HK2 HF2)
      have e : (xs ++ [(⟨vk, vn, vg, vs, ⟨vlp, vll, vlc⟩, ⟨vdp, vdl, vdc⟩⟩ : Hv)]).length = xs.length + 1 := by rw [List.length_append]; rfl
      go_roundg (ll - (i + 1))
      case measure => omega
      case rel =>
        refine ⟨i + 1, _, cap', _, by go_num, by rw [e], by omega, by omega, by rw [e]; omega, (show Aside _ from ?_), HB2.out⟩
        rw [List.take_add_one, List.getElem?_eq_getElem hiv, Option.toList_some, List.map_append]
        exact HR.out.snoc (Hb.out.alloc Hb.out.size (.cells #[.int .i64 vk, .int .i64 vn, .int .i64 vg, .string vs, .slice vlp vll vlc, .slice vdp vdl vdc] 25)) (Hy.out.bound.later (fun k hk => heap_alloc_old _ _ hk.2) |>.mono (fun _ hk => hk.1)) HB.out.size HO2.out HK2.out HF2.out
    · have htk : l.take i = l := List.take_of_length_le (by have := Hll.out; omega)
      rw [htk] at HR
      go_wp2
      go_ret
      exact ⟨p, xs.length, cap, rfl, HR.out.read, HB.out⟩
end
end Go.Proofs.YtejgcnmbngdkiaaGreatDoor
/-
  A row of a call's own to which all elements of another slice are appended.
-/
namespace Go.Proofs.YtejgcnmbngdkiaaGreatDoor
section
open Go.RowKit
set_option maxRecDepth 100000

theorem wpList_append_all {P : Program} {ops : Array Oper} {rest : List Oper} {o : Oper} {a : Act} {w : World} {Q : Exit → Act → World → Prop} (hgd : o.guard = none) (s x : Operand) (t : TypeId)
    (ho : o.op = .call { callee := .builtin .append, args := #[s, x], argTypes := #[t, t] })
    (base : Nat) (e : TypeId) (i : TypeInfo) (z : Value) (size bytes : Nat) (ht : P.underlying t = some (.slice e)) (hi : P.info? e = some i) (hz : i.zero = some z)
    (hsize : i.size = size) (hby : i.bytes = bytes) (hzs : z.cells.size = size) (hsz : 0 < size)
    (p : Option Addr) (n cap : Nat) (xs : List Value) (hs : a.eval s = .slice p n cap) (hle : n ≤ cap) (hown : w.ownsRow base e size (.slice p n cap) n xs)
    (q : Option Addr) (m c : Nat) (news : List Value) (hx : a.eval x = .slice q m c) (hl : news.length = m * size) (hq : 0 < m → ∃ ad, q = some ad ∧ ∀ j u, news[j]? = some u → w.cell? (ad.add j) = some u) (h1 : ∀ u ∈ news, u.oneCell' = true)
    (h63 : n + m ≤ maxLen) (hbytes : (n + m) * bytes ≤ 140737488355328) (hbase : base ≤ w.heap.size)
    (h : ∀ p' cap' w', w'.ownsRow base e size (.slice p' (n + m) cap') (n + m) (xs ++ news) → w.grownBy w' (Value.slice p n cap).ownBlock → (p' = p ∨ ∃ g, p' = some ⟨g, 0, none⟩ ∧ ((Value.slice p n cap).ownBlock = some g ∨ g = w.heap.size)) → wpList P ops Q rest (a.put o.dst (.slice p' (n + m) cap')) w') : wpList P ops Q (o :: rest) a w := by
  rcases Nat.eq_zero_or_pos m with h0 | hm
  · subst h0
    obtain rfl : news = [] := List.eq_nil_of_length_eq_zero (by simpa using hl)
    refine wpList_plain hgd fun K hK => ?_
    have hsrc : Src P i.size t (.slice q 0 c) 0 [] w := by
      cases q with
      | none => exact Src.ofNil w ht c
      | some ad => exact Src.ofSlice w ht ad 0 c [] (by simp) (fun j u hu => by simp at hu) (fun _ h => by cases h)
    have hrun := run_append_nothing (P := P) w t t o.type e i ht hi p n cap hle (.slice q 0 c) hsrc
    unfold Oper.wp
    simp [execOp, ho, resolve, invoke, builtin, hs, hx, hrun, Result.andThen]
    exact hK _ _ (h p cap w (by simpa using hown) ⟨rfl, rfl, rfl, Nat.le_refl _, fun _ _ _ => rfl⟩ (.inl rfl))
  · obtain ⟨ad, rfl, hnews⟩ := hq hm
    refine wpList_append_lies w hgd s x t ho base e i z size bytes ht hi hz hsize hby hzs hsz _ n xs hs hown ad m c news hx hl hnews h1 hm h63 hbytes hbase _ rfl ?_
    intro g cap' w' hown' hgrow hat _
    exact h _ _ _ hown' hgrow (.inr ⟨g, rfl, hat⟩)

theorem flatP_append (xs ys : List Hp) : flatP (xs ++ ys) = flatP xs ++ flatP ys := by simp [flatP]
theorem flatP_length : ∀ xs : List Hp, (flatP xs).length = xs.length * 7
  | [] => rfl
  | x :: t => by rw [show flatP (x :: t) = x.cells ++ flatP t from rfl, List.length_append, flatP_length t, List.length_cons (a := x)]; have : x.cells.length = 7 := rfl; omega
theorem flatP_one {xs : List Hp} : ∀ u ∈ flatP xs, u.oneCell' = true := fun u hu => by
  obtain ⟨x, _, hx⟩ := List.mem_flatMap.1 hu
  exact x.one u hx
theorem flatP_get : ∀ (xs : List Hp) (j : Nat) (u : Value), (flatP xs)[j]? = some u → ∃ (i r : Nat) (h : i < xs.length), r < 7 ∧ j = i * 7 + r ∧ (xs[i]).cells[r]? = some u
  | [], j, u, h => by simp [flatP] at h
  | x :: t, j, u, h => by
    rw [show flatP (x :: t) = x.cells ++ flatP t from rfl] at h
    rcases Nat.lt_or_ge j 7 with hj | hj
    · rw [List.getElem?_append_left (by exact hj)] at h
      exact ⟨0, j, Nat.zero_lt_succ _, hj, by omega, h⟩
    · rw [List.getElem?_append_right (by exact hj)] at h
      obtain ⟨i, r, hi, hr, e, hc⟩ := flatP_get t _ u h
      exact ⟨i + 1, r, Nat.succ_lt_succ hi, hr, by have : x.cells.length = 7 := rfl; omega, hc⟩
theorem HpAt.cells {w : World} {b o : Nat} {x : Hp} (h : HpAt w b o x) (r : Nat) (u : Value) (hu : x.cells[r]? = some u) (hr : r < 7) : w.cell? ⟨b, o + r, none⟩ = some u := by
  obtain ⟨h0, h1, h2, h3, h4, h5, h6⟩ := h
  match r, hr with
  | 0, _ => rw [← hu]; exact h0
  | 1, _ => rw [← hu]; exact h1
  | 2, _ => rw [← hu]; exact h2
  | 3, _ => rw [← hu]; exact h3
  | 4, _ => rw [← hu]; exact h4
  | 5, _ => rw [← hu]; exact h5
  | 6, _ => rw [← hu]; exact h6
/-- All pairs of a slice are put behind them. -/
theorem wpList_append_Ps {ops : Array Oper} {rest : List Oper} {o : Oper} {a : Act} {w : World} {Q : Exit → Act → World → Prop} (hgd : o.guard = none) (s x : Operand)
    (ho : o.op = .call { callee := .builtin .append, args := #[s, x], argTypes := #[23, 23] })
    (B : Nat) (p : Option Addr) (cap : Nat) (xs : List Hp) (hs : a.eval s = .slice p xs.length cap) (hown : OwnP w B p cap xs) (q : Option Addr) (c : Nat) (ys : List Hp) (hx : a.eval x = .slice q ys.length c)
    (hy : 0 < ys.length → ∃ b off, q = some ⟨b, off, none⟩ ∧ ∀ i (h : i < ys.length), HpAt w b (off + i * 7) (ys[i])) (hlen : xs.length ≤ 100000000) (hlen2 : ys.length ≤ 100000000) (W0 : World) (hb : Below B W0 w) (hB : B ≤ w.heap.size)
    (h : ∀ p' cap' w', Hid (OwnP w' B p' cap' (xs ++ ys)) → Hid (Below B W0 w') → Hid (∀ k, k < w.heap.size → (∀ q, p = some q → k ≠ q.block) → w'.heap[k]? = w.heap[k]?) → Hid (w.heap.size ≤ w'.heap.size) →
      wpList Tryz.prog ops Q rest (a.put o.dst (.slice p' (xs.length + ys.length) cap')) w') : wpList Tryz.prog ops Q (o :: rest) a w := by
  obtain ⟨i0, hi, hz0, hz1, hz2⟩ := info_parts infoP
  refine wpList_append_all hgd s x 23 ho B 42 i0 _ 7 104 Tryz.underlying23 hi hz0 hz1 hz2 rfl (by decide) p xs.length cap _ hs hown.form.1.1 hown q ys.length c (flatP ys) hx (flatP_length ys) (fun hm => ?_) flatP_one (by unfold maxLen; omega) (by omega) hB ?_
  · obtain ⟨b, off, e, hc⟩ := hy hm
    refine ⟨_, e, fun j u hu => ?_⟩
    obtain ⟨i, r, hi, hr, ej, hcu⟩ := flatP_get ys j u hu
    rw [ej]
    have h5 := (hc i hi).cells r u hcu hr
    rw [Nat.add_assoc] at h5
    unfold Addr.add
    split
    · rename_i h0; rw [h0] at h5; exact h5
    · exact h5
  · intro p' cap' w' hown' hgrow hat
    have e : xs.length + ys.length = (xs ++ ys).length := by rw [List.length_append]
    refine h p' cap' w' (Lib.hid ?_) (Lib.hid (hb.grown hgrow hB (fun k ek => (World.ownsRow.lt hown k ek).1))) (Lib.hid fun k hk hne => hgrow.block k hk (fun e => ?_)) (Lib.hid hgrow.size)
    · unfold OwnP
      rw [flatP_append, ← e]
      exact hown'
    · cases p with
      | none => cases e
      | some q => exact hne q rfl (by injection e with e)
/-- A row that was made of one. -/
theorem OwnP.one {w : World} {B : Nat} (hB : B ≤ w.heap.size) (x : Hp) : OwnP (w.alloc (.cells x.arr 42)) B (some ⟨w.heap.size, 0, none⟩) 1 [x] := by
  refine ⟨by simp [flatP], .inr ⟨w.heap.size, 1, x.arr, rfl, hB, heap_alloc_new w _, Nat.le_refl _, by decide, rfl, ?_⟩⟩
  rfl
end
end Go.Proofs.YtejgcnmbngdkiaaGreatDoor
/-
  The library's copies: of a text, of pairs.
-/
namespace Go.Proofs.YtejgcnmbngdkiaaGreatDoor
section
open Go.RowKit Go.Shelf
set_option maxRecDepth 100000

theorem slClone_is (s : ByteArray) (w : World) (h : s.size ≤ 281474976710656) :
    Calls Tryz.prog 35 #[.string s] w fun e w' => e = .returned (.string s) ∧ Below w.heap.size w w' := Any.stringslite_Clone Tryz.laysM316 s w h
theorem sclone_is (s : ByteArray) (w : World) (h : s.size ≤ 281474976710656) :
    Calls Tryz.prog 21 #[.string s] w fun e w' => e = .returned (.string s) ∧ Below w.heap.size w w' := by
  go_enter Tryz.func21, Tryz.ntmps21
  go_wp2_with fail
  refine (slClone_is s _ h).mono ?_
  rintro e w1 ⟨rfl, hb⟩
  have Hb := Lib.hid hb
  clear hb
  go_wp2_with fail
  go_ret
  exact ⟨rfl, Hb.out⟩

set_option maxHeartbeats 4000000 in
theorem pclone_is (p : Option Addr) (cap : Nat) (ys : List Hp) (w : World) (hlen : ys.length ≤ 100000000)
    (hy : 0 < ys.length → ∃ b off, p = some ⟨b, off, none⟩ ∧ b < w.heap.size ∧ ∀ i (h : i < ys.length), HpAt w b (off + i * 7) (ys[i])) :
    Calls Tryz.prog 36 #[.slice p ys.length cap] w fun e w' => ∃ p' cap', e = .returned (.slice p' ys.length cap') ∧ OwnP w' w.heap.size p' cap' ys ∧ Below w.heap.size w w' := by
  have Hy : Hid (∀ o : Obj, 0 < ys.length → ∃ b off, p = some ⟨b, off, none⟩ ∧ ∀ i (hi : i < ys.length), HpAt (w.alloc o) b (off + i * 7) (ys[i])) := Lib.hid (fun o h => by
    obtain ⟨b, off, e, hb, hc⟩ := hy h
    exact ⟨b, off, e, fun i hi => (hc i hi).same (heap_alloc_old _ _ hb)⟩)
  have HbX : Hid (∀ o : Obj, Below w.heap.size w (w.alloc o)) := Lib.hid (fun o => (Below.refl _ w).alloc (Nat.le_refl _) _)
  cases p with
  | none =>
    have hl : ys.length = 0 := by
      rcases Nat.eq_zero_or_pos ys.length with h | h
      · exact h
      · obtain ⟨b, off, e, _⟩ := hy h; cases e
    have hys : ys = [] := List.eq_nil_of_length_eq_zero hl
    subst hys
    have hnil : ∀ W, (binOp .eql 23 (.slice none 0 cap) (.slice none 0 0)).run Tryz.prog W = .ok (.bool true) W := fun W => by kernel_rfl
    clear hy Hy
    go_enter Tryz.func36, Tryz.ntmps36
    go_wp2
    go_ret
    exact ⟨none, 0, rfl, OwnP.void w _, Below.refl _ w⟩
  | some a =>
    have hnil : ∀ W, (binOp .eql 23 (.slice (some a) ys.length cap) (.slice none 0 0)).run Tryz.prog W = .ok (.bool false) W := fun W => by kernel_rfl
    clear hy
    go_enter Tryz.func36, Tryz.ntmps36
    go_wp2_with (at_builtin; refine wpList_append_Ps rfl (.tmp 5) (.tmp 6) rfl w.heap.size _ _ [] rfl (OwnP.made w (Nat.le_refl _)) _ cap ys rfl (Hy.out _) (Nat.zero_le _) (by omega) w (HbX.out _) (by simp) ?_; intro p' cap' w2 HO2 HB2 HK2 HZ2)
    go_ret
    exact ⟨p', cap', rfl, HO2.out, HB2.out⟩
end
end Go.Proofs.YtejgcnmbngdkiaaGreatDoor
