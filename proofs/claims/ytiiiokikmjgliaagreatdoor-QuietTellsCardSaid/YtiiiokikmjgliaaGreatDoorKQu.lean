/-
  QuSmall, QuWords, QuLoud, QuRow, QuPlain, QuNames, QuSame, QuEx: texts merged.
-/
import Derived.Test.YtiiiokikmjgliaaGreatDoorKPlain
import Derived.Test.YtiiiokikmjgliaaGreatDoorRows
import Derived.Test.YtiiiokikmjgliaaGreatDoorKRows
import Derived.LaidLaws
import Derived.Below
import Derived.OpenShut
import Derived.ChangeArms
import Derived.WalkKit
import Derived.WalkSpells
import Derived.WalkLawsBesides
import Derived.WalkSmall
import Derived.WalkMore
import Derived.ScopeJumps
import Derived.Lib.Hide
import Derived.Deep.LoopGhost
import Derived.Laws.AppendOwnNone
import Derived.Test.YtiiiokikmjgliaaGreatDoorKCo
import Derived.Test.YtiiiokikmjgliaaGreatDoorKCoP
import Derived.Test.YtiiiokikmjgliaaGreatDoorKCoE
import Derived.Deep.QuietTactic
/-
  Loud bytes: plain facts.
-/
namespace Go.Proofs.YtiiiokikmjgliaaGreatDoor
section
set_option maxRecDepth 100000
def startsQ (l : List UInt8) : Bool := preB l [111, 98, 106] || (preB l [120, 114, 101, 102] || preB l [115, 116, 114, 101, 97, 109])
def loudQ : List UInt8 → Bool
  | [] => false
  | a :: l => startsQ (a :: l) || loudQ l
theorem loudQ_at {l : List UInt8} {k : Nat} (h : k < l.length) : loudQ (l.drop k) = (startsQ (l.drop k) || loudQ (l.drop (k + 1))) := by
  rw [List.drop_eq_getElem_cons h, loudQ]
theorem loudQ_end {l : List UInt8} {k : Nat} (h : l.length ≤ k) : loudQ (l.drop k) = false := by
  rw [List.drop_eq_nil_of_le h]; rfl
theorem preB_app {s p b : List UInt8} (h : preB s p = true) : preB (s ++ b) p = true := by
  simp only [preB, decide_eq_true_eq] at h ⊢
  exact h.trans (List.prefix_append _ _)
theorem startsQ_app {s b : List UInt8} (h : startsQ s = true) : startsQ (s ++ b) = true := by
  unfold startsQ at h ⊢
  simp only [Bool.or_eq_true] at h ⊢
  rcases h with h | h | h
  · exact .inl (preB_app h)
  · exact .inr (.inl (preB_app h))
  · exact .inr (.inr (preB_app h))
theorem loud_ahead : ∀ (a : List UInt8) {s : List UInt8}, loudQ s = true → loudQ (a ++ s) = true
  | [], _, h => h
  | c :: a, s, h => by
    rw [List.cons_append, loudQ, loud_ahead a h, Bool.or_true]
theorem loud_behind : ∀ {s : List UInt8} (b : List UInt8), loudQ s = true → loudQ (s ++ b) = true
  | [], b, h => absurd h (by decide)
  | c :: s, b, h => by
    rw [loudQ, Bool.or_eq_true] at h
    rw [List.cons_append, loudQ, Bool.or_eq_true]
    rcases h with h | h
    · exact .inl (startsQ_app h)
    · exact .inr (loud_behind b h)
theorem loud_part {s : List UInt8} (a b : List UInt8) (h : loudQ s = true) : loudQ (a ++ s ++ b) = true := loud_behind b (loud_ahead a h)
theorem preB_first {c : UInt8} {l p : List UInt8} {q : UInt8} (h : preB (c :: l) (q :: p) = true) : c = q := by
  simp only [preB, decide_eq_true_eq] at h
  exact (List.cons_prefix_cons.1 h).1.symm
theorem loud_small : ∀ {l : List UInt8}, loudQ l = true → ∃ c ∈ l, 98 ≤ c.toNat
  | [], h => absurd h (by decide)
  | c :: l, h => by
    rw [loudQ, Bool.or_eq_true] at h
    rcases h with h | h
    · refine ⟨c, List.mem_cons_self, ?_⟩
      unfold startsQ at h
      simp only [Bool.or_eq_true] at h
      rcases h with h | h | h
      · rw [preB_first h]; decide
      · rw [preB_first h]; decide
      · rw [preB_first h]; decide
    · obtain ⟨d, hd, h2⟩ := loud_small h
      exact ⟨d, List.mem_cons_of_mem _ hd, h2⟩
end
end Go.Proofs.YtiiiokikmjgliaaGreatDoor
/-
  What the program reads of what is laid: the words of the format.
-/
namespace Go.Proofs.YtiiiokikmjgliaaGreatDoor
section
open Go.RowKit
set_option maxRecDepth 100000
def textData (xs : List (List UInt8)) : DataW Unit := .agg (xs.map fun x => .lit (.string x))
def wordsL : List (List UInt8) := [[111, 98, 106], [120, 114, 101, 102], [115, 116, 114, 101, 97, 109]]
def WordsAt (w : World) : Prop := ∀ i x, wordsL[i]? = some x → w.cell? ⟨0, i, none⟩ = some (.string (bytes x))
theorem WordsAt.later {w w' : World} (h : WordsAt w) (hb : Below w.heap.size w w') : WordsAt w' := fun i x hx => (hb.cell (text_block (h i x hx))).trans (h i x hx)
theorem laid_words : (Rows.laid_bindery_quiet_words : DataW Unit) = textData wordsL := by kernel_rfl
theorem words_of_head {W : World} {rest : List (String × DataW Unit)} (h : laidMet Tryz.prog (("bindery/quiet.words", Rows.laid_bindery_quiet_words) :: rest) W) : WordsAt W := by
  have hg : Tryz.prog.globalNamed "bindery/quiet.words" = some 0 := by kernel_rfl
  have hty : (Tryz.prog.globals[0]?).map (·.type) = some 40 := by kernel_rfl
  have ht : Tryz.prog.underlying 40 = some (.array 3 9) := by kernel_rfl
  have hs : Tryz.prog.underlying 9 = some .string := by kernel_rfl
  have hc : Tryz.prog.cellsOf 9 = 1 := by kernel_rfl
  rw [laid_words] at h
  obtain ⟨_, ⟨g', t', cs, fuel, p, q, hg', ht', hvar, hd, _, _⟩, _⟩ := h
  obtain rfl := Option.some.inj (hg.symm.trans hg')
  obtain rfl := Option.some.inj (hty.symm.trans ht')
  obtain ⟨xs, m, _, hx, hl, hxl, hall⟩ := DataW.trod_array ht hd
  have hxs : xs.map (·.1) = wordsL.map fun x => (.lit (.string x) : DataW Unit) := by
    have := congrArg Prod.fst hx
    simpa [textData] using this.symm
  intro i x hi
  have hin : i < 3 := (List.getElem?_eq_some_iff.1 hi).1
  have h1 := hall i hin
  obtain ⟨b, hb⟩ : ∃ b, xs[i]? = some b := ⟨xs[i]'(by omega), List.getElem?_eq_getElem (by omega)⟩
  have hb1 : b.1 = .lit (.string x) := by
    have := congrArg (·[i]?) hxs
    simpa [hb, hi] using this
  rw [hb, hc] at h1
  obtain ⟨z1, e1, d1, _⟩ := DataW.trod_string hs h1
  subst d1
  have e0 := congrArg (·[0]?) e1
  simp only [List.getElem?_take, List.getElem?_drop] at e0
  simp at hb1 e0
  rw [World.var?_cell hg hvar]
  rw [← hb1, bytes_of]
  simpa using e0
end
end Go.Proofs.YtiiiokikmjgliaaGreatDoor
/-
  Whether bytes are loud: the program's Loud, and the document's.
-/
namespace Go.Proofs.YtiiiokikmjgliaaGreatDoor
section
open Go.RowKit
set_option maxRecDepth 100000
set_option maxHeartbeats 400000 in
theorem lPre_any (s p : ByteArray) (w : World) :
    Calls Tryz.prog 31 #[.string s, .string p] w fun e w' => e = .returned (.bool (preB s.data.toList p.data.toList)) ∧ w = w' := by
  by_cases h : p.size ≤ s.size
  · go_enter Tryz.func31, Tryz.ntmps31
    go_wp2
    go_ret
    exact ⟨ret_bool (pre_extract s p), rfl⟩
  · go_enter Tryz.func31, Tryz.ntmps31
    go_wp2
    go_ret
    exact ⟨ret_bool (pre_long s p h).symm, rfl⟩
set_option maxHeartbeats 400000 in
theorem pre_at (s p : ByteArray) (k : Nat) (w : World) {b : Bool} (hb : preB (s.data.toList.drop k) p.data.toList = b) :
    Calls Tryz.prog 16 #[.string (s.extract k s.size), .string p] w fun e w' => e = .returned (.bool b) ∧ w = w' := by
  have H := Lib.hid (fun W => lPre_any (s.extract k s.size) p W)
  rw [Lib.extract_to_end, hb] at H
  clear hb
  go_enter Tryz.func16, Tryz.ntmps16
  go_wp2_with fail
  refine (H.out _).mono ?_
  rintro e w1 ⟨rfl, rfl⟩
  go_wp2_with fail
  go_ret
  exact ⟨rfl, rfl⟩
set_option maxHeartbeats 2000000 in
theorem loud_is (s : ByteArray) (w : World) (hs : s.size ≤ 1000000) (hW : WordsAt w) {r : Bool} (hr : loudQ s.data.toList = r) :
    Calls Tryz.prog 9 #[.string s] w fun e w' => e = .returned (.bool r) ∧ w = w' := by
  have c0 := hW 0 _ rfl
  have c1 := hW 1 _ rfl
  have c2 := hW 2 _ rfl
  obtain ⟨a0, h0⟩ : ∃ a, bytes [111, 98, 106] = a := ⟨_, rfl⟩
  obtain ⟨a1, h1⟩ : ∃ a, bytes [120, 114, 101, 102] = a := ⟨_, rfl⟩
  obtain ⟨a2, h2⟩ : ∃ a, bytes [115, 116, 114, 101, 97, 109] = a := ⟨_, rfl⟩
  rw [h0] at c0
  rw [h1] at c1
  rw [h2] at c2
  have d0 : a0.data.toList = [111, 98, 106] := by rw [← h0, bytes_data]
  have d1 : a1.data.toList = [120, 114, 101, 102] := by rw [← h1, bytes_data]
  have d2 : a2.data.toList = [115, 116, 114, 101, 97, 109] := by rw [← h2, bytes_data]
  have hi0 : ∀ W, (Instr.index 40 (.agg #[.string a0, .string a1, .string a2]) (.int .i64 0)).run Tryz.prog W = .ok (.string a0) W := fun W => by kernel_rfl
  have hi1 : ∀ W, (Instr.index 40 (.agg #[.string a0, .string a1, .string a2]) (.int .i64 1)).run Tryz.prog W = .ok (.string a1) W := fun W => by kernel_rfl
  have hi2 : ∀ W, (Instr.index 40 (.agg #[.string a0, .string a1, .string a2]) (.int .i64 2)).run Tryz.prog W = .ok (.string a2) W := fun W => by kernel_rfl
  have HS := Lib.hid (fun (k : Nat) (b0 b1 b2 : Bool) (e0 : preB (s.data.toList.drop k) [111, 98, 106] = b0) (e1 : preB (s.data.toList.drop k) [120, 114, 101, 102] = b1) (e2 : preB (s.data.toList.drop k) [115, 116, 114, 101, 97, 109] = b2) => show startsQ (s.data.toList.drop k) = (b0 || (b1 || b2)) by unfold startsQ; rw [e0, e1, e2])
  have HP0 := Lib.hid (fun (k : Nat) W (b : Bool) (e : preB (s.data.toList.drop k) [111, 98, 106] = b) => pre_at s a0 k W (b := b) (by rw [d0]; exact e))
  have HP1 := Lib.hid (fun (k : Nat) W (b : Bool) (e : preB (s.data.toList.drop k) [120, 114, 101, 102] = b) => pre_at s a1 k W (b := b) (by rw [d1]; exact e))
  have HP2 := Lib.hid (fun (k : Nat) W (b : Bool) (e : preB (s.data.toList.drop k) [115, 116, 114, 101, 97, 109] = b) => pre_at s a2 k W (b := b) (by rw [d2]; exact e))
  have Hr := Lib.hid hr
  clear hW h0 h1 h2 d0 d1 d2 hr
  go_enter Tryz.func9, Tryz.ntmps9
  go_wp2_with fail
  go_step3
  go_wp2_with fail
  go_step3
  go_wp2_with fail
  go_loopg [3, 9] s.size (fun g s3 s9 wx => ∃ k : Nat, k + g = s.size ∧ s3 = .bool false ∧ s9 = .int .i64 k ∧ Aside (loudQ (s.data.toList.drop k) = r) ∧ w = wx)
  case atStart => exact ⟨0, by omega, rfl, rfl, Hr.out, rfl⟩
  case round =>
    obtain ⟨k, hkg, rfl, rfl, HR, rfl⟩ := hrel
    cases gk with
    | zero =>
      obtain rfl : k = s.size := by omega
      have HE : Hid (r = false) := Lib.hid (by rw [← HR.out, loudQ_end (by rw [← size_data]; exact Nat.le_refl _)])
      go_wp2_with fail
      rw [Exit.noGoto_ret]
      go_ret
      exact ⟨ret_bool HE.out.symm, rfl⟩
    | succ g =>
      have hk : k < s.size := by omega
      have hkz : (k : Int) < (s.size : Int) := by omega
      have hkz' : (k : Int) ≤ (s.size : Int) := by omega
      have HN := Lib.hid (loudQ_at (l := s.data.toList) (k := k) (by rw [← size_data]; exact hk))
      obtain ⟨b0, e0⟩ : ∃ b, preB (s.data.toList.drop k) [111, 98, 106] = b := ⟨_, rfl⟩
      obtain ⟨b1, e1⟩ : ∃ b, preB (s.data.toList.drop k) [120, 114, 101, 102] = b := ⟨_, rfl⟩
      obtain ⟨b2, e2⟩ : ∃ b, preB (s.data.toList.drop k) [115, 116, 114, 101, 97, 109] = b := ⟨_, rfl⟩
      have HS0 := Lib.hid (HS.out k _ _ _ e0 e1 e2)
      have HK0 := Lib.hid (fun W => HP0.out k W _ e0)
      have HK1 := Lib.hid (fun W => HP1.out k W _ e1)
      have HK2 := Lib.hid (fun W => HP2.out k W _ e2)
      clear e0 e1 e2
      go_wp2_with fail
      refine wp_loop_rounds 4 ?_
      rw [rounds_succ]
      go_wp2_with fail
      refine (HK0.out _).mono ?_
      rintro e w1 ⟨rfl, rfl⟩
      cases b0 with
      | true =>
        have HE : Hid (r = true) := Lib.hid (by rw [← HR.out, HN.out, HS0.out]; rfl)
        go_wp2_with fail
        rw [Exit.noGoto_ret]
        go_ret
        exact ⟨ret_bool HE.out.symm, rfl⟩
      | false =>
        go_wp2_with fail
        rw [rounds_succ]
        go_wp2_with fail
        refine (HK1.out _).mono ?_
        rintro e w1 ⟨rfl, rfl⟩
        cases b1 with
        | true =>
          have HE : Hid (r = true) := Lib.hid (by rw [← HR.out, HN.out, HS0.out]; rfl)
          go_wp2_with fail
          rw [Exit.noGoto_ret]
          go_ret
          exact ⟨ret_bool HE.out.symm, rfl⟩
        | false =>
          go_wp2_with fail
          rw [rounds_succ]
          go_wp2_with fail
          refine (HK2.out _).mono ?_
          rintro e w1 ⟨rfl, rfl⟩
          cases b2 with
          | true =>
            have HE : Hid (r = true) := Lib.hid (by rw [← HR.out, HN.out, HS0.out]; rfl)
            go_wp2_with fail
            rw [Exit.noGoto_ret]
            go_ret
            exact ⟨ret_bool HE.out.symm, rfl⟩
          | false =>
            have HE : Hid (loudQ (s.data.toList.drop (k + 1)) = r) := Lib.hid (by rw [← HR.out, HN.out, HS0.out]; rfl)
            go_wp2_with fail
            rw [rounds_succ]
            go_wp2_with fail
            go_roundg g
            case measure => omega
            case rel => exact ⟨k + 1, by omega, rfl, by go_num, HE.out, rfl⟩
end
end Go.Proofs.YtiiiokikmjgliaaGreatDoor
/-
  Rows of texts of a call's own that grow.
-/
namespace Go.Proofs.YtiiiokikmjgliaaGreatDoor
section
open Go.RowKit
def cellsT (l : List ByteArray) : List Value := l.map Value.string
theorem cellsT_length (l : List ByteArray) : (cellsT l).length = l.length := by simp [cellsT]
theorem cellsT_append (a b : List ByteArray) : cellsT (a ++ b) = cellsT a ++ cellsT b := by simp [cellsT]
theorem cellsT_one (l : List ByteArray) : ∀ u ∈ cellsT l, u.oneCell' = true := by
  intro u hu
  unfold cellsT at hu
  obtain ⟨c, _, rfl⟩ := List.mem_map.1 hu
  rfl
theorem cellsT_at {l : List ByteArray} {j : Nat} (h : j < l.length) : (cellsT l)[j]? = some (.string (l[j]?.getD ByteArray.empty)) := by
  unfold cellsT; rw [List.getElem?_map, List.getElem?_eq_getElem h]; rfl
theorem infoT : (Tryz.prog.info? 9).map (fun i => (i.zero, i.size, i.bytes)) = some (some (.string ⟨#[]⟩), 1, 16) := by kernel_rfl
def OwnT (w : World) (B : Nat) (v : Value) (xs : List ByteArray) : Prop := w.ownsRow B 9 1 v xs.length (cellsT xs)
theorem OwnT.void (w : World) (B : Nat) : OwnT w B (.slice none 0 0) [] := World.ownsRow_nil w B _ _
theorem OwnT.made0 (w : World) {B : Nat} (hB : B ≤ w.heap.size) : OwnT (w.alloc (.cells #[] 9)) B (.slice (some ⟨w.heap.size, 0, none⟩) 0 0) [] := World.ownsRow_made w #[] 0 hB (by decide) rfl
theorem OwnT.made1 (w : World) {B : Nat} (hB : B ≤ w.heap.size) (x : ByteArray) : OwnT (w.alloc (.cells #[.string x] 9)) B (.slice (some ⟨w.heap.size, 0, none⟩) 1 1) [x] :=
  ⟨rfl, .inr ⟨w.heap.size, 1, #[.string x], rfl, hB, heap_alloc_new w _, Nat.le_refl _, by decide, rfl, rfl⟩⟩
theorem OwnT.alloc {w : World} {B : Nat} {v : Value} {xs : List ByteArray} (h : OwnT w B v xs) (o : Obj) : OwnT (w.alloc o) B v xs := World.ownsRow.alloc h o
theorem OwnT.drew {w : World} {B : Nat} {v : Value} {xs : List ByteArray} (h : OwnT w B v xs) : OwnT w.drew B v xs := h
theorem OwnT.later {w w' : World} {B : Nat} {v : Value} {xs : List ByteArray} (h : OwnT w B v xs) (hb : Below w.heap.size w w') : OwnT w' B v xs := owns_later h hb
theorem OwnT.form {w : World} {B : Nat} {v : Value} {xs : List ByteArray} (h : OwnT w B v xs) : ∃ p cap, v = .slice p xs.length cap ∧ Texts w p xs := by
  rcases h.2 with ⟨e1, e2⟩ | ⟨g, cap, cur, rfl, hB, hg, hn, hm, hs, ht⟩
  · have : xs = [] := List.eq_nil_of_length_eq_zero e2
    subst this
    exact ⟨none, 0, e1, .inl rfl⟩
  · refine ⟨_, _, rfl, .inr ⟨g, 0, rfl, fun i hi => ?_⟩⟩
    have := World.ownsRow.cells h (g := g) rfl i _ (cellsT_at hi)
    have e : (⟨g, 0, none⟩ : Addr).add i = ⟨g, 0 + i, none⟩ := by unfold Addr.add; split <;> simp_all
    rwa [e] at this
theorem wpList_appendT {ops : Array Oper} {rest : List Oper} {o : Oper} {a : Act} {w : World} {Q : Exit → Act → World → Prop} (hgd : o.guard = none) (s x : Operand)
    (ho : o.op = .call { callee := .builtin .append, args := #[s, x], argTypes := #[22, 22] })
    (B : Nat) (v : Value) (l : List ByteArray) (hs : a.eval s = v) (hown : OwnT w B v l)
    (p : Option Addr) (c : Nat) (news : List ByteArray) (hx : a.eval x = .slice p news.length c) (hnews : Texts w p news) (hp : p = none → c = 0)
    (hlen : l.length + news.length ≤ 1000000) (W0 : World) (hb : Below B W0 w) (hB : B ≤ w.heap.size)
    (h : ∀ v' w', Hid (OwnT w' B v' (l ++ news)) → Hid (Below B W0 w') → wpList Tryz.prog ops Q rest (a.put o.dst v') w') : wpList Tryz.prog ops Q (o :: rest) a w := by
  obtain ⟨i0, hi, hz0, hz1, hz2⟩ := info_parts infoT
  cases p with
  | none =>
    obtain rfl := hp rfl
    have hn : news = [] := by
      rcases hnews with h | ⟨b, off, e, _⟩
      · exact h
      · cases e
    subst hn
    refine wpList_append_own_none hgd s x 22 ho B 9 i0 1 Tryz.underlying22 hi v l.length (cellsT l) hs hown hx ?_
    refine h v w (Lib.hid ?_) (Lib.hid hb)
    rw [List.append_nil]
    exact hown
  | some ad =>
    refine wpList_append_own w hgd s x 22 ho B 9 i0 (.string ⟨#[]⟩) 1 16 Tryz.underlying22 hi hz0 hz1 hz2 rfl (by decide) v l.length (cellsT l) hs hown ad news.length c (cellsT news) hx (by rw [cellsT_length, Nat.mul_one]) ?_ (cellsT_one _) (by unfold maxLen; omega) (by omega) hB ?_
    · intro j u hj
      have hl : j < news.length := by
        have := (List.getElem?_eq_some_iff.1 hj).1
        rwa [cellsT_length] at this
      rw [cellsT_at hl] at hj
      rw [← hj]
      obtain ⟨b, off, e, h2⟩ := hnews.at j hl
      obtain rfl := Option.some.inj e
      have e : (⟨b, off, none⟩ : Addr).add j = ⟨b, off + j, none⟩ := by unfold Addr.add; split <;> simp_all
      rw [e]
      exact h2
    · intro v' w' hown' hgrow _
      refine h v' w' (Lib.hid ?_) (Lib.hid (hb.grown hgrow hB (fun k ek => (World.ownsRow.lt hown k ek).1)))
      unfold OwnT
      rw [cellsT_append, List.length_append]
      exact hown'
end
end Go.Proofs.YtiiiokikmjgliaaGreatDoor
/-
  Loud bytes, and the names behind which they are not: plain facts.
-/
namespace Go.Proofs.YtiiiokikmjgliaaGreatDoor
section
set_option maxRecDepth 100000
theorem loud_hex (l : List UInt8) : loudQ (encH l) = false := by
  cases h : loudQ (encH l) with
  | false => rfl
  | true =>
    obtain ⟨c, hc, h2⟩ := loud_small h
    have := (encH_seen hc).2
    omega
def hexT : ByteArray := ⟨#[65, 83, 67, 73, 73, 72, 101, 120, 68, 101, 99, 111, 100, 101]⟩
def runsT : ByteArray := ⟨#[82, 117, 110, 76, 101, 110, 103, 116, 104, 68, 101, 99, 111, 100, 101]⟩
theorem kindsC_hex (xs : List ByteArray) : kindsC (hexT :: xs) = 1 :: kindsC xs := by
  show knownC hexT.data.toList :: kindsC xs = _
  rw [show knownC hexT.data.toList = 1 by decide +kernel]
def namesQ (xs : List ByteArray) (columns : Int) (l : List UInt8) : List ByteArray × Int :=
  if (encC (kindsC xs) columns l).2 ≠ 0 then ([], (encC (kindsC xs) columns l).2)
  else if loudQ (encC (kindsC xs) columns l).1 = false then (xs, 0) else if xs.length = 4 then ([], 16) else (hexT :: xs, 0)
theorem namesQ_err {xs : List ByteArray} {columns : Int} {l o : List UInt8} {c : Int} (h : encC (kindsC xs) columns l = (o, c)) (hc : c ≠ 0) : namesQ xs columns l = ([], c) := by
  unfold namesQ; rw [h, if_pos hc]
theorem namesQ_low {xs : List ByteArray} {columns : Int} {l o : List UInt8} (h : encC (kindsC xs) columns l = (o, 0)) (hl : loudQ o = false) : namesQ xs columns l = (xs, 0) := by
  unfold namesQ; rw [h, if_neg (by simp), if_pos hl]
theorem namesQ_full {xs : List ByteArray} {columns : Int} {l o : List UInt8} (h : encC (kindsC xs) columns l = (o, 0)) (hl : loudQ o = true) (h4 : xs.length = 4) : namesQ xs columns l = ([], 16) := by
  unfold namesQ; rw [h, if_neg (by simp), if_neg (by rw [hl]; decide), if_pos h4]
theorem namesQ_hex {xs : List ByteArray} {columns : Int} {l o : List UInt8} (h : encC (kindsC xs) columns l = (o, 0)) (hl : loudQ o = true) (h4 : ¬ xs.length = 4) : namesQ xs columns l = (hexT :: xs, 0) := by
  unfold namesQ; rw [h, if_neg (by simp), if_neg (by rw [hl]; decide), if_neg h4]
theorem encC_ok {ks : List Nat} {columns : Int} {l o : List UInt8} (h : encC ks columns l = (o, 0)) : checkC ks columns = 0 := by
  by_cases hc : checkC ks columns = 0
  · exact hc
  · rw [encC_check rfl hc] at h
    exact absurd (Prod.mk.inj h).2 hc
theorem encC_short {ks : List Nat} {columns : Int} {l o : List UInt8} {c : Int} (hl : l.length ≤ 500) (h : encC ks columns l = (o, c)) : o.length ≤ 32 * l.length + 165 := by
  by_cases hc : checkC ks columns = 0
  · obtain ⟨h0, h1, h4, _, _⟩ := checkC_ok hc
    have h2 := encP_most l h0 h1
    by_cases h3 : columns = 0
    · subst h3
      rw [encC_plain hc (by omega)] at h
      have h5 := growC_four (m := ks.length) (n := l.length) h4
      have := encKs_length ks l (by omega)
      rw [← (Prod.mk.inj h).1]
      omega
    · rw [if_neg h3] at h2
      obtain ⟨p, e, hp⟩ : ∃ p e, encP l columns = (p, e) := ⟨_, _, rfl⟩
      rw [encC_rows hc (by omega) h3 hp] at h
      rw [hp] at h2
      have h2 : p.length ≤ 2 * l.length := h2
      split at h
      · rw [← (Prod.mk.inj h).1]; exact Nat.zero_le _
      · have h5 := growC_four (m := ks.length) (n := p.length) h4
        have := encKs_length ks p (by omega)
        rw [← (Prod.mk.inj h).1]
        omega
  · rw [encC_check rfl hc] at h
    rw [← (Prod.mk.inj h).1]; exact Nat.zero_le _
theorem checkC_zero {ks : List Nat} (h4 : ks.length ≤ 4) (hz : 0 ∉ ks) : checkC ks 0 = 0 := by
  unfold checkC
  rw [if_neg (by omega), if_neg (by rintro (h | h | h); omega; exact hz h; exact h.1 rfl)]
theorem namesQ_never {xs ys : List ByteArray} {l : List UInt8} (hl : l.length ≤ 500) (h : namesQ xs 0 l = (ys, 0)) :
    checkC (kindsC ys) 0 = 0 ∧ ys.length ≤ 4 ∧ encC (kindsC ys) 0 l = (encKs (kindsC ys) l, 0) ∧ loudQ (encKs (kindsC ys) l) = false := by
  obtain ⟨o, c, hE⟩ : ∃ o c, encC (kindsC xs) 0 l = (o, c) := ⟨_, _, rfl⟩
  by_cases hc : c = 0
  · subst hc
    have hch := encC_ok hE
    obtain ⟨_, _, h4, hz, _⟩ := checkC_ok hch
    have hE2 := hE
    rw [encC_plain hch (by omega)] at hE2
    have ho : encKs (kindsC xs) l = o := (Prod.mk.inj hE2).1
    rw [kindsC_length] at h4
    cases hb : loudQ o with
    | false =>
      rw [namesQ_low hE hb] at h
      obtain rfl := (Prod.mk.inj h).1
      exact ⟨hch, h4, by rw [hE, ho], by rw [ho]; exact hb⟩
    | true =>
      by_cases h5 : xs.length = 4
      · rw [namesQ_full hE hb h5] at h
        exact absurd (Prod.mk.inj h).2 (by decide)
      · rw [namesQ_hex hE hb h5] at h
        obtain rfl := (Prod.mk.inj h).1
        have hk : checkC (kindsC (hexT :: xs)) 0 = 0 := by
          rw [kindsC_hex]
          exact checkC_zero (by rw [List.length_cons, kindsC_length]; omega) (by simp only [List.mem_cons, not_or]; exact ⟨by decide, hz⟩)
        refine ⟨hk, by rw [List.length_cons]; omega, encC_plain hk (by omega), ?_⟩
        rw [kindsC_hex]
        show loudQ (encK 1 (encKs (kindsC xs) l)) = false
        unfold encK
        rw [if_pos rfl]
        exact loud_hex _
  · rw [namesQ_err hE hc] at h
    exact absurd (Prod.mk.inj h).2 hc
theorem namesQ_none {xs ys : List ByteArray} {columns : Int} {l : List UInt8} {c : Int} (h : namesQ xs columns l = (ys, c)) (hc : c ≠ 0) : ys = [] := by
  unfold namesQ at h
  split at h
  · exact (Prod.mk.inj h).1.symm
  · split at h
    · exact absurd (Prod.mk.inj h).2.symm hc
    · split at h
      · exact (Prod.mk.inj h).1.symm
      · exact absurd (Prod.mk.inj h).2.symm hc
theorem namesQ_text (xs : List ByteArray) (columns : Int) (l : List UInt8) : ∃ ys c, namesQ xs columns l = (ys, c) := ⟨_, _, rfl⟩
theorem knownC_short {l : List UInt8} (h : knownC l ≠ 0) : l.length ≤ 15 := by
  unfold knownC at h
  split at h
  · rename_i e; rw [e]; decide
  · split at h
    · rename_i e; rw [e]; decide
    · split at h
      · rename_i e; rw [e]; decide
      · exact absurd rfl h
theorem names_short {xs : List ByteArray} (hz : 0 ∉ kindsC xs) : ∀ x ∈ xs, x.size ≤ 15 := fun x hx => by
  rw [size_data]
  refine knownC_short fun h => hz ?_
  unfold kindsC
  exact List.mem_map.2 ⟨x, hx, h⟩
end
end Go.Proofs.YtiiiokikmjgliaaGreatDoor
/-
  quiet.Names: by which filters bytes are not loud.
-/
namespace Go.Proofs.YtiiiokikmjgliaaGreatDoor
section
open Go.RowKit
set_option maxRecDepth 100000
set_option maxHeartbeats 2000000 in
theorem behind_is (a : Option Addr) (cap : Nat) (xs : List ByteArray) (v : Value) (zs : List ByteArray) (W0 w : World) (hn : xs.length ≤ 1000) (hz : zs.length ≤ 1000) (hx : ∀ x ∈ xs, x.size ≤ 15) (hT : Texts W0 a xs) (h0 : Below W0.heap.size W0 w) (hv : OwnT w W0.heap.size v zs) :
    Calls Tryz.prog 14 #[v, .slice a xs.length cap] w fun e w' => ∃ p cap', e = .returned (.slice p (zs ++ xs).length cap') ∧ Texts w' p (zs ++ xs) ∧ Below W0.heap.size w w' := by
  have hB := h0.size
  have H0 := Lib.hid h0
  have HT := Lib.hid hT
  have HX := Lib.hid hx
  have HV := Lib.hid hv
  clear hT hx hv h0
  go_enter Tryz.func14, Tryz.ntmps14
  go_wp2_with fail
  go_loopg [0, 9] xs.length (fun g s0 s9 wx => ∃ k : Nat, k + g = xs.length ∧ s9 = .int .i64 k ∧ Aside (OwnT wx W0.heap.size s0 (zs ++ xs.take k)) ∧ Below W0.heap.size w wx)
  case atStart => exact ⟨0, by omega, rfl, by rw [List.take_zero, List.append_nil]; exact HV.out, Below.refl _ _⟩
  case round =>
    obtain ⟨k, hkg, rfl, HO, hb⟩ := hrel
    have Hb := Lib.hid hb
    clear hb
    cases gk with
    | zero =>
      obtain rfl : k = xs.length := by omega
      obtain ⟨p, c, hp, hT3⟩ := OwnT.form HO.out
      rw [List.take_length] at hp hT3
      subst hp
      have HT3 := Lib.hid hT3
      clear hT3 HO
      go_wp2_with fail
      go_ret
      exact ⟨_, _, rfl, HT3.out, Hb.out⟩
    | succ g =>
      have hk : k < xs.length := by omega
      have hkz : (k : Int) < (xs.length : Int) := by omega
      have hk0 : 0 ≤ (k : Int) := by omega
      obtain ⟨b, off, rfl, h1⟩ := (HT.out.later (H0.out.trans Hb.out)).at k hk
      obtain ⟨x, hxk⟩ : ∃ x, xs[k]?.getD ByteArray.empty = x := ⟨_, rfl⟩
      have Hx : Hid (x.size ≤ 15) := Lib.hid (HX.out x (by rw [← hxk, List.getElem?_eq_getElem hk]; exact List.getElem_mem hk))
      have Hnext : Hid (xs.take (k + 1) = xs.take k ++ [x]) := Lib.hid (by rw [List.take_succ_eq_append_getElem hk, ← hxk, List.getElem?_eq_getElem hk]; rfl)
      rw [hxk] at h1
      have Hlen : Hid ((zs ++ xs.take k).length + 1 ≤ 1000000) := Lib.hid (by rw [List.length_append, List.length_take]; omega)
      clear hxk
      go_wp2_with fail
      refine (clone_is x _ (by have := Hx.out; omega)).mono ?_
      rintro e w1 ⟨rfl, hb⟩
      have HO1 := Lib.hid (OwnT.later HO.out hb)
      have Hb1 := Lib.hid (Hb.out.trans (hb.mono (Nat.le_trans hB Hb.out.size)))
      clear hb h1
      go_wp2_with (at_builtin; refine wpList_appendT rfl (.tmp 13) (.tmp 16) rfl W0.heap.size _ _ rfl (HO1.out.alloc _) _ 1 [x] rfl (texts_one _ _) (fun h => by cases h) Hlen.out w (Hb1.out.alloc (Nat.le_trans hB Hb1.out.size) _) (by have := Hb1.out.size; simp; omega) ?_; intro v' w2 HO2 Hb2)
      go_roundg g
      case measure => omega
      case rel => exact ⟨k + 1, by omega, by go_num, by rw [Hnext.out, ← List.append_assoc]; exact HO2.out, Hb2.out⟩
set_option maxHeartbeats 2000000 in
theorem names_is (a : Option Addr) (cap : Nat) (xs : List ByteArray) (columns : Int) (s : ByteArray) (w : World) (hn : xs.length ≤ 9223372036854775807) (hT : Texts w a xs) (hs : s.size ≤ 500)
    (hc0 : -9223372036854775808 ≤ columns) (hc1 : columns ≤ 9223372036854775807) (hL : LaidQ w) (hW : WordsAt w) {ys : List ByteArray} {c : Int} (hN : namesQ xs columns s.data.toList = (ys, c)) :
    Calls Tryz.prog 7 #[.slice a xs.length cap, .int .i64 columns, .string s] w fun e w' => ∃ p cap', e = .returned (.tuple #[.slice p ys.length cap', .int .i64 c]) ∧ Texts w' p ys ∧ Below w.heap.size w w' := by
  obtain ⟨u, e, hE⟩ := encC_text (kindsC xs) columns s.data.toList
  have hl : s.data.toList.length ≤ 500 := by rw [← size_data]; exact hs
  have hfit := coat_fits (ks := kindsC xs) (columns := columns) (l := s.data.toList) (m := xs.length) hl (kindsC_length xs)
  have HE := Lib.hid (encode_is a cap xs columns s w hn hT (by omega) hc0 hc1 hL hfit hE)
  rw [bytes_of] at HE
  by_cases he : e = 0
  · subst he
    obtain ⟨_, _, h4, hz, _⟩ := checkC_ok (encC_ok hE)
    rw [kindsC_length] at h4
    have hu : u.size ≤ 1000000 := by rw [size_data]; have := encC_short hl hE; omega
    have hx := names_short hz
    have HW := Lib.hid hW
    cases hb : loudQ u.data.toList with
    | false =>
      rw [namesQ_low hE hb] at hN
      obtain ⟨rfl, rfl⟩ := Prod.mk.inj hN
      have HL := Lib.hid (fun W (h : Below w.heap.size w W) => loud_is u W hu (HW.out.later h) hb)
      have HB := Lib.hid (fun W (h : Below w.heap.size w W) => behind_is a cap xs (.slice none 0 0) [] w W (by omega) (by simp) hx hT h (OwnT.void _ _))
      simp only [List.nil_append] at HB
      clear hE hfit hT hW hL hb hx hz hN hl hu hs h4
      go_enter Tryz.func7, Tryz.ntmps7
      go_wp2_with fail
      refine HE.out.mono ?_
      rintro e w1 ⟨rfl, hb⟩
      have Hb1 := Lib.hid hb
      clear hb
      go_wp2_with fail
      refine (HL.out _ Hb1.out).mono ?_
      rintro e w2 ⟨rfl, rfl⟩
      go_wp2_with fail
      refine (HB.out _ Hb1.out).mono ?_
      rintro e w2 ⟨p, c', rfl, hT2, hb2⟩
      have HT2 := Lib.hid hT2
      have Hb2 := Lib.hid (Hb1.out.trans hb2)
      clear hT2 hb2
      go_wp2_with fail
      go_ret2
      exact ⟨_, _, rfl, HT2.out, Hb2.out⟩
    | true =>
      have HL := Lib.hid (fun W (h : Below w.heap.size w W) => loud_is u W hu (HW.out.later h) hb)
      by_cases h5 : xs.length = 4
      · rw [namesQ_full hE hb h5] at hN
        obtain ⟨rfl, rfl⟩ := Prod.mk.inj hN
        have h5z : ((xs.length : Nat) : Int) = 4 := by omega
        clear hE hfit hT hW hL hb hx hz hN hl hu hs h4 h5
        go_enter Tryz.func7, Tryz.ntmps7
        go_wp2_with fail
        refine HE.out.mono ?_
        rintro e w1 ⟨rfl, hb⟩
        have Hb1 := Lib.hid hb
        clear hb
        go_wp2_with fail
        refine (HL.out _ Hb1.out).mono ?_
        rintro e w2 ⟨rfl, rfl⟩
        go_wp2_with fail
        go_ret2
        exact ⟨_, _, rfl, .inl rfl, Hb1.out⟩
      · rw [namesQ_hex hE hb h5] at hN
        obtain ⟨rfl, rfl⟩ := Prod.mk.inj hN
        have h5z : ¬ ((xs.length : Nat) : Int) = 4 := by omega
        have HB := Lib.hid (fun W (h : Below w.heap.size w W) => behind_is a cap xs (.slice (some ⟨W.heap.size, 0, none⟩) 1 1) [hexT] w (W.alloc (.cells #[.string hexT] 9)) (by omega) (by simp) hx hT (h.alloc h.size _) (OwnT.made1 W h.size hexT))
        simp only [List.singleton_append] at HB
        unfold hexT at HB
        clear hE hfit hT hW hL hb hx hz hN hl hu hs h4 h5
        go_enter Tryz.func7, Tryz.ntmps7
        go_wp2_with fail
        refine HE.out.mono ?_
        rintro e w1 ⟨rfl, hb⟩
        have Hb1 := Lib.hid hb
        clear hb
        go_wp2_with fail
        refine (HL.out _ Hb1.out).mono ?_
        rintro e w2 ⟨rfl, rfl⟩
        go_wp2_with fail
        refine (HB.out _ Hb1.out).mono ?_
        rintro e w2 ⟨p, c', rfl, hT2, hb2⟩
        have HT2 := Lib.hid hT2
        have Hb2 := Lib.hid ((Hb1.out.alloc Hb1.out.size _).trans hb2)
        clear hT2 hb2
        go_wp2_with fail
        go_ret2
        exact ⟨_, _, rfl, HT2.out, Hb2.out⟩
  · rw [namesQ_err hE he] at hN
    obtain ⟨rfl, rfl⟩ := Prod.mk.inj hN
    have he' : (e != 0) = true := by simpa using he
    clear hE hfit hT hW hL hN hl hs he
    go_enter Tryz.func7, Tryz.ntmps7
    go_wp2_with fail
    refine HE.out.mono ?_
    rintro e w1 ⟨rfl, hb⟩
    have Hb1 := Lib.hid hb
    clear hb
    go_wp2_with fail
    go_ret2
    exact ⟨_, _, rfl, .inl rfl, Hb1.out⟩
end
end Go.Proofs.YtiiiokikmjgliaaGreatDoor
/-
  Same lists of names are told to be the same.
-/
namespace Go.Proofs.YtiiiokikmjgliaaGreatDoor
section
open Go.RowKit
set_option maxRecDepth 100000
set_option maxHeartbeats 1000000 in
theorem same_is (p q : Option Addr) (c d : Nat) (xs : List ByteArray) (w : World) (hn : xs.length ≤ 1000) (hp : Texts w p xs) (hq : Texts w q xs) :
    Calls Tryz.prog 11 #[.slice p xs.length c, .slice q xs.length d] w fun e w' => e = .returned (.bool true) ∧ Below w.heap.size w w' := by
  have HP := Lib.hid hp
  have HQ := Lib.hid hq
  clear hp hq
  go_enter Tryz.func11, Tryz.ntmps11
  go_wp2_with fail
  go_loopg [5] xs.length (fun g s5 wx => ∃ k : Nat, k + g = xs.length ∧ s5 = .int .i64 k ∧ Below w.heap.size w wx)
  case atStart => exact ⟨0, by omega, rfl, Below.refl _ _⟩
  case round =>
    obtain ⟨k, hkg, rfl, hb⟩ := hrel
    have Hb := Lib.hid hb
    clear hb
    cases gk with
    | zero =>
      obtain rfl : k = xs.length := by omega
      go_wp2_with fail
      go_ret
      exact ⟨rfl, Hb.out⟩
    | succ g =>
      have hk : k < xs.length := by omega
      have hkz : (k : Int) < (xs.length : Int) := by omega
      have hk0 : 0 ≤ (k : Int) := by omega
      obtain ⟨b, off, rfl, h1⟩ := (HP.out.later Hb.out).at k hk
      obtain ⟨b2, off2, rfl, h2⟩ := (HQ.out.later Hb.out).at k hk
      obtain ⟨x, hx⟩ : ∃ x, xs[k]?.getD ByteArray.empty = x := ⟨_, rfl⟩
      rw [hx] at h1 h2
      clear hx
      go_wp2_with fail
      go_quiet (fail)
      all_goals
        go_wp2_with fail
      go_roundg g
      case measure => omega
      case rel => exact ⟨k + 1, by omega, by go_num, below_drewN Hb.out nq⟩
end
end Go.Proofs.YtiiiokikmjgliaaGreatDoor
/-
  The document's example of hidden words.
-/
namespace Go.Proofs.YtiiiokikmjgliaaGreatDoor
section
open Go.RowKit
set_option maxRecDepth 100000
theorem kinds_none : kindsC [] = [] := rfl
theorem kinds_runs : kindsC [runsT] = [2] := by decide +kernel
theorem ex_q1 : namesQ [] 0 (ByteArray.mk #[120, 114, 101, 102]).data.toList = ([hexT], 0) := namesQ_hex (o := [120, 114, 101, 102]) (by rw [kinds_none]; decide +kernel) (by decide +kernel) (by decide)
theorem ex_q2 : namesQ [runsT] 0 (ByteArray.mk #[97]).data.toList = ([runsT], 0) := namesQ_low (o := [0, 97, 128]) (by rw [kinds_runs]; decide +kernel) (by decide +kernel)
theorem ex_q3 : loudQ (ByteArray.mk #[97, 110, 32, 111, 98, 106, 101, 99, 116]).data.toList = true := by decide +kernel
theorem ex_q4 : loudQ (ByteArray.mk #[111, 98, 32, 106]).data.toList = false := by decide +kernel
def YesQ (w : World) (e : Ending) (w' : World) : Prop := e = .returned (.bool true) ∧ Below w.heap.size w w'
set_option maxHeartbeats 4000000 in
theorem hidden_is (w : World) (hl : LaidQ w) (hw : WordsAt w) : Calls Tryz.prog 6 #[] w (YesQ w) := by
  have HL := Lib.hid hl
  have HW := Lib.hid hw
  clear hl hw
  have A1 := Lib.hid (names_is none 0 [] 0 ⟨#[120, 114, 101, 102]⟩ w (by decide) (.inl rfl) (by decide) (by decide) (by decide) HL.out HW.out ex_q1)
  have A2 := Lib.hid (fun W (hW : Below w.heap.size w W) => names_is (some ⟨W.heap.size, 0, none⟩) 1 [runsT] 0 ⟨#[97]⟩ (W.alloc (.cells #[.string runsT] 9)) (by decide) (texts_one W runsT) (by decide) (by decide) (by decide) (HL.out.later (hW.alloc hW.size _)) (HW.out.later (hW.alloc hW.size _)) ex_q2)
  have A3 := Lib.hid (fun W (hW : Below w.heap.size w W) => loud_is ⟨#[97, 110, 32, 111, 98, 106, 101, 99, 116]⟩ W (by decide) (HW.out.later hW) ex_q3)
  have A4 := Lib.hid (fun W (hW : Below w.heap.size w W) => loud_is ⟨#[111, 98, 32, 106]⟩ W (by decide) (HW.out.later hW) ex_q4)
  have A5 := Lib.hid (fun p c W W2 (hp : Texts W p [hexT]) (hb : Below W.heap.size W W2) => same_is p (some ⟨W2.heap.size, 0, none⟩) c 1 [hexT] (W2.alloc (.cells #[.string hexT] 9)) (by decide) ((hp.later hb).later ((Below.refl _ W2).alloc (Nat.le_refl _) _)) (texts_one W2 hexT))
  have A6 := Lib.hid (fun p c W W2 (hp : Texts W p [runsT]) (hb : Below W.heap.size W W2) => same_is p (some ⟨W2.heap.size, 0, none⟩) c 1 [runsT] (W2.alloc (.cells #[.string runsT] 9)) (by decide) ((hp.later hb).later ((Below.refl _ W2).alloc (Nat.le_refl _) _)) (texts_one W2 runsT))
  go_enter Tryz.func6, Tryz.ntmps6
  go_wp2_with fail
  refine A1.out.mono ?_
  rintro e w1 ⟨p1, c1, rfl, hT1, hb⟩
  have HT1 := Lib.hid hT1
  have Hb1 := Lib.hid hb
  clear hb hT1
  unfold runsT at A2 A6
  unfold hexT at A5 
  go_wp2_with fail
  refine (A2.out _ Hb1.out).mono ?_
  rintro e w2 ⟨p2, c2, rfl, hT2, hb⟩
  have HT2 := Lib.hid hT2
  have Hb12 := Lib.hid (((Below.refl _ w1).alloc (Nat.le_refl _) (.cells #[.string runsT] 9)).trans (hb.mono (by simp)))
  have Hb2 := Lib.hid ((Hb1.out.alloc Hb1.out.size _).trans (hb.mono (Hb1.out.alloc Hb1.out.size _).size))
  clear hb hT2
  go_wp2_with fail
  refine (A3.out _ Hb2.out).mono ?_
  rintro e w3 ⟨rfl, rfl⟩
  go_wp2_with fail
  refine (A4.out _ Hb2.out).mono ?_
  rintro e w3 ⟨rfl, rfl⟩
  go_wp2_with fail
  refine (A5.out _ _ _ _ HT1.out Hb12.out).mono ?_
  rintro e w3 ⟨rfl, hb⟩
  have Hb23 := Lib.hid (((Below.refl _ w2).alloc (Nat.le_refl _) (.cells #[.string hexT] 9)).trans (hb.mono (by simp)))
  have Hb3 := Lib.hid (Hb2.out.trans (Hb23.out.mono Hb2.out.size))
  clear hb
  go_wp2_with fail
  refine (A6.out _ _ _ _ HT2.out Hb23.out).mono ?_
  rintro e w4 ⟨rfl, hb⟩
  have Hb4 := Lib.hid ((Hb3.out.alloc Hb3.out.size _).trans (hb.mono (Hb3.out.alloc Hb3.out.size _).size))
  clear hb
  go_wp2_with fail
  go_ret
  exact ⟨rfl, Hb4.out⟩
end
end Go.Proofs.YtiiiokikmjgliaaGreatDoor
