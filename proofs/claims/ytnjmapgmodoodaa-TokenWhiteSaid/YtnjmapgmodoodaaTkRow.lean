/-
  Rows of signs that grow; and the document's All.
-/
import Derived.Test.YtnjmapgmodoodaaTkRNext
import Derived.Test.YtnjmapgmodoodaaTkPlain2
import Derived.Test.YtnjmapgmodoodaaOwn8
import Derived.Deep.AppendLies
namespace Go.Proofs.Ytnjmapgmodoodaa
open Go.RowKit
set_option maxRecDepth 100000

theorem infoTok : (Try.prog.info? 24).map (fun i => (i.zero, i.size, i.bytes)) = some (some (.agg #[.int .i64 0, .int .i64 0, .string ⟨#[]⟩, .int .i64 0, .int .i64 0]), 5, 48) := by kernel_rfl
/-- The cells of signs, one behind the other. -/
def cellsT (xs : List Sg) : List Value := xs.flatMap fun x => (tokC x.kind x.num (bytes x.str) (x.beg : Int) (x.fin : Int)).toList
theorem cellsT_snoc (xs : List Sg) (x : Sg) : cellsT (xs ++ [x]) = cellsT xs ++ (tokC x.kind x.num (bytes x.str) (x.beg : Int) (x.fin : Int)).toList := by simp [cellsT]
theorem cellsT_drop : ∀ (xs : List Sg) (i : Nat) (x : Sg), xs[i]? = some x → ((cellsT xs).drop (5 * i)).take 5 = (tokC x.kind x.num (bytes x.str) (x.beg : Int) (x.fin : Int)).toList
  | [], i, x, h => by simp at h
  | y :: r, 0, x, h => by
    simp at h; subst h
    rfl
  | y :: r, i + 1, x, h => by
    have := cellsT_drop r i x (by simpa using h)
    have e : cellsT (y :: r) = (tokC y.kind y.num (bytes y.str) (y.beg : Int) (y.fin : Int)).toList ++ cellsT r := rfl
    rw [e, show 5 * (i + 1) = (tokC y.kind y.num (bytes y.str) (y.beg : Int) (y.fin : Int)).toList.length + 5 * i by rw [show (tokC y.kind y.num (bytes y.str) (y.beg : Int) (y.fin : Int)).toList.length = 5 from rfl]; omega, ← List.drop_drop, List.drop_left]
    exact this
theorem tokC_all (k n : Int) (s : ByteArray) (a e : Int) : ∀ u ∈ (tokC k n s a e).toList, u.oneCell' = true := fun u hu => (Array.all_eq_true'.1 (tokC_one k n s a e)) u (by simpa using hu)

/-- Signs that the call's own row holds. -/
def TRow (w : World) (B : Nat) (v : Value) (xs : List Sg) : Prop := w.ownsRow B 24 5 v xs.length (cellsT xs) ∧ ∃ g cap, v = .slice (some ⟨g, 0, none⟩) xs.length cap
theorem TRow.made (w : World) {B : Nat} (hB : B ≤ w.heap.size) : TRow (w.alloc (.cells #[] 24)) B (.slice (some ⟨w.heap.size, 0, none⟩) 0 0) [] :=
  ⟨World.ownsRow_made w #[] 0 hB (by decide) rfl, _, _, rfl⟩
theorem TRow.later {w w' : World} {B : Nat} {v : Value} {xs : List Sg} (h : TRow w B v xs) (hb : Below w.heap.size w w') : TRow w' B v xs := ⟨owns_later h.1 hb, h.2⟩
theorem TRow.alloc {w : World} {B : Nat} {v : Value} {xs : List Sg} (h : TRow w B v xs) (o : Obj) : TRow (w.alloc o) B v xs := ⟨h.1.alloc o, h.2⟩
theorem TRow.keep {w w' : World} {B : Nat} {v : Value} {xs : List Sg} (h : TRow w B v xs) (hk : ∀ k, v.ownBlock = some k → w'.heap[k]? = w.heap[k]?) : TRow w' B v xs := by
  refine ⟨⟨h.1.1, ?_⟩, h.2⟩
  rcases h.1.2 with h2 | ⟨g, cap, cur, hv, hB, hg, hr⟩
  · exact .inl h2
  · exact .inr ⟨g, cap, cur, hv, hB, (hk g (by rw [hv]; rfl)).trans hg, hr⟩
theorem TRow.lt {w : World} {B : Nat} {v : Value} {xs : List Sg} (h : TRow w B v xs) : ∀ k, v.ownBlock = some k → B ≤ k ∧ k < w.heap.size := h.1.lt
/-- A sign of a row. -/
theorem TRow.block {w : World} {B : Nat} {v : Value} {xs : List Sg} (h : TRow w B v xs) : ∃ g cap cur, v = .slice (some ⟨g, 0, none⟩) xs.length cap ∧ w.heap[g]? = some (.cells cur 24 (0, 0)) ∧ B ≤ g ∧ g < w.heap.size ∧ xs.length ≤ cap ∧
    cur.size = cap * 5 ∧ ∀ i x, xs[i]? = some x → (cur.toList.drop (5 * i)).take 5 = (tokC x.kind x.num (bytes x.str) (x.beg : Int) (x.fin : Int)).toList := by
  obtain ⟨h1, g0, cap0, hv0⟩ := h
  rcases h1.2 with ⟨h2, _⟩ | ⟨g, cap, cur, hv, hB, hg, hn, hm, hs, ht⟩
  · rw [hv0] at h2; cases h2
  · refine ⟨g, cap, cur, hv, hg, hB, (Array.getElem?_eq_some_iff.1 hg).1, hn, hs, fun i x hx => ?_⟩
    have hi := (List.getElem?_eq_some_iff.1 hx).1
    rw [← cellsT_drop xs i x hx, ← ht, List.drop_take, List.take_take, Nat.min_eq_left (by omega)]

/-- A sign is put behind them. -/
theorem wpList_append_tok {ops : Array Oper} {rest : List Oper} {o : Oper} {a : Act} {w : World} {Q : Exit → Act → World → Prop} (hgd : o.guard = none) (s x : Operand)
    (ho : o.op = .call { callee := .builtin .append, args := #[s, x], argTypes := #[35, 35] })
    (B : Nat) (v : Value) (xs : List Sg) (hs : a.eval s = v) (hown : TRow w B v xs) (y : Sg) (b c : Nat) (hx : a.eval x = .slice (some ⟨b, 0, none⟩) 1 c)
    (hy : TokCell w b (tokC y.kind y.num (bytes y.str) (y.beg : Int) (y.fin : Int))) (hlen : xs.length ≤ 100000000) (W0 : World) (hb : Below B W0 w) (hB : B ≤ w.heap.size)
    (h : ∀ v' w', Hid (TRow w' B v' (xs ++ [y])) → Hid (Below B W0 w') → Hid (∀ k, k < w.heap.size → v.ownBlock ≠ some k → w'.heap[k]? = w.heap[k]?) → (∃ g cap, v' = .slice (some ⟨g, 0, none⟩) (xs ++ [y]).length cap) → wpList Try.prog ops Q rest (a.put o.dst v') w') : wpList Try.prog ops Q (o :: rest) a w := by
  obtain ⟨i0, hi, hz0, hz1, hz2⟩ := info_parts infoTok
  obtain ⟨h1, g, cap, rfl⟩ := hown
  refine wpList_append_lies w hgd s x 35 ho B 24 i0 _ 5 48 Try.underlying35 hi hz0 hz1 hz2 rfl (by decide) _ _ _ hs h1 ⟨b, 0, none⟩ 1 c (tokC y.kind y.num (bytes y.str) (y.beg : Int) (y.fin : Int)).toList hx rfl (World.news_of_block hy) (tokC_all _ _ _ _ _) (by decide) (by unfold maxLen; omega) (by omega) hB _ rfl ?_
  intro g' cap' w' hown' hgrow _ _
  have e : xs.length + 1 = (xs ++ [y]).length := by rw [List.length_append]; rfl
  rw [e]
  exact h _ w' (Lib.hid ⟨by rw [cellsT_snoc, ← e]; exact hown', _, _, rfl⟩) (Lib.hid (hb.grown hgrow hB (fun k ek => (h1.lt k ek).1))) (Lib.hid fun k hk hne => hgrow.block k hk (fun e => hne e.symm)) ⟨_, _, rfl⟩

theorem rNext_is (s : ByteArray) (k : Nat) (w : World) (hs : s.size ≤ 100000000) (hk : k ≤ s.size) {x : Sg} (hx : nextN s.data.toList k = x) :
    Calls Try.prog 9 #[.string s, .int .i64 (k : Int)] w fun e w' => e = .returned (.tuple #[.agg (tokC x.kind x.num (bytes x.str) (x.beg : Int) (x.fin : Int)), .int .i64 x.code]) ∧ Below w.heap.size w w' := by
  have h := rNext_any s (k : Int) w hs
  rw [nextI_nat (by rw [← size_data]; exact hk), hx] at h
  exact h

set_option maxHeartbeats 4000000 in
theorem rAll_any (s : ByteArray) (w : World) (hs : s.size ≤ 1000000) :
    Calls Try.prog 14 #[.string s] w fun e w' => ∃ v, e = .returned (.tuple #[v, .int .i64 (allL s.data.toList).2]) ∧ TRow w' w.heap.size v (allL s.data.toList).1 ∧ Below w.heap.size w w' := by
  obtain ⟨A, c, hA⟩ : ∃ A c, allL s.data.toList = (A, c) := ⟨_, _, rfl⟩
  have hAl : A.length ≤ s.size + 1 := by
    have h := (all_good s.data.toList (s.data.toList.length + 1) 0 (by omega) (Nat.zero_le _)).1
    rw [show allGo s.data.toList (s.data.toList.length + 1) 0 = (A, c) from hA, ← size_data] at h
    exact h
  rw [hA]
  have HA := Lib.hid hA
  clear hA
  go_enter Try.func14, Try.ntmps14
  go_wp2
  go_loopg [4, 5] (s.size + 1) (fun f s4 s5 wr => ∃ (pre : List Sg) (k : Nat), s5 = .int .i64 k ∧ k ≤ s.size ∧ s.size < f + k ∧ Aside (pre ++ (allGo s.data.toList f k).1 = A ∧ (allGo s.data.toList f k).2 = c) ∧ (∃ g cap, s4 = .slice (some ⟨g, 0, none⟩) pre.length cap) ∧ Aside (TRow wr w.heap.size s4 pre) ∧ Aside (Below w.heap.size w wr))
  case atStart =>
    exact ⟨[], 0, rfl, Nat.zero_le _, by omega, ⟨by have h := HA.out; unfold allL at h; rw [← size_data] at h; rw [h]; rfl, by have h := HA.out; unfold allL at h; rw [← size_data] at h; rw [h]⟩, ⟨_, _, rfl⟩, TRow.made w (Nat.le_refl _), (Below.refl _ w).alloc (Nat.le_refl _) _⟩
  case round =>
    obtain ⟨pre, k, rfl, hk, hfk, HP, ⟨g, cap, rfl⟩, HR, HB⟩ := hrel
    cases gk with
    | zero => omega
    | succ f =>
      obtain ⟨x, hx⟩ : ∃ x, nextN s.data.toList k = x := ⟨_, rfl⟩
      have hg := next_good s.data.toList k (by rw [← size_data]; exact hk)
      rw [hx] at hg
      have hlen : pre.length ≤ s.size + 1 := by
        have h := congrArg List.length HP.out.1
        rw [List.length_append] at h
        omega
      have HNx := Lib.hid (fun W => rNext_is s k W (by omega) hk hx)
      have hpfx : (¬ x.code = 0 → A = pre ∧ c = x.code) ∧ (x.code = 0 → x.kind = 0 → A = pre ++ [x] ∧ c = 0) ∧
          (x.code = 0 → ¬ x.kind = 0 → k < x.fin ∧ x.fin ≤ s.size ∧ (pre ++ [x] ++ (allGo s.data.toList f x.fin).1 = A ∧ (allGo s.data.toList f x.fin).2 = c)) := by
        have hP := HP.out
        refine ⟨fun h1 => ?_, fun h1 h2 => ?_, fun h1 h2 => ?_⟩
        · rw [all_err (by rw [hx]; exact h1), hx, List.append_nil] at hP
          exact ⟨hP.1.symm, hP.2.symm⟩
        · rw [all_end (by rw [hx]; exact h1) (by rw [hx]; exact h2), hx] at hP
          exact ⟨hP.1.symm, hP.2.symm⟩
        · rw [all_step (by rw [hx]; exact h1) (by rw [hx]; exact h2), hx] at hP
          have hs := next_step (l := s.data.toList) (k := k) (by rw [← size_data]; exact hk) (by rw [hx]; exact h1) (by rw [hx]; exact h2)
          rw [hx, ← size_data] at hs
          exact ⟨hs.1, hs.2, by rw [← hP.1, List.append_assoc]; rfl, hP.2⟩
      obtain ⟨hp1, hp2, hp3⟩ := hpfx
      clear hx hg
      by_cases h1 : x.code = 0
      · have h1' : (x.code != 0) = false := by simpa using h1
        by_cases h2 : x.kind = 0
        · have h2' : (x.kind == 0) = true := by simpa using h2
          obtain ⟨rfl, rfl⟩ := hp2 h1 h2
          clear hp1 hp2 hp3 h1 h2
          go_wp2_with fail
          refine (HNx.out _).mono ?_
          rintro e w1 ⟨rfl, hb⟩
          have HR2 := Lib.hid (HR.out.later hb)
          have HB2 := Lib.hid ((HB.out.trans (hb.mono HB.out.size)).alloc (HB.out.trans (hb.mono HB.out.size)).size (.cells (tokC 0 0 ⟨#[]⟩ 0 0) 24))
          have hsz := (HB.out.trans (hb.mono HB.out.size)).size
          clear hb
          go_wp2_with (first
            | (refine TokCell.store rfl rfl _ _ rfl w1.heap.size (tokC 0 0 ⟨#[]⟩ 0 0) _ _ _ _ _ rfl rfl (TokCell.new w1 _) rfl w.heap.size w HB2.out hsz ?_; intro w3 HT3 HB3 HO3; have HR3 := Lib.hid ((HR2.out.alloc (.cells (tokC 0 0 ⟨#[]⟩ 0 0) 24)).keep fun q hq => HO3.out q (by have := (HR2.out.lt q hq).2; omega)); obtain ⟨k0, k1, k2, k3, k4⟩ := HT3.out.parts)
            | (refine TokCell.load rfl _ rfl w1.heap.size #[.int .i64 x.kind, .int .i64 x.num, .string (bytes x.str), .int .i64 (x.beg : Int), .int .i64 (x.fin : Int)] rfl HT3.out rfl ?_)
            | (at_builtin; refine wpList_append_tok rfl (.tmp 19) (.tmp 21) rfl w.heap.size _ pre rfl (HR3.out.alloc _) x w3.heap.size 1 rfl (TokCell.new w3 _) (by omega) w (HB3.out.alloc HB3.out.size _) (by have := HB3.out.size; simp; omega) ?_; rintro v4 w4 HR4 HB4 HO4 ⟨g4, cap4, rfl⟩; obtain ⟨k0, k1, k2, k3, k4⟩ := TokCell.parts (w := w4) ((HO4.out w1.heap.size (by have := HT3.out.lt; simp; omega) (fun e => by have := (HR2.out.lt _ e).2; omega)).trans ((heap_alloc_old w3 _ HT3.out.lt).trans HT3.out))))
          exact bodyPost_ret (v := .tuple #[.slice (some ⟨g4, 0, none⟩) (pre ++ [x]).length cap4, .int .i64 0]) (by simp [results, Try.results14, go_sem]) rfl ⟨_, rfl, HR4.out, HB4.out⟩
        · have h2' : (x.kind == 0) = false := by simpa using h2
          obtain ⟨q1, q2, q3⟩ := hp3 h1 h2
          have Hq := Lib.hid q3
          clear hp1 hp2 hp3 h1 h2 q3
          go_wp2_with fail
          refine (HNx.out _).mono ?_
          rintro e w1 ⟨rfl, hb⟩
          have HR2 := Lib.hid (HR.out.later hb)
          have HB2 := Lib.hid ((HB.out.trans (hb.mono HB.out.size)).alloc (HB.out.trans (hb.mono HB.out.size)).size (.cells (tokC 0 0 ⟨#[]⟩ 0 0) 24))
          have hsz := (HB.out.trans (hb.mono HB.out.size)).size
          clear hb
          go_wp2_with (first
            | (refine TokCell.store rfl rfl _ _ rfl w1.heap.size (tokC 0 0 ⟨#[]⟩ 0 0) _ _ _ _ _ rfl rfl (TokCell.new w1 _) rfl w.heap.size w HB2.out hsz ?_; intro w3 HT3 HB3 HO3; have HR3 := Lib.hid ((HR2.out.alloc (.cells (tokC 0 0 ⟨#[]⟩ 0 0) 24)).keep fun q hq => HO3.out q (by have := (HR2.out.lt q hq).2; omega)); obtain ⟨k0, k1, k2, k3, k4⟩ := HT3.out.parts)
            | (refine TokCell.load rfl _ rfl w1.heap.size #[.int .i64 x.kind, .int .i64 x.num, .string (bytes x.str), .int .i64 (x.beg : Int), .int .i64 (x.fin : Int)] rfl HT3.out rfl ?_)
            | (at_builtin; refine wpList_append_tok rfl (.tmp 19) (.tmp 21) rfl w.heap.size _ pre rfl (HR3.out.alloc _) x w3.heap.size 1 rfl (TokCell.new w3 _) (by omega) w (HB3.out.alloc HB3.out.size _) (by have := HB3.out.size; simp; omega) ?_; rintro v4 w4 HR4 HB4 HO4 ⟨g4, cap4, rfl⟩; obtain ⟨k0, k1, k2, k3, k4⟩ := TokCell.parts (w := w4) ((HO4.out w1.heap.size (by have := HT3.out.lt; simp; omega) (fun e => by have := (HR2.out.lt _ e).2; omega)).trans ((heap_alloc_old w3 _ HT3.out.lt).trans HT3.out))))
          go_roundg f
          case measure => omega
          case rel =>
            have e : (pre ++ [x]).length = pre.length + 1 := by rw [List.length_append]; rfl
            have hR := HR4.out
            rw [e] at hR
            exact ⟨pre ++ [x], x.fin, rfl, q2, by omega, ⟨Hq.out.1, Hq.out.2⟩, ⟨g4, cap4, by rw [e]⟩, hR, HB4.out⟩
      · have h1' : (x.code != 0) = true := by simpa using h1
        obtain ⟨rfl, rfl⟩ := hp1 h1
        clear hp1 hp2 hp3 h1
        go_wp2_with fail
        refine (HNx.out _).mono ?_
        rintro e w1 ⟨rfl, hb⟩
        have HR2 := Lib.hid (HR.out.later hb)
        have HB2 := Lib.hid ((HB.out.trans (hb.mono HB.out.size)).alloc (HB.out.trans (hb.mono HB.out.size)).size (.cells (tokC 0 0 ⟨#[]⟩ 0 0) 24))
        have hsz := (HB.out.trans (hb.mono HB.out.size)).size
        clear hb
        go_wp2_with (refine TokCell.store rfl rfl _ _ rfl w1.heap.size (tokC 0 0 ⟨#[]⟩ 0 0) _ _ _ _ _ rfl rfl (TokCell.new w1 _) rfl w.heap.size w HB2.out hsz ?_; intro w3 HT3 HB3 HO3; have HR3 := Lib.hid ((HR2.out.alloc (.cells (tokC 0 0 ⟨#[]⟩ 0 0) 24)).keep fun q hq => HO3.out q (by have := (HR2.out.lt q hq).2; omega)))
        exact bodyPost_ret (v := .tuple #[.slice (some ⟨g, 0, none⟩) A.length cap, .int .i64 x.code]) (by simp [results, Try.results14, go_sem]) rfl ⟨_, rfl, HR3.out, HB3.out⟩
end Go.Proofs.Ytnjmapgmodoodaa
