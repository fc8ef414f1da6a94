/-
  InfRef, InfRef2, InfRef3, InfRef4, InfRef5, InfRef6: texts merged.
-/
import Derived.Test.YtboiljclenikbaaDoorHPlain
import Derived.Test.YtboiljclenikbaaDoorHHeld
import Derived.Test.YtboiljclenikbaaDoorHCodeR
import Derived.Test.YtboiljclenikbaaDoorHRows
import Derived.Deep.DeepCutAuto
import Derived.Deep.CutRange
import Derived.Deep.RegionLaw
import Derived.Deep.RegionHeld3
import Derived.Deep.MidRow
import Derived.Lib.AppendStr
/-
  The contracts of the document's small functions on deflated bytes: Extra, Power, Length, Distance; bits, symbol, fail.
-/
namespace Go.Proofs.YtboiljclenikbaaDoor
section
open Go.RowKit

theorem sumL_small : ∀ k : Fin 30, sumL k.val ≤ 1000 := by decide +kernel
theorem distN_small : ∀ k : Fin 31, distN k.val ≤ 40000 := by decide +kernel
theorem sumL_le {k : Nat} (h : k ≤ 29) : sumL k ≤ 1000 := sumL_small ⟨k, by omega⟩
theorem distN_le {k : Nat} (h : k ≤ 30) : distN k ≤ 40000 := distN_small ⟨k, by omega⟩
theorem lengthN_le {k : Nat} (h : k ≤ 28) : lengthN k ≤ 1000 := by
  unfold lengthN
  split
  · omega
  · exact sumL_le (by omega)
end
end Go.Proofs.YtboiljclenikbaaDoor
/-
  The document's state in memory; the contracts of its bits, symbol, fail.
-/
namespace Go.Proofs.YtboiljclenikbaaDoor
section
open Go.RowKit

/-- A state's value. -/
def stV (s : ByteArray) (vb : Value) (vo : Value) (most : Nat) (x : St) : Array Value := #[.string s, vb, .int .i64 (x.at' : Int), vo, .int .i64 (most : Int), .int .i64 x.code]
/-- Each of its parts is one cell. -/
theorem stV_one {s : ByteArray} {vb vo : Value} {most : Nat} {x : St} (hb : vb.oneCell' = true) (ho : vo.oneCell' = true) : (stV s vb vo most x).all (·.oneCell') = true := by
  have h : (stV s vb vo most x).toList.all (·.oneCell') = true := by
    show (_ && (vb.oneCell' && (_ && (vo.oneCell' && _)))) = true
    rw [hb, ho]; rfl
  simpa using h
theorem readC_nonneg (ls : List Int) (cs : List Nat) : ∀ (k n code : Nat) (r : List Nat), 0 ≤ (readC ls cs k n code r).1
  | 0, n, code, r => by rw [readC_end]; exact Int.le_refl _
  | _ + 1, _, _, [] => by rw [readC_short]; exact Int.le_refl _
  | k + 1, n, code, b :: r => by
    by_cases h : 0 ≤ findC ls cs (n + 1) (2 * code + b) 0
    · rw [readC_hit h]; exact h
    · rw [readC_miss h]; exact readC_nonneg ls cs k (n + 1) (2 * code + b) r
theorem foldl_nat (ns : List Nat) : ∀ m : Nat, (intsOf ns).foldl max (m : Int) = ((ns.foldl max m : Nat) : Int) := by
  induction ns with
  | nil => intro m; rfl
  | cons n r ih =>
    intro m
    show (intsOf r).foldl max (max (m : Int) (n : Int)) = _
    rw [show max (m : Int) (n : Int) = ((max m n : Nat) : Int) by omega, ih]; rfl
theorem longN_is (ns : List Nat) : longZ (intsOf ns) = (longN ns : Int) := foldl_nat ns 0
theorem foldl_le {ns : List Nat} {b : Nat} (h : ∀ n ∈ ns, n ≤ b) : ∀ m, m ≤ b → ns.foldl max m ≤ b := by
  induction ns with
  | nil => intro m hm; exact hm
  | cons n r ih =>
    intro m hm
    exact ih (fun x hx => h x (by simp [hx])) (max m n) (by have := h n (by simp); omega)
theorem longN_le {ns : List Nat} (h : ∀ n ∈ ns, n ≤ 15) : longN ns ≤ 15 := foldl_le h 0 (by omega)
theorem intsOf_length (ns : List Nat) : (intsOf ns).length = ns.length := by simp [intsOf]

end
end Go.Proofs.YtboiljclenikbaaDoor
/-
  The contract of the document's copied.
-/
namespace Go.Proofs.YtboiljclenikbaaDoor
section
open Go.RowKit

theorem bitsS_facts {l : List UInt8} {x : St} {k : Nat} (hk : k ≤ 16) (hx : x.at' ≤ 8 * l.length) : (bitsS l x k).1.at' ≤ 8 * l.length ∧ (bitsS l x k).1.out = x.out ∧ (bitsS l x k).2 < 65536 := by
  by_cases h0 : x.code = 0
  · rcases bitsS_ok (l := l) h0 hk with ⟨n, h1, h2⟩ | ⟨_, h2, h3, h4⟩
    · obtain ⟨g1, g2, _⟩ := bitsP_ok h1
      rw [h2]
      refine ⟨g1, rfl, ?_⟩
      have h5 := numB_lt (((bitsOf l).drop x.at').take k) fun b hb => bitsOf_two l b (List.mem_of_mem_drop (List.mem_of_mem_take hb))
      have h6 : (((bitsOf l).drop x.at').take k).length ≤ k := by rw [List.length_take]; omega
      have h7 : (2 : Nat) ^ (((bitsOf l).drop x.at').take k).length ≤ 2 ^ 16 := Nat.pow_le_pow_right (by omega) (by omega)
      rw [g2]; omega
    · refine ⟨by rw [h3]; exact hx, h4, ?_⟩
      unfold bitsS
      rw [if_neg (by simp [h0])]
      by_cases hle : x.at' + k ≤ 8 * l.length
      · have := getB_ok (l := l) (pos := x.at') hk hle
        unfold bitsS at h2
        rw [if_neg (by simp [h0]), this] at h2
        cases h2
      · rw [getB_short hk (by omega)]; show (0 : Int).toNat < 65536; decide
  · rw [bitsS_bad h0]
    exact ⟨hx, rfl, by omega⟩
theorem symS_facts {l : List UInt8} {x : St} {ns : List Nat} (hx : x.at' ≤ 8 * l.length) : (symS l x ns).1.at' ≤ 8 * l.length ∧ (symS l x ns).1.out = x.out := by
  by_cases h0 : x.code = 0
  · unfold symS
    rw [if_neg (by simp [h0])]
    have := readC_le (intsOf ns) (codesN ns) (longN ns) 0 0 ((bitsOf l).drop x.at')
    rw [List.length_drop, bitsOf_length] at this
    exact ⟨by show x.at' + _ ≤ _; omega, rfl⟩
  · rw [symS_bad h0]; exact ⟨hx, rfl⟩
theorem failS_facts (x : St) (c : Bool) (e : Int) : (failS x c e).at' = x.at' ∧ (failS x c e).out = x.out := by
  unfold failS; split <;> exact ⟨rfl, rfl⟩
/-- Where nothing failed nothing was asked. -/
theorem failS_zero {x : St} {c : Bool} {e : Int} (he : e ≠ 0) (h : (failS x c e).code = 0) : c = false ∧ x.code = 0 ∧ failS x c e = x := by
  unfold failS at h ⊢
  split at h
  · exact absurd h he
  · rename_i hc
    rw [if_neg hc]
    refine ⟨?_, h, rfl⟩
    cases c
    · rfl
    · exact absurd ⟨rfl, h⟩ hc

/-- What is handed back. -/
def Handed10 (w : World) (F : List Nat) (s : ByteArray) (vb : Value) (most : Nat) (y : St) (en : Ending) (w' : World) : Prop :=
  ∃ vo, en = .returned (.agg (stV s vb vo most y)) ∧ vo.oneCell' = true ∧ Row8 w' vo y.out ∧ Touches F vo.ownBlock.toList w w'
theorem Row8.bytes {w : World} {v : Value} {l : List UInt8} (h : Row8 w v l) (h0 : 0 < l.length) : ∃ g cap, v = .slice (some ⟨g, 0, none⟩) l.length cap ∧ g < w.heap.size ∧ ∀ j c, l[j]? = some c → w.cell? ⟨g, j, none⟩ = some (.int .u8 (c.toNat : Int)) := by
  have h' := h
  rcases h.2 with ⟨_, h2⟩ | ⟨g, cap, cur, rfl, _⟩
  · omega
  · refine ⟨g, cap, rfl, (World.ownsRow.lt h' g rfl).2, fun j c hj => ?_⟩
    obtain ⟨h1, h2⟩ := List.getElem?_eq_some_iff.1 hj
    have := World.ownsRow.cells h' (g := g) rfl j _ (cellsB_at h1)
    have e : (⟨g, 0, none⟩ : Addr).add j = ⟨g, j, none⟩ := by unfold Addr.add; split <;> simp_all
    rw [e, h2] at this
    exact this
theorem cells_new1_y (W : World) {g : Nat} (hg : W.heap.size = g) (c : UInt8) (z : Int) (hz : z = (c.toNat : Int)) : ∀ j (h : j < [c].length), (W.alloc (.cells #[.int .u8 z] 5)).cell? ((⟨g, 0, none⟩ : Addr).add j) = some (.int .u8 ([c][j].toNat : Int)) := by
  subst hg; subst hz
  intro j h
  simp at h
  subst h
  rw [show (⟨W.heap.size, 0, none⟩ : Addr).add 0 = ⟨W.heap.size, 0, none⟩ from rfl, World.cell?_alloc_new]
  rfl
theorem distN_pos : ∀ d, 0 < distN d
  | 0 => by decide
  | d + 1 => by rw [distN]; exact Nat.add_pos_left (distN_pos d) _

end
end Go.Proofs.YtboiljclenikbaaDoor
/-
  A text is put behind a row that an object owns.
-/
namespace Go.Proofs.YtboiljclenikbaaDoor
section
open Go.RowKit

theorem strCells_row (s : ByteArray) : Lib.strCells s = cellsB s.data.toList := rfl
theorem run_append_text (w : World) (ty : TypeId) (v : Value) (l : List UInt8) (hown : Row8 w v l) (s : ByteArray) (hlen : l.length + s.size ≤ 140737488355328) :
    ∃ v' w', (Builtin.append_ #[28, 9] ty #[v, .string s]).run Tryd.prog w = .ok v' w' ∧ Row8 w' v' (l ++ s.data.toList) ∧ w.grownBy w' v.ownBlock ∧ ∀ k, v'.ownBlock = some k → v.ownBlock = some k ∨ w.heap.size ≤ k := by
  obtain ⟨i0, hi, hz0, hz1, hz2⟩ := info_parts info8
  have low : ∀ (B : Nat) (w' : World) (v' : Value), w'.ownsRow B 5 1 v' (l.length + s.size) (cellsB l ++ Lib.strCells s) → Row8 w' v' (l ++ s.data.toList) := fun B w' v' h => by
    rw [strCells_row, ← cellsB_append, show l.length + s.size = (l ++ s.data.toList).length by rw [List.length_append, ← size_data]] at h
    refine ⟨h.1, ?_⟩
    rcases h.2 with h2 | ⟨g, c, cur, hv, hB, hg, hr⟩
    · exact .inl h2
    · exact .inr ⟨g, c, cur, hv, Nat.zero_le _, hg, hr⟩
  have h' := hown
  rcases hown.2 with ⟨rfl, h0⟩ | ⟨g, cap, cur, rfl, _, hg, hnc, hcm, hcs, _⟩
  · obtain rfl : l = [] := List.eq_nil_of_length_eq_zero h0
    obtain ⟨v', w', hr, h2, h3, _⟩ := Lib.run_append_own_string (P := Tryd.prog) w w.heap.size 28 9 ty 5 i0 Tryd.underlying28 Tryd.underlying9 hi hz0 hz1 hz2 (.slice none 0 0) 0 [] (World.ownsRow_nil _ _ _ _) s (by unfold maxLen; simp at hlen; omega) (by simpa using hlen) (Nat.le_refl _)
    exact ⟨v', w', hr, low _ _ _ h2, h3, fun k hk => .inr (World.ownsRow.lt h2 k hk).1⟩
  · obtain ⟨v', w', hr, h2, h3, _⟩ := Lib.run_append_own_string (P := Tryd.prog) w 0 28 9 ty 5 i0 Tryd.underlying28 Tryd.underlying9 hi hz0 hz1 hz2 _ _ _ h' s (by unfold maxLen; omega) hlen (Nat.zero_le _)
    refine ⟨v', w', hr, low _ _ _ h2, h3, ?_⟩
    by_cases hroom : l.length + s.size ≤ cap
    · have hr2 := Lib.run_append_room_string (P := Tryd.prog) w 28 9 ty 5 i0 Tryd.underlying28 Tryd.underlying9 hi hz1 g l.length cap cur hg s hroom (by omega)
      rw [hr] at hr2
      injection hr2 with e1 e2
      intro k hk
      rw [e1] at hk
      exact .inl hk
    · have hr2 := Lib.run_append_grow_string (P := Tryd.prog) w 28 9 ty 5 i0 (.int .u8 0) Tryd.underlying28 Tryd.underlying9 hi hz0 ⟨g, 0, none⟩ l.length cap (cellsB l) (by rw [hz1, cellsB_length, Nat.mul_one]) (h'.cells (g := g) rfl) s (by omega) (by omega) (by rw [hz2]; exact growslice_fits (by omega) (by omega))
      rw [hr] at hr2
      injection hr2 with e1 e2
      intro k hk
      rw [e1] at hk
      have := Option.some.inj hk
      exact .inr (by simp at this; omega)
theorem wpList_append_text {ops : Array Oper} {rest : List Oper} {o : Oper} {a : Act} {w : World} {Q : Exit → Act → World → Prop} (hgd : o.guard = none) (sl x : Operand)
    (ho : o.op = .call { callee := .builtin .append, args := #[sl, x], argTypes := #[28, 9] })
    (v : Value) (l : List UInt8) (hs : a.eval sl = v) (hown : Row8 w v l) (s : ByteArray) (hx : a.eval x = .string s) (hlen : l.length + s.size ≤ 140737488355328)
    (h : ∀ v' w', Hid (Row8 w' v' (l ++ s.data.toList)) → Hid (w.grownBy w' v.ownBlock) → Hid (∀ k, v'.ownBlock = some k → v.ownBlock = some k ∨ w.heap.size ≤ k) → wpList Tryd.prog ops Q rest (a.put o.dst v') w') : wpList Tryd.prog ops Q (o :: rest) a w := by
  refine wpList_plain hgd fun K hK => ?_
  obtain ⟨v', w', hr, h2, h3, h4⟩ := run_append_text w o.type v l hown s hlen
  unfold Oper.wp execOp
  simp only [ho, resolve, invoke, builtin, Sem.run_bind, Sem.run_pure, Result.andThen_ok, List.map_toArray, List.map_cons, List.map_nil, hs, hx, hr]
  exact hK _ _ (h v' w' (Lib.hid h2) (Lib.hid h3) (Lib.hid h4))
/-- A stored block, as a state. -/
def storedS (l : List UInt8) (M : Nat) (x : St) : St :=
  let a := bitsS l ⟨wholeN x.at', x.out, x.code⟩ 16
  let b := bitsS l a.1 16
  let c := failS b.1 (decide (a.2 + b.2 ≠ 65535)) 4
  if c.code ≠ 0 then c else
  let t := bytesB l c.at' (a.2 : Int)
  failS ⟨t.2.1, c.out ++ t.1, t.2.2⟩ (decide (M < c.out.length + t.1.length)) 7

theorem whole_whole (p : Nat) : wholeN (wholeN p + 32) = wholeN p + 32 ∧ ∃ q, wholeN p + 32 = 8 * q := ⟨by unfold wholeN; omega, wholeN p / 8 + 4, by unfold wholeN; omega⟩
theorem storedS_tells {l : List UInt8} {M : Nat} {x : St} (hx : x.code = 0) : Tells (storedS l M x) (storedP M x.out l x.at') := by
  unfold storedP storedS
  simp only
  rw [pbind_of (show alignP l x.at' = .ok ((), wholeN x.at') from rfl)]
  rcases bitsS_ok (l := l) (x := ⟨wholeN x.at', x.out, x.code⟩) (w := 16) hx (by omega) with ⟨n, h1, h2⟩ | ⟨h1, h2, _, _⟩
  · rw [pbind_of h1, h2]
    simp only
    rcases bitsS_ok (l := l) (x := ⟨wholeN x.at' + 16, x.out, 0⟩) (w := 16) rfl (by omega) with ⟨m, g1, g2⟩ | ⟨g1, g2, _, _⟩
    · rw [pbind_of g1, g2]
      simp only
      by_cases hf : n + m ≠ 65535
      · rw [decide_eq_true hf, pbind_err pfail_true, failS_yes rfl]
        exact ⟨rfl, by decide⟩
      · rw [decide_eq_false hf, pbind_of pfail_false, failS_no]
        simp only [ne_eq, not_true, if_false]
        obtain ⟨w1, q, w2⟩ := whole_whole x.at'
        have hat : wholeN x.at' + 16 + 16 = 8 * q := by omega
        have hw : wholeN (8 * q) = 8 * q := by unfold wholeN; omega
        rw [hat]
        by_cases hb : 8 * q + 8 * n ≤ 8 * l.length
        · have hbb : bytesB l (8 * q) (n : Int) = ((l.drop q).take n, 8 * (q + n), 0) := by
            unfold bytesB
            rw [if_neg (by omega), hw, if_neg (by omega), Int.toNat_natCast, show 8 * q / 8 = q by omega]
          have hbp : bytesP n l (8 * q) = .ok ((l.drop q).take n, 8 * q + 8 * n) := by unfold bytesP; rw [if_pos hb, bytesP_whole]
          rw [pbind_of hbp, hbb]
          simp only
          by_cases hM : M < x.out.length + ((l.drop q).take n).length
          · rw [decide_eq_true hM, pbind_err pfail_true, failS_yes rfl]
            exact ⟨rfl, by decide⟩
          · rw [decide_eq_false hM, pbind_of pfail_false, failS_no]
            exact ⟨rfl, rfl, by show 8 * (q + n) = _; omega⟩
        · have hbb : bytesB l (8 * q) (n : Int) = ([], 8 * q, 5) := by
            unfold bytesB
            rw [if_neg (by omega), hw, if_pos (by omega)]
          have hbp : bytesP n l (8 * q) = .error 5 := by unfold bytesP; rw [if_neg hb]
          rw [pbind_err hbp, hbb, failS_bad (show (5 : Int) ≠ 0 by decide)]
          exact ⟨rfl, by decide⟩
    · rw [pbind_err g1]
      have hne : (bitsS l ⟨wholeN x.at' + 16, x.out, 0⟩ 16).1.code ≠ 0 := by rw [g2]; decide
      rw [failS_bad hne, if_pos hne]
      exact ⟨g2, by decide⟩
  · rw [pbind_err h1]
    have hne : (bitsS l ⟨wholeN x.at', x.out, x.code⟩ 16).1.code ≠ 0 := by rw [h2]; decide
    rw [bitsS_bad hne]
    simp only
    rw [failS_bad hne, if_pos hne]
    exact ⟨h2, by decide⟩

end
end Go.Proofs.YtboiljclenikbaaDoor
/-
  The contract of the document's stored.
-/
namespace Go.Proofs.YtboiljclenikbaaDoor
section
open Go.RowKit

end
end Go.Proofs.YtboiljclenikbaaDoor
/-
  The contracts of the document's lengths of fixed codes, of their order, and of what distances may be.
-/
namespace Go.Proofs.YtboiljclenikbaaDoor
section
open Go.RowKit

theorem fixed_at : ∀ k : Fin 288, fixedLit[k.val]? = some (if k.val < 144 then 8 else if k.val < 256 then 9 else if k.val < 280 then 7 else 8) := by decide +kernel
theorem fixed_take {k : Nat} (h : k < 288) : fixedLit.take (k + 1) = fixedLit.take k ++ [if k < 144 then 8 else if k < 256 then 9 else if k < 280 then 7 else 8] := by
  rw [List.take_add_one, fixed_at ⟨k, h⟩]; rfl
theorem dist_at : ∀ k : Fin 32, fixedDist[k.val]? = some 5 := by decide +kernel
theorem dist_take {k : Nat} (h : k < 32) : fixedDist.take (k + 1) = fixedDist.take k ++ [5] := by
  rw [List.take_add_one, dist_at ⟨k, h⟩]; rfl
theorem fixedLit_length : fixedLit.length = 288 := by decide +kernel
theorem fixedDist_length : fixedDist.length = 32 := by decide +kernel
theorem BitsAt.nums {w : World} {g : Nat} {row : List Nat} (h : BitsAt w g row) : Nums w (some ⟨g, 0, none⟩) (asZ row) := by
  refine .inr ⟨g, 0, rfl, fun i hi => ?_⟩
  have hi' : i < row.length := by rwa [asZ_length] at hi
  rw [Nat.zero_add, h.2 i hi', asZ_getD row hi']

/-- Two rows come out, in blocks that are new. -/
def Rows2 (w : World) (r1 r2 : List Nat) (en : Ending) (w' : World) : Prop :=
  ∃ g1 c1 g2 c2, en = .returned (.tuple #[.slice (some ⟨g1, 0, none⟩) r1.length c1, .slice (some ⟨g2, 0, none⟩) r2.length c2]) ∧ BitsAt w' g1 r1 ∧ BitsAt w' g2 r2 ∧ Below w.heap.size w w' ∧ w.heap.size ≤ g1 ∧ w.heap.size ≤ g2
theorem Own64.rows2 {w w' : World} {v1 v2 : Value} {r1 r2 : List Nat} {B : Nat} (h1 : Own64 w' w.heap.size v1 (asZ r1)) (h2 : Own64 w' B v2 (asZ r2)) (hB : w.heap.size ≤ B) (hb : Below w.heap.size w w') : Rows2 w r1 r2 (.returned (.tuple #[v1, v2])) w' := by
  obtain ⟨g1, c1, rfl, hB1, hr1⟩ := h1.bits
  obtain ⟨g2, c2, rfl, hB2, hr2⟩ := h2.bits
  exact ⟨g1, c1, g2, c2, rfl, hr1, hr2, hb, hB1, Nat.le_trans hB hB2⟩

end
end Go.Proofs.YtboiljclenikbaaDoor
