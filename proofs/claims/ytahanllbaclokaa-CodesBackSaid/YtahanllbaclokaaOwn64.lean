/-
  Rows of numbers of a call's own that grow.
-/
import Derived.Test.YtahanllbaclokaaRows
import Derived.Test.YtahanllbaclokaaOwn8
import Derived.WalkKit
import Derived.WalkSmall
import Derived.OwnWalk
import Derived.Maps.AppendAt
import Derived.Laws.IdiomStrings
import Derived.RangeFuncBox
import Derived.Lib.Hide
import Derived.Deep.AppendLies
import Derived.Deep.RegionLaw
namespace Go.Proofs.Ytahanllbaclokaa
open Go.RowKit

def cellsZ (l : List Int) : List Value := l.map fun c => Value.int .i64 c
theorem cellsZ_length (l : List Int) : (cellsZ l).length = l.length := by simp [cellsZ]
theorem cellsZ_append (a b : List Int) : cellsZ (a ++ b) = cellsZ a ++ cellsZ b := by simp [cellsZ]
theorem cellsZ_one (l : List Int) : ∀ u ∈ cellsZ l, u.oneCell' = true := by
  intro u hu
  unfold cellsZ at hu
  obtain ⟨c, _, rfl⟩ := List.mem_map.1 hu
  rfl
theorem cellsZ_at {l : List Int} {j : Nat} (h : j < l.length) : (cellsZ l)[j]? = some (.int .i64 (l[j] : Int)) := by
  unfold cellsZ; rw [List.getElem?_map, List.getElem?_eq_getElem h]; rfl
theorem info64 : (Try.prog.info? 3).map (fun i => (i.zero, i.size, i.bytes)) = some (some (.int .i64 0), 1, 8) := by kernel_rfl

/-- A slice of numbers that is the call's own. -/
def Own64 (w : World) (B : Nat) (v : Value) (l : List Int) : Prop := w.ownsRow B 3 1 v l.length (cellsZ l) ∧ ∃ g cap, v = .slice (some ⟨g, 0, none⟩) l.length cap
theorem Own64.made (w : World) (cap : Nat) (cur : Array Value) {B : Nat} (hB : B ≤ w.heap.size) (hm : cap ≤ maxLen) (hs : cur.size = cap) : Own64 (w.alloc (.cells cur 3)) B (.slice (some ⟨w.heap.size, 0, none⟩) 0 cap) [] :=
  ⟨World.ownsRow_made w cur cap hB hm (by rw [hs, Nat.mul_one]), _, _, rfl⟩
theorem Own64.alloc {w : World} {B : Nat} {v : Value} {l : List Int} (h : Own64 w B v l) (o : Obj) : Own64 (w.alloc o) B v l := ⟨h.1.alloc o, h.2⟩
theorem Own64.drew {w : World} {B : Nat} {v : Value} {l : List Int} (h : Own64 w B v l) : Own64 w.drew B v l := h
/-- Numbers are put behind it. -/
theorem wp_append64 {o : Oper} {a : Act} {w : World} {K : Act → World → Prop} {Q : Exit → Act → World → Prop} (s x : Operand)
    (ho : o.op = .call { callee := .builtin .append, args := #[s, x], argTypes := #[22, 22] })
    (B : Nat) (v : Value) (l : List Int) (hs : a.eval s = v) (hown : Own64 w B v l)
    (ad : Addr) (c : Nat) (news : List Int) (hx : a.eval x = .slice (some ad) news.length c) (hnews : ∀ j (h : j < news.length), w.cell? (ad.add j) = some (.int .i64 (news[j] : Int)))
    (hm : 0 < news.length) (hlen : l.length + news.length ≤ 17592186044416) (W0 : World) (hb : Below B W0 w) (hB : B ≤ w.heap.size)
    (h : ∀ v' w', Hid (Own64 w' B v' (l ++ news)) → Hid (Below B W0 w') → (∃ g cap, v' = .slice (some ⟨g, 0, none⟩) (l.length + news.length) cap) → K (a.put o.dst v') w') : o.wp Try.prog a w K Q := by
  obtain ⟨i0, hi, hz0, hz1, hz2⟩ := info_parts info64
  obtain ⟨h1, g, cap, rfl⟩ := hown
  refine wp_append_lies w s x 22 ho B 3 i0 (.int .i64 0) 1 8 Try.underlying22 hi hz0 hz1 hz2 rfl (by decide) _ _ _ hs h1 ad news.length c (cellsZ news) hx (by rw [cellsZ_length, Nat.mul_one]) ?_ (cellsZ_one _) hm (by unfold maxLen; omega) (by omega) hB _ rfl ?_
  · intro j u hj
    have hl : j < news.length := by
      have := (List.getElem?_eq_some_iff.1 hj).1
      rwa [cellsZ_length] at this
    rw [cellsZ_at hl] at hj
    rw [← hj]; exact hnews j hl
  · intro g' cap' w' hown' hgrow _ _
    have hform : ∃ g cap, Value.slice (some ⟨g', 0, none⟩) (l.length + news.length) cap' = .slice (some ⟨g, 0, none⟩) (l.length + news.length) cap := ⟨_, _, rfl⟩
    refine h _ w' (Lib.hid ?_) (Lib.hid (hb.grown hgrow hB (fun k ek => (h1.lt k ek).1))) hform
    have := own_ends (k := (l ++ news).length) (by rw [List.length_append]) hown' hform
    unfold Own64
    rw [cellsZ_append]
    exact this
theorem wpList_append64 {ops : Array Oper} {rest : List Oper} {o : Oper} {a : Act} {w : World} {Q : Exit → Act → World → Prop} (hgd : o.guard = none) (s x : Operand)
    (ho : o.op = .call { callee := .builtin .append, args := #[s, x], argTypes := #[22, 22] })
    (B : Nat) (v : Value) (l : List Int) (hs : a.eval s = v) (hown : Own64 w B v l)
    (ad : Addr) (c : Nat) (news : List Int) (hx : a.eval x = .slice (some ad) news.length c) (hnews : ∀ j (h : j < news.length), w.cell? (ad.add j) = some (.int .i64 (news[j] : Int)))
    (hm : 0 < news.length) (hlen : l.length + news.length ≤ 17592186044416) (W0 : World) (hb : Below B W0 w) (hB : B ≤ w.heap.size)
    (h : ∀ v' w', Hid (Own64 w' B v' (l ++ news)) → Hid (Below B W0 w') → (∃ g cap, v' = .slice (some ⟨g, 0, none⟩) (l.length + news.length) cap) → wpList Try.prog ops Q rest (a.put o.dst v') w') : wpList Try.prog ops Q (o :: rest) a w :=
  wpList_plain hgd fun _ hK => wp_append64 s x ho B v l hs hown ad c news hx hnews hm hlen W0 hb hB fun v' w' h1 h2 h3 => hK _ _ (h v' w' h1 h2 h3)
/-- The same, though nothing may be put behind it. -/
theorem wpList_append64_any {ops : Array Oper} {rest : List Oper} {o : Oper} {a : Act} {w : World} {Q : Exit → Act → World → Prop} (hgd : o.guard = none) (s x : Operand)
    (ho : o.op = .call { callee := .builtin .append, args := #[s, x], argTypes := #[22, 22] })
    (B : Nat) (v : Value) (l : List Int) (hs : a.eval s = v) (hown : Own64 w B v l)
    (ad : Addr) (c : Nat) (news : List Int) (hx : a.eval x = .slice (some ad) news.length c) (hnews : ∀ j (h : j < news.length), w.cell? (ad.add j) = some (.int .i64 (news[j] : Int)))
    (hlen : l.length + news.length ≤ 17592186044416) (W0 : World) (hb : Below B W0 w) (hB : B ≤ w.heap.size)
    (h : ∀ v' w', Hid (Own64 w' B v' (l ++ news)) → Hid (Below B W0 w') → (∃ g cap, v' = .slice (some ⟨g, 0, none⟩) (l.length + news.length) cap) → wpList Try.prog ops Q rest (a.put o.dst v') w') : wpList Try.prog ops Q (o :: rest) a w := by
  obtain ⟨i0, hi, hz0, hz1, hz2⟩ := info_parts info64
  obtain ⟨h1, g, cap, rfl⟩ := hown
  refine wpList_append_own w hgd s x 22 ho B 3 i0 (.int .i64 0) 1 8 Try.underlying22 hi hz0 hz1 hz2 rfl (by decide) _ _ _ hs h1 ad news.length c (cellsZ news) hx (by rw [cellsZ_length, Nat.mul_one]) ?_ (cellsZ_one _) (by unfold maxLen; omega) (by omega) hB ?_
  · intro j u hj
    have hl : j < news.length := by
      have := (List.getElem?_eq_some_iff.1 hj).1
      rwa [cellsZ_length] at this
    rw [cellsZ_at hl] at hj
    rw [← hj]; exact hnews j hl
  · intro v' w' hown' hgrow hnil
    have hform : ∃ g cap, v' = .slice (some ⟨g, 0, none⟩) (l.length + news.length) cap := by
      rcases hown'.2 with ⟨e1, _⟩ | ⟨g', cap', _, e1, _⟩
      · have := (hnil.1 e1).1; cases this
      · exact ⟨g', cap', e1⟩
    refine h v' w' (Lib.hid ?_) (Lib.hid (hb.grown hgrow hB (fun k ek => (h1.lt k ek).1))) hform
    have := own_ends (k := (l ++ news).length) (by rw [List.length_append]) hown' hform
    unfold Own64
    rw [cellsZ_append]
    exact this
/-- The same as a step of a region that draws its order. -/
theorem step_append64 {ops : Array Oper} {o : Oper} {a : Act} {w : World} {K : Act → World → Prop} {Q : Exit → Act → World → Prop} {E : Prop} (hgd : o.guard = none) (s x : Operand)
    (ho : o.op = .call { callee := .builtin .append, args := #[s, x], argTypes := #[22, 22] })
    (B : Nat) (v : Value) (l : List Int) (hs : a.eval s = v) (hown : Own64 w B v l)
    (ad : Addr) (c : Nat) (news : List Int) (hx : a.eval x = .slice (some ad) news.length c) (hnews : ∀ j (h : j < news.length), w.cell? (ad.add j) = some (.int .i64 (news[j] : Int)))
    (hm : 0 < news.length) (hlen : l.length + news.length ≤ 17592186044416) (W0 : World) (hb : Below B W0 w) (hB : B ≤ w.heap.size)
    (h : ∀ v' w', Hid (Own64 w' B v' (l ++ news)) → Hid (Below B W0 w') → (∃ g cap, v' = .slice (some ⟨g, 0, none⟩) (l.length + news.length) cap) → K (a.put o.dst v') w') :
    if Region.wanted o (yielded ops a.tmps) = true then Oper.wp Try.prog o a w K Q else E := by
  have hw : Region.wanted o (yielded ops a.tmps) = true := by simp [Region.wanted, hgd]
  rw [if_pos hw]
  exact wp_append64 s x ho B v l hs hown ad c news hx hnews hm hlen W0 hb hB h
theorem cells_newZ (W : World) (c : Int) : ∀ j (h : j < [c].length), (W.alloc (.cells #[.int .i64 c] 3)).cell? ((⟨W.heap.size, 0, none⟩ : Addr).add j) = some (.int .i64 ([c][j])) := by
  intro j h
  simp at h
  subst h
  rw [show (⟨W.heap.size, 0, none⟩ : Addr).add 0 = ⟨W.heap.size, 0, none⟩ from rfl, World.cell?_alloc_new]
  rfl
theorem Own64.later {w w' : World} {B : Nat} {v : Value} {l : List Int} (h : Own64 w B v l) (hb : Below w.heap.size w w') : Own64 w' B v l := ⟨owns_later h.1 hb, h.2⟩
/-- What it holds, to be read. -/
theorem Own64.at {w : World} {B : Nat} {v : Value} {l : List Int} (h : Own64 w B v l) : ∃ g cap, v = .slice (some ⟨g, 0, none⟩) l.length cap ∧ g < w.heap.size ∧ ∀ j (hj : j < l.length), w.cell? ⟨g, j, none⟩ = some (.int .i64 l[j]) := by
  obtain ⟨h1, g, cap, rfl⟩ := h
  refine ⟨g, cap, rfl, (h1.lt g rfl).2, fun j hj => ?_⟩
  have := h1.cells (g := g) rfl j _ (cellsZ_at hj)
  have e : (⟨g, 0, none⟩ : Addr).add j = ⟨g, j, none⟩ := by unfold Addr.add; split <;> simp_all
  rwa [e] at this

end Go.Proofs.Ytahanllbaclokaa
