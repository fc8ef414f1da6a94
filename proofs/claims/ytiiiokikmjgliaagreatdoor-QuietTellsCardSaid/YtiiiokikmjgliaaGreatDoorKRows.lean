/-
  Nums, Own8, Own64, BitRows, BitFoot, Touch, Own8s, Texts: texts merged.
-/
import Derived.Test.YtiiiokikmjgliaaGreatDoorKPlain
import Derived.WalkKit
import Derived.ProofKit
import Derived.Deep.Draws
import Derived.Test.YtiiiokikmjgliaaGreatDoorRows
import Derived.WalkSmall
import Derived.OwnWalk
import Derived.Maps.AppendAt
import Derived.Laws.IdiomStrings
import Derived.RangeFuncBox
import Derived.Lib.Hide
import Derived.Deep.AppendLies
import Derived.Deep.RegionLaw
import Derived.WalkSpells
import Derived.WalkLawsBesides
import Derived.Deep.LoopGhost
import Derived.Below
import Derived.Lib.AppendStr
/-
  Slices of numbers in memory.
-/
namespace Go.Proofs.YtiiiokikmjgliaaGreatDoor
section
open Go.RowKit
def Nums (w : World) (a : Option Addr) (zs : List Int) : Prop :=
  zs = [] ∨ ∃ b off, a = some ⟨b, off, none⟩ ∧ ∀ i, i < zs.length → w.cell? ⟨b, off + i, none⟩ = some (.int .i64 (zs[i]?.getD 0))
theorem Nums.at {w : World} {a : Option Addr} {zs : List Int} (h : Nums w a zs) (j : Nat) (hj : j < zs.length) :
    ∃ b off, a = some ⟨b, off, none⟩ ∧ w.cell? ⟨b, off + j, none⟩ = some (.int .i64 (zs[j]?.getD 0)) := by
  rcases h with rfl | ⟨b, off, e, h⟩
  · cases hj
  · exact ⟨b, off, e, h j hj⟩
theorem cell_block {w : World} {p : Addr} {v : Value} (h : w.cell? p = some v) : p.block < w.heap.size := by
  rcases Nat.lt_or_ge p.block w.heap.size with h' | h'
  · exact h'
  · unfold World.cell? at h
    rw [Array.getElem?_eq_none h'] at h
    simp at h
theorem cell_later {w w' : World} {p : Addr} {v : Value} (h : w.cell? p = some v) (hb : Below w.heap.size w w') : w'.cell? p = some v :=
  (hb.cell (cell_block h)).trans h
theorem Nums.later {w w' : World} {a : Option Addr} {zs : List Int} (h : Nums w a zs) (hb : Below w.heap.size w w') : Nums w' a zs := by
  rcases h with h | ⟨b, off, e, h⟩
  · exact .inl h
  · exact .inr ⟨b, off, e, fun i hi => cell_later (h i hi) hb⟩
def Ints (zs : List Int) : Prop := ∀ i, i < zs.length → -9223372036854775808 ≤ zs[i]?.getD 0 ∧ zs[i]?.getD 0 ≤ 9223372036854775807
theorem nums_new (W : World) (zs : List Int) (n : Nat) (hn : n = W.heap.size) : Nums (W.alloc (.cells (zs.map (Value.int .i64)).toArray 3)) (some ⟨n, 0, none⟩) zs := by
  subst hn
  refine .inr ⟨W.heap.size, 0, rfl, fun i hi => ?_⟩
  rw [Nat.zero_add, World.cell?_alloc_new]
  simp [List.getElem?_eq_getElem hi]
theorem nums_one (W : World) (z : Int) : Nums (W.alloc (.cells #[.int .i64 z] 3)) (some ⟨W.heap.size, 0, none⟩) [z] := nums_new W [z] _ rfl
theorem ints_of {zs : List Int} (h : ∀ z ∈ zs, -9223372036854775808 ≤ z ∧ z ≤ 9223372036854775807) : Ints zs := fun i hi => by
  rw [List.getElem?_eq_getElem hi]; exact h _ (List.getElem_mem hi)
end
end Go.Proofs.YtiiiokikmjgliaaGreatDoor
/-
  Rows of bytes of a call's own that grow, and become texts.
-/
namespace Go.Proofs.YtiiiokikmjgliaaGreatDoor
section
open Go.RowKit
def cellsB (l : List UInt8) : List Value := l.map fun c => Value.int .u8 (c.toNat : Int)
theorem cellsB_length (l : List UInt8) : (cellsB l).length = l.length := by simp [cellsB]
theorem cellsB_append (a b : List UInt8) : cellsB (a ++ b) = cellsB a ++ cellsB b := by simp [cellsB]
theorem cellsB_one (l : List UInt8) : ∀ u ∈ cellsB l, u.oneCell' = true := by
  intro u hu
  unfold cellsB at hu
  obtain ⟨c, _, rfl⟩ := List.mem_map.1 hu
  rfl
theorem cellsB_at {l : List UInt8} {j : Nat} (h : j < l.length) : (cellsB l)[j]? = some (.int .u8 (l[j].toNat : Int)) := by
  unfold cellsB; rw [List.getElem?_map, List.getElem?_eq_getElem h]; rfl
theorem info8 : (Tryz.prog.info? 5).map (fun i => (i.zero, i.size, i.bytes)) = some (some (.int .u8 0), 1, 1) := by kernel_rfl
def Own8 (w : World) (B : Nat) (v : Value) (l : List UInt8) : Prop := w.ownsRow B 5 1 v l.length (cellsB l) ∧ ∃ g cap, v = .slice (some ⟨g, 0, none⟩) l.length cap
theorem Own8.made (w : World) (cap : Nat) (cur : Array Value) {B : Nat} (hB : B ≤ w.heap.size) (hm : cap ≤ maxLen) (hs : cur.size = cap) : Own8 (w.alloc (.cells cur 5)) B (.slice (some ⟨w.heap.size, 0, none⟩) 0 cap) [] :=
  ⟨World.ownsRow_made w cur cap hB hm (by rw [hs, Nat.mul_one]), _, _, rfl⟩
theorem Own8.alloc {w : World} {B : Nat} {v : Value} {l : List UInt8} (h : Own8 w B v l) (o : Obj) : Own8 (w.alloc o) B v l := ⟨h.1.alloc o, h.2⟩
theorem Own8.drew {w : World} {B : Nat} {v : Value} {l : List UInt8} (h : Own8 w B v l) : Own8 w.drew B v l := h
theorem owns_later {w w' : World} {B : Nat} {e : TypeId} {size : Nat} {v : Value} {n : Nat} {xs : List Value} (h : w.ownsRow B e size v n xs) (hb : Below w.heap.size w w') : w'.ownsRow B e size v n xs := by
  refine ⟨h.1, ?_⟩
  rcases h.2 with h2 | ⟨g, cap, cur, hv, hB, hg, hr⟩
  · exact .inl h2
  · have hlt : g < w.heap.size := by
      rcases Nat.lt_or_ge g w.heap.size with h' | h'
      · exact h'
      · rw [Array.getElem?_eq_none h'] at hg; simp at hg
    exact .inr ⟨g, cap, cur, hv, hB, (hb.block g hlt).trans hg, hr⟩
theorem Own8.later {w w' : World} {B : Nat} {v : Value} {l : List UInt8} (h : Own8 w B v l) (hb : Below w.heap.size w w') : Own8 w' B v l := ⟨owns_later h.1 hb, h.2⟩
theorem Own8.text {w : World} {B : Nat} {v : Value} {l : List UInt8} (h : Own8 w B v l) : (convert 64 9 v).run Tryz.prog w = .ok (.string (bytes l)) w := by
  obtain ⟨h1, g, cap, rfl⟩ := h
  exact run_convert_bytes_back (P := Tryz.prog) w 64 9 5 ⟨g, 0, none⟩ cap l Tryz.underlying64 Tryz.underlying5 Tryz.underlying9 (fun j hj => h1.cells (g := g) rfl j _ (cellsB_at hj))
theorem own_ends {w' : World} {B n m k : Nat} {e : TypeId} {v : Value} {xs ys : List Value} (hk : k = n + m) (h : w'.ownsRow B e 1 v (n + m) (xs ++ ys)) (hf : ∃ g cap, v = .slice (some ⟨g, 0, none⟩) (n + m) cap) :
    w'.ownsRow B e 1 v k (xs ++ ys) ∧ ∃ g cap, v = .slice (some ⟨g, 0, none⟩) k cap := by subst hk; exact ⟨h, hf⟩
theorem wp_append8 {o : Oper} {a : Act} {w : World} {K : Act → World → Prop} {Q : Exit → Act → World → Prop} (s x : Operand)
    (ho : o.op = .call { callee := .builtin .append, args := #[s, x], argTypes := #[64, 64] })
    (B : Nat) (v : Value) (l : List UInt8) (hs : a.eval s = v) (hown : Own8 w B v l)
    (ad : Addr) (c : Nat) (news : List UInt8) (hx : a.eval x = .slice (some ad) news.length c) (hnews : ∀ j (h : j < news.length), w.cell? (ad.add j) = some (.int .u8 (news[j].toNat : Int)))
    (hm : 0 < news.length) (hlen : l.length + news.length ≤ 140737488355328) (W0 : World) (hb : Below B W0 w) (hB : B ≤ w.heap.size)
    (h : ∀ v' w', Hid (Own8 w' B v' (l ++ news)) → Hid (Below B W0 w') → (∃ g cap, v' = .slice (some ⟨g, 0, none⟩) (l.length + news.length) cap) → K (a.put o.dst v') w') : o.wp Tryz.prog a w K Q := by
  obtain ⟨i0, hi, hz0, hz1, hz2⟩ := info_parts info8
  obtain ⟨h1, g, cap, rfl⟩ := hown
  refine wp_append_lies w s x 64 ho B 5 i0 (.int .u8 0) 1 1 Tryz.underlying64 hi hz0 hz1 hz2 rfl (by decide) _ _ _ hs h1 ad news.length c (cellsB news) hx (by rw [cellsB_length, Nat.mul_one]) ?_ (cellsB_one _) hm (by unfold maxLen; omega) (by omega) hB _ rfl ?_
  · intro j u hj
    have hl : j < news.length := by
      have := (List.getElem?_eq_some_iff.1 hj).1
      rwa [cellsB_length] at this
    rw [cellsB_at hl] at hj
    rw [← hj]; exact hnews j hl
  · intro g' cap' w' hown' hgrow _ _
    have hform : ∃ g cap, Value.slice (some ⟨g', 0, none⟩) (l.length + news.length) cap' = .slice (some ⟨g, 0, none⟩) (l.length + news.length) cap := ⟨_, _, rfl⟩
    refine h _ w' (Lib.hid ?_) (Lib.hid (hb.grown hgrow hB (fun k ek => (h1.lt k ek).1))) hform
    have := own_ends (k := (l ++ news).length) (by rw [List.length_append]) hown' hform
    unfold Own8
    rw [cellsB_append]
    exact this
theorem wpList_append8 {ops : Array Oper} {rest : List Oper} {o : Oper} {a : Act} {w : World} {Q : Exit → Act → World → Prop} (hgd : o.guard = none) (s x : Operand)
    (ho : o.op = .call { callee := .builtin .append, args := #[s, x], argTypes := #[64, 64] })
    (B : Nat) (v : Value) (l : List UInt8) (hs : a.eval s = v) (hown : Own8 w B v l)
    (ad : Addr) (c : Nat) (news : List UInt8) (hx : a.eval x = .slice (some ad) news.length c) (hnews : ∀ j (h : j < news.length), w.cell? (ad.add j) = some (.int .u8 (news[j].toNat : Int)))
    (hm : 0 < news.length) (hlen : l.length + news.length ≤ 140737488355328) (W0 : World) (hb : Below B W0 w) (hB : B ≤ w.heap.size)
    (h : ∀ v' w', Hid (Own8 w' B v' (l ++ news)) → Hid (Below B W0 w') → (∃ g cap, v' = .slice (some ⟨g, 0, none⟩) (l.length + news.length) cap) → wpList Tryz.prog ops Q rest (a.put o.dst v') w') : wpList Tryz.prog ops Q (o :: rest) a w :=
  wpList_plain hgd fun _ hK => wp_append8 s x ho B v l hs hown ad c news hx hnews hm hlen W0 hb hB fun v' w' h1 h2 h3 => hK _ _ (h v' w' h1 h2 h3)
theorem step_append8 {ops : Array Oper} {o : Oper} {a : Act} {w : World} {K : Act → World → Prop} {Q : Exit → Act → World → Prop} {E : Prop} (hgd : o.guard = none) (s x : Operand)
    (ho : o.op = .call { callee := .builtin .append, args := #[s, x], argTypes := #[64, 64] })
    (B : Nat) (v : Value) (l : List UInt8) (hs : a.eval s = v) (hown : Own8 w B v l)
    (ad : Addr) (c : Nat) (news : List UInt8) (hx : a.eval x = .slice (some ad) news.length c) (hnews : ∀ j (h : j < news.length), w.cell? (ad.add j) = some (.int .u8 (news[j].toNat : Int)))
    (hm : 0 < news.length) (hlen : l.length + news.length ≤ 140737488355328) (W0 : World) (hb : Below B W0 w) (hB : B ≤ w.heap.size)
    (h : ∀ v' w', Hid (Own8 w' B v' (l ++ news)) → Hid (Below B W0 w') → (∃ g cap, v' = .slice (some ⟨g, 0, none⟩) (l.length + news.length) cap) → K (a.put o.dst v') w') :
    if Region.wanted o (yielded ops a.tmps) = true then Oper.wp Tryz.prog o a w K Q else E := by
  have hw : Region.wanted o (yielded ops a.tmps) = true := by simp [Region.wanted, hgd]
  rw [if_pos hw]
  exact wp_append8 s x ho B v l hs hown ad c news hx hnews hm hlen W0 hb hB h
theorem cells_new1 (W : World) (c : UInt8) (z : Int) (hz : z = (c.toNat : Int)) : ∀ j (h : j < [c].length), (W.alloc (.cells #[.int .u8 z] 5)).cell? ((⟨W.heap.size, 0, none⟩ : Addr).add j) = some (.int .u8 ([c][j].toNat : Int)) := by
  intro j h
  simp at h
  subst h hz
  rw [show (⟨W.heap.size, 0, none⟩ : Addr).add 0 = ⟨W.heap.size, 0, none⟩ from rfl, World.cell?_alloc_new]
  rfl
theorem cells_new2 (W : World) (c d : UInt8) (z y : Int) (hz : z = (c.toNat : Int)) (hy : y = (d.toNat : Int)) : ∀ j (h : j < [c, d].length), (W.alloc (.cells #[.int .u8 z, .int .u8 y] 5)).cell? ((⟨W.heap.size, 0, none⟩ : Addr).add j) = some (.int .u8 ([c, d][j].toNat : Int)) := by
  intro j h
  subst hz hy
  have e : ∀ k, (⟨W.heap.size, 0, none⟩ : Addr).add k = ⟨W.heap.size, 0 + k, none⟩ := fun k => by unfold Addr.add; split <;> simp_all
  rw [e, Nat.zero_add, World.cell?_alloc_new]
  match j, h with
  | 0, _ => rfl
  | 1, _ => rfl
end
end Go.Proofs.YtiiiokikmjgliaaGreatDoor
/-
  Rows of numbers of a call's own that grow.
-/
namespace Go.Proofs.YtiiiokikmjgliaaGreatDoor
section
open Go.RowKit
def cellsZ (l : List Int) : List Value := l.map fun c => Value.int .i64 c
theorem cellsZ_length (l : List Int) : (cellsZ l).length = l.length := by simp [cellsZ]
theorem cellsZ_append (a b : List Int) : cellsZ (a ++ b) = cellsZ a ++ cellsZ b := by simp [cellsZ]
theorem cellsZ_one (l : List Int) : ∀ u ∈ cellsZ l, u.oneCell' = true := by
  intro u hu
  unfold cellsZ at hu
  obtain ⟨c, _, rfl⟩ := List.mem_map.1 hu
  rfl
theorem cellsZ_at {l : List Int} {j : Nat} (h : j < l.length) : (cellsZ l)[j]? = some (.int .i64 (l[j] : Int)) := by
  unfold cellsZ; rw [List.getElem?_map, List.getElem?_eq_getElem h]; rfl
theorem info64 : (Tryz.prog.info? 3).map (fun i => (i.zero, i.size, i.bytes)) = some (some (.int .i64 0), 1, 8) := by kernel_rfl
def Own64 (w : World) (B : Nat) (v : Value) (l : List Int) : Prop := w.ownsRow B 3 1 v l.length (cellsZ l) ∧ ∃ g cap, v = .slice (some ⟨g, 0, none⟩) l.length cap
theorem Own64.made (w : World) (cap : Nat) (cur : Array Value) {B : Nat} (hB : B ≤ w.heap.size) (hm : cap ≤ maxLen) (hs : cur.size = cap) : Own64 (w.alloc (.cells cur 3)) B (.slice (some ⟨w.heap.size, 0, none⟩) 0 cap) [] :=
  ⟨World.ownsRow_made w cur cap hB hm (by rw [hs, Nat.mul_one]), _, _, rfl⟩
theorem Own64.alloc {w : World} {B : Nat} {v : Value} {l : List Int} (h : Own64 w B v l) (o : Obj) : Own64 (w.alloc o) B v l := ⟨h.1.alloc o, h.2⟩
theorem Own64.drew {w : World} {B : Nat} {v : Value} {l : List Int} (h : Own64 w B v l) : Own64 w.drew B v l := h
theorem wp_append64 {o : Oper} {a : Act} {w : World} {K : Act → World → Prop} {Q : Exit → Act → World → Prop} (s x : Operand)
    (ho : o.op = .call { callee := .builtin .append, args := #[s, x], argTypes := #[100, 100] })
    (B : Nat) (v : Value) (l : List Int) (hs : a.eval s = v) (hown : Own64 w B v l)
    (ad : Addr) (c : Nat) (news : List Int) (hx : a.eval x = .slice (some ad) news.length c) (hnews : ∀ j (h : j < news.length), w.cell? (ad.add j) = some (.int .i64 (news[j] : Int)))
    (hm : 0 < news.length) (hlen : l.length + news.length ≤ 17592186044416) (W0 : World) (hb : Below B W0 w) (hB : B ≤ w.heap.size)
    (h : ∀ v' w', Hid (Own64 w' B v' (l ++ news)) → Hid (Below B W0 w') → (∃ g cap, v' = .slice (some ⟨g, 0, none⟩) (l.length + news.length) cap) → K (a.put o.dst v') w') : o.wp Tryz.prog a w K Q := by
  obtain ⟨i0, hi, hz0, hz1, hz2⟩ := info_parts info64
  obtain ⟨h1, g, cap, rfl⟩ := hown
  refine wp_append_lies w s x 100 ho B 3 i0 (.int .i64 0) 1 8 Tryz.underlying100 hi hz0 hz1 hz2 rfl (by decide) _ _ _ hs h1 ad news.length c (cellsZ news) hx (by rw [cellsZ_length, Nat.mul_one]) ?_ (cellsZ_one _) hm (by unfold maxLen; omega) (by omega) hB _ rfl ?_
  · intro j u hj
    have hl : j < news.length := by
      have := (List.getElem?_eq_some_iff.1 hj).1
      rwa [cellsZ_length] at this
    rw [cellsZ_at hl] at hj
    rw [← hj]; exact hnews j hl
  · intro g' cap' w' hown' hgrow _ _
    have hform : ∃ g cap, Value.slice (some ⟨g', 0, none⟩) (l.length + news.length) cap' = .slice (some ⟨g, 0, none⟩) (l.length + news.length) cap := ⟨_, _, rfl⟩
    refine h _ w' (Lib.hid ?_) (Lib.hid (hb.grown hgrow hB (fun k ek => (h1.lt k ek).1))) hform
    have := own_ends (k := (l ++ news).length) (by rw [List.length_append]) hown' hform
    unfold Own64
    rw [cellsZ_append]
    exact this
theorem wpList_append64 {ops : Array Oper} {rest : List Oper} {o : Oper} {a : Act} {w : World} {Q : Exit → Act → World → Prop} (hgd : o.guard = none) (s x : Operand)
    (ho : o.op = .call { callee := .builtin .append, args := #[s, x], argTypes := #[100, 100] })
    (B : Nat) (v : Value) (l : List Int) (hs : a.eval s = v) (hown : Own64 w B v l)
    (ad : Addr) (c : Nat) (news : List Int) (hx : a.eval x = .slice (some ad) news.length c) (hnews : ∀ j (h : j < news.length), w.cell? (ad.add j) = some (.int .i64 (news[j] : Int)))
    (hm : 0 < news.length) (hlen : l.length + news.length ≤ 17592186044416) (W0 : World) (hb : Below B W0 w) (hB : B ≤ w.heap.size)
    (h : ∀ v' w', Hid (Own64 w' B v' (l ++ news)) → Hid (Below B W0 w') → (∃ g cap, v' = .slice (some ⟨g, 0, none⟩) (l.length + news.length) cap) → wpList Tryz.prog ops Q rest (a.put o.dst v') w') : wpList Tryz.prog ops Q (o :: rest) a w :=
  wpList_plain hgd fun _ hK => wp_append64 s x ho B v l hs hown ad c news hx hnews hm hlen W0 hb hB fun v' w' h1 h2 h3 => hK _ _ (h v' w' h1 h2 h3)
theorem wpList_append64_any {ops : Array Oper} {rest : List Oper} {o : Oper} {a : Act} {w : World} {Q : Exit → Act → World → Prop} (hgd : o.guard = none) (s x : Operand)
    (ho : o.op = .call { callee := .builtin .append, args := #[s, x], argTypes := #[100, 100] })
    (B : Nat) (v : Value) (l : List Int) (hs : a.eval s = v) (hown : Own64 w B v l)
    (ad : Addr) (c : Nat) (news : List Int) (hx : a.eval x = .slice (some ad) news.length c) (hnews : ∀ j (h : j < news.length), w.cell? (ad.add j) = some (.int .i64 (news[j] : Int)))
    (hlen : l.length + news.length ≤ 17592186044416) (W0 : World) (hb : Below B W0 w) (hB : B ≤ w.heap.size)
    (h : ∀ v' w', Hid (Own64 w' B v' (l ++ news)) → Hid (Below B W0 w') → (∃ g cap, v' = .slice (some ⟨g, 0, none⟩) (l.length + news.length) cap) → wpList Tryz.prog ops Q rest (a.put o.dst v') w') : wpList Tryz.prog ops Q (o :: rest) a w := by
  obtain ⟨i0, hi, hz0, hz1, hz2⟩ := info_parts info64
  obtain ⟨h1, g, cap, rfl⟩ := hown
  refine wpList_append_own w hgd s x 100 ho B 3 i0 (.int .i64 0) 1 8 Tryz.underlying100 hi hz0 hz1 hz2 rfl (by decide) _ _ _ hs h1 ad news.length c (cellsZ news) hx (by rw [cellsZ_length, Nat.mul_one]) ?_ (cellsZ_one _) (by unfold maxLen; omega) (by omega) hB ?_
  · intro j u hj
    have hl : j < news.length := by
      have := (List.getElem?_eq_some_iff.1 hj).1
      rwa [cellsZ_length] at this
    rw [cellsZ_at hl] at hj
    rw [← hj]; exact hnews j hl
  · intro v' w' hown' hgrow hnil
    have hform : ∃ g cap, v' = .slice (some ⟨g, 0, none⟩) (l.length + news.length) cap := by
      rcases hown'.2 with ⟨e1, _⟩ | ⟨g', cap', _, e1, _⟩
      · have := (hnil.1 e1).1; cases this
      · exact ⟨g', cap', e1⟩
    refine h v' w' (Lib.hid ?_) (Lib.hid (hb.grown hgrow hB (fun k ek => (h1.lt k ek).1))) hform
    have := own_ends (k := (l ++ news).length) (by rw [List.length_append]) hown' hform
    unfold Own64
    rw [cellsZ_append]
    exact this
theorem cells_newZ (W : World) (c : Int) : ∀ j (h : j < [c].length), (W.alloc (.cells #[.int .i64 c] 3)).cell? ((⟨W.heap.size, 0, none⟩ : Addr).add j) = some (.int .i64 ([c][j])) := by
  intro j h
  simp at h
  subst h
  rw [show (⟨W.heap.size, 0, none⟩ : Addr).add 0 = ⟨W.heap.size, 0, none⟩ from rfl, World.cell?_alloc_new]
  rfl
theorem Own64.later {w w' : World} {B : Nat} {v : Value} {l : List Int} (h : Own64 w B v l) (hb : Below w.heap.size w w') : Own64 w' B v l := ⟨owns_later h.1 hb, h.2⟩
theorem Own64.at {w : World} {B : Nat} {v : Value} {l : List Int} (h : Own64 w B v l) : ∃ g cap, v = .slice (some ⟨g, 0, none⟩) l.length cap ∧ g < w.heap.size ∧ ∀ j (hj : j < l.length), w.cell? ⟨g, j, none⟩ = some (.int .i64 l[j]) := by
  obtain ⟨h1, g, cap, rfl⟩ := h
  refine ⟨g, cap, rfl, (h1.lt g rfl).2, fun j hj => ?_⟩
  have := h1.cells (g := g) rfl j _ (cellsZ_at hj)
  have e : (⟨g, 0, none⟩ : Addr).add j = ⟨g, j, none⟩ := by unfold Addr.add; split <;> simp_all
  rwa [e] at this
end
end Go.Proofs.YtiiiokikmjgliaaGreatDoor
/-
  Rows of bits in memory.
-/
namespace Go.Proofs.YtiiiokikmjgliaaGreatDoor
section
open Go.RowKit
def asZ (ds : List Nat) : List Int := ds.map fun n : Nat => (n : Int)
theorem asZ_length (ds : List Nat) : (asZ ds).length = ds.length := by simp [asZ]
theorem asZ_snoc (ds : List Nat) (a : Nat) : asZ (ds ++ [a]) = asZ ds ++ [(a : Int)] := by simp [asZ]
theorem asZ_get (ds : List Nat) (j : Nat) (h : j < (asZ ds).length) : (asZ ds)[j] = ((ds[j]'(by rwa [asZ_length] at h) : Nat) : Int) := by simp [asZ]
def BitsAt (w : World) (g : Nat) (row : List Nat) : Prop := g < w.heap.size ∧ ∀ j (h : j < row.length), w.cell? ⟨g, j, none⟩ = some (.int .i64 ((row[j] : Nat) : Int))
theorem BitsAt.later {w w' : World} {g : Nat} {row : List Nat} (h : BitsAt w g row) (hb : Below w.heap.size w w') : BitsAt w' g row :=
  ⟨Nat.lt_of_lt_of_le h.1 hb.size, fun j hj => (hb.cell (p := ⟨g, j, none⟩) h.1).trans (h.2 j hj)⟩
theorem BitsAt.block {w w' : World} {g : Nat} {row : List Nat} (h : BitsAt w g row) (hs : w.heap.size ≤ w'.heap.size) (hg : w'.heap[g]? = w.heap[g]?) : BitsAt w' g row :=
  ⟨Nat.lt_of_lt_of_le h.1 hs, fun j hj => (World.cell?_of_block (w := w) hg).trans (h.2 j hj)⟩
theorem Own64.bits {w : World} {B : Nat} {v : Value} {row : List Nat} (h : Own64 w B v (asZ row)) : ∃ g cap, v = .slice (some ⟨g, 0, none⟩) row.length cap ∧ B ≤ g ∧ BitsAt w g row := by
  obtain ⟨g, cap, hv, hlt, hc⟩ := h.at
  rw [asZ_length] at hv
  subst hv
  exact ⟨g, cap, rfl, (h.1.lt g rfl).1, hlt, fun j hj => by rw [hc j (by rw [asZ_length]; exact hj), asZ_get]⟩
theorem BitsAt.news {w : World} {g : Nat} {row : List Nat} (h : BitsAt w g row) : ∀ j (hj : j < (asZ row).length), w.cell? ((⟨g, 0, none⟩ : Addr).add j) = some (.int .i64 ((asZ row)[j] : Int)) := by
  intro j hj
  have e : (⟨g, 0, none⟩ : Addr).add j = ⟨g, j, none⟩ := by unfold Addr.add; split <;> simp_all
  rw [e, asZ_get]
  exact h.2 j (by rwa [asZ_length] at hj)
theorem BitsAt.news_alloc {w : World} {g : Nat} {row : List Nat} (h : BitsAt w g row) (o : Obj) : ∀ j (hj : j < (asZ row).length), (w.alloc o).cell? ((⟨g, 0, none⟩ : Addr).add j) = some (.int .i64 ((asZ row)[j] : Int)) :=
  BitsAt.news (h.later ((Below.refl _ w).alloc (Nat.le_refl _) o))
theorem bitsN_snoc : ∀ (j m : Nat), bitsN (j + 1) m = bitsN j m ++ [m / 2 ^ j % 2]
  | 0, m => by simp [bitsN]
  | j + 1, m => by
    rw [bitsN, bitsN_snoc j (m / 2), bitsN, Nat.div_div_eq_div_mul, ← Nat.pow_succ', List.cons_append]
def RowOut (w : World) (g : Nat) (row : List Nat) (e : Int) (en : Ending) (w' : World) : Prop :=
  ∃ g' cap', en = .returned (.tuple #[.slice (some ⟨g', 0, none⟩) row.length cap', .int .i64 e]) ∧ BitsAt w' g' row ∧ Below w.heap.size w w' ∧ (g' = g ∨ w.heap.size ≤ g')
theorem Own64.row_out {w w' : World} {v : Value} {g : Nat} {row : List Nat} {e : Int} (h : Own64 w' w.heap.size v (asZ row)) (hb : Below w.heap.size w w') : RowOut w g row e (.returned (.tuple #[v, .int .i64 e])) w' := by
  obtain ⟨g', cap', rfl, hB, hr⟩ := h.bits
  exact ⟨g', cap', rfl, hr, hb, .inr hB⟩
def RowNew (w : World) (row : List Nat) (en : Ending) (w' : World) : Prop :=
  ∃ g' cap', en = .returned (.slice (some ⟨g', 0, none⟩) row.length cap') ∧ BitsAt w' g' row ∧ Below w.heap.size w w' ∧ w.heap.size ≤ g'
theorem Own64.row_new {w w' : World} {v : Value} {row : List Nat} (h : Own64 w' w.heap.size v (asZ row)) (hb : Below w.heap.size w w') : RowNew w row (.returned v) w' := by
  obtain ⟨g', cap', rfl, hB, hr⟩ := h.bits
  exact ⟨g', cap', rfl, hr, hb, hB⟩
end
end Go.Proofs.YtiiiokikmjgliaaGreatDoor
/-
  What a call may turn of memory, told by the blocks that are an object's own.
-/
namespace Go.Proofs.YtiiiokikmjgliaaGreatDoor
section
open Go.RowKit
def Touches (F F' : List Nat) (w w' : World) : Prop :=
  w'.os = w.os ∧ w'.tape = w.tape ∧ w'.output = w.output ∧ w.heap.size ≤ w'.heap.size ∧ (∀ k, k < w.heap.size → k ∉ F → w'.heap[k]? = w.heap[k]?) ∧ (∀ k ∈ F', k ∈ F ∨ w.heap.size ≤ k)
theorem Touches.below {F F' : List Nat} {w w' : World} (h : Touches F F' w w') {B : Nat} (hB : B ≤ w.heap.size) (hF : ∀ k ∈ F, B ≤ k) : Below B w w' :=
  ⟨h.1, h.2.1, h.2.2.1, h.2.2.2.1, fun k hk => h.2.2.2.2.1 k (by omega) fun hm => by have := hF k hm; omega⟩
theorem Touches.more {F F' : List Nat} {w w' : World} (h : Touches F F' w w') {B : Nat} (hB : B ≤ w.heap.size) (hF : ∀ k ∈ F, B ≤ k) : ∀ k ∈ F', B ≤ k := fun k hk => by
  rcases h.2.2.2.2.2 k hk with h1 | h1
  · exact hF k h1
  · omega
theorem Touches.out {F F' : List Nat} {w w' : World} (h : Touches F F' w w') {g : Nat} (hg : g < w.heap.size) (hF : g ∉ F) : w'.heap[g]? = w.heap[g]? ∧ g ∉ F' :=
  ⟨h.2.2.2.2.1 g hg hF, fun hm => by
    rcases h.2.2.2.2.2 g hm with h1 | h1
    · exact hF h1
    · omega⟩
theorem Touches.size {F F' : List Nat} {w w' : World} (h : Touches F F' w w') : w.heap.size ≤ w'.heap.size := h.2.2.2.1
theorem Touches.cell {F F' : List Nat} {w w' : World} (h : Touches F F' w w') {a : Addr} (hg : a.block < w.heap.size) (hF : a.block ∉ F) : w'.cell? a = w.cell? a := World.cell?_of_block (w := w) (h.2.2.2.2.1 _ hg hF)
end
end Go.Proofs.YtiiiokikmjgliaaGreatDoor
/-
  What a call may turn of memory, chained; rows of bytes that an object owns.
-/
namespace Go.Proofs.YtiiiokikmjgliaaGreatDoor
section
open Go.RowKit
theorem below_same (w : World) : Below w.heap.size w w := Below.refl _ _
theorem Touches.refl (F : List Nat) (w : World) : Touches F F w w := ⟨rfl, rfl, rfl, Nat.le_refl _, fun _ _ _ => rfl, fun _ hk => .inl hk⟩
theorem Touches.trans {F F1 F2 : List Nat} {w w1 w2 : World} (h : Touches F F1 w w1) (h' : Touches F1 F2 w1 w2) : Touches F F2 w w2 :=
  ⟨h'.1.trans h.1, h'.2.1.trans h.2.1, h'.2.2.1.trans h.2.2.1, Nat.le_trans h.size h'.size, fun k hk hF => by
    have h1 := h.out hk hF
    exact (h'.2.2.2.2.1 k (Nat.lt_of_lt_of_le hk h.size) h1.2).trans h1.1, fun k hk => by
    rcases h'.2.2.2.2.2 k hk with h1 | h1
    · exact h.2.2.2.2.2 k h1
    · have := h.size; exact .inr (by omega)⟩
theorem Touches.of_below {F : List Nat} {w w' : World} (h : Below w.heap.size w w') : Touches F F w w' := ⟨h.os, h.tape, h.output, h.size, fun k hk _ => h.block k hk, fun _ hk => .inl hk⟩
theorem Touches.setCell {F F' : List Nat} {w w' : World} (h : Touches F F' w w') {a : Addr} (ha : a.block ∈ F') (u : Value) : Touches F F' w (w'.setCell a u) :=
  h.trans ⟨rfl, rfl, rfl, by simp [World.setCell], fun k _ hF => Below.heap_setCell _ _ _ _ fun e => hF (e ▸ ha), fun _ hk => .inl hk⟩
theorem Touches.drew {F F' : List Nat} {w w' : World} (h : Touches F F' w w') : Touches F F' w w'.drew := h
theorem Touches.alloc {F F' : List Nat} {w w' : World} (h : Touches F F' w w') (o : Obj) : Touches F F' w (w'.alloc o) := h.trans (.of_below ((Below.refl _ _).alloc (Nat.le_refl _) o))
theorem Touches.grown {F F' F'' : List Nat} {w w' w'' : World} {row : Option Nat} (h : Touches F F' w w') (hg : w'.grownBy w'' row) (hr : ∀ k, row = some k → k ∈ F') (hF : ∀ k ∈ F'', k ∈ F' ∨ w'.heap.size ≤ k) : Touches F F'' w w'' :=
  h.trans ⟨hg.os, hg.tape, hg.output, hg.size, fun k hk hn => hg.block k hk fun e => hn (hr k e.symm), hF⟩
theorem Touches.fewer {F F' F'' : List Nat} {w w' : World} (h : Touches F F' w w') (hF : ∀ k ∈ F'', k ∈ F') : Touches F F'' w w' :=
  ⟨h.1, h.2.1, h.2.2.1, h.2.2.2.1, h.2.2.2.2.1, fun k hk => h.2.2.2.2.2 k (hF k hk)⟩
theorem owns_move {w w' : World} {B : Nat} {e : TypeId} {size : Nat} {v : Value} {n : Nat} {xs : List Value} (h : w.ownsRow B e size v n xs) (hk : ∀ k, v.ownBlock = some k → w'.heap[k]? = w.heap[k]?) : w'.ownsRow B e size v n xs := by
  refine ⟨h.1, ?_⟩
  rcases h.2 with h2 | ⟨g, cap, cur, hv, hB, hg, hr⟩
  · exact .inl h2
  · exact .inr ⟨g, cap, cur, hv, hB, (hk g (by rw [hv]; rfl)).trans hg, hr⟩
def Row8 (w : World) (v : Value) (l : List UInt8) : Prop := w.ownsRow 0 5 1 v l.length (cellsB l)
theorem Row8.nil (w : World) : Row8 w (.slice none 0 0) [] := World.ownsRow_nil _ _ _ _
theorem Row8.move {w w' : World} {v : Value} {l : List UInt8} (h : Row8 w v l) (hk : ∀ k, v.ownBlock = some k → w'.heap[k]? = w.heap[k]?) : Row8 w' v l := owns_move h hk
theorem Row8.lt {w : World} {v : Value} {l : List UInt8} (h : Row8 w v l) : ∀ k, v.ownBlock = some k → k < w.heap.size := fun k e => (World.ownsRow.lt h k e).2
theorem Row8.form {w : World} {v : Value} {l : List UInt8} (h : Row8 w v l) : ∃ ad cap, v = .slice ad l.length cap := by
  rcases h.2 with ⟨h1, h2⟩ | ⟨g, cap, cur, hv, _⟩
  · exact ⟨none, 0, by rw [h1, h2]⟩
  · exact ⟨_, cap, hv⟩
theorem Row8.text {w : World} {v : Value} {l : List UInt8} (h : Row8 w v l) : (convert 64 9 v).run Tryz.prog w = .ok (.string (bytes l)) w := by
  rcases h.2 with ⟨h1, h2⟩ | ⟨g, cap, cur, hv, _⟩
  · subst h1
    obtain rfl : l = [] := List.eq_nil_of_length_eq_zero h2
    kernel_rfl
  · subst hv
    exact run_convert_bytes_back (P := Tryz.prog) w 64 9 5 ⟨g, 0, none⟩ cap l Tryz.underlying64 Tryz.underlying5 Tryz.underlying9 (fun j hj => World.ownsRow.cells h (g := g) rfl j _ (cellsB_at hj))
theorem step_append_row8 {ops : Array Oper} {o : Oper} {a : Act} {w : World} {K : Act → World → Prop} {Q : Exit → Act → World → Prop} {E : Prop} (hgd : o.guard = none) (s x : Operand)
    (ho : o.op = .call { callee := .builtin .append, args := #[s, x], argTypes := #[64, 64] })
    (v : Value) (l : List UInt8) (hs : a.eval s = v) (hown : Row8 w v l)
    (ad : Addr) (c : Nat) (x8 : UInt8) (hx : a.eval x = .slice (some ad) 1 c) (hnews : ∀ j (h : j < [x8].length), w.cell? (ad.add j) = some (.int .u8 ([x8][j].toNat : Int)))
    (hlen : l.length + 1 ≤ 140737488355328) (H : Nat) (hH : w.heap.size = H)
    (h : ∀ v' w', Hid (Row8 w' v' (l ++ [x8])) → Hid (w.grownBy w' v.ownBlock) → Hid (∀ k, v'.ownBlock = some k → v.ownBlock = some k ∨ k = H) → (∃ g cap, v' = .slice (some ⟨g, 0, none⟩) (l.length + 1) cap) → K (a.put o.dst v') w') :
    if Region.wanted o (yielded ops a.tmps) = true then Oper.wp Tryz.prog o a w K Q else E := by
  obtain ⟨i0, hi, hz0, hz1, hz2⟩ := info_parts info8
  have hw : Region.wanted o (yielded ops a.tmps) = true := by simp [Region.wanted, hgd]
  rw [if_pos hw]
  refine wp_append_lies w s x 64 ho 0 5 i0 (.int .u8 0) 1 1 Tryz.underlying64 hi hz0 hz1 hz2 rfl (by decide) _ _ _ hs hown ad 1 c (cellsB [x8]) hx rfl ?_ (cellsB_one _) (by omega) (by unfold maxLen; omega) (by omega) (Nat.zero_le _) H hH ?_
  · intro j u hj
    have hl : j < [x8].length := by
      have := (List.getElem?_eq_some_iff.1 hj).1
      rwa [cellsB_length] at this
    rw [cellsB_at hl] at hj
    rw [← hj]; exact hnews j hl
  · intro g' cap' w' hown' hgrow hblk _
    refine h _ w' (Lib.hid ?_) (Lib.hid hgrow) (Lib.hid fun k hk => ?_) ⟨g', cap', rfl⟩
    · unfold Row8
      rw [cellsB_append, List.length_append]
      exact hown'
    · obtain rfl : g' = k := by simpa [Value.ownBlock] using hk
      exact hblk
end
end Go.Proofs.YtiiiokikmjgliaaGreatDoor
/-
  A text is put behind a row of bytes of a call's own.
-/
namespace Go.Proofs.YtiiiokikmjgliaaGreatDoor
section
open Go.RowKit
theorem strCells_is (s : ByteArray) : Lib.strCells s = cellsB s.data.toList := rfl
theorem own_ends0 {w' : World} {B n m k : Nat} {e : TypeId} {v : Value} {xs : List Value} (hk : k = n + m) (h : w'.ownsRow B e 1 v (n + m) xs) (hf : ∃ g cap, v = .slice (some ⟨g, 0, none⟩) (n + m) cap) :
    w'.ownsRow B e 1 v k xs ∧ ∃ g cap, v = .slice (some ⟨g, 0, none⟩) k cap := by subst hk; exact ⟨h, hf⟩
theorem wpList_append8s {ops : Array Oper} {rest : List Oper} {o : Oper} {a : Act} {w : World} {Q : Exit → Act → World → Prop} (hgd : o.guard = none) (sl x : Operand)
    (ho : o.op = .call { callee := .builtin .append, args := #[sl, x], argTypes := #[64, 9] })
    (B : Nat) (v : Value) (l : List UInt8) (hs : a.eval sl = v) (hown : Own8 w B v l) (s : ByteArray) (hx : a.eval x = .string s)
    (hlen : l.length + s.size ≤ 140737488355328) (W0 : World) (hb : Below B W0 w) (hB : B ≤ w.heap.size)
    (h : ∀ v' w', Hid (Own8 w' B v' (l ++ s.data.toList)) → Hid (Below B W0 w') → (∃ g cap, v' = .slice (some ⟨g, 0, none⟩) (l.length + s.size) cap) → wpList Tryz.prog ops Q rest (a.put o.dst v') w') : wpList Tryz.prog ops Q (o :: rest) a w := by
  obtain ⟨i0, hi, hz0, hz1, hz2⟩ := info_parts info8
  obtain ⟨h1, g, cap, rfl⟩ := hown
  refine Lib.wpList_append_own_string w hgd sl x 64 9 ho B 5 i0 Tryz.underlying64 Tryz.underlying9 hi hz0 hz1 hz2 _ _ _ hs h1 s hx (by unfold maxLen; omega) hlen hB ?_
  intro v' w' hown' hgrow hnil
  have hform : ∃ g cap, v' = .slice (some ⟨g, 0, none⟩) (l.length + s.size) cap := by
    rcases hown'.2 with ⟨e1, _⟩ | ⟨g', cap', _, e1, _⟩
    · have := (hnil.1 e1).1; cases this
    · exact ⟨g', cap', e1⟩
  refine h v' w' (Lib.hid ?_) (Lib.hid (hb.grown hgrow hB (fun k ek => (h1.lt k ek).1))) hform
  have := own_ends0 (k := (l ++ s.data.toList).length) (by rw [List.length_append, ← size_data]) hown' hform
  unfold Own8
  rw [cellsB_append]
  rw [strCells_is] at this
  exact this
end
end Go.Proofs.YtiiiokikmjgliaaGreatDoor
/-
  Slices of texts in memory.
-/
namespace Go.Proofs.YtiiiokikmjgliaaGreatDoor
section
open Go.RowKit
def Texts (w : World) (a : Option Addr) (xs : List ByteArray) : Prop :=
  xs = [] ∨ ∃ b off, a = some ⟨b, off, none⟩ ∧ ∀ i, i < xs.length → w.cell? ⟨b, off + i, none⟩ = some (.string (xs[i]?.getD ByteArray.empty))
theorem Texts.at {w : World} {a : Option Addr} {xs : List ByteArray} (h : Texts w a xs) (j : Nat) (hj : j < xs.length) :
    ∃ b off, a = some ⟨b, off, none⟩ ∧ w.cell? ⟨b, off + j, none⟩ = some (.string (xs[j]?.getD ByteArray.empty)) := by
  rcases h with rfl | ⟨b, off, e, h⟩
  · cases hj
  · exact ⟨b, off, e, h j hj⟩
theorem text_block {w : World} {p : Addr} {v : Value} (h : w.cell? p = some v) : p.block < w.heap.size := by
  rcases Nat.lt_or_ge p.block w.heap.size with h' | h'
  · exact h'
  · unfold World.cell? at h
    rw [Array.getElem?_eq_none h'] at h
    simp at h
theorem Texts.later {w w' : World} {a : Option Addr} {xs : List ByteArray} (h : Texts w a xs) (hb : Below w.heap.size w w') : Texts w' a xs := by
  rcases h with h | ⟨b, off, e, h⟩
  · exact .inl h
  · exact .inr ⟨b, off, e, fun i hi => (hb.cell (text_block (h i hi))).trans (h i hi)⟩
theorem texts_new (W : World) (xs : List ByteArray) : Texts (W.alloc (.cells (xs.map Value.string).toArray 9)) (some ⟨W.heap.size, 0, none⟩) xs := by
  refine .inr ⟨W.heap.size, 0, rfl, fun i hi => ?_⟩
  rw [Nat.zero_add, World.cell?_alloc_new]
  simp [List.getElem?_eq_getElem hi]
theorem texts_one (W : World) (x : ByteArray) : Texts (W.alloc (.cells #[.string x] 9)) (some ⟨W.heap.size, 0, none⟩) [x] := texts_new W [x]
theorem texts_of_row {w : World} {a : Option Addr} {len cap : Nat} {ss : List ByteArray}
    (h : (a = none ∧ len = 0 ∧ cap = 0 ∧ ss = []) ∨ ∃ x, a = some x ∧ len ≤ cap ∧ cap ≤ maxLen ∧ ss.length = cap ∧ (∀ i, i < ss.length → w.cell? (x.add i) = some (.string (ss.getD i ByteArray.empty))) ∧ ∀ s ∈ ss, s.size ≤ maxLen) :
    (ss.take len).length = len ∧ len ≤ 9223372036854775807 ∧ (∀ s ∈ ss.take len, s.size ≤ maxLen) ∧ Texts w a (ss.take len) := by
  rcases h with ⟨rfl, rfl, rfl, rfl⟩ | ⟨x, rfl, hl, hm, hz, hc, hwf⟩
  · exact ⟨rfl, by omega, (fun s hs => by simp at hs), .inl rfl⟩
  · have hlen : (ss.take len).length = len := by rw [List.length_take]; omega
    refine ⟨hlen, by unfold maxLen at hm; omega, fun s hs => hwf s (List.mem_of_mem_take hs), ?_⟩
    by_cases h0 : len = 0
    · left; subst h0; rfl
    · right
      obtain ⟨b, off, spot⟩ := x
      have hspot : spot = none := by simpa [Addr.add] using World.cell?_spot (hc 0 (by omega))
      subst hspot
      refine ⟨b, off, rfl, fun i hi => ?_⟩
      rw [hlen] at hi
      have := hc i (by omega)
      have e : (⟨b, off, none⟩ : Addr).add i = ⟨b, off + i, none⟩ := by unfold Addr.add; split <;> simp_all
      rw [e] at this
      rw [this, List.getElem?_take_of_lt hi]
      simp [List.getD]
end
end Go.Proofs.YtiiiokikmjgliaaGreatDoor
