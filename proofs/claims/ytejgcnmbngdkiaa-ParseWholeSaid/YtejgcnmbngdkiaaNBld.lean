/-
  Builder, BuilderS, Own8: texts merged.
-/
import Derived.Test.YtejgcnmbngdkiaaShelf
import Derived.Lib.Hide
import Derived.Test.YtejgcnmbngdkiaaRows
import Derived.Test.YtejgcnmbngdkiaaNPlain
import Derived.WalkKit
import Derived.WalkSmall
import Derived.OwnWalk
import Derived.Maps.AppendAt
import Derived.Laws.IdiomStrings
import Derived.RangeFuncBox
import Derived.Deep.AppendLies
import Derived.Deep.RegionLaw
/-
  (*strings.Builder).WriteByte's contract laid over this translation (the shelf's own command does not find a type that the contract lists and no body names), and the contracts that the walks use.
-/
namespace Go.Proofs
open Go.Shelf
def Try.lays167_ren : Go.Shelf.Ren := ⟨fun | 167 => 71 | 240 => 84 | 276 => 92 | n => n, fun | 0 => 0 | 4 => 4 | 5 => 5 | 9 => 9 | 20 => 20 | 37 => 80 | 70 => 90 | 72 => 92 | 75 => 97 | 164 => 116 | 80 => 99 | n => n, fun | n => n⟩
theorem Try.lays167 : Go.Proofs.Lays.n167 Try.prog Try.lays167_ren := {
  mixed := by kernel_rfl
  f167 := Try.func71.trans (congrArg some (by kernel_rfl))
  f240 := Try.func84.trans (congrArg some (by kernel_rfl))
  f276 := Try.func92.trans (congrArg some (by kernel_rfl))
  t0 := Try.underlying0
  a0 := Try.isAgg0
  z0 := Try.sizeOf0
  v0 := Try.zeroValue0
  t4 := Try.underlying4
  a4 := Try.isAgg4
  z4 := Try.sizeOf4
  v4 := Try.zeroValue4
  t5 := Try.underlying5
  a5 := Try.isAgg5
  z5 := Try.sizeOf5
  v5 := Try.zeroValue5
  t9 := Try.underlying9
  a9 := Try.isAgg9
  z9 := Try.sizeOf9
  v9 := Try.zeroValue9
  t20 := Try.underlying20
  a20 := Try.isAgg20
  z20 := Try.sizeOf20
  v20 := Try.zeroValue20
  t37 := Try.underlying80
  a37 := Try.isAgg80
  z37 := Try.sizeOf80
  v37 := Try.zeroValue80
  t70 := Try.underlying90
  a70 := Try.isAgg90
  z70 := Try.sizeOf90
  v70 := Try.zeroValue90
  t72 := Try.underlying92
  a72 := Try.isAgg92
  z72 := Try.sizeOf92
  v72 := Try.zeroValue92
  t75 := Try.underlying97
  a75 := Try.isAgg97
  z75 := Try.sizeOf97
  v75 := Try.zeroValue97
  t164 := Try.underlying116
  a164 := Try.isAgg116
  z164 := Try.sizeOf116
  v164 := Try.zeroValue116 }
theorem Try.Builder_Extra_167 : Builder.Extra Try.prog Try.lays167_ren := {
  sizeBuilder := by kernel_rfl
  liesBuilder := by kernel_rfl
  t5 := Try.underlying5
  a5 := Try.isAgg5
  z5 := Try.sizeOf5
  v5 := Try.zeroValue5
  infoByte := by kernel_rfl
  cellsByte := by kernel_rfl
  sizeByte := by kernel_rfl
  neB5 := by decide }
end Go.Proofs
namespace Go.Proofs.Ytejgcnmbngdkiaa
open Go.RowKit
set_option maxRecDepth 100000

/-- A strings.Builder of a call's own (block b, from B on), that holds these bytes. -/
def Bld (B b : Nat) (l : List UInt8) (w : World) : Prop := Lib.IsBuilderF 92 5 B b (Lib.byteCells l) w
theorem Bld.fresh (w : World) : Bld w.heap.size w.heap.size [] (w.alloc (.cells #[.pointer none, .slice none 0 0] 92)) :=
  Lib.IsBuilderF.of (Lib.fresh_isBuilder 92 5 w)
theorem Bld.alloc {B b : Nat} {l : List UInt8} {w : World} (h : Bld B b l w) (o : Obj) : Bld B b l (w.alloc o) := Lib.IsBuilderF.alloc h o
theorem Bld.drew {B b : Nat} {l : List UInt8} {w : World} (h : Bld B b l w) : Bld B b l w.drew := h
/-- What a call that writes a builder leaves: what lay below it, and all that is no row of bytes. -/
abbrev Kept (b : Nat) (w w' : World) : Prop := Lib.OthersKept 5 (some b) w w'

theorem wbyte_is (B b : Nat) (l : List UInt8) (c : UInt8) (w : World) (h : Bld B b l w) (hl : l.length + 1 ≤ 140737488355328) (hBw : B ≤ w.heap.size) :
    Calls Try.prog 71 #[.pointer (some ⟨b, 0, none⟩), .int .u8 (c.toNat : Int)] w fun e w' => e = .returned .nilIface ∧ Bld B b (l ++ [c]) w' ∧ Below B w w' ∧ Kept b w w' := by
  refine (Any.Builder_WriteByte_k Try.lays167 Try.Builder_Extra_167 B b (Lib.byteCells l) (c.toNat : Int) w h (by rw [Lib.byteCells_length]; exact hl) hBw).mono ?_
  rintro e w' ⟨h1, h2, h3, h4⟩
  refine ⟨h1, ?_, h3, h4⟩
  unfold Bld
  rw [Lib.byteCells_append]
  exact Or.inr h2
theorem string_is (B b : Nat) (l : List UInt8) (w : World) (h : Bld B b l w) (hBw : B ≤ w.heap.size) :
    Calls Try.prog 72 #[.pointer (some ⟨b, 0, none⟩)] w fun e w' => e = .returned (.string ⟨l.toArray⟩) ∧ Bld B b l w' ∧ Below B w w' ∧ Kept b w w' :=
  Any.Builder_String_any_k Try.lays169 Try.Builder_Extra_169 B b l w h hBw

theorem ownsF_later {w w' : World} {B : Nat} {e : TypeId} {size : Nat} {v : Value} {n : Nat} {xs : List Value} (h : w.ownsRowF B e size v n xs) (hb : Below w.heap.size w w') : w'.ownsRowF B e size v n xs := by
  refine ⟨h.1, ?_⟩
  rcases h.2 with h2 | ⟨g, cap, cur, fz, hv, hB, hg, hr⟩
  · exact .inl h2
  · exact .inr ⟨g, cap, cur, fz, hv, hB, (hb.block g (Array.getElem?_eq_some_iff.1 hg).1).trans hg, hr⟩
theorem Bld.later {B b : Nat} {l : List UInt8} {w w' : World} (h : Bld B b l w) (hb : Below w.heap.size w w') : Bld B b l w' := by
  have key : ∀ p, Lib.BuilderAtF 92 5 B b p (Lib.byteCells l) w → Lib.BuilderAtF 92 5 B b p (Lib.byteCells l) w' := by
    rintro p ⟨hB, x, hbk, hown, hne⟩
    exact ⟨hB, x, (hb.block b (Array.getElem?_eq_some_iff.1 hbk).1).trans hbk, ownsF_later hown hb, hne⟩
  exact h.imp (key _) (key _)
end Go.Proofs.Ytejgcnmbngdkiaa
/-
  (*strings.Builder).WriteString's contract laid over this translation (as WriteByte's, by hand), and the contracts of WriteString and Len that the walks use.
-/
namespace Go.Proofs
open Go.Shelf
def Try.lays166_ren : Go.Shelf.Ren := ⟨fun | 166 => 74 | 240 => 84 | 276 => 92 | n => n, fun | 0 => 0 | 3 => 3 | 4 => 4 | 5 => 5 | 9 => 9 | 20 => 20 | 37 => 80 | 70 => 90 | 72 => 92 | 75 => 97 | 164 => 116 | 80 => 99 | n => n, fun | n => n⟩
theorem Try.lays166 : Go.Proofs.Lays.n166 Try.prog Try.lays166_ren := {
  mixed := by kernel_rfl
  f166 := Try.func74.trans (congrArg some (by kernel_rfl))
  f240 := Try.func84.trans (congrArg some (by kernel_rfl))
  f276 := Try.func92.trans (congrArg some (by kernel_rfl))
  t0 := Try.underlying0
  a0 := Try.isAgg0
  z0 := Try.sizeOf0
  v0 := Try.zeroValue0
  t3 := Try.underlying3
  a3 := Try.isAgg3
  z3 := Try.sizeOf3
  v3 := Try.zeroValue3
  t4 := Try.underlying4
  a4 := Try.isAgg4
  z4 := Try.sizeOf4
  v4 := Try.zeroValue4
  t9 := Try.underlying9
  a9 := Try.isAgg9
  z9 := Try.sizeOf9
  v9 := Try.zeroValue9
  t20 := Try.underlying20
  a20 := Try.isAgg20
  z20 := Try.sizeOf20
  v20 := Try.zeroValue20
  t37 := Try.underlying80
  a37 := Try.isAgg80
  z37 := Try.sizeOf80
  v37 := Try.zeroValue80
  t70 := Try.underlying90
  a70 := Try.isAgg90
  z70 := Try.sizeOf90
  v70 := Try.zeroValue90
  t72 := Try.underlying92
  a72 := Try.isAgg92
  z72 := Try.sizeOf92
  v72 := Try.zeroValue92
  t75 := Try.underlying97
  a75 := Try.isAgg97
  z75 := Try.sizeOf97
  v75 := Try.zeroValue97
  t164 := Try.underlying116
  a164 := Try.isAgg116
  z164 := Try.sizeOf116
  v164 := Try.zeroValue116 }
theorem Try.Builder_Extra_166 : Builder.Extra Try.prog Try.lays166_ren := {
  sizeBuilder := by kernel_rfl
  liesBuilder := by kernel_rfl
  t5 := Try.underlying5
  a5 := Try.isAgg5
  z5 := Try.sizeOf5
  v5 := Try.zeroValue5
  infoByte := by kernel_rfl
  cellsByte := by kernel_rfl
  sizeByte := by kernel_rfl
  neB5 := by decide }
end Go.Proofs
namespace Go.Proofs.Ytejgcnmbngdkiaa
open Go.RowKit
set_option maxRecDepth 100000

theorem wstr_is (B b : Nat) (l : List UInt8) (s : ByteArray) (w : World) (h : Bld B b l w) (hl : l.length + s.size ≤ 140737488355328) (hBw : B ≤ w.heap.size) :
    Calls Try.prog 74 #[.pointer (some ⟨b, 0, none⟩), .string s] w fun e w' => e = .returned (.tuple #[.int .i64 s.size, .nilIface]) ∧ Bld B b (l ++ s.data.toList) w' ∧ Below B w w' ∧ Kept b w w' := by
  refine (Any.Builder_WriteString_k Try.lays166 Try.Builder_Extra_166 B b (Lib.byteCells l) s w h (by rw [Lib.byteCells_length]; exact hl) hBw).mono ?_
  rintro e w' ⟨h1, h2, h3, h4⟩
  refine ⟨h1, ?_, h3, h4⟩
  unfold Bld
  rw [Lib.byteCells_append]
  exact Or.inr h2
theorem len_is (B b : Nat) (l : List UInt8) (w : World) (h : Bld B b l w) :
    Calls Try.prog 70 #[.pointer (some ⟨b, 0, none⟩)] w fun e w' => e = .returned (.int .i64 l.length) ∧ w = w' := by
  have := Any.Builder_Len_f Try.lays170 B b (Lib.byteCells l) w h
  rw [Lib.byteCells_length] at this
  exact this.mono fun e w' ⟨h1, h2⟩ => ⟨h1, h2.symm⟩

end Go.Proofs.Ytejgcnmbngdkiaa
/-
  Rows of bytes of a call's own that grow, and become texts.
-/
namespace Go.Proofs.Ytejgcnmbngdkiaa
section
open Go.RowKit

def cellsB (l : List UInt8) : List Value := l.map fun c => Value.int .u8 (c.toNat : Int)
theorem cellsB_length (l : List UInt8) : (cellsB l).length = l.length := by simp [cellsB]
theorem cellsB_append (a b : List UInt8) : cellsB (a ++ b) = cellsB a ++ cellsB b := by simp [cellsB]
theorem cellsB_one (l : List UInt8) : ∀ u ∈ cellsB l, u.oneCell' = true := by
  intro u hu
  unfold cellsB at hu
  obtain ⟨c, _, rfl⟩ := List.mem_map.1 hu
  rfl
theorem cellsB_at {l : List UInt8} {j : Nat} (h : j < l.length) : (cellsB l)[j]? = some (.int .u8 (l[j].toNat : Int)) := by
  unfold cellsB; rw [List.getElem?_map, List.getElem?_eq_getElem h]; rfl
theorem info8 : (Try.prog.info? 5).map (fun i => (i.zero, i.size, i.bytes)) = some (some (.int .u8 0), 1, 1) := by kernel_rfl

/-- A slice of bytes that is the call's own. -/
def Own8 (w : World) (B : Nat) (v : Value) (l : List UInt8) : Prop := w.ownsRow B 5 1 v l.length (cellsB l) ∧ ∃ g cap, v = .slice (some ⟨g, 0, none⟩) l.length cap
theorem Own8.made (w : World) (cap : Nat) (cur : Array Value) {B : Nat} (hB : B ≤ w.heap.size) (hm : cap ≤ maxLen) (hs : cur.size = cap) : Own8 (w.alloc (.cells cur 5)) B (.slice (some ⟨w.heap.size, 0, none⟩) 0 cap) [] :=
  ⟨World.ownsRow_made w cur cap hB hm (by rw [hs, Nat.mul_one]), _, _, rfl⟩
theorem Own8.alloc {w : World} {B : Nat} {v : Value} {l : List UInt8} (h : Own8 w B v l) (o : Obj) : Own8 (w.alloc o) B v l := ⟨h.1.alloc o, h.2⟩
theorem Own8.drew {w : World} {B : Nat} {v : Value} {l : List UInt8} (h : Own8 w B v l) : Own8 w.drew B v l := h
theorem owns_later {w w' : World} {B : Nat} {e : TypeId} {size : Nat} {v : Value} {n : Nat} {xs : List Value} (h : w.ownsRow B e size v n xs) (hb : Below w.heap.size w w') : w'.ownsRow B e size v n xs := by
  refine ⟨h.1, ?_⟩
  rcases h.2 with h2 | ⟨g, cap, cur, hv, hB, hg, hr⟩
  · exact .inl h2
  · have hlt : g < w.heap.size := by
      rcases Nat.lt_or_ge g w.heap.size with h' | h'
      · exact h'
      · rw [Array.getElem?_eq_none h'] at hg; simp at hg
    exact .inr ⟨g, cap, cur, hv, hB, (hb.block g hlt).trans hg, hr⟩
theorem Own8.later {w w' : World} {B : Nat} {v : Value} {l : List UInt8} (h : Own8 w B v l) (hb : Below w.heap.size w w') : Own8 w' B v l := ⟨owns_later h.1 hb, h.2⟩
theorem Own8.text {w : World} {B : Nat} {v : Value} {l : List UInt8} (h : Own8 w B v l) : (convert 80 9 v).run Try.prog w = .ok (.string (bytes l)) w := by
  obtain ⟨h1, g, cap, rfl⟩ := h
  exact run_convert_bytes_back (P := Try.prog) w 80 9 5 ⟨g, 0, none⟩ cap l Try.underlying80 Try.underlying5 Try.underlying9 (fun j hj => h1.cells (g := g) rfl j _ (cellsB_at hj))

theorem own_ends {w' : World} {B n m k : Nat} {e : TypeId} {v : Value} {xs ys : List Value} (hk : k = n + m) (h : w'.ownsRow B e 1 v (n + m) (xs ++ ys)) (hf : ∃ g cap, v = .slice (some ⟨g, 0, none⟩) (n + m) cap) :
    w'.ownsRow B e 1 v k (xs ++ ys) ∧ ∃ g cap, v = .slice (some ⟨g, 0, none⟩) k cap := by subst hk; exact ⟨h, hf⟩
/-- Bytes are put behind it. -/
theorem wp_append8 {o : Oper} {a : Act} {w : World} {K : Act → World → Prop} {Q : Exit → Act → World → Prop} (s x : Operand)
    (ho : o.op = .call { callee := .builtin .append, args := #[s, x], argTypes := #[80, 80] })
    (B : Nat) (v : Value) (l : List UInt8) (hs : a.eval s = v) (hown : Own8 w B v l)
    (ad : Addr) (c : Nat) (news : List UInt8) (hx : a.eval x = .slice (some ad) news.length c) (hnews : ∀ j (h : j < news.length), w.cell? (ad.add j) = some (.int .u8 (news[j].toNat : Int)))
    (hm : 0 < news.length) (hlen : l.length + news.length ≤ 140737488355328) (W0 : World) (hb : Below B W0 w) (hB : B ≤ w.heap.size)
    (h : ∀ v' w', Hid (Own8 w' B v' (l ++ news)) → Hid (Below B W0 w') → (∃ g cap, v' = .slice (some ⟨g, 0, none⟩) (l.length + news.length) cap) → K (a.put o.dst v') w') : o.wp Try.prog a w K Q := by
  obtain ⟨i0, hi, hz0, hz1, hz2⟩ := info_parts info8
  obtain ⟨h1, g, cap, rfl⟩ := hown
  refine wp_append_lies w s x 80 ho B 5 i0 (.int .u8 0) 1 1 Try.underlying80 hi hz0 hz1 hz2 rfl (by decide) _ _ _ hs h1 ad news.length c (cellsB news) hx (by rw [cellsB_length, Nat.mul_one]) ?_ (cellsB_one _) hm (by unfold maxLen; omega) (by omega) hB _ rfl ?_
  · intro j u hj
    have hl : j < news.length := by
      have := (List.getElem?_eq_some_iff.1 hj).1
      rwa [cellsB_length] at this
    rw [cellsB_at hl] at hj
    rw [← hj]; exact hnews j hl
  · intro g' cap' w' hown' hgrow _ _
    have hform : ∃ g cap, Value.slice (some ⟨g', 0, none⟩) (l.length + news.length) cap' = .slice (some ⟨g, 0, none⟩) (l.length + news.length) cap := ⟨_, _, rfl⟩
    refine h _ w' (Lib.hid ?_) (Lib.hid (hb.grown hgrow hB (fun k ek => (h1.lt k ek).1))) hform
    have := own_ends (k := (l ++ news).length) (by rw [List.length_append]) hown' hform
    unfold Own8
    rw [cellsB_append]
    exact this
theorem wpList_append8 {ops : Array Oper} {rest : List Oper} {o : Oper} {a : Act} {w : World} {Q : Exit → Act → World → Prop} (hgd : o.guard = none) (s x : Operand)
    (ho : o.op = .call { callee := .builtin .append, args := #[s, x], argTypes := #[80, 80] })
    (B : Nat) (v : Value) (l : List UInt8) (hs : a.eval s = v) (hown : Own8 w B v l)
    (ad : Addr) (c : Nat) (news : List UInt8) (hx : a.eval x = .slice (some ad) news.length c) (hnews : ∀ j (h : j < news.length), w.cell? (ad.add j) = some (.int .u8 (news[j].toNat : Int)))
    (hm : 0 < news.length) (hlen : l.length + news.length ≤ 140737488355328) (W0 : World) (hb : Below B W0 w) (hB : B ≤ w.heap.size)
    (h : ∀ v' w', Hid (Own8 w' B v' (l ++ news)) → Hid (Below B W0 w') → (∃ g cap, v' = .slice (some ⟨g, 0, none⟩) (l.length + news.length) cap) → wpList Try.prog ops Q rest (a.put o.dst v') w') : wpList Try.prog ops Q (o :: rest) a w :=
  wpList_plain hgd fun _ hK => wp_append8 s x ho B v l hs hown ad c news hx hnews hm hlen W0 hb hB fun v' w' h1 h2 h3 => hK _ _ (h v' w' h1 h2 h3)
/-- The same as a step of a region that draws its order. -/
theorem step_append8 {ops : Array Oper} {o : Oper} {a : Act} {w : World} {K : Act → World → Prop} {Q : Exit → Act → World → Prop} {E : Prop} (hgd : o.guard = none) (s x : Operand)
    (ho : o.op = .call { callee := .builtin .append, args := #[s, x], argTypes := #[80, 80] })
    (B : Nat) (v : Value) (l : List UInt8) (hs : a.eval s = v) (hown : Own8 w B v l)
    (ad : Addr) (c : Nat) (news : List UInt8) (hx : a.eval x = .slice (some ad) news.length c) (hnews : ∀ j (h : j < news.length), w.cell? (ad.add j) = some (.int .u8 (news[j].toNat : Int)))
    (hm : 0 < news.length) (hlen : l.length + news.length ≤ 140737488355328) (W0 : World) (hb : Below B W0 w) (hB : B ≤ w.heap.size)
    (h : ∀ v' w', Hid (Own8 w' B v' (l ++ news)) → Hid (Below B W0 w') → (∃ g cap, v' = .slice (some ⟨g, 0, none⟩) (l.length + news.length) cap) → K (a.put o.dst v') w') :
    if Region.wanted o (yielded ops a.tmps) = true then Oper.wp Try.prog o a w K Q else E := by
  have hw : Region.wanted o (yielded ops a.tmps) = true := by simp [Region.wanted, hgd]
  rw [if_pos hw]
  exact wp_append8 s x ho B v l hs hown ad c news hx hnews hm hlen W0 hb hB h
theorem cells_new1 (W : World) (c : UInt8) (z : Int) (hz : z = (c.toNat : Int)) : ∀ j (h : j < [c].length), (W.alloc (.cells #[.int .u8 z] 5)).cell? ((⟨W.heap.size, 0, none⟩ : Addr).add j) = some (.int .u8 ([c][j].toNat : Int)) := by
  intro j h
  simp at h
  subst h hz
  rw [show (⟨W.heap.size, 0, none⟩ : Addr).add 0 = ⟨W.heap.size, 0, none⟩ from rfl, World.cell?_alloc_new]
  rfl
theorem cells_new2 (W : World) (c d : UInt8) (z y : Int) (hz : z = (c.toNat : Int)) (hy : y = (d.toNat : Int)) : ∀ j (h : j < [c, d].length), (W.alloc (.cells #[.int .u8 z, .int .u8 y] 5)).cell? ((⟨W.heap.size, 0, none⟩ : Addr).add j) = some (.int .u8 ([c, d][j].toNat : Int)) := by
  intro j h
  subst hz hy
  have e : ∀ k, (⟨W.heap.size, 0, none⟩ : Addr).add k = ⟨W.heap.size, 0 + k, none⟩ := fun k => by unfold Addr.add; split <;> simp_all
  rw [e, Nat.zero_add, World.cell?_alloc_new]
  match j, h with
  | 0, _ => rfl
  | 1, _ => rfl

end
end Go.Proofs.Ytejgcnmbngdkiaa
