/-
  A text copied into a row of bytes of the call's own, as far as the row goes.
-/
import Derived.Test.YtjkppdgakokelaaPrRow
import Derived.Deep.LoopGhost
namespace Go.Proofs.Ytjkppdgakokelaa
open Go.RowKit

theorem run_copy_cut (w : World) (ty : TypeId) (g n cap : Nat) (s : ByteArray) (old : List UInt8) (hg : ByteAt w g old) (hold : old.length = n) (hle : n ≤ s.size) :
    (Builtin.copy_ #[32, 9] ty #[.slice (some ⟨g, 0, none⟩) n cap, .string s]).run Try.prog w = .ok (goInt n) (w.setRow g (cellsB (s.data.toList.take n)).toArray) := by
  have hsz : s.size = s.data.toList.length := size_data s
  have hlen : (Lib.byteCells (s.data.toList.take n)).length = n := by rw [Lib.byteCells_length, List.length_take]; omega
  have hst := run_storeCells_at Try.prog g 0 5 (Lib.byteCells (s.data.toList.take n)) 0 (cellsB old).toArray w hg (by rw [hlen]; simp [cellsB_length, hold]) (Lib.byteCells_one _)
  have hmin : Nat.min s.size n = n := Nat.min_eq_right hle
  have htk : List.take n (List.map (fun b : UInt8 => Value.int IntKind.u8 (b.toNat : Int)) s.data.toList) = Lib.byteCells (s.data.toList.take n) := by
    rw [← List.map_take]
    rfl
  rw [hlen] at hst
  have hs : (Try.prog.info? 5).map (·.size) = some 1 := by kernel_rfl
  cases hq : Try.prog.info? 5 with
  | none => simp [hq] at hs
  | some i =>
    simp [Builtin.copy_, run_underlying Try.underlying32, Builtin.lenOf, Builtin.firstCells, sizeOf, typeInfo, hq, hmin]
    have e : (List.take (0 + 0) (cellsB old).toArray.toList ++ Lib.byteCells (s.data.toList.take n) ++ List.drop (0 + 0 + n) (cellsB old).toArray.toList) = cellsB (s.data.toList.take n) := by
      rw [List.drop_of_length_le (by simp [cellsB_length, hold])]
      simp [Lib.byteCells, cellsB]
    rw [htk, hst, e]
    rfl
theorem touch_row (w : World) (g : Nat) (cs : Array Value) : Touches [g] [g] w (w.setRow g cs) :=
  ⟨rfl, rfl, rfl, by simp, fun k _ hn => setRow_other _ _ _ _ (by simpa using hn), fun _ hk => .inl hk⟩
theorem wpList_copy_cut {w : World} {ops : Array Oper} {rest : List Oper} {o : Oper} {a : Act} {Q : Exit → Act → World → Prop} (hgd : o.guard = none) (d s : Operand)
    (ho : o.op = .call { callee := .builtin .copy, args := #[d, s], argTypes := #[32, 9] })
    (g n cap : Nat) (str : ByteArray) (old : List UInt8) (hd : a.eval d = .slice (some ⟨g, 0, none⟩) n cap) (hs : a.eval s = .string str) (hg : ByteAt w g old) (hold : old.length = n) (hle : n ≤ str.size)
    (h : ∀ w', Hid (ByteAt w' g (str.data.toList.take n)) → Hid (Touches [g] [g] w w') → wpList Try.prog ops Q rest (a.put o.dst (goInt n)) w') :
    wpList Try.prog ops Q (o :: rest) a w := by
  refine wpList_plain hgd fun K hK => ?_
  have hrun := run_copy_cut w o.type g n cap str old hg hold hle
  unfold Oper.wp
  simp [execOp, ho, resolve, invoke, builtin, hd, hs, hrun, Result.andThen]
  have h2 := h _ (Lib.hid (setRow_heap w g _ _ 5 _ hg)) (Lib.hid (touch_row w g _))
  exact hK _ _ h2

end Go.Proofs.Ytjkppdgakokelaa
