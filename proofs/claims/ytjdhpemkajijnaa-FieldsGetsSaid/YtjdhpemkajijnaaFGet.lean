/-
  The contract of Get of package fields.
-/
import Derived.Test.YtjdhpemkajijnaaFPut
import Derived.Lib.BufferWrite
import Derived.Laws.CopyOwn
import Derived.Laws.BitsAllLaws
namespace Go.Proofs.Ytjdhpemkajijnaa
open Go.RowKit

/-- A text copied into a row that is known whole. -/
theorem wpList_copy_text {P : Program} {w : World} {ops : Array Oper} {rest : List Oper} {o : Oper} {a : Act} {Q : Exit → Act → World → Prop} (hgd : o.guard = none) (d s : Operand) (dT sT : TypeId)
    (ho : o.op = .call { callee := .builtin .copy, args := #[d, s], argTypes := #[dT, sT] }) (elem : TypeId) (hu : P.underlying dT = some (.slice elem)) (hsz : (P.info? elem).map (·.size) = some 1)
    (g off dLen dCap : Nat) (str : ByteArray) (hd : a.eval d = .slice (some ⟨g, off, none⟩) dLen dCap) (hs : a.eval s = .string str)
    (cur : Array Value) (t : TypeId) (hg : w.heap[g]? = some (.cells cur t (0, 0))) (hle : str.size ≤ dLen) (hfit : off + str.size ≤ cur.size)
    (B : Nat) (w0 : World) (hb : Below B w0 w) (hBg : B ≤ g)
    (h : ∀ w', Hid (w'.heap[g]? = some (.cells (cur.toList.take off ++ Lib.byteCells str.data.toList ++ cur.toList.drop (off + str.size)).toArray t (0, 0))) → Below B w0 w' → wpList P ops Q rest (a.put o.dst (goInt str.size)) w') :
    wpList P ops Q (o :: rest) a w := by
  refine wpList_plain hgd fun K hK => ?_
  have hrun := Lib.run_copy_row_string (P := P) w dT sT o.type elem g off dLen dCap str cur t hu hsz hg hle hfit
  unfold Oper.wp
  simp [execOp, ho, resolve, invoke, builtin, hd, hs, hrun, Result.andThen]
  have h2 := h _ (show _ = _ from setRow_heap w g _ _ t _ hg) (below_setRow hb hBg _)
  simp at h2
  exact hK _ _ h2

def padB (l : List UInt8) : List UInt8 := List.replicate (8 - l.length) 0 ++ l
theorem padB_length {l : List UInt8} (h : l.length ≤ 8) : (padB l).length = 8 := by simp [padB]; omega
theorem valB_zeros : ∀ k, valB (List.replicate k 0) = 0
  | 0 => rfl
  | k + 1 => by rw [List.replicate_succ, valB_cons, valB_zeros k]; simp
theorem valB_app (a b : List UInt8) : valB (a ++ b) = valB a * 256 ^ b.length + valB b := by
  have := valB_from b (valB a)
  unfold valB at this ⊢
  rw [List.foldl_append]; exact this
theorem valB_pad (l : List UInt8) : valB (padB l) = valB l := by unfold padB; rw [valB_app, valB_zeros]; simp

theorem or_byte (v c : Nat) (hc : c < 256) : (256 * v) ||| c = 256 * v + c := by
  have := Nat.two_pow_add_eq_or_of_lt (i := 8) (b := c) (by omega) v
  rw [← this]

set_option maxRecDepth 100000 in
set_option maxHeartbeats 2000000 in
theorem fGet_ok (s : ByteArray) (w : World) (hs : s.size ≤ 8) {a b : Int} (h : getF s.data.toList = (a, b)) :
    Calls Try.prog 10 #[.string s] w fun e w' => e = .returned (.tuple #[.int .i64 a, .int .i64 b]) ∧ Below w.heap.size w w' := by
  have hs' : ¬ (8 : Int) < (s.size : Int) := by omega
  obtain ⟨off, ho1, ho2, hcut⟩ := slice_arr_is s.size hs
  have hrow : ∀ cur : Array Value, (w.alloc (.cells cur 46)).heap[w.heap.size]? = some (.cells cur 46 (0, 0)) := fun cur => by
    show (w.heap.push _)[w.heap.size]? = _
    simp
  have Hrow := Lib.hid hrow
  have Ho := Lib.hid ho1
  have Ho2 := Lib.hid ho2
  have Hs := Lib.hid hs
  clear hrow ho1 ho2 hs
  go_enter Try.func10, Try.ntmps10
  go_wp2_with (with_reducible refine wpList_copy_text rfl (.tmp 13) (.tmp 14) 48 9 rfl 5 Try.underlying48 (by kernel_rfl) w.heap.size off s.size s.size s rfl rfl #[.int .u8 0, .int .u8 0, .int .u8 0, .int .u8 0, .int .u8 0, .int .u8 0, .int .u8 0, .int .u8 0] 46 (Hrow.out _) (Nat.le_refl _) (by have := Ho.out; simpa using this) w.heap.size w ((Below.refl _ w).alloc (Nat.le_refl _) _) (Nat.le_refl _) ?_; intro w1 HG hb; have Hb := Lib.hid hb; clear hb)
  have hcell : ∀ k (hk : k < 8), w1.cell? ⟨w.heap.size, k, none⟩ = some (.int .u8 ((((padB s.data.toList)[k]?.getD 0).toNat : Nat) : Int)) := fun k hk => by
    rw [cell_of_row w1 w.heap.size k _ _ _ HG.out]
    have hlen := padB_length (l := s.data.toList) (by rw [← size_data]; exact Hs.out)
    have e : (List.take off [Value.int IntKind.u8 0, Value.int IntKind.u8 0, Value.int IntKind.u8 0, Value.int IntKind.u8 0, Value.int IntKind.u8 0, Value.int IntKind.u8 0, Value.int IntKind.u8 0, Value.int IntKind.u8 0] ++ Lib.byteCells s.data.toList ++ List.drop (off + s.size) [Value.int IntKind.u8 0, Value.int IntKind.u8 0, Value.int IntKind.u8 0, Value.int IntKind.u8 0, Value.int IntKind.u8 0, Value.int IntKind.u8 0, Value.int IntKind.u8 0, Value.int IntKind.u8 0]) = Lib.byteCells (padB s.data.toList) := by
      have ez : ([Value.int IntKind.u8 0, Value.int IntKind.u8 0, Value.int IntKind.u8 0, Value.int IntKind.u8 0, Value.int IntKind.u8 0, Value.int IntKind.u8 0, Value.int IntKind.u8 0, Value.int IntKind.u8 0] : List Value) = List.replicate 8 (Value.int IntKind.u8 0) := rfl
      rw [ez]
      unfold padB Lib.byteCells
      rw [List.map_append, List.map_replicate, List.take_replicate, List.drop_replicate]
      have hz := Hs.out
      have hsd := size_data s
      rcases Ho2.out with h | h
      · subst h
        rw [← hsd]
        have e1 : min (8 - s.size) 8 = 8 - s.size := by omega
        have e2 : 8 - (8 - s.size + s.size) = 0 := by omega
        rw [e1, e2]; simp
      · have h0 : s.data.toList = [] := List.eq_nil_of_length_eq_zero (by rw [← hsd]; exact h)
        rw [h0, h]
        have ho := Ho.out
        have e1 : min off 8 = off := by omega
        rw [e1]
        simp only [List.map_nil, List.append_nil, List.length_nil, Nat.add_zero, Nat.sub_zero]
        rw [List.replicate_append_replicate, show off + (8 - off) = 8 by omega]; rfl
    rw [e]
    simp [Lib.byteCells, List.getElem?_eq_getElem (show k < (padB s.data.toList).length by omega)]
  have Hcell := Lib.hid hcell
  have hvp := valB_pad s.data.toList
  have hplen := padB_length (l := s.data.toList) (by rw [← size_data]; exact Hs.out)
  obtain ⟨pd, hpd⟩ : ∃ pd, padB s.data.toList = pd := ⟨_, rfl⟩
  rw [hpd] at hvp hplen Hcell
  have Hvp := Lib.hid hvp
  have Hplen := Lib.hid hplen
  clear hcell hvp hplen hpd HG Hrow
  go_loop [5, 16] (fun x i => ∃ k : Nat, k ≤ 8 ∧ i = .int .i64 k ∧ x = .int .u64 (valB (pd.take k) : Nat)) (fun _ i => 8 - (intOf i).toNat)
  case atStart => exact ⟨0, Nat.zero_le _, rfl, rfl⟩
  case round =>
    obtain ⟨k, hk, rfl, rfl⟩ := hrel
    by_cases hlt : k < 8
    · have hc := Hcell.out k hlt
      have hst : valB (pd.take (k + 1)) = 256 * valB (pd.take k) + (pd[k]?.getD 0).toNat := by
        have h1 : k < pd.length := by rw [Hplen.out]; exact hlt
        rw [List.take_succ_eq_append_getElem h1, valB_snoc, List.getElem?_eq_getElem h1]; rfl
      have hb0 : valB (pd.take k) < 256 ^ 7 := valB_bound (by rw [List.length_take]; omega)
      obtain ⟨v, hv⟩ : ∃ v, valB (pd.take k) = v := ⟨_, rfl⟩
      obtain ⟨c, hcc⟩ : ∃ c, (pd[k]?.getD 0) = c := ⟨_, rfl⟩
      rw [hv, hcc] at hst
      rw [hcc] at hc
      rw [hv] at hb0 ⊢
      have hc256 := c.toNat_lt
      have e7 : (256 : Nat) ^ 7 = 72057594037927936 := by decide
      rw [e7] at hb0
      have Hst := Lib.hid hst
      clear hst hv hcc e7
      go_wp2_with fail
      go_round
      case rel => exact ⟨k + 1, by omega, by go_num, by
        have e : (v : Int) * 256 = ((256 * v : Nat) : Int) := by omega
        rw [Hst.out, e, u64_or_nat _ _ (by omega) (by omega), or_byte v _ (by omega)]⟩
      case measure => simp [intOf]; omega
    · obtain rfl : k = 8 := by omega
      have hall : valB (pd.take 8) = valB s.data.toList := by rw [List.take_of_length_le (by rw [Hplen.out]; exact Nat.le_refl _), Hvp.out]
      rw [hall]
      have hvlt := valB_bound (l := s.data.toList) (k := 8) (by rw [← size_data]; exact Hs.out)
      obtain ⟨v, hv⟩ : ∃ v, valB s.data.toList = v := ⟨_, rfl⟩
      rw [hv] at hvlt ⊢
      have Hv := Lib.hid hv
      have e8 : (256 : Nat) ^ 8 = 18446744073709551616 := by decide
      rw [e8] at hvlt
      clear hall hv e8 hlt
      by_cases hr : 9223372036854775808 ≤ v
      · rw [getF_range (by rw [← size_data]; have := Hs.out; omega) (by rw [Hv.out]; exact hr)] at h
        obtain ⟨rfl, rfl⟩ := Prod.mk.inj h
        have hgt : (9223372036854775807 : Int) < (v : Int) := by omega
        clear h
        go_wp2_with fail
        go_ret2
        exact ⟨rfl, Hb.out⟩
      · rw [getF_ok (by rw [← size_data]; have := Hs.out; omega) (by rw [Hv.out]; exact hr), Hv.out] at h
        obtain ⟨rfl, rfl⟩ := Prod.mk.inj h
        have hgt : ¬ (9223372036854775807 : Int) < (v : Int) := by omega
        clear h
        go_wp2_with fail
        go_ret2
        exact ⟨rfl, Hb.out⟩

theorem fGet_is (s : ByteArray) (w : World) (_hs : s.size ≤ maxLen) {a b : Int} (h : getF s.data.toList = (a, b)) :
    Calls Try.prog 10 #[.string s] w fun e w' => e = .returned (.tuple #[.int .i64 a, .int .i64 b]) ∧ Below w.heap.size w w' := by
  unfold maxLen at _hs
  by_cases h8 : s.size ≤ 8
  · exact fGet_ok s w h8 h
  · rw [getF_arg (by rw [← size_data]; omega)] at h
    obtain ⟨rfl, rfl⟩ := Prod.mk.inj h
    have h8' : (8 : Int) < (s.size : Int) := by omega
    clear h h8
    go_enter Try.func10, Try.ntmps10
    go_wp2_with fail
    go_ret2
    exact ⟨rfl, Below.refl _ _⟩

end Go.Proofs.Ytjdhpemkajijnaa
