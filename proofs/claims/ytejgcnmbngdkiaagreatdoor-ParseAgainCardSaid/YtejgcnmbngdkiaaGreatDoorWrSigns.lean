/-
  What the program reads of what is laid: the library's table of powers, and the signs around what holds others.
-/
import Derived.Test.YtejgcnmbngdkiaaGreatDoorNWr
import Derived.Test.YtejgcnmbngdkiaaGreatDoorShelf
import Derived.Test.YtejgcnmbngdkiaaGreatDoorDSpell
import Derived.Test.YtejgcnmbngdkiaaGreatDoorRows
import Derived.Test.YtejgcnmbngdkiaaGreatDoorNums
import Derived.WalkSpells
import Derived.WalkLawsBesides
import Derived.Lib.LaidTab
import Derived.Lib.Hide
import Derived.Lib.AppendIntMem
import Derived.LaidLaws
import Derived.OpenShut
import Derived.Stop.LaidErr
import Derived.Below
import Derived.Deep.LoopGhost
import Derived.WalkSmall
namespace Go.Proofs.YtejgcnmbngdkiaaGreatDoor
open Go.RowKit
set_option maxRecDepth 100000

theorem var_later {P : Program} {w w' : World} {n : String} {cs : Array Value} (h : w.var? P n = some cs) (hb : Below w.heap.size w w') : w'.var? P n = some cs := by
  unfold World.var? at *
  cases hg : P.globalNamed n with
  | none => simp [hg] at h
  | some g =>
    simp only [hg, Option.bind_some] at h ⊢
    have hlt : g < w.heap.size := by
      rcases Nat.lt_or_ge g w.heap.size with h' | h'
      · exact h'
      · rw [Array.getElem?_eq_none h'] at h; simp at h
    rw [hb.block g hlt]
    exact h
theorem laid_mem {P : Program} {w : World} {x : String × DataW Unit} : ∀ {l : List (String × DataW Unit)}, laidMet P l w → x ∈ l → ∃ r, laidMet P (x :: r) w
  | [], _, hx => by cases hx
  | y :: r, h, hx => by
    rcases List.mem_cons.1 hx with rfl | hx
    · exact ⟨r, h⟩
    · exact laid_mem h.tail hx
def fieldsOf (q : Option TypeDesc) : List (TypeId × Nat) := match q with
  | some (.struct fs) => fs.toList.map fun f => (f.type, f.offset)
  | _ => []
theorem three_fields {q : Option TypeDesc} {a b c : TypeId} {i j k : Nat} (h : fieldsOf q = [(a, i), (b, j), (c, k)]) : ∃ f0 f1 f2 : Field, q = some (.struct #[f0, f1, f2]) ∧ f0.type = a ∧ f0.offset = i ∧ f1.type = b ∧ f1.offset = j ∧ f2.type = c ∧ f2.offset = k := by
  unfold fieldsOf at h
  split at h
  · rename_i fs
    obtain ⟨l⟩ := fs
    rcases l with _ | ⟨f0, _ | ⟨f1, _ | ⟨f2, _ | ⟨f3, l⟩⟩⟩⟩ <;> simp at h
    exact ⟨f0, f1, f2, rfl, h.1.1, h.1.2, h.2.1.1, h.2.1.2, h.2.2.1, h.2.2.2⟩
  · cases h
theorem three_of {α : Type} {l : List α} (h : l.length = 3) : ∃ a b c, l = [a, b, c] := by
  match l, h with
  | [a, b, c], _ => exact ⟨a, b, c, rfl⟩
/-- A table of signs, as a row lists it. -/
def signData (ps : List (Int × List UInt8 × List UInt8)) : DataW Unit := .agg (ps.map fun x => .agg [.lit (.int .i64 x.1), .lit (.string x.2.1), .lit (.string x.2.2)])
theorem sign_of_trod {fuel : Nat} {w : World} {base : Nat} {sp : Nat → Bool} {held : Bool} {cs : List Value} {x : Int × List UInt8 × List UInt8} {b : DataW Unit × List MemPlace} (hb : b.1 = .agg [.lit (.int .i64 x.1), .lit (.string x.2.1), .lit (.string x.2.2)])
    (h : DataW.trod (fun _ => ()) Tryz.prog w base sp held fuel 87 cs = some b) : cs = [.int .i64 x.1, .string (bytes x.2.1), .string (bytes x.2.2)] := by
  have hd : fieldsOf (Tryz.prog.underlying 87) = [(3, 0), (9, 1), (9, 2)] := by kernel_rfl
  have hi : Tryz.prog.underlying 3 = some (.int .i64) := by kernel_rfl
  have hs : Tryz.prog.underlying 9 = some .string := by kernel_rfl
  have hc : Tryz.prog.cellsOf 3 = 1 := by kernel_rfl
  have hc1 : Tryz.prog.cellsOf 9 = 1 := by kernel_rfl
  have hc2 : Tryz.prog.cellsOf 87 = 3 := by kernel_rfl
  obtain ⟨f0, f1, f2, hu, t0, o0, t1, o1, t2, o2⟩ := three_fields hd
  obtain ⟨ys, n, _, hx, hl, hyl, hall⟩ := DataW.trod_struct hu h
  rw [hc2] at hl
  have h0 := hall 0 f0 rfl
  have h1 := hall 1 f1 rfl
  have h2 := hall 2 f2 rfl
  rw [t0, o0, hc] at h0
  rw [t1, o1, hc1] at h1
  rw [t2, o2, hc1] at h2
  obtain ⟨y0, y1, y2, rfl⟩ := three_of hyl
  obtain ⟨c0, c1, c2, rfl⟩ := three_of hl
  obtain ⟨z0, e0, d0, _⟩ := DataW.trod_int hi h0
  obtain ⟨z1, e1, d1, _⟩ := DataW.trod_string hs h1
  obtain ⟨z2, e2, d2, _⟩ := DataW.trod_string hs h2
  rw [hx] at hb
  subst d0 d1 d2
  simp at hb e0 e1 e2
  rw [e0, e1, e2, hb.1, ← hb.2.1, ← hb.2.2, bytes_of, bytes_of]
def aroundL : List (Int × List UInt8 × List UInt8) := [(5, [91], [93]), (6, [60, 60], [62, 62])]
/-- The cells of the table. -/
def SignsAt (w : World) : Prop := ∀ i x, aroundL[i]? = some x → w.cell? ⟨0, i * 3, none⟩ = some (.int .i64 x.1) ∧ w.cell? ⟨0, i * 3 + 1, none⟩ = some (.string (bytes x.2.1)) ∧ w.cell? ⟨0, i * 3 + 2, none⟩ = some (.string (bytes x.2.2))
theorem SignsAt.later {w w' : World} (h : SignsAt w) (hb : Below w.heap.size w w') : SignsAt w' := fun i x hx => ⟨cell_later (h i x hx).1 hb, cell_later (h i x hx).2.1 hb, cell_later (h i x hx).2.2 hb⟩
theorem laid_around : (Rows.laid_bindery_write_around : DataW Unit) = signData aroundL := by kernel_rfl
theorem signs_of_head {W : World} {rest : List (String × DataW Unit)} (h : laidMet Tryz.prog (("bindery/write.around", signData aroundL) :: rest) W) : SignsAt W := by
  have hg : Tryz.prog.globalNamed "bindery/write.around" = some 0 := by kernel_rfl
  have hty : (Tryz.prog.globals[0]?).map (·.type) = some 102 := by kernel_rfl
  have ht : Tryz.prog.underlying 102 = some (.array 2 87) := by kernel_rfl
  have hc2 : Tryz.prog.cellsOf 87 = 3 := by kernel_rfl
  obtain ⟨_, ⟨g', t', cs, fuel, p, q, hg', ht', hvar, hd, _, _⟩, _⟩ := h
  obtain rfl := Option.some.inj (hg.symm.trans hg')
  obtain rfl := Option.some.inj (hty.symm.trans ht')
  obtain ⟨xs, m, _, hx, hl, hxl, hall⟩ := DataW.trod_array ht hd
  have hxs : xs.map (·.1) = aroundL.map fun x => (.agg [.lit (.int .i64 x.1), .lit (.string x.2.1), .lit (.string x.2.2)] : DataW Unit) := by
    have := congrArg Prod.fst hx
    simpa [signData] using this.symm
  intro i x hi
  have hin : i < 2 := (List.getElem?_eq_some_iff.1 hi).1
  have h1 := hall i hin
  obtain ⟨b, hb⟩ : ∃ b, xs[i]? = some b := ⟨xs[i]'(by omega), List.getElem?_eq_getElem (by omega)⟩
  have hb1 : b.1 = .agg [.lit (.int .i64 x.1), .lit (.string x.2.1), .lit (.string x.2.2)] := by
    have := congrArg (·[i]?) hxs
    simpa [hb, hi] using this
  rw [hb, hc2] at h1
  have h2 := sign_of_trod hb1 h1
  have e0 := congrArg (·[0]?) h2
  have e1 := congrArg (·[1]?) h2
  have e2 := congrArg (·[2]?) h2
  simp only [List.getElem?_take, List.getElem?_drop] at e0 e1 e2
  simp at e0 e1 e2
  refine ⟨?_, ?_, ?_⟩
  · rw [World.var?_cell hg hvar]
    simpa using e0
  · rw [World.var?_cell hg hvar]
    simpa using e1
  · rw [World.var?_cell hg hvar]
    simpa using e2

/-- What the program reads lies in memory. -/
def Laid (w : World) : Prop := Lib.TabIs Tryz.prog w "internal/strconv.uint64pow10" .u64 Lib.pow10Tab ∧ SignsAt w
theorem Laid.later {w w' : World} (h : Laid w) (hb : Below w.heap.size w w') : Laid w' := ⟨var_later h.1 hb, h.2.later hb⟩
theorem laid_table : (Rows.laid_internal_strconv_uint64pow10 : DataW Unit) = Lib.tabData .u64 Lib.pow10Tab := by kernel_rfl
theorem laid_of {l : List (String × DataW Unit)} {w : World} (hL : laidMet Tryz.prog l w)
    (h1 : ("internal/strconv.uint64pow10", Rows.laid_internal_strconv_uint64pow10) ∈ l) (h2 : ("bindery/write.around", Rows.laid_bindery_write_around) ∈ l) : Laid w := by
  obtain ⟨r1, m1⟩ := laid_mem hL h1
  obtain ⟨r2, m2⟩ := laid_mem hL h2
  rw [laid_table] at m1
  rw [laid_around] at m2
  exact ⟨Lib.tabIs_of_head (g := 2) (t := 132) (e := 123) (n := 20) (by kernel_rfl) (by kernel_rfl) (by kernel_rfl) (by kernel_rfl) (by kernel_rfl) (by kernel_rfl) m1, signs_of_head m2⟩
theorem itoa_any (n : Int) (w : World) (hl : Laid w) (h0 : -9223372036854775808 ≤ n) (h1 : n ≤ 9223372036854775807) :
    Calls Tryz.prog 45 #[.int .i64 n] w fun e w' => e = .returned (.string (bytes (putL n))) ∧ Below w.heap.size w w' := by
  have h : Calls Tryz.prog 45 #[.int .i64 n] w fun e w' => e = .returned (.string ⟨(Lib.itoa n).toArray⟩) ∧ ∃ k os, w' = Sort.grow (w.drewN k) os := Any.strconv_Itoa Tryz.laysM171 n h0 h1 w hl.1
  refine h.mono fun e w' ⟨he, k, os, hw⟩ => ⟨?_, ?_⟩
  · rw [he, itoa_is]; rfl
  · rw [hw]; exact Lib.below_grow _ w (Nat.le_refl _) k os
set_option maxHeartbeats 1000000 in
theorem dput_any (n : Int) (w : World) (hl : Laid w) (h0 : -9223372036854775808 ≤ n) (h1 : n ≤ 9223372036854775807) :
    Calls Tryz.prog 27 #[.int .i64 n] w fun e w' => e = .returned (.string (bytes (putL n))) ∧ Below w.heap.size w w' := by
  have HL := Lib.hid hl
  clear hl
  go_enter Tryz.func27, Tryz.ntmps27
  go_wp2_with fail
  refine (itoa_any n _ HL.out h0 h1).mono ?_
  rintro e w1 ⟨rfl, hb⟩
  have Hb := Lib.hid hb
  clear hb
  go_wp2_with fail
  go_ret
  exact ⟨rfl, Hb.out⟩

set_option maxHeartbeats 1000000 in
theorem signs_is (k : Int) (w : World) (hl : Laid w) (hk : k = 5 ∨ k = 6) :
    Calls Tryz.prog 50 #[.int .i64 k] w fun e w' => e = .returned (.agg #[.int .i64 k, .string (bytes (openW k)), .string (bytes (closeW k))]) ∧ Below w.heap.size w w' := by
  have hb : Below w.heap.size w (w.alloc (.cells #[.int .i64 0, .string ⟨#[]⟩, .string ⟨#[]⟩] 87)) := (Below.refl _ w).alloc (Nat.le_refl _) _
  obtain ⟨c0, c1, c2⟩ := (hl.later hb).2 0 _ rfl
  obtain ⟨c3, c4, c5⟩ := (hl.later hb).2 1 _ rfl
  simp only [Nat.zero_mul, Nat.one_mul, Nat.zero_add, Nat.reduceAdd] at c0 c1 c2 c3 c4 c5
  have Hb := Lib.hid hb
  clear hl hb
  obtain ⟨a0, h0⟩ : ∃ a, bytes [91] = a := ⟨_, rfl⟩
  obtain ⟨a1, h1⟩ : ∃ a, bytes [93] = a := ⟨_, rfl⟩
  obtain ⟨a2, h2⟩ : ∃ a, bytes [60, 60] = a := ⟨_, rfl⟩
  obtain ⟨a3, h3⟩ : ∃ a, bytes [62, 62] = a := ⟨_, rfl⟩
  rw [h0] at c1
  rw [h1] at c2
  rw [h2] at c4
  rw [h3] at c5
  have hi0 : ∀ W, (Instr.index 102 (.agg #[.int .i64 5, .string a0, .string a1, .int .i64 6, .string a2, .string a3]) (.int .i64 0)).run Tryz.prog W = .ok (.agg #[.int .i64 5, .string a0, .string a1]) W := fun W => by kernel_rfl
  have hi1 : ∀ W, (Instr.index 102 (.agg #[.int .i64 5, .string a0, .string a1, .int .i64 6, .string a2, .string a3]) (.int .i64 1)).run Tryz.prog W = .ok (.agg #[.int .i64 6, .string a2, .string a3]) W := fun W => by kernel_rfl
  rcases hk with rfl | rfl
  · have Hr : Hid (bytes (openW 5) = a0 ∧ bytes (closeW 5) = a1) := Lib.hid ⟨h0, h1⟩
    clear h0 h1 h2 h3
    go_enter Tryz.func50, Tryz.ntmps50
    go_wp2_with fail
    refine wp_loop_rounds 2 ?_
    rw [rounds_succ]
    go_wp2_with fail
    obtain ⟨w1, hw1⟩ : ∃ w1, w.alloc (.cells #[.int .i64 5, .string a0, .string a1] 87) = w1 := ⟨_, rfl⟩
    have hr1 : w1.heap[w.heap.size]? = some (.cells #[.int .i64 5, .string a0, .string a1] 87 (0, 0)) := by rw [← hw1]; exact heap_alloc_new w _
    have hb1 : Below w.heap.size w w1 := by rw [← hw1]; exact (Below.refl _ w).alloc (Nat.le_refl _) _
    have hz1 : w.heap.size < w1.heap.size := by rw [← hw1]; simp
    rw [hw1]
    clear hw1
    obtain ⟨W, hWe⟩ : ∃ W, w1.alloc (.cells #[.int .i64 5, .string a0, .string a1] 87) = W := ⟨_, rfl⟩
    have hW : Below w1.heap.size w1 W := by rw [← hWe]; exact (Below.refl _ w1).alloc (Nat.le_refl _) _
    rw [hWe]
    have e : W.heap[w.heap.size]? = some (.cells #[.int .i64 5, .string a0, .string a1] 87 (0, 0)) := (hW.block _ hz1).trans hr1
    have k0 : W.cell? ⟨w.heap.size, 0, none⟩ = some (.int .i64 5) := by rw [cell_of_row _ _ _ _ _ _ e]; rfl
    have k1 : W.cell? ⟨w.heap.size, 1, none⟩ = some (.string a0) := by rw [cell_of_row _ _ _ _ _ _ e]; rfl
    have k2 : W.cell? ⟨w.heap.size, 2, none⟩ = some (.string a1) := by rw [cell_of_row _ _ _ _ _ _ e]; rfl
    exact bodyPost_ret (v := .agg #[.int .i64 5, .string a0, .string a1]) (by simp [results, Tryz.results50, go_sem, k0, k1, k2]) rfl ⟨by rw [Hr.out.1, Hr.out.2], hb1.trans (hW.mono hb1.size)⟩
  · have Hr : Hid (bytes (openW 6) = a2 ∧ bytes (closeW 6) = a3) := Lib.hid ⟨h2, h3⟩
    clear h0 h1 h2 h3
    go_enter Tryz.func50, Tryz.ntmps50
    go_wp2_with fail
    refine wp_loop_rounds 2 ?_
    rw [rounds_succ]
    go_wp2_with fail
    rw [rounds_succ]
    go_wp2_with fail
    obtain ⟨w1, hw1⟩ : ∃ w1, w.alloc (.cells #[.int .i64 6, .string a2, .string a3] 87) = w1 := ⟨_, rfl⟩
    have hr1 : w1.heap[w.heap.size]? = some (.cells #[.int .i64 6, .string a2, .string a3] 87 (0, 0)) := by rw [← hw1]; exact heap_alloc_new w _
    have hb1 : Below w.heap.size w w1 := by rw [← hw1]; exact (Below.refl _ w).alloc (Nat.le_refl _) _
    have hz1 : w.heap.size < w1.heap.size := by rw [← hw1]; simp
    rw [hw1]
    clear hw1
    obtain ⟨W, hWe⟩ : ∃ W, (w1.alloc (.cells #[.int .i64 5, .string a0, .string a1] 87)).alloc (.cells #[.int .i64 6, .string a2, .string a3] 87) = W := ⟨_, rfl⟩
    have hW : Below w1.heap.size w1 W := by rw [← hWe]; exact ((Below.refl _ w1).alloc (Nat.le_refl _) _).alloc (by simp) _
    rw [hWe]
    have e : W.heap[w.heap.size]? = some (.cells #[.int .i64 6, .string a2, .string a3] 87 (0, 0)) := (hW.block _ hz1).trans hr1
    have k0 : W.cell? ⟨w.heap.size, 0, none⟩ = some (.int .i64 6) := by rw [cell_of_row _ _ _ _ _ _ e]; rfl
    have k1 : W.cell? ⟨w.heap.size, 1, none⟩ = some (.string a2) := by rw [cell_of_row _ _ _ _ _ _ e]; rfl
    have k2 : W.cell? ⟨w.heap.size, 2, none⟩ = some (.string a3) := by rw [cell_of_row _ _ _ _ _ _ e]; rfl
    exact bodyPost_ret (v := .agg #[.int .i64 6, .string a2, .string a3]) (by simp [results, Tryz.results50, go_sem, k0, k1, k2]) rfl ⟨by rw [Hr.out.1, Hr.out.2], hb1.trans (hW.mono hb1.size)⟩
end Go.Proofs.YtejgcnmbngdkiaaGreatDoor
