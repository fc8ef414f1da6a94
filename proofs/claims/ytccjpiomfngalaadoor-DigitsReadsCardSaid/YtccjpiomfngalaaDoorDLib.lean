/-
  What the library reads (a table of powers, two errors), and what its calls answer at this translation.
-/
import Derived.Test.YtccjpiomfngalaaDoorShelf
import Derived.Test.YtccjpiomfngalaaDoorRows
import Derived.Test.YtccjpiomfngalaaDoorDSpell
import Derived.Test.YtccjpiomfngalaaDoorDRef2
import Derived.Lib.LaidTab
import Derived.Lib.AppendIntMem
import Derived.Lib.Repeat
import Derived.Stop.LaidErr
import Derived.LaidLaws
namespace Go.Proofs.YtccjpiomfngalaaDoor
open Go.RowKit

/-- What the library reads lies in memory. -/
def Laid (w : World) : Prop := Lib.TabIs Tryd.prog w "internal/strconv.uint64pow10" .u64 Lib.pow10Tab ∧
  (∃ tp p, w.var? Tryd.prog "strconv.ErrSyntax" = some #[.iface tp p]) ∧ ∃ tp p, w.var? Tryd.prog "strconv.ErrRange" = some #[.iface tp p]

theorem var_later {P : Program} {w w' : World} {n : String} {cs : Array Value} (h : w.var? P n = some cs) (hb : Below w.heap.size w w') : w'.var? P n = some cs := by
  unfold World.var? at *
  cases hg : P.globalNamed n with
  | none => simp [hg] at h
  | some g =>
    simp only [hg, Option.bind_some] at h ⊢
    have hlt : g < w.heap.size := by
      rcases Nat.lt_or_ge g w.heap.size with h' | h'
      · exact h'
      · rw [Array.getElem?_eq_none h'] at h; simp at h
    rw [hb.block g hlt]
    exact h
theorem Laid.later {w w' : World} (h : Laid w) (hb : Below w.heap.size w w') : Laid w' := by
  obtain ⟨h1, ⟨a, b, h2⟩, c, d, h3⟩ := h
  exact ⟨var_later h1 hb, ⟨a, b, var_later h2 hb⟩, c, d, var_later h3 hb⟩

theorem laid_mem {P : Program} {w : World} {x : String × DataW Unit} : ∀ {l : List (String × DataW Unit)}, laidMet P l w → x ∈ l → ∃ r, laidMet P (x :: r) w
  | [], _, hx => by cases hx
  | y :: r, h, hx => by
    rcases List.mem_cons.1 hx with rfl | hx
    · exact ⟨r, h⟩
    · exact laid_mem h.tail hx

theorem row_error (u : TypeId) (h : Tryd.prog.typeName? 3 u = some "*errors.errorString") : u = 94 :=
  typeName_ptr_named (nm := "errors.errorString") (by kernel_rfl) (by kernel_rfl) (by decide) u h
theorem cells_error : Tryd.prog.cellsOf 96 = 1 := by kernel_rfl
theorem cells_string : Tryd.prog.cellsOf 9 = 1 := by kernel_rfl
theorem laid_table : (Rows.laid_internal_strconv_uint64pow10 : DataW Unit) = Lib.tabData .u64 Lib.pow10Tab := by kernel_rfl

theorem laid_of {l : List (String × DataW Unit)} {w : World} (hL : laidMet Tryd.prog l w)
    (h1 : ("internal/strconv.uint64pow10", Rows.laid_internal_strconv_uint64pow10) ∈ l) (h2 : ("strconv.ErrSyntax", Rows.laid_strconv_ErrSyntax) ∈ l) (h3 : ("strconv.ErrRange", Rows.laid_strconv_ErrRange) ∈ l) : Laid w := by
  obtain ⟨r1, m1⟩ := laid_mem hL h1
  obtain ⟨r2, m2⟩ := laid_mem hL h2
  obtain ⟨r3, m3⟩ := laid_mem hL h3
  rw [laid_table] at m1
  refine ⟨Lib.tabIs_of_head (g := 3) (t := 89) (e := 62) (n := 20) (by kernel_rfl) (by kernel_rfl) (by kernel_rfl) (by kernel_rfl) (by kernel_rfl) (by kernel_rfl) m1, ?_, ?_⟩
  · obtain ⟨a, s, hv, -, -, -⟩ := laid_sentinel (tp := 94) (te := 96) (ti := 39) (ts := 9) (g := 0) m2 (by kernel_rfl) (by kernel_rfl) Tryd.underlying39 row_error Tryd.underlying94 Tryd.underlying96 rfl rfl Tryd.underlying9 cells_error cells_string
    exact ⟨_, _, hv⟩
  · obtain ⟨a, s, hv, -, -, -⟩ := laid_sentinel (tp := 94) (te := 96) (ti := 39) (ts := 9) (g := 1) m3 (by kernel_rfl) (by kernel_rfl) Tryd.underlying39 row_error Tryd.underlying94 Tryd.underlying96 rfl rfl Tryd.underlying9 cells_error cells_string
    exact ⟨_, _, hv⟩

theorem itoa_any (n : Int) (w : World) (hl : Laid w) (h0 : -9223372036854775808 ≤ n) (h1 : n ≤ 9223372036854775807) :
    Calls Tryd.prog 21 #[.int .i64 n] w fun e w' => e = .returned (.string (bytes (putL n))) ∧ Below w.heap.size w w' := by
  have h : Calls Tryd.prog 21 #[.int .i64 n] w fun e w' => e = .returned (.string ⟨(Lib.itoa n).toArray⟩) ∧ ∃ k os, w' = Sort.grow (w.drewN k) os := Any.strconv_Itoa Tryd.laysM171 n h0 h1 w hl.1
  refine h.mono fun e w' ⟨he, k, os, hw⟩ => ⟨?_, ?_⟩
  · rw [he, itoa_is]; rfl
  · rw [hw]; exact Lib.below_grow _ w (Nat.le_refl _) k os

theorem atoi_ok (s : ByteArray) (w : World) (hs : s.size ≤ 281474976710656) {v : Int} (h : Lib.atoiAll s.data.toList = .ok v) :
    Calls Tryd.prog 22 #[.string s] w fun e w' => e = .returned (.tuple #[.int .i64 v, .nilIface]) ∧ Below w.heap.size w w' := by
  have hc : Calls Tryd.prog 22 #[.string s] w fun e w' => e = .returned (.tuple #[.int .i64 v, .nilIface]) ∧ (w' = w ∨ ∃ t, w' = Lib.bytesWorld w 5 t) := Any.strconv_Atoi_ok Tryd.laysC172 s (by omega) v h w
  refine hc.mono fun e w' ⟨he, hw⟩ => ⟨he, ?_⟩
  rcases hw with rfl | ⟨t, rfl⟩
  · exact Below.refl _ _
  · exact Lib.bytesWorld_below _ _ _
/-- No number: an error that is not nil. -/
theorem atoi_bad (s : ByteArray) (w : World) (hl : Laid w) (hs : s.size ≤ 281474976710656) (h : ∀ v, Lib.atoiAll s.data.toList ≠ .ok v) :
    Calls Tryd.prog 22 #[.string s] w fun e w' => ∃ (n : Int) (N : Nat), e = .returned (.tuple #[.int .i64 n, .iface 70 (.pointer (some ⟨N, 0, none⟩))]) ∧ Below w.heap.size w w' := by
  obtain ⟨_, ⟨a, b, h2⟩, c, d, h3⟩ := hl
  rcases hr : Lib.atoiAll s.data.toList with v | _ | _
  · exact absurd hr (h v)
  · exact (Any.strconv_Atoi_syntax_var Tryd.laysC172 s hs hr a b w h2).mono fun e w' ⟨N, he, _, _, hb⟩ => ⟨_, N, he, hb⟩
  · exact (Any.strconv_Atoi_range_var Tryd.laysC172 s hs hr c d w h3).mono fun e w' ⟨N, he, _, _, hb⟩ => ⟨_, N, he, hb⟩

theorem repeat_nought (k : Nat) (w : World) (hk : k ≤ 20) :
    Calls Tryd.prog 20 #[.string ⟨#[48]⟩, .int .i64 (k : Int)] w fun e w' => e = .returned (.string (bytes (List.replicate k 48))) ∧ Below w.heap.size w w' := by
  have h : Calls Tryd.prog 20 #[.string ⟨#[48]⟩, .int .i64 (k : Int)] w fun e w' => e = .returned (.string ⟨(Lib.repeatL (ByteArray.mk #[48]).data.toList k).toArray⟩) ∧ Below w.heap.size w w' :=
    Any.strings_Repeat Tryd.lays105 Tryd.Builder_Extra_105 ⟨#[48]⟩ k w (by omega) (by show 1 * k ≤ _; omega)
  refine h.mono fun e w' ⟨he, hw⟩ => ⟨?_, hw⟩
  rw [he]
  have e : Lib.repeatL (ByteArray.mk #[48]).data.toList k = List.replicate k 48 := by
    have := Lib.repeatL_replicate 48 1 k
    simpa using this
  rw [e]; rfl

theorem cut_yes (s : ByteArray) (w : World) {c : UInt8} {t : List UInt8} (hl : s.data.toList = c :: t) (hc : (c.toNat : Int) = 45) :
    Calls Tryd.prog 24 #[.string s, .string ⟨#[45]⟩] w fun e w' => e = .returned (.tuple #[.string (bytes t), .bool true]) ∧ w' = w := by
  have h : Calls Tryd.prog 24 #[.string s, .string ⟨#[45]⟩] w fun e w' => e = .returned (.tuple #[.string ⟨(Lib.trimPrefix s.data.toList [45]).toArray⟩, .bool (Lib.hasPrefix s.data.toList [45])]) ∧ w' = w := Any.strings_CutPrefix Tryd.lays103 s ⟨#[45]⟩ w
  have hc' : c = 45 := (byte_eq (n := 45) (by omega)).1 hc
  have e1 : Lib.hasPrefix s.data.toList [45] = true := by rw [hl, hc']; rfl
  have e2 : Lib.trimPrefix s.data.toList [45] = t := by unfold Lib.trimPrefix; rw [if_pos e1, hl]; rfl
  refine h.mono fun e w' ⟨he, hw⟩ => ⟨?_, hw⟩
  rw [he, e1, e2]; rfl
theorem not_prefix {l : List UInt8} {b : UInt8} (h : l = [] ∨ ∃ c t, l = c :: t ∧ ¬ c = b) : Lib.hasPrefix l [b] = false := by
  rcases h with rfl | ⟨c, t, rfl, hc⟩
  · rfl
  · have hc' : ¬ b = c := fun e => hc e.symm
    show (b == c && List.isPrefixOf [] t) = false
    simp [hc']
theorem cut_no (s : ByteArray) (w : World) (hl : s.data.toList = [] ∨ ∃ c t, s.data.toList = c :: t ∧ ¬ c = 45) :
    Calls Tryd.prog 24 #[.string s, .string ⟨#[45]⟩] w fun e w' => e = .returned (.tuple #[.string s, .bool false]) ∧ w' = w := by
  have h : Calls Tryd.prog 24 #[.string s, .string ⟨#[45]⟩] w fun e w' => e = .returned (.tuple #[.string ⟨(Lib.trimPrefix s.data.toList [45]).toArray⟩, .bool (Lib.hasPrefix s.data.toList [45])]) ∧ w' = w := Any.strings_CutPrefix Tryd.lays103 s ⟨#[45]⟩ w
  have e1 := not_prefix hl
  have e2 : Lib.trimPrefix s.data.toList [45] = s.data.toList := by unfold Lib.trimPrefix; rw [if_neg (by rw [e1]; decide)]
  refine h.mono fun e w' ⟨he, hw⟩ => ⟨?_, hw⟩
  rw [he, e1, e2]
theorem trim_yes (s : ByteArray) (w : World) {c : UInt8} {t : List UInt8} (hl : s.data.toList = c :: t) (hc : (c.toNat : Int) = 43) :
    Calls Tryd.prog 25 #[.string s, .string ⟨#[43]⟩] w fun e w' => e = .returned (.string (bytes t)) ∧ w' = w := by
  have h : Calls Tryd.prog 25 #[.string s, .string ⟨#[43]⟩] w fun e w' => e = .returned (.string ⟨(Lib.trimPrefix s.data.toList [43]).toArray⟩) ∧ w' = w := Any.strings_TrimPrefix Tryd.lays101 s ⟨#[43]⟩ w
  have hc' : c = 43 := (byte_eq (n := 43) (by omega)).1 hc
  have e1 : Lib.hasPrefix s.data.toList [43] = true := by rw [hl, hc']; rfl
  have e2 : Lib.trimPrefix s.data.toList [43] = t := by unfold Lib.trimPrefix; rw [if_pos e1, hl]; rfl
  refine h.mono fun e w' ⟨he, hw⟩ => ⟨?_, hw⟩
  rw [he, e2]; rfl
theorem trim_no (s : ByteArray) (w : World) (hl : s.data.toList = [] ∨ ∃ c t, s.data.toList = c :: t ∧ ¬ c = 43) :
    Calls Tryd.prog 25 #[.string s, .string ⟨#[43]⟩] w fun e w' => e = .returned (.string s) ∧ w' = w := by
  have h : Calls Tryd.prog 25 #[.string s, .string ⟨#[43]⟩] w fun e w' => e = .returned (.string ⟨(Lib.trimPrefix s.data.toList [43]).toArray⟩) ∧ w' = w := Any.strings_TrimPrefix Tryd.lays101 s ⟨#[43]⟩ w
  have e1 := not_prefix hl
  have e2 : Lib.trimPrefix s.data.toList [43] = s.data.toList := by unfold Lib.trimPrefix; rw [if_neg (by rw [e1]; decide)]
  refine h.mono fun e w' ⟨he, hw⟩ => ⟨?_, hw⟩
  rw [he, e2]

end Go.Proofs.YtccjpiomfngalaaDoor
