/-
  The table of package crc, as the program reads it, and what it says: plain facts on four halvings.
-/
import Derived.Test.YtllimejpmihpfaaDoorCRef
import Derived.Test.YtllimejpmihpfaaDoorRows
import Derived.Lib.LaidTab
import Derived.LaidLaws
import Derived.Below
namespace Go.Proofs.YtllimejpmihpfaaDoor
open Go.RowKit

theorem HN4_up (m : Nat) : HN 4 (16 * m) = m := by
  have e : ∀ k, hN (2 * k) = k := fun k => by unfold hN; rw [if_neg (by omega)]; omega
  show hN (hN (hN (hN (16 * m)))) = m
  rw [show 16 * m = 2 * (2 * (2 * (2 * m))) from by omega, e, e, e, e]
theorem split16 (n : Nat) : n = 16 * (n / 16) ^^^ n % 16 := by
  apply Nat.eq_of_testBit_eq
  intro i
  rw [Nat.testBit_xor, show (16 : Nat) * (n / 16) = 2 ^ 4 * (n / 2 ^ 4) from rfl, show n % 16 = n % 2 ^ 4 from rfl, Nat.testBit_two_pow_mul, Nat.testBit_div_two_pow, Nat.testBit_mod_two_pow]
  by_cases h : i < 4
  · have h' : ¬ 4 ≤ i := by omega
    simp [h, h']
  · have h' : 4 ≤ i := by omega
    simp [h, h', Nat.sub_add_cancel h']
/-- Four halvings: the upper bits fall down, the lowest four turn into a number of the table. -/
theorem HN4_split (n : Nat) : HN 4 n = n / 16 ^^^ HN 4 (n % 16) := by
  conv => lhs; rw [split16 n]
  rw [HN_xor, HN4_up]

/-- The table. -/
def nibs : List Int := [0, 498536548, 997073096, 651767980, 1994146192, 1802195444, 1303535960, 1342533948, 3988292384, 4027552580, 3604390888, 3412177804, 2607071920, 2262029012, 2685067896, 3183342108]
theorem nib_at : ∀ k, k < 16 → nibs.getD k 0 = (HN 4 k : Int) := by decide +kernel

/-- What the program reads lies in memory. -/
def Laid (w : World) : Prop := Lib.TabIs Tryd.prog w "bindery/crc.nibbles" .u32 nibs
theorem var_later {P : Program} {w w' : World} {n : String} {cs : Array Value} (h : w.var? P n = some cs) (hb : Below w.heap.size w w') : w'.var? P n = some cs := by
  unfold World.var? at *
  cases hg : P.globalNamed n with
  | none => simp [hg] at h
  | some g =>
    simp only [hg, Option.bind_some] at h ⊢
    have hlt : g < w.heap.size := by
      rcases Nat.lt_or_ge g w.heap.size with h' | h'
      · exact h'
      · rw [Array.getElem?_eq_none h'] at h; simp at h
    rw [hb.block g hlt]
    exact h
theorem Laid.later {w w' : World} (h : Laid w) (hb : Below w.heap.size w w') : Laid w' := var_later h hb
theorem laid_nibs : (Rows.laid_bindery_crc_nibbles : DataW Unit) = Lib.tabData .u32 nibs := by kernel_rfl
theorem laid_of {l : List (String × DataW Unit)} {w : World} (hL : laidMet Tryd.prog (("bindery/crc.nibbles", Rows.laid_bindery_crc_nibbles) :: l) w) : Laid w := by
  rw [laid_nibs] at hL
  exact Lib.tabIs_of_head (g := 0) (t := 49) (e := 37) (n := 16) (by kernel_rfl) (by kernel_rfl) (by kernel_rfl) (by kernel_rfl) (by kernel_rfl) (by kernel_rfl) hL
theorem Laid.nib {w : World} (h : Laid w) {k : Nat} (hk : k < 16) : w.cell? ⟨0, k, none⟩ = some (.int .u32 (HN 4 k : Int)) := by
  have := Lib.TabIs.cell h (g := 0) (by kernel_rfl) k hk
  rw [nib_at k hk] at this
  exact this

end Go.Proofs.YtllimejpmihpfaaDoor
