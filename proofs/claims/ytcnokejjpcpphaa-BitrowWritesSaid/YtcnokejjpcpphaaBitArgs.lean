/-
  The laws' slices of structs, as the frame of a law tells them.
-/
import Derived.Test.YtcnokejjpcpphaaBitLaws2
import Derived.Test.YtcnokejjpcpphaaBitLaws3
namespace Go.Proofs.Ytcnokejjpcpphaa
open Go.RowKit

theorem add_none (b off k : Nat) : (⟨b, off, none⟩ : Addr).add k = ⟨b, off + k, none⟩ := by unfold Addr.add; split <;> simp_all
theorem wf_i64 {n : Int} (h : (Lit.int .i64 n).wf = true) : -9223372036854775808 ≤ n ∧ n ≤ 9223372036854775807 := by
  simpa [Lit.wf, IntKind.min, IntKind.max, IntKind.signed, IntKind.bits] using h
theorem wf_u8 {n : Int} (h : (Lit.int .u8 n).wf = true) : 0 ≤ n ∧ n ≤ 255 := by
  simpa [Lit.wf, IntKind.min, IntKind.max, IntKind.signed, IntKind.bits] using h
theorem acts_of_row {w : World} {a : Option Addr} {len cap : Nat} {zs : List (Int × Int × Bool)}
    (h : (a = none ∧ len = 0 ∧ cap = 0 ∧ zs = []) ∨ ∃ x, a = some x ∧ len ≤ cap ∧ cap ≤ maxLen ∧ zs.length = len ∧ ∀ i (h : i < zs.length),
      (w.cell? (x.add (i * 3 + 0)) = some (.int .i64 zs[i].1) ∧ (Lit.int .i64 zs[i].1).wf = true) ∧ (w.cell? (x.add (i * 3 + 1)) = some (.int .i64 zs[i].2.1) ∧ (Lit.int .i64 zs[i].2.1).wf = true) ∧ w.cell? (x.add (i * 3 + 2)) = some (.bool zs[i].2.2)) :
    Acts w a zs ∧ zs.length = len ∧ len ≤ 9223372036854775807 := by
  rcases h with ⟨rfl, rfl, rfl, rfl⟩ | ⟨x, rfl, hl, hm, hz, hc⟩
  · exact ⟨.inl rfl, rfl, by omega⟩
  · refine ⟨?_, hz, by unfold maxLen at hm; omega⟩
    by_cases h0 : zs = []
    · exact .inl h0
    · right
      have hpos : 0 < zs.length := List.length_pos_iff.2 h0
      obtain ⟨b, off, spot⟩ := x
      have hspot : spot = none := by simpa [Addr.add] using World.cell?_spot (hc 0 hpos).1.1
      subst hspot
      have hb := World.block_lt_of_cell? w _ (hc 0 hpos).1.1
      rw [add_none] at hb
      refine ⟨b, off, rfl, hb, fun i hi => ?_⟩
      obtain ⟨⟨h1, h2⟩, ⟨h3, h4⟩, h5⟩ := hc i hi
      rw [add_none] at h1 h3 h5
      exact ⟨h1, h3, h5, wf_i64 h2, wf_i64 h4⟩
theorem asks_of_row {w : World} {a : Option Addr} {len cap : Nat} {zs : List (Int × Int)}
    (h : (a = none ∧ len = 0 ∧ cap = 0 ∧ zs = []) ∨ ∃ x, a = some x ∧ len ≤ cap ∧ cap ≤ maxLen ∧ zs.length = len ∧ ∀ i (h : i < zs.length),
      (w.cell? (x.add (i * 2 + 0)) = some (.int .u8 zs[i].1) ∧ (Lit.int .u8 zs[i].1).wf = true) ∧ (w.cell? (x.add (i * 2 + 1)) = some (.int .i64 zs[i].2) ∧ (Lit.int .i64 zs[i].2).wf = true)) :
    Asks w a zs ∧ zs.length = len ∧ len ≤ 9223372036854775807 := by
  rcases h with ⟨rfl, rfl, rfl, rfl⟩ | ⟨x, rfl, hl, hm, hz, hc⟩
  · exact ⟨.inl rfl, rfl, by omega⟩
  · refine ⟨?_, hz, by unfold maxLen at hm; omega⟩
    by_cases h0 : zs = []
    · exact .inl h0
    · right
      have hpos : 0 < zs.length := List.length_pos_iff.2 h0
      obtain ⟨b, off, spot⟩ := x
      have hspot : spot = none := by simpa [Addr.add] using World.cell?_spot (hc 0 hpos).1.1
      subst hspot
      have hb := World.block_lt_of_cell? w _ (hc 0 hpos).1.1
      rw [add_none] at hb
      refine ⟨b, off, rfl, hb, fun i hi => ?_⟩
      obtain ⟨⟨h1, h2⟩, h3, h4⟩ := hc i hi
      rw [add_none] at h1 h3
      exact ⟨h1, h3, wf_u8 h2, wf_i64 h4⟩

end Go.Proofs.Ytcnokejjpcpphaa
