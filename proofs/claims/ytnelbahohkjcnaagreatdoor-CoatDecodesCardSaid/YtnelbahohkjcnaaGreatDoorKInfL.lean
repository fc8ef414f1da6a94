/-
  InfLaws, InfLaws2: texts merged.
-/
import Derived.Test.YtnelbahohkjcnaaGreatDoorInflate
import Derived.Test.YtnelbahohkjcnaaGreatDoorKPlain
import Derived.Test.YtnelbahohkjcnaaGreatDoorInfRef12
/-
  The walks of the laws of the stage inflate: over the contract of package inflate (inflate_is).
-/
namespace Go.Proofs.YtnelbahohkjcnaaGreatDoor
section
open Go.RowKit
set_option maxRecDepth 100000
end
end Go.Proofs.YtnelbahohkjcnaaGreatDoor
/-
  The walk of the law InflateTells: package inflate and the document's own tell the same.
-/
namespace Go.Proofs.YtnelbahohkjcnaaGreatDoor
section
open Go.RowKit
set_option maxRecDepth 100000
theorem rInf_is (s u : ByteArray) (most : Int) (w : World) (hs : s.size ≤ 10000) (hm : most ≤ 100000) {n : Nat} {e : Int} (hz : inflZ s.data.toList most = (u.data.toList, n, e)) :
    Calls Tryz.prog 69 #[.string s, .int .i64 most] w fun en w' => en = .returned (.tuple #[.string u, .int .i64 (n : Int), .int .i64 e]) ∧ Below w.heap.size w w' := by
  by_cases h0 : most < 0
  · unfold inflZ at hz
    rw [if_pos h0] at hz
    obtain ⟨h1, h2⟩ := Prod.mk.inj hz
    obtain ⟨rfl, rfl⟩ := Prod.mk.inj h2
    obtain rfl : u = ⟨#[]⟩ := by rw [bytes_eq h1.symm]; rfl
    exact rInflate_neg s most w h0
  · obtain ⟨M, rfl⟩ := Int.eq_ofNat_of_zero_le (show 0 ≤ most by omega)
    have hst := inflZ_state s.data.toList M
    have hz2 : inflZ s.data.toList (M : Int) = (u.data.toList, n, e) := hz
    rw [hz2] at hst
    have hfl : 8 * s.size + 1 ≤ FUEL := by have : FUEL = 10000000 := rfl; omega
    obtain ⟨fin, hfin⟩ : ∃ fin, inflS s.data.toList M FUEL ⟨0, [], 0⟩ = fin := ⟨_, rfl⟩
    rw [hfin] at hst
    generalize FUEL = fl at hfin hfl
    refine (rInflate_any s M w fl (by omega) (by omega) hfl hfin).mono ?_
    rintro en w' ⟨rfl, hb⟩
    refine ⟨?_, hb⟩
    by_cases hc : fin.code = 0
    · rw [if_neg (by simp [hc])] at hst ⊢
      obtain ⟨h1, h2⟩ := Prod.mk.inj hst
      obtain ⟨rfl, rfl⟩ := Prod.mk.inj h2
      rw [bytes_eq h1]
    · rw [if_pos hc] at hst ⊢
      obtain ⟨h1, h2⟩ := Prod.mk.inj hst
      obtain ⟨rfl, rfl⟩ := Prod.mk.inj h2
      obtain rfl : u = ⟨#[]⟩ := by rw [bytes_eq h1]; rfl
      rfl
end
end Go.Proofs.YtnelbahohkjcnaaGreatDoor
