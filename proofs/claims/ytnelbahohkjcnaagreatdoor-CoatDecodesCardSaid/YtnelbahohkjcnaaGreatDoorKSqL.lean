/-
  SqEx, SqLaw1, SqLaw2, SqRefS, SqRefP, SqRefQ: texts merged.
-/
import Derived.Test.YtnelbahohkjcnaaGreatDoorKSqF
import Derived.Test.YtnelbahohkjcnaaGreatDoorKPlain
import Derived.Test.YtnelbahohkjcnaaGreatDoorSqSearch
import Derived.Test.YtnelbahohkjcnaaGreatDoorKRefI
import Derived.Test.YtnelbahohkjcnaaGreatDoorKHeld
import Derived.Test.YtnelbahohkjcnaaGreatDoorKCodeR
import Derived.Deep.QuietTactic
import Derived.BigQuiet
import Derived.Deep.LoopGhost
import Derived.Test.YtnelbahohkjcnaaGreatDoorKWin
/-
  The contracts of package squeeze's Best; what must come at any rate.
-/
namespace Go.Proofs.YtnelbahohkjcnaaGreatDoor
section
open Go.RowKit
set_option maxRecDepth 100000
set_option maxHeartbeats 1000000 in
theorem best_is (s : ByteArray) (w : World) (hs : s.size ≤ 70000) (hL : LaidQ w) {u : ByteArray} (hu : bestZ s.data.toList = u.data.toList) :
    Calls Tryz.prog 112 #[.string s] w fun en w' => en = .returned (.string u) ∧ Below w.heap.size w w' := by
  have HF := Lib.hid (fixed_is s w hs hL (u := bytes (fixedZ s.data.toList)) (by rw [bytes_data]))
  have HS := Lib.hid (fun W => qstored_is s W (by omega) (u := bytes (storedZ s.data.toList)) (by rw [bytes_data]))
  have h1 : (bytes (fixedZ s.data.toList)).size = (fixedZ s.data.toList).length := bytes_size _
  have h2 : (bytes (storedZ s.data.toList)).size = (storedZ s.data.toList).length := bytes_size _
  unfold bestZ at hu
  by_cases hlt : (fixedZ s.data.toList).length < (storedZ s.data.toList).length
  · rw [if_pos hlt] at hu
    have hub : bytes (fixedZ s.data.toList) = u := (bytes_eq hu.symm).symm
    rw [← h1, ← h2] at hlt
    rw [hub] at HF hlt
    obtain ⟨v, hv⟩ : ∃ v, bytes (storedZ s.data.toList) = v := ⟨_, rfl⟩
    rw [hv] at HS hlt
    have hz : (u.size : Int) < (v.size : Int) := by omega
    clear h1 h2 hu hub hv hlt hL
    go_enter Tryz.func112, Tryz.ntmps112
    go_wp2_with fail
    refine HF.out.mono ?_
    rintro e w1 ⟨rfl, hb⟩
    have HB1 := Lib.hid hb
    clear hb
    go_wp2_with fail
    refine (HS.out _).mono ?_
    rintro e w2 ⟨rfl, hb⟩
    have HB2 := Lib.hid (HB1.out.trans (hb.mono HB1.out.size))
    clear hb
    go_wp2_with fail
    go_ret
    exact ⟨rfl, HB2.out⟩
  · rw [if_neg hlt] at hu
    have hub : bytes (storedZ s.data.toList) = u := (bytes_eq hu.symm).symm
    rw [← h1, ← h2] at hlt
    rw [hub] at HS hlt
    obtain ⟨v, hv⟩ : ∃ v, bytes (fixedZ s.data.toList) = v := ⟨_, rfl⟩
    rw [hv] at HF hlt
    have hz : ¬ (v.size : Int) < (u.size : Int) := by omega
    clear h1 h2 hu hub hv hlt hL
    go_enter Tryz.func112, Tryz.ntmps112
    go_wp2_with fail
    refine HF.out.mono ?_
    rintro e w1 ⟨rfl, hb⟩
    have HB1 := Lib.hid hb
    clear hb
    go_wp2_with fail
    refine (HS.out _).mono ?_
    rintro e w2 ⟨rfl, hb⟩
    have HB2 := Lib.hid (HB1.out.trans (hb.mono HB1.out.size))
    clear hb
    go_wp2_with fail
    go_ret
    exact ⟨rfl, HB2.out⟩
end
end Go.Proofs.YtnelbahohkjcnaaGreatDoor
/-
  The walk of the law that the shorter way is short.
-/
namespace Go.Proofs.YtnelbahohkjcnaaGreatDoor
section
open Go.RowKit
set_option maxRecDepth 100000
end
end Go.Proofs.YtnelbahohkjcnaaGreatDoor
/-
  The walk of the law on bytes that are stored.
-/
namespace Go.Proofs.YtnelbahohkjcnaaGreatDoor
section
open Go.RowKit
set_option maxRecDepth 100000
end
end Go.Proofs.YtnelbahohkjcnaaGreatDoor
/-
  The contract of the document's Stored.
-/
namespace Go.Proofs.YtnelbahohkjcnaaGreatDoor
section
open Go.RowKit
set_option maxRecDepth 100000
end
end Go.Proofs.YtnelbahohkjcnaaGreatDoor
/-
  The contracts of the document's Piece, length, distance, number.
-/
namespace Go.Proofs.YtnelbahohkjcnaaGreatDoor
section
open Go.RowKit
set_option maxRecDepth 100000
end
end Go.Proofs.YtnelbahohkjcnaaGreatDoor
/-
  The contract of the document's Piece.
-/
namespace Go.Proofs.YtnelbahohkjcnaaGreatDoor
section
open Go.RowKit
set_option maxRecDepth 100000
end
end Go.Proofs.YtnelbahohkjcnaaGreatDoor
