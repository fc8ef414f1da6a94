/-
  HRef, HRef2: texts merged.
-/
import Derived.Test.YtejgcnmbngdkiaaGreatDoorNPlain
import Derived.Test.YtejgcnmbngdkiaaGreatDoorNOct
import Derived.Test.YtejgcnmbngdkiaaGreatDoorNOwn
import Derived.Deep.LoopGhost
import Derived.Deep.RegionWith
/-
  The contracts of the document's Encode and Decode of hexadecimal digits.
-/
namespace Go.Proofs.YtejgcnmbngdkiaaGreatDoor
section
open Go.RowKit
set_option maxRecDepth 100000

theorem encD_take {s : ByteArray} {k : Nat} (h : k < s.size) : encD (s.data.toList.take (k + 1)) = encD (s.data.toList.take k) ++ [digB (s[k].toNat / 16), digB (s[k].toNat % 16)] := by
  rw [take_snoc s k h, encD_snoc]

end
end Go.Proofs.YtejgcnmbngdkiaaGreatDoor
/-
  The contract of the document's Decode of hexadecimal digits.
-/
namespace Go.Proofs.YtejgcnmbngdkiaaGreatDoor
section
open Go.RowKit
set_option maxRecDepth 100000

theorem drop_atH {s : ByteArray} {k : Nat} (h : k < s.size) : s.data.toList.drop k = s[k] :: s.data.toList.drop (k + 1) := by
  rw [List.drop_eq_getElem_cons (by rw [← size_data]; exact h)]; rfl
theorem white_drop {s : ByteArray} {k : Nat} (h : k < s.size) : (s.data.toList.drop k).all whiteB = (whiteB s[k] && (s.data.toList.drop (k + 1)).all whiteB) := by
  rw [drop_atH h]; rfl
/-- What is ahead once the end was met. -/
def restH (ds : List Nat) (t : List UInt8) : List UInt8 × Int := if t.all whiteB then (pairsH ds, 0) else ([], 4)

/-- Two by two, digits become bytes: the loop's own words. -/
theorem pairs_more {ds : List Nat} {m : Nat} {l : List UInt8} (h : m + 1 < ds.length) (hl : l ++ pairsH (ds.drop m) = pairsH ds) :
    (l ++ [UInt8.ofNat (16 * ds[m] + ds[m + 1])]) ++ pairsH (ds.drop (m + 2)) = pairsH ds := by
  rw [← hl, pairsH_drop (k := m) (List.getElem?_eq_getElem (by omega)) (List.getElem?_eq_getElem h)]
  simp
theorem pair_byte (a b : Nat) : ((16 * (a : Int) + (b : Int)) % 256) = ((UInt8.ofNat (16 * a + b)).toNat : Int) := by
  rw [UInt8.toNat_ofNat']; omega

end
end Go.Proofs.YtejgcnmbngdkiaaGreatDoor
