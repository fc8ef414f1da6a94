/-
  The law on names and texts.
-/
import Derived.Test.YtljgjjbmgjfbcaaDoorWrEx
import Derived.Test.YtljgjjbmgjfbcaaDoorMRef
namespace Go.Proofs.YtljgjjbmgjfbcaaDoor
open Go.RowKit
set_option maxRecDepth 100000

set_option maxHeartbeats 4000000 in
theorem names_law (s : ByteArray) (w : World) (hlaid : Laid w) :
    Calls Tryd.prog 4 #[.string s] w fun e w' => e = .returned (.bool true) ∧ Below w.heap.size w w' := by
  have Hval := Lib.hid (fun W (hb : Below w.heap.size w W) => written_any W (hlaid.later hb))
  clear hlaid
  by_cases hbig : 3000 < s.size
  · have h : (3000 : Int) < (s.size : Int) := by omega
    have HB0 := Lib.hid (Below.refl w.heap.size w)
    go_enter Tryd.func4, Tryd.ntmps4
    go_wp2_with (go_at_call 7; refine (Hval.out _ HB0.out).mono ?_; rintro e w1 ⟨rfl, hb⟩; have HB := Lib.hid hb; clear hb)
    go_ret
    exact ⟨rfl, HB.out⟩
  · have h : ¬ (3000 : Int) < (s.size : Int) := by omega
    have H1 := Lib.hid (fun W => name_is s W (by omega))
    have H2 := Lib.hid (fun W => rname_is s W (by omega))
    have H3 := Lib.hid (fun W => wbytes_is s W (by omega))
    have H4 := Lib.hid (fun W => rbytes_is s W (by omega))
    obtain ⟨u, hu⟩ : ∃ u, bytes (nameW s.data.toList) = u := ⟨_, rfl⟩
    obtain ⟨z, hz⟩ : ∃ z, bytes (bytesW s.data.toList) = z := ⟨_, rfl⟩
    simp only [hu] at H1 H2
    simp only [hz] at H3 H4
    clear hu hz hbig
    go_enter Tryd.func4, Tryd.ntmps4
    go_wp2_with (first
      | (go_at_call 10; refine (H1.out _).mono ?_; rintro e w1 ⟨rfl, hb⟩; have HB1 := Lib.hid hb; clear hb)
      | (go_at_call 11; refine (H2.out _).mono ?_; rintro e w2 ⟨rfl, hb⟩; have HB2 := Lib.hid (HB1.out.trans (hb.mono HB1.out.size)); clear hb)
      | (go_at_call 12; refine (H3.out _).mono ?_; rintro e w3 ⟨rfl, hb⟩; have HB3 := Lib.hid (HB2.out.trans (hb.mono HB2.out.size)); clear hb)
      | (go_at_call 13; refine (H4.out _).mono ?_; rintro e w4 ⟨rfl, hb⟩; have HB4 := Lib.hid (HB3.out.trans (hb.mono HB3.out.size)); clear hb)
      | (go_at_call 7; refine (Hval.out _ HB4.out).mono ?_; rintro e w5 ⟨rfl, hb⟩; have HB5 := Lib.hid (HB4.out.trans (hb.mono HB4.out.size)); clear hb))
    go_ret
    exact ⟨rfl, HB5.out⟩
end Go.Proofs.YtljgjjbmgjfbcaaDoor
