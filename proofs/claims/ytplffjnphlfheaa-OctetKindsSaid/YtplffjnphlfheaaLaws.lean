/-
  The walks of the laws OctetKinds and OctetSpans.
-/
import Derived.Test.YtplffjnphlfheaaOctets
import Derived.Test.YtplffjnphlfheaaRefSpan
import Derived.Test.YtplffjnphlfheaaRef
import Derived.WalkSmall
namespace Go.Proofs.Ytplffjnphlfheaa
open Go.RowKit

set_option maxRecDepth 100000 in
set_option maxHeartbeats 2000000 in
theorem kinds_walk (c n : Int) (h0 : 0 ≤ c) (h1 : c ≤ 255) (h2 : -9223372036854775808 ≤ n) (h3 : n ≤ 9223372036854775807) (w : World) :
    Calls Try.prog 3 #[.int .u8 c, .int .i64 n] w (Yes w) := by
  go_enter Try.func3, Try.ntmps3
  go_wp2_with fail
  refine (kind_any c _).mono ?_
  rintro e w1 ⟨rfl, rfl⟩
  go_wp2_with fail
  refine (refKind_any c _).mono ?_
  rintro e w1 ⟨rfl, rfl⟩
  go_wp2_with fail
  refine (hex_any c _ h0 h1).mono ?_
  rintro e w1 ⟨rfl, rfl⟩
  go_wp2_with fail
  refine (refHex_any c _).mono ?_
  rintro e w1 ⟨rfl, rfl⟩
  go_wp2_with fail
  refine (digit_any n _ h2 h3).mono ?_
  rintro e w1 ⟨rfl, rfl⟩
  go_wp2_with fail
  refine (refDigit_any n _ h2 h3).mono ?_
  rintro e w1 ⟨rfl, rfl⟩
  go_wp2_with fail
  refine (octets_any _).mono ?_
  rintro e w1 ⟨rfl, hb⟩
  go_wp2_with fail
  go_ret
  exact ⟨rfl, hb⟩

set_option maxRecDepth 100000 in
set_option maxHeartbeats 2000000 in
theorem spans_walk (s : ByteArray) (a : Int) (p : Option Addr) (cap : Nat) (zs : List Int) (w : World) (hs : s.size ≤ maxLen) (hz : zs.length ≤ 9223372036854775807) (hp : Nums w p zs) :
    Calls Try.prog 4 #[.string s, .int .i64 a, .slice p zs.length cap] w (Yes w) := by
  by_cases hbig : s.size > 2000 ∨ zs.length > 20
  · have hcase : ((2000 : Int) < (s.size : Int)) ∨ (¬ ((2000 : Int) < (s.size : Int)) ∧ (20 : Int) < (zs.length : Int)) := by omega
    clear hbig
    rcases hcase with h | ⟨h, h'⟩
    all_goals
      go_enter Try.func4, Try.ntmps4
      go_wp2_with fail
      refine (octets_any _).mono ?_
      rintro e w1 ⟨rfl, hb⟩
      go_wp2_with fail
      go_ret
      exact ⟨rfl, hb⟩
  · have h : ¬ ((2000 : Int) < (s.size : Int)) := by omega
    have h' : ¬ ((20 : Int) < (zs.length : Int)) := by omega
    clear hbig
    go_enter Try.func4, Try.ntmps4
    go_wp2_with fail
    refine (span_any s a p cap zs _ hs hz hp).mono ?_
    rintro e w1 ⟨rfl, rfl⟩
    go_wp2_with fail
    refine (refSpan_any s a p cap zs _ hs hz hp).mono ?_
    rintro e w1 ⟨rfl, q, rfl⟩
    go_wp2_with fail
    refine (ends_any s a _).mono ?_
    rintro e w1 ⟨rfl, rfl⟩
    go_wp2_with fail
    refine (refEnds_any s a _).mono ?_
    rintro e w1 ⟨rfl, rfl⟩
    go_wp2_with fail
    refine (octets_any _).mono ?_
    rintro e w1 ⟨rfl, hb⟩
    go_wp2_with fail
    go_ret
    exact ⟨rfl, (below_drewN (Below.refl _ w) q).trans hb⟩

end Go.Proofs.Ytplffjnphlfheaa
