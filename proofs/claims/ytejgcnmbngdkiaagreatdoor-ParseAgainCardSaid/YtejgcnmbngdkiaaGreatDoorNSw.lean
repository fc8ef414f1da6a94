/-
  VSwapR, VRotate, VSym1, VSym2: texts merged.
-/
import Derived.Test.YtejgcnmbngdkiaaGreatDoorNPl
import Derived.Shelf.SlSortCmp.QuietGrown
/-
  The library's exchange of two parts of a row.
-/
namespace Go.Proofs.YtejgcnmbngdkiaaGreatDoor
section
open Go.Shelf Go.RowKit Go.Lib Go.Sort
set_option linter.unusedVariables false
variable {P : Program} {α : Type} [Inhabited α]

set_option maxHeartbeats 4000000 in
set_option maxRecDepth 1000000 in
theorem swapRange_K {k : Nat} (L : SortL P k) (enc : α → List Value) (g : Nat) (cb : Array Value) (blk off cap x y n : Nat) (d0 d : Array α) (w0 w : World)
    (R : RowK enc k w0 blk off d0) (hs : d0.size = d.size) (S : SWK enc k w0 blk off d w) (hxy : x + n ≤ y) (hy : y + n ≤ d.size) (hsz : d.size < 4611686018427387904) :
    Calls P 111 #[.slice (some ⟨blk, off, none⟩) d.size cap, .int .i64 x, .int .i64 y, .int .i64 n, .func (.func g) #[] cb] w fun e w' => e = .returned (.tuple #[]) ∧ ∃ d', exchd d d' x y n ∧ PermIn x (y + n) d d' ∧ SWK enc k w0 blk off d' w' := by
  have mixed := L.mixed; have t0 := L.t0; have a0 := L.a0; have z0 := L.z0; have v0 := L.v0; have t3 := L.t3; have a3 := L.a3; have z3 := L.z3; have v3 := L.v3; have t4 := L.t4; have a4 := L.a4; have z4 := L.z4; have v4 := L.v4; have t23 := L.t23; have a23 := L.a23; have z23 := L.z23; have v23 := L.v23; have t66 := L.t66; have a66 := L.a66; have z66 := L.z66; have v66 := L.v66; have t80 := L.t80; have a80 := L.a80; have z80 := L.z80; have v80 := L.v80; have aE := L.aE; have zE := L.zE
  have S0 : Aside (SWK enc k w0 blk off d w) := S
  have H0 : Aside (exchd d d x y 0 ∧ PermIn x (y + n) d d) := ⟨exch_none d x y, permIn_refl _ _ _⟩
  clear S
  go_enter L.fswap, Tryz.ntmps111
  go_wp2
  go_loopg [10] n (fun kx s10 wr => ∃ (i : Nat) (dk : Array α), s10 = .int .i64 i ∧ i ≤ n ∧ n ≤ kx + i ∧ Aside (exchd d dk x y i ∧ PermIn x (y + n) d dk) ∧ dk.size = d.size ∧ Aside (SWK enc k w0 blk off dk wr))
  case atStart => exact ⟨0, d, rfl, Nat.zero_le _, Nat.le_refl _, H0, rfl, S0⟩
  case round =>
    clear S0 H0
    obtain ⟨i, dk, rfl, hi, hkx, HI, hds, S1⟩ := hrel
    by_cases hlt : i < n
    · have ea44 : ((x : Int) + (i : Int)).toNat = x + i := by omega
      have pa44 : (0 : Int) ≤ (x : Int) + (i : Int) := by omega
      have ba44 : (x : Int) + (i : Int) < (d.size : Int) := by omega
      have ra44 : IntKind.i64.wrap ((x : Int) + (i : Int)) = (x : Int) + (i : Int) := by rw [IntKind.wrap_i64]; omega
      have ec44 : ((y : Int) + (i : Int)).toNat = y + i := by omega
      have pc44 : (0 : Int) ≤ (y : Int) + (i : Int) := by omega
      have bc44 : (y : Int) + (i : Int) < (d.size : Int) := by omega
      have rc44 : IntKind.i64.wrap ((y : Int) + (i : Int)) = (y : Int) + (i : Int) := by rw [IntKind.wrap_i64]; omega
      have S2 : Aside (SWK enc k w0 blk off (swp dk (x + i) (y + i)) ((wr.drew.setCells blk (off + (x + i) * k) (enc dk[y + i]!)).setCells blk (off + (y + i) * k) (enc dk[x + i]!))) := S1.out.swapped R (x + i) (y + i) (by omega) (by omega)
      have l44a := S1.out.ld1 R (by omega) P (x + i) (by omega)
      have l44b := S1.out.ld1 R (by omega) P (y + i) (by omega)
      have s44a := S1.out.st1 R (by omega) P (x + i) (by omega) dk[y + i]!
      have s44b := S1.out.st2 R (by omega) P (x + i) (y + i) (by omega) (by omega) dk[y + i]! dk[x + i]!
      have n44a : (enc dk[x + i]!).length = k := R.hk _
      have n44b : (enc dk[y + i]!).length = k := R.hk _
      have Hnew : Aside (exchd d (swp dk (x + i) (y + i)) x y (i + 1) ∧ PermIn x (y + n) d (swp dk (x + i) (y + i))) := ⟨exch_step HI.out.1 (by omega) (by omega), permIn_trans _ _ _ _ _ HI.out.2 (swp_permIn dk x (y + n) (x + i) (y + i) (by omega) (by omega) (by omega) (by omega) (by omega))⟩
      have hsz2 : (swp dk (x + i) (y + i)).size = d.size := by rw [size_swp]; exact hds
      generalize enc dk[x + i]! = cI44 at S2 l44a s44b n44a
      generalize enc dk[y + i]! = cJ44 at S2 l44b s44a s44b n44b
      clear S1 HI
      go_wp2_with fail
      go_big_region_o
      clear l44a l44b s44a s44b
      generalize (wr.drew.setCells blk (off + (x + i) * k) cJ44).setCells blk (off + (y + i) * k) cI44 = w2 at S2 ⊢
      go_wp2
      go_roundg (n - (i + 1))
      case measure => omega
      case rel => exact ⟨i + 1, swp dk (x + i) (y + i), by go_num, by omega, by omega, Hnew, hsz2, S2⟩
    · have hin : i = n := by omega
      subst hin
      go_wp2
      go_end0
      exact ⟨rfl, dk, HI.out.1, HI.out.2, S1.out⟩
end
end Go.Proofs.YtejgcnmbngdkiaaGreatDoor
/-
  The library's turn of two parts of a row.
-/
namespace Go.Proofs.YtejgcnmbngdkiaaGreatDoor
section
open Go.Shelf Go.RowKit Go.Lib Go.Sort
set_option linter.unusedVariables false
variable {P : Program} {α : Type} [Inhabited α]

set_option maxHeartbeats 4000000 in
set_option maxRecDepth 1000000 in
theorem rotate_K {k : Nat} (L : SortL P k) (enc : α → List Value) (g : Nat) (cb : Array Value) (blk off cap a m b : Nat) (d0 d : Array α) (w0 w : World)
    (R : RowK enc k w0 blk off d0) (hs : d0.size = d.size) (S : SWK enc k w0 blk off d w) (ham : a < m) (hmb : m < b) (hb : b ≤ d.size) (hsz : d.size < 4611686018427387904) :
    Calls P 99 #[.slice (some ⟨blk, off, none⟩) d.size cap, .int .i64 a, .int .i64 m, .int .i64 b, .func (.func g) #[] cb] w fun e w' => e = .returned (.tuple #[]) ∧ ∃ d', turned d d' a m b ∧ PermIn a b d d' ∧ SWK enc k w0 blk off d' w' := by
  have mixed := L.mixed; have t0 := L.t0; have a0 := L.a0; have z0 := L.z0; have v0 := L.v0; have t3 := L.t3; have a3 := L.a3; have z3 := L.z3; have v3 := L.v3; have t4 := L.t4; have a4 := L.a4; have z4 := L.z4; have v4 := L.v4; have t23 := L.t23; have a23 := L.a23; have z23 := L.z23; have v23 := L.v23; have t66 := L.t66; have a66 := L.a66; have z66 := L.z66; have v66 := L.v66; have t80 := L.t80; have a80 := L.a80; have z80 := L.z80; have v80 := L.v80; have aE := L.aE; have zE := L.zE
  have e76 : ∀ args w, (callFunc 111 args).run P w = .ok (.enter 111 args) w := enters_of L.fswap (by kernel_rfl) rfl
  have S0 : Aside (SWK enc k w0 blk off d w) := S
  have hma : (m : Int) - (a : Int) = ((m - a : Nat) : Int) := by omega
  have hbm : (b : Int) - (m : Int) = ((b - m : Nat) : Int) := by omega
  have H0 : Aside ((∀ d' : Array α, turned d d' (m - (m - a)) m (m + (b - m)) → turned d d' a m b) ∧ PermIn a b d d) := ⟨fun d' h => by
    rw [show m - (m - a) = a by omega, show m + (b - m) = b by omega] at h; exact h, permIn_refl _ _ _⟩
  clear S
  go_enter L.frot, Tryz.ntmps99
  go_wp2
  clear hma hbm
  go_loopg [10, 11] (b - a) (fun kx s10 s11 wr => ∃ (i j : Nat) (dk : Array α), s10 = .int .i64 i ∧ s11 = .int .i64 j ∧ 1 ≤ i ∧ 1 ≤ j ∧ a + i ≤ m ∧ m + j ≤ b ∧ i + j ≤ kx ∧ dk.size = d.size ∧
    Aside ((∀ d' : Array α, turned dk d' (m - i) m (m + j) → turned d d' a m b) ∧ PermIn a b d dk) ∧ Aside (SWK enc k w0 blk off dk wr))
  case atStart => exact ⟨m - a, b - m, d, rfl, rfl, by omega, by omega, by omega, by omega, by omega, rfl, H0, S0⟩
  case round =>
    clear S0 H0
    obtain ⟨i, j, dk, rfl, rfl, hi1, hj1, hia, hjb, hkx, hds, HI, S1⟩ := hrel
    have hmi : ((m - i : Nat) : Int) = (m : Int) - (i : Int) := by omega
    rcases Nat.lt_trichotomy i j with hij | hij | hij
    · have hc := swapRange_K L enc g cb blk off cap (m - i) (m + j - i) i d0 dk w0 wr R (by omega) S1.out (by omega) (by omega) (by omega)
      rw [hmi, show ((m + j - i : Nat) : Int) = (m : Int) + (j : Int) - (i : Int) by omega, hds] at hc
      have Hc := Lib.hid hc
      have hij1 : ¬ (i : Int) = (j : Int) := by omega
      have hij2 : ¬ (j : Int) < (i : Int) := by omega
      clear hc hmi
      go_wp2_with (go_at_fn 111; refine Hc.out.mono ?_; rintro e w1 ⟨rfl, d1, hx, hp, hS⟩; have HX := Lib.hid hx; have HP := Lib.hid hp; have HS1 := Lib.hid hS; clear hx hp hS)
      go_roundg (i + (j - i))
      case measure => omega
      case rel =>
        refine ⟨i, j - i, d1, rfl, by go_num, hi1, by omega, hia, by omega, by omega, HX.out.1.trans hds, (show Aside _ from ⟨fun d' h => HI.out.1 d' (turn_right (by omega) hij HX.out h), ?_⟩), HS1.out⟩
        exact permIn_trans _ _ _ _ _ HI.out.2 (permIn_mono _ _ _ _ _ _ (by omega) (by omega) (by omega) HP.out)
    · subst hij
      have hc := swapRange_K L enc g cb blk off cap (m - i) m i d0 dk w0 wr R (by omega) S1.out (by omega) (by omega) (by omega)
      rw [hmi, hds] at hc
      have Hc := Lib.hid hc
      clear hc hmi
      go_wp2_with (go_at_fn 111; refine Hc.out.mono ?_; rintro e w1 ⟨rfl, d1, hx, hp, hS⟩; have HX := Lib.hid hx; have HP := Lib.hid hp; have HS1 := Lib.hid hS; clear hx hp hS)
      go_end0
      exact ⟨rfl, d1, HI.out.1 d1 (turn_last (by omega) HX.out), permIn_trans _ _ _ _ _ HI.out.2 (permIn_mono _ _ _ _ _ _ (by omega) (by omega) (by omega) HP.out), HS1.out⟩
    · have hc := swapRange_K L enc g cb blk off cap (m - i) m j d0 dk w0 wr R (by omega) S1.out (by omega) (by omega) (by omega)
      rw [hmi, hds] at hc
      have Hc := Lib.hid hc
      have hij1 : ¬ (i : Int) = (j : Int) := by omega
      have hij2 : (j : Int) < (i : Int) := by omega
      clear hc hmi
      go_wp2_with (go_at_fn 111; refine Hc.out.mono ?_; rintro e w1 ⟨rfl, d1, hx, hp, hS⟩; have HX := Lib.hid hx; have HP := Lib.hid hp; have HS1 := Lib.hid hS; clear hx hp hS)
      go_roundg (i - j + j)
      case measure => omega
      case rel =>
        refine ⟨i - j, j, d1, by go_num, rfl, by omega, hj1, by omega, hjb, by omega, HX.out.1.trans hds, (show Aside _ from ⟨fun d' h => HI.out.1 d' (turn_left (by omega) hij HX.out (by rw [show m - i + j = m - (i - j) by omega]; exact h)), ?_⟩), HS1.out⟩
        exact permIn_trans _ _ _ _ _ HI.out.2 (permIn_mono _ _ _ _ _ _ (by omega) (by omega) (by omega) HP.out)
end
end Go.Proofs.YtejgcnmbngdkiaaGreatDoor
/-
  The library's merge of two sorted parts, one behind the other, where the first one has one element.
-/
namespace Go.Proofs.YtejgcnmbngdkiaaGreatDoor
section
open Go.Shelf Go.RowKit Go.Lib Go.Sort
set_option linter.unusedVariables false
variable {P : Program} {α : Type} [Inhabited α]

set_option maxHeartbeats 8000000 in
set_option maxRecDepth 1000000 in
theorem sym_one {k : Nat} (L : SortL P k) (enc : α → List Value) (cf : α → α → Int) (tag : α → Nat) (hO : SWO (ltOf cf)) (g : Nat) (cb : Array Value) (blk off cap a m b : Nat) (hma : m = a + 1) (d0 d : Array α) (w0 w : World)
    (eg : ∀ args w, (callFunc g args).run P w = .ok (.enter g args) w) (hcmp : CmpLays P g cb enc k cf blk off d.size w0)
    (R : RowK enc k w0 blk off d0) (hs : d0.size = d.size) (S : SWK enc k w0 blk off d w) (hab : a + 1 < b) (hb : b ≤ d.size) (hsz : d.size < 1000000000)
    (h2 : SortedIn (lx (ltOf cf) tag) (a + 1) b d) (ht : ∀ q, a + 1 ≤ q → q < b → tag d[a]! < tag d[q]!) :
    Calls P 87 #[.slice (some ⟨blk, off, none⟩) d.size cap, .int .i64 a, .int .i64 m, .int .i64 b, .func (.func g) #[] cb] w fun e w' => e = .returned (.tuple #[]) ∧ ∃ d', PermIn a b d d' ∧ SortedIn (lx (ltOf cf) tag) a b d' ∧ SWK enc k w0 blk off d' w' := by
  have mixed := L.mixed; have t0 := L.t0; have a0 := L.a0; have z0 := L.z0; have v0 := L.v0; have t3 := L.t3; have a3 := L.a3; have z3 := L.z3; have v3 := L.v3; have t4 := L.t4; have a4 := L.a4; have z4 := L.z4; have v4 := L.v4; have t23 := L.t23; have a23 := L.a23; have z23 := L.z23; have v23 := L.v23; have t66 := L.t66; have a66 := L.a66; have z66 := L.z66; have v66 := L.v66; have t80 := L.t80; have a80 := L.a80; have z80 := L.z80; have v80 := L.v80; have aE := L.aE; have zE := L.zE
  have HC : Aside _ := hcmp
  have S0 : Aside (SWK enc k w0 blk off d w) := S
  have H2 := Lib.hid h2
  have HT := Lib.hid ht
  have HO := Lib.hid hO
  have hone : (m : Int) - (a : Int) = 1 := by omega
  have Hma := Lib.hid hma
  clear hma hcmp S h2 ht hO
  go_enter L.fsym, Tryz.ntmps87
  go_wp2
  go_loopg [10, 11] (b - a) (fun kx s10 s11 wr => ∃ i j : Nat, s10 = .int .i64 i ∧ s11 = .int .i64 j ∧ a + 1 ≤ i ∧ i ≤ j ∧ j ≤ b ∧ j - i ≤ kx ∧
    Aside ((∀ h, a + 1 ≤ h → h < i → ltOf cf d[h]! d[a]! = true) ∧ (∀ h, j ≤ h → h < b → ltOf cf d[h]! d[a]! = false)) ∧ Aside (SWK enc k w0 blk off d wr))
  case atStart =>
    have hma := Hma.out
    exact ⟨m, b, rfl, rfl, by omega, by omega, Nat.le_refl _, by omega, (show Aside _ from ⟨fun h h1 h2 => by omega, fun h h1 h2 => by omega⟩), S0⟩
  case round =>
    clear S0
    obtain ⟨i, j, rfl, rfl, hai, hij, hjb, hkx, HI, S1⟩ := hrel
    by_cases hlt : i < j
    · obtain ⟨h, hh⟩ : ∃ h, h = (i + j) / 2 := ⟨_, rfl⟩
      have hh1 : i ≤ h ∧ h < j := by omega
      have hltz : (i : Int) < (j : Int) := by omega
      have hw1 : IntKind.u64.wrap ((i : Int) + (j : Int)) = (i : Int) + (j : Int) := by rw [IntKind.wrap_u64]; omega
      have hmid : ((i : Int) + (j : Int)) / 2 = (h : Int) := by omega
      have hw2 : IntKind.i64.wrap (h : Int) = (h : Int) := by rw [IntKind.wrap_i64]; omega
      have Hh := Lib.hid hh
      clear hh
      have ea1 : ((h : Int)).toNat = h := by omega
      have pa1 : (0 : Int) ≤ (h : Int) := by omega
      have ba1 : (h : Int) < (d.size : Int) := by omega
      have ra1 : IntKind.i64.wrap ((h : Int)) = (h : Int) := by rw [IntKind.wrap_i64]; omega
      have ec1 : ((a : Int)).toNat = a := by omega
      have pc1 : (0 : Int) ≤ (a : Int) := by omega
      have bc1 : (a : Int) < (d.size : Int) := by omega
      have rc1 : IntKind.i64.wrap ((a : Int)) = (a : Int) := by rw [IntKind.wrap_i64]; omega
      obtain ⟨xx, hxx⟩ : ∃ x, x = d[h]! := ⟨_, rfl⟩
      obtain ⟨yy, hyy⟩ : ∃ x, x = d[a]! := ⟨_, rfl⟩
      have la1 := S1.out.ld R (by omega) P h (by omega)
      have lb1 := S1.out.ld R (by omega) P a (by omega)
      rw [← hxx] at la1
      rw [← hyy] at lb1
      have hc1 := S1.out.cmp HC.out (by omega) xx yy
      have hxl : ltOf cf d[h]! d[a]! = decide (cf xx yy < 0) := by rw [hxx, hyy]; rfl
      have Hxl := Lib.hid hxl
      clear hxx hyy hxl
      by_cases hv : cf xx yy < 0
      · have hd1 : decide (cf xx yy < 0) = true := decide_eq_true hv
        go_wp2_with fail
        go_quiet_grown (first | (go_at_fn g; refine Calls.grown_of (hc1 _ _)))
        have S2 : Aside (SWK enc k w0 blk off d (grow (wr.drewN nq) osq)) := S1.out.grown nq osq
        clear la1 lb1 hc1 S1
        generalize grow (wr.drewN nq) osq = w2 at S2 ⊢
        clear nq osq
        go_wp2
        go_roundg (j - (h + 1))
        case measure => omega
        case rel =>
          refine ⟨h + 1, j, by go_num, rfl, by omega, by omega, hjb, by omega, (show Aside _ from ⟨fun q h1 h2 => ?_, HI.out.2⟩), S2⟩
          have hl : ltOf cf d[h]! d[a]! = true := by rw [Hxl.out]; exact hd1
          rcases Nat.lt_or_ge q h with h3 | h3
          · exact lt_down HO.out (H2.out q h h1 h3 (by omega)) hl
          · rw [show q = h by omega]; exact hl
      · have hd1 : decide (cf xx yy < 0) = false := decide_eq_false hv
        go_wp2_with fail
        go_quiet_grown (first | (go_at_fn g; refine Calls.grown_of (hc1 _ _)))
        have S2 : Aside (SWK enc k w0 blk off d (grow (wr.drewN nq) osq)) := S1.out.grown nq osq
        clear la1 lb1 hc1 S1
        generalize grow (wr.drewN nq) osq = w2 at S2 ⊢
        clear nq osq
        go_wp2
        go_roundg (h - i)
        case measure => omega
        case rel =>
          refine ⟨i, h, rfl, rfl, hai, by omega, by omega, by omega, (show Aside _ from ⟨HI.out.1, fun q h1 h2 => ?_⟩), S2⟩
          have hl : ltOf cf d[h]! d[a]! = false := by rw [Hxl.out]; exact hd1
          rcases Nat.lt_or_ge h q with h3 | h3
          · cases e : ltOf cf d[q]! d[a]! with
            | false => rfl
            | true => rw [lt_down HO.out (H2.out h q (by omega) h3 (by omega)) e] at hl; cases hl
          · rw [show q = h by omega]; exact hl
    · have hji : j = i := by omega
      subst hji
      have hin : ((j : Int) - 1) = ((j - 1 : Nat) : Int) := by omega
      have S2 : Aside (SWK enc k w0 blk off d wr) := S1
      have HP0 : Aside ((∀ t : Nat, d[t]! = if a ≤ t ∧ t < a then d[t + 1]! else if t = a then d[a]! else d[t]!) ∧ PermIn a b d d) := ⟨fun t => by
        rw [if_neg (by omega)]
        by_cases c : t = a
        · rw [if_pos c, c]
        · rw [if_neg c], permIn_refl _ _ _⟩
      clear S1 hin
      go_wp2
      go_loopg [13] (b - a) (fun kx s13 wr => ∃ (q : Nat) (dk : Array α), s13 = .int .i64 q ∧ a ≤ q ∧ q + 1 ≤ j ∧ j - q ≤ kx + 1 ∧ dk.size = d.size ∧
        Aside ((∀ t : Nat, dk[t]! = if a ≤ t ∧ t < q then d[t + 1]! else if t = q then d[a]! else d[t]!) ∧ PermIn a b d dk) ∧ Aside (SWK enc k w0 blk off dk wr))
      case atStart => exact ⟨a, d, rfl, Nat.le_refl _, hai, by omega, rfl, HP0, S2⟩
      case round =>
        clear S2 HP0
        obtain ⟨q, dk, rfl, haq, hqj, hkx2, hds, HP, S1⟩ := hrel
        by_cases hql : q + 1 < j
        · have hq1 : (q : Int) < (j : Int) - 1 := by omega
          have ea44 : ((q : Int)).toNat = q := by omega
          have pa44 : (0 : Int) ≤ (q : Int) := by omega
          have ba44 : (q : Int) < (d.size : Int) := by omega
          have ra44 : IntKind.i64.wrap ((q : Int)) = (q : Int) := by rw [IntKind.wrap_i64]; omega
          have ec44 : ((q : Int) + 1).toNat = q + 1 := by omega
          have pc44 : (0 : Int) ≤ (q : Int) + 1 := by omega
          have bc44 : (q : Int) + 1 < (d.size : Int) := by omega
          have rc44 : IntKind.i64.wrap ((q : Int) + 1) = (q : Int) + 1 := by rw [IntKind.wrap_i64]; omega
          have S2 : Aside (SWK enc k w0 blk off (swp dk (q) (q + 1)) ((wr.drew.setCells blk (off + (q) * k) (enc dk[q + 1]!)).setCells blk (off + (q + 1) * k) (enc dk[q]!))) := S1.out.swapped R (q) (q + 1) (by omega) (by omega)
          have l44a := S1.out.ld1 R (by omega) P (q) (by omega)
          have l44b := S1.out.ld1 R (by omega) P (q + 1) (by omega)
          have s44a := S1.out.st1 R (by omega) P (q) (by omega) dk[q + 1]!
          have s44b := S1.out.st2 R (by omega) P (q) (q + 1) (by omega) (by omega) dk[q + 1]! dk[q]!
          have n44a : (enc dk[q]!).length = k := R.hk _
          have n44b : (enc dk[q + 1]!).length = k := R.hk _
          have hsz2 : (swp dk (q) (q + 1)).size = d.size := by rw [size_swp]; omega
          generalize enc dk[q]! = cI44 at S2 l44a s44b n44a
          generalize enc dk[q + 1]! = cJ44 at S2 l44b s44a s44b n44b
          have Hnew : Aside ((∀ t : Nat, (swp dk (q) (q + 1))[t]! = if a ≤ t ∧ t < q + 1 then d[t + 1]! else if t = q + 1 then d[a]! else d[t]!) ∧ PermIn a b d (swp dk (q) (q + 1))) := by
            refine ⟨fun t => ?_, permIn_trans _ _ _ _ _ HP.out.2 (swp_permIn dk a b q (q + 1) (by omega) (by omega) (by omega) (by omega) (by omega))⟩
            have e1 : dk[q]! = d[a]! := by rw [HP.out.1 q, if_neg (by omega), if_pos rfl]
            have e2 : dk[q + 1]! = d[q + 1]! := by rw [HP.out.1 (q + 1), if_neg (by omega), if_neg (by omega)]
            rw [swp_get dk (by omega) (by omega), e1, e2, HP.out.1 t]
            by_cases c1 : t = q + 1
            · rw [if_pos c1, if_neg (by omega), if_pos c1]
            · rw [if_neg c1]
              by_cases c2 : t = q
              · rw [if_pos c2, if_pos (by omega), c2]
              · rw [if_neg c2]
                by_cases c3 : a ≤ t ∧ t < q
                · rw [if_pos c3, if_pos (by omega)]
                · rw [if_neg c3, if_neg c2, if_neg (by omega), if_neg c1]
          clear S1 HP
          go_wp2_with fail
          go_big_region_o
          clear l44a l44b s44a s44b
          generalize (wr.drew.setCells blk (off + (q) * k) cJ44).setCells blk (off + (q + 1) * k) cI44 = w2 at S2 ⊢
          go_wp2
          go_roundg (j - (q + 1) - 1)
          case measure => omega
          case rel => exact ⟨q + 1, swp dk (q) (q + 1), by go_num, by omega, by omega, by omega, hsz2, Hnew, S2⟩
        · have hq1 : ¬ (q : Int) < (j : Int) - 1 := by omega
          have hjq : j = q + 1 := by omega
          go_wp2
          have hfin : SortedIn (lx (ltOf cf) tag) a b dk := by
            refine merge_one HO.out d dk a b j H2.out HT.out hai (by omega) HI.out.1 HI.out.2 fun t h1 h2 => ?_
            rw [HP.out.1 t]
            by_cases c1 : t + 1 < j
            · rw [if_pos c1, if_pos (by omega)]
            · rw [if_neg c1, if_neg (by omega)]
              by_cases c2 : t + 1 = j
              · rw [if_pos c2, if_pos (by omega)]
              · rw [if_neg c2, if_neg (by omega)]
          exact bodyPost_ret (v := .tuple #[]) (by simp [results, go_sem]) rfl ⟨rfl, dk, HP.out.2, hfin, S1.out⟩
end
end Go.Proofs.YtejgcnmbngdkiaaGreatDoor
/-
  The library's merge of two sorted parts, one behind the other, where the second one has one element.
-/
namespace Go.Proofs.YtejgcnmbngdkiaaGreatDoor
section
open Go.Shelf Go.RowKit Go.Lib Go.Sort
set_option linter.unusedVariables false
variable {P : Program} {α : Type} [Inhabited α]

set_option maxHeartbeats 8000000 in
set_option maxRecDepth 1000000 in
theorem sym_last {k : Nat} (L : SortL P k) (enc : α → List Value) (cf : α → α → Int) (tag : α → Nat) (hO : SWO (ltOf cf)) (g : Nat) (cb : Array Value) (blk off cap a m b : Nat) (hmb : b = m + 1) (ham : a + 1 < m) (d0 d : Array α) (w0 w : World)
    (eg : ∀ args w, (callFunc g args).run P w = .ok (.enter g args) w) (hcmp : CmpLays P g cb enc k cf blk off d.size w0)
    (R : RowK enc k w0 blk off d0) (hs : d0.size = d.size) (S : SWK enc k w0 blk off d w) (hb : b ≤ d.size) (hsz : d.size < 1000000000)
    (h2 : SortedIn (lx (ltOf cf) tag) a m d) (ht : ∀ q, a ≤ q → q < m → tag d[q]! < tag d[m]!) :
    Calls P 87 #[.slice (some ⟨blk, off, none⟩) d.size cap, .int .i64 a, .int .i64 m, .int .i64 b, .func (.func g) #[] cb] w fun e w' => e = .returned (.tuple #[]) ∧ ∃ d', PermIn a b d d' ∧ SortedIn (lx (ltOf cf) tag) a b d' ∧ SWK enc k w0 blk off d' w' := by
  have mixed := L.mixed; have t0 := L.t0; have a0 := L.a0; have z0 := L.z0; have v0 := L.v0; have t3 := L.t3; have a3 := L.a3; have z3 := L.z3; have v3 := L.v3; have t4 := L.t4; have a4 := L.a4; have z4 := L.z4; have v4 := L.v4; have t23 := L.t23; have a23 := L.a23; have z23 := L.z23; have v23 := L.v23; have t66 := L.t66; have a66 := L.a66; have z66 := L.z66; have v66 := L.v66; have t80 := L.t80; have a80 := L.a80; have z80 := L.z80; have v80 := L.v80; have aE := L.aE; have zE := L.zE
  have HC : Aside _ := hcmp
  have S0 : Aside (SWK enc k w0 blk off d w) := S
  have H2 := Lib.hid h2
  have HT := Lib.hid ht
  have HO := Lib.hid hO
  obtain ⟨ee, hee⟩ : ∃ ee, (m : Int) - (a : Int) = ee := ⟨_, rfl⟩
  have hone : (ee == 1) = false := by simp; omega
  have hone2 : (b : Int) - (m : Int) = 1 := by omega
  have Hmb := Lib.hid hmb
  have hmsz : m < d.size := by omega
  clear hcmp S h2 ht hO hmb hb
  go_enter L.fsym, Tryz.ntmps87
  go_wp2
  go_loopg [14, 15] (m - a) (fun kx s14 s15 wr => ∃ i j : Nat, s14 = .int .i64 i ∧ s15 = .int .i64 j ∧ a ≤ i ∧ i ≤ j ∧ j ≤ m ∧ j - i ≤ kx ∧
    Aside ((∀ h, a ≤ h → h < i → ltOf cf d[m]! d[h]! = false) ∧ (∀ h, j ≤ h → h < m → ltOf cf d[m]! d[h]! = true)) ∧ Aside (SWK enc k w0 blk off d wr))
  case atStart => exact ⟨a, m, rfl, rfl, Nat.le_refl _, by omega, Nat.le_refl _, by omega, (show Aside _ from ⟨fun h h1 h2 => by omega, fun h h1 h2 => by omega⟩), S0⟩
  case round =>
    clear S0
    obtain ⟨i, j, rfl, rfl, hai, hij, hjb, hkx, HI, S1⟩ := hrel
    by_cases hlt : i < j
    · obtain ⟨h, hh⟩ : ∃ h, h = (i + j) / 2 := ⟨_, rfl⟩
      have hh1 : i ≤ h ∧ h < j := by omega
      have hltz : (i : Int) < (j : Int) := by omega
      have hw1 : IntKind.u64.wrap ((i : Int) + (j : Int)) = (i : Int) + (j : Int) := by rw [IntKind.wrap_u64]; omega
      have hmid : ((i : Int) + (j : Int)) / 2 = (h : Int) := by omega
      have hw2 : IntKind.i64.wrap (h : Int) = (h : Int) := by rw [IntKind.wrap_i64]; omega
      have Hh := Lib.hid hh
      clear hh
      have ea1 : ((m : Int)).toNat = m := by omega
      have pa1 : (0 : Int) ≤ (m : Int) := by omega
      have ba1 : (m : Int) < (d.size : Int) := by omega
      have ra1 : IntKind.i64.wrap ((m : Int)) = (m : Int) := by rw [IntKind.wrap_i64]; omega
      have ec1 : ((h : Int)).toNat = h := by omega
      have pc1 : (0 : Int) ≤ (h : Int) := by omega
      have bc1 : (h : Int) < (d.size : Int) := by omega
      have rc1 : IntKind.i64.wrap ((h : Int)) = (h : Int) := by rw [IntKind.wrap_i64]; omega
      obtain ⟨xx, hxx⟩ : ∃ x, x = d[m]! := ⟨_, rfl⟩
      obtain ⟨yy, hyy⟩ : ∃ x, x = d[h]! := ⟨_, rfl⟩
      have la1 := S1.out.ld R (by omega) P m (by omega)
      have lb1 := S1.out.ld R (by omega) P h (by omega)
      rw [← hxx] at la1
      rw [← hyy] at lb1
      have hc1 := S1.out.cmp HC.out (by omega) xx yy
      have hxl : ltOf cf d[m]! d[h]! = decide (cf xx yy < 0) := by rw [hxx, hyy]; rfl
      have Hxl := Lib.hid hxl
      clear hxx hyy hxl
      by_cases hv : cf xx yy < 0
      · have hd1 : decide (cf xx yy < 0) = true := decide_eq_true hv
        go_wp2_with fail
        go_quiet_grown (first | (go_at_fn g; refine Calls.grown_of (hc1 _ _)))
        have S2 : Aside (SWK enc k w0 blk off d (grow (wr.drewN nq) osq)) := S1.out.grown nq osq
        clear la1 lb1 hc1 S1
        generalize grow (wr.drewN nq) osq = w2 at S2 ⊢
        clear nq osq
        go_wp2
        go_roundg (h - i)
        case measure => omega
        case rel =>
          refine ⟨i, h, rfl, rfl, hai, by omega, by omega, by omega, (show Aside _ from ⟨HI.out.1, fun q h1 h2 => ?_⟩), S2⟩
          have hl : ltOf cf d[m]! d[h]! = true := by rw [Hxl.out]; exact hd1
          rcases Nat.lt_or_ge h q with h3 | h3
          · exact lt_up HO.out (H2.out h q (by omega) h3 (by omega)) hl
          · rw [show q = h by omega]; exact hl
      · have hd1 : decide (cf xx yy < 0) = false := decide_eq_false hv
        go_wp2_with fail
        go_quiet_grown (first | (go_at_fn g; refine Calls.grown_of (hc1 _ _)))
        have S2 : Aside (SWK enc k w0 blk off d (grow (wr.drewN nq) osq)) := S1.out.grown nq osq
        clear la1 lb1 hc1 S1
        generalize grow (wr.drewN nq) osq = w2 at S2 ⊢
        clear nq osq
        go_wp2
        go_roundg (j - (h + 1))
        case measure => omega
        case rel =>
          refine ⟨h + 1, j, by go_num, rfl, by omega, by omega, hjb, by omega, (show Aside _ from ⟨fun q h1 h2 => ?_, HI.out.2⟩), S2⟩
          have hl : ltOf cf d[m]! d[h]! = false := by rw [Hxl.out]; exact hd1
          rcases Nat.lt_or_ge q h with h3 | h3
          · cases e : ltOf cf d[m]! d[q]! with
            | false => rfl
            | true => rw [lt_up HO.out (H2.out q h (by omega) h3 (by omega)) e] at hl; cases hl
          · rw [show q = h by omega]; exact hl
    · have hji : j = i := by omega
      subst hji
      have S2 : Aside (SWK enc k w0 blk off d wr) := S1
      have HP0 : Aside ((∀ t : Nat, d[t]! = if t = m then d[m]! else if m < t ∧ t ≤ m then d[t - 1]! else d[t]!) ∧ PermIn a (m + 1) d d) := ⟨fun t => by
        by_cases c : t = m
        · rw [if_pos c, c]
        · rw [if_neg c, if_neg (by omega)], permIn_refl _ _ _⟩
      clear S1
      go_wp2
      go_loopg [17] (m - j) (fun kx s17 wr => ∃ (q : Nat) (dk : Array α), s17 = .int .i64 q ∧ j ≤ q ∧ q ≤ m ∧ q - j ≤ kx ∧ dk.size = d.size ∧
        Aside ((∀ t : Nat, dk[t]! = if t = q then d[m]! else if q < t ∧ t ≤ m then d[t - 1]! else d[t]!) ∧ PermIn a (m + 1) d dk) ∧ Aside (SWK enc k w0 blk off dk wr))
      case atStart => exact ⟨m, d, rfl, by omega, Nat.le_refl _, Nat.le_refl _, rfl, HP0, S2⟩
      case round =>
        clear S2 HP0
        obtain ⟨q, dk, rfl, hjq, hqm, hkx2, hds, HP, S1⟩ := hrel
        by_cases hql : j < q
        · have hq1 : (j : Int) < (q : Int) := by omega
          have ea44 : ((q : Int)).toNat = q := by omega
          have pa44 : (0 : Int) ≤ (q : Int) := by omega
          have ba44 : (q : Int) < (d.size : Int) := by omega
          have ra44 : IntKind.i64.wrap ((q : Int)) = (q : Int) := by rw [IntKind.wrap_i64]; omega
          have ec44 : ((q : Int) - 1).toNat = q - 1 := by omega
          have pc44 : (0 : Int) ≤ (q : Int) - 1 := by omega
          have bc44 : (q : Int) - 1 < (d.size : Int) := by omega
          have rc44 : IntKind.i64.wrap ((q : Int) - 1) = (q : Int) - 1 := by rw [IntKind.wrap_i64]; omega
          have S2 : Aside (SWK enc k w0 blk off (swp dk (q) (q - 1)) ((wr.drew.setCells blk (off + (q) * k) (enc dk[q - 1]!)).setCells blk (off + (q - 1) * k) (enc dk[q]!))) := S1.out.swapped R (q) (q - 1) (by omega) (by omega)
          have l44a := S1.out.ld1 R (by omega) P (q) (by omega)
          have l44b := S1.out.ld1 R (by omega) P (q - 1) (by omega)
          have s44a := S1.out.st1 R (by omega) P (q) (by omega) dk[q - 1]!
          have s44b := S1.out.st2 R (by omega) P (q) (q - 1) (by omega) (by omega) dk[q - 1]! dk[q]!
          have n44a : (enc dk[q]!).length = k := R.hk _
          have n44b : (enc dk[q - 1]!).length = k := R.hk _
          have hsz2 : (swp dk (q) (q - 1)).size = d.size := by rw [size_swp]; omega
          generalize enc dk[q]! = cI44 at S2 l44a s44b n44a
          generalize enc dk[q - 1]! = cJ44 at S2 l44b s44a s44b n44b
          have Hnew : Aside ((∀ t : Nat, (swp dk (q) (q - 1))[t]! = if t = q - 1 then d[m]! else if q - 1 < t ∧ t ≤ m then d[t - 1]! else d[t]!) ∧ PermIn a (m + 1) d (swp dk (q) (q - 1))) := by
            refine ⟨fun t => ?_, permIn_trans _ _ _ _ _ HP.out.2 (swp_permIn dk a (m + 1) q (q - 1) (by omega) (by omega) (by omega) (by omega) (by omega))⟩
            have e1 : dk[q]! = d[m]! := by rw [HP.out.1 q, if_pos rfl]
            have e2 : dk[q - 1]! = d[q - 1]! := by rw [HP.out.1 (q - 1), if_neg (by omega), if_neg (by omega)]
            rw [swp_get dk (by omega) (by omega), e1, e2, HP.out.1 t]
            by_cases c1 : t = q - 1
            · rw [if_pos c1, if_pos c1]
            · rw [if_neg c1, if_neg c1]
              by_cases c2 : t = q
              · rw [if_pos c2, if_pos (by omega), c2]
              · rw [if_neg c2, if_neg c2]
                by_cases c3 : q < t ∧ t ≤ m
                · rw [if_pos c3, if_pos (by omega)]
                · rw [if_neg c3, if_neg (by omega)]
          clear S1 HP
          go_wp2_with fail
          go_big_region_o
          clear l44a l44b s44a s44b
          generalize (wr.drew.setCells blk (off + (q) * k) cJ44).setCells blk (off + (q - 1) * k) cI44 = w2 at S2 ⊢
          go_wp2
          go_roundg (q - 1 - j)
          case measure => omega
          case rel => exact ⟨q - 1, swp dk (q) (q - 1), by go_num, by omega, by omega, by omega, hsz2, Hnew, S2⟩
        · have hq1 : ¬ (j : Int) < (q : Int) := by omega
          have hjq : q = j := by omega
          subst hjq
          go_wp2
          have hfin : SortedIn (lx (ltOf cf) tag) a (m + 1) dk := by
            refine merge_last HO.out d dk a m q H2.out HT.out hai (by omega) HI.out.1 HI.out.2 fun t h1 h2 => ?_
            rw [HP.out.1 t]
            by_cases c1 : t < q
            · rw [if_pos c1, if_neg (by omega), if_neg (by omega)]
            · rw [if_neg c1]
              by_cases c2 : t = q
              · rw [if_pos c2, if_pos c2]
              · rw [if_neg c2, if_neg c2, if_pos (by omega)]
          have hmb := Hmb.out
          refine bodyPost_ret (v := .tuple #[]) (by simp [results, go_sem]) rfl ⟨rfl, dk, ?_, ?_, S1.out⟩
          · rw [hmb]; exact HP.out.2
          · rw [hmb]; exact hfin
end
end Go.Proofs.YtejgcnmbngdkiaaGreatDoor
