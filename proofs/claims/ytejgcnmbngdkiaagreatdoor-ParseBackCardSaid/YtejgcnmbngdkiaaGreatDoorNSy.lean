/-
  VSym3, VSym4, VSym5: texts merged.
-/
import Derived.Test.YtejgcnmbngdkiaaGreatDoorNSw
import Derived.Deep.RegionWith
/-
  The library's merge of two sorted parts, one behind the other.
-/
namespace Go.Proofs.YtejgcnmbngdkiaaGreatDoor
section
open Go.Shelf Go.RowKit Go.Lib Go.Sort
set_option linter.unusedVariables false
variable {P : Program} {α : Type} [Inhabited α]

theorem turned_none (d : Array α) {s m e : Nat} (hsm : s ≤ m) (hme : m ≤ e) (h : s = m ∨ m = e) : turned d d s m e := ⟨rfl, fun t => by
  congr 1
  unfold tuI
  (repeat' split) <;> omega⟩
section
variable {lt : α → α → Bool} {tag : α → Nat} {d d2 : Array α} {a s mid e b : Nat}
theorem halves_left (h : Halves lt tag d a s mid e b) (hn : ¬ (a < s ∧ s < mid)) (h1 : a ≤ s) (h2 : s ≤ mid) : SortedIn (lx lt tag) a mid d := by
  rcases Nat.lt_or_ge a s with y | y
  · obtain rfl : s = mid := by omega
    exact h.s1
  · obtain rfl : s = a := by omega
    exact h.s2
theorem halves_pre (h : Halves lt tag d a s mid e b) (hme : mid ≤ e) (hp : PermIn a mid d d2) : SortedIn (lx lt tag) mid e d2 ∧ SortedIn (lx lt tag) e b d2 ∧ ∀ p q, mid ≤ p → p < e → e ≤ q → q < b → tag d2[p]! < tag d2[q]! := by
  refine ⟨fun p q x1 x2 x3 => ?_, fun p q x1 x2 x3 => ?_, fun p q x1 x2 x3 x4 => ?_⟩
  · rw [hp.2.1 p (Or.inr x1), hp.2.1 q (Or.inr (by omega))]; exact h.s3 _ _ x1 x2 x3
  · rw [hp.2.1 p (Or.inr (by omega)), hp.2.1 q (Or.inr (by omega))]; exact h.s4 _ _ x1 x2 x3
  · rw [hp.2.1 p (Or.inr x1), hp.2.1 q (Or.inr (by omega))]; exact h.t2 _ _ x1 x2 x3 x4
theorem halves_right (h : Halves lt tag d a s mid e b) (hp : PermIn a mid d d2) (hn : ¬ (mid < e ∧ e < b)) (h1 : mid ≤ e) (h2 : e ≤ b) : SortedIn (lx lt tag) mid b d2 := by
  have h3 := halves_pre h h1 hp
  rcases Nat.lt_or_ge mid e with y | y
  · obtain rfl : e = b := by omega
    exact h3.1
  · obtain rfl : e = mid := by omega
    exact h3.2.1
end

/-- What is asked of the merge of parts that are so long together. -/
def SymC (P : Program) (enc : α → List Value) (cf : α → α → Int) (tag : α → Nat) (k g : Nat) (cb : Array Value) (blk off cap : Nat) (d0 : Array α) (w0 : World) (n : Nat) : Prop :=
    ∀ (a m b : Nat) (d : Array α) (w : World), b - a ≤ n → a < m → m < b → b ≤ d.size → d0.size = d.size → SWK enc k w0 blk off d w → SortedIn (lx (ltOf cf) tag) a m d → SortedIn (lx (ltOf cf) tag) m b d →
      (∀ p q, a ≤ p → p < m → m ≤ q → q < b → tag d[p]! < tag d[q]!) →
    Calls P 87 #[.slice (some ⟨blk, off, none⟩) d.size cap, .int .i64 a, .int .i64 m, .int .i64 b, .func (.func g) #[] cb] w fun e w' => e = .returned (.tuple #[]) ∧ ∃ d', PermIn a b d d' ∧ SortedIn (lx (ltOf cf) tag) a b d' ∧ SWK enc k w0 blk off d' w'

set_option maxHeartbeats 8000000 in
set_option maxRecDepth 1000000 in
theorem sym_hi {k : Nat} (L : SortL P k) (enc : α → List Value) (cf : α → α → Int) (tag : α → Nat) (hO : SWO (ltOf cf)) (g : Nat) (cb : Array Value) (blk off cap : Nat) (d0 : Array α) (w0 : World)
    (eg : ∀ args w, (callFunc g args).run P w = .ok (.enter g args) w) (hcmp : CmpLays P g cb enc k cf blk off d0.size w0) (R : RowK enc k w0 blk off d0) (hsz0 : d0.size < 1000000000) (n : Nat) (ih : SymC P enc cf tag k g cb blk off cap d0 w0 n)
    (a m b : Nat) (d : Array α) (w : World) (hn : b - a ≤ n + 1) (ham : a < m) (hmb : m < b) (hb : b ≤ d.size) (hs : d0.size = d.size) (S : SWK enc k w0 blk off d w) (h1 : SortedIn (lx (ltOf cf) tag) a m d) (h2 : SortedIn (lx (ltOf cf) tag) m b d)
    (ht : ∀ p q, a ≤ p → p < m → m ≤ q → q < b → tag d[p]! < tag d[q]!) (c1 : ¬ m = a + 1) (c2 : ¬ b = m + 1) (hcs : (a + b) / 2 < m) :
    Calls P 87 #[.slice (some ⟨blk, off, none⟩) d.size cap, .int .i64 a, .int .i64 m, .int .i64 b, .func (.func g) #[] cb] w fun e w' => e = .returned (.tuple #[]) ∧ ∃ d', PermIn a b d d' ∧ SortedIn (lx (ltOf cf) tag) a b d' ∧ SWK enc k w0 blk off d' w' := by
    have hsz : d.size < 1000000000 := by omega
    have mixed := L.mixed; have t0 := L.t0; have a0 := L.a0; have z0 := L.z0; have v0 := L.v0; have t3 := L.t3; have a3 := L.a3; have z3 := L.z3; have v3 := L.v3; have t4 := L.t4; have a4 := L.a4; have z4 := L.z4; have v4 := L.v4; have t23 := L.t23; have a23 := L.a23; have z23 := L.z23; have v23 := L.v23; have t66 := L.t66; have a66 := L.a66; have z66 := L.z66; have v66 := L.v66; have t80 := L.t80; have a80 := L.a80; have z80 := L.z80; have v80 := L.v80; have aE := L.aE; have zE := L.zE
    have e71 : ∀ args w, (callFunc 87 args).run P w = .ok (.enter 87 args) w := enters_of L.fsym (by kernel_rfl) rfl
    have e74 : ∀ args w, (callFunc 99 args).run P w = .ok (.enter 99 args) w := enters_of L.frot (by kernel_rfl) rfl
    obtain ⟨mid, hmid⟩ : ∃ mid, mid = (a + b) / 2 := ⟨_, rfl⟩
    obtain ⟨p, hp⟩ : ∃ p, p = mid + m - 1 := ⟨_, rfl⟩
    obtain ⟨s0, r0, hc⟩ : ∃ s0 r0, (mid < m ∧ s0 = mid + m - b ∧ r0 = mid) ∨ (¬ mid < m ∧ s0 = a ∧ r0 = m) := by
      rcases Nat.lt_or_ge mid m with y | y
      · exact ⟨_, _, .inl ⟨y, rfl, rfl⟩⟩
      · exact ⟨_, _, .inr ⟨by omega, rfl, rfl⟩⟩
    have F1 : a ≤ s0 := by omega
    have F2 : s0 ≤ r0 := by omega
    have F3 : r0 ≤ m := by omega
    have F4 : r0 ≤ mid := by omega
    have F6 : mid + m - s0 ≤ b := by omega
    have E1 : s0 = a ∨ mid + m - s0 = b := by omega
    have E2 : r0 = m ∨ mid + m - r0 = m := by omega
    have F7 : a < mid ∧ mid < b := by omega
    obtain ⟨u1, hu1⟩ : ∃ u, (m : Int) - (a : Int) = u := ⟨_, rfl⟩
    have hu1' : (u1 == 1) = false := by simp; omega
    obtain ⟨u2, hu2⟩ : ∃ u, (b : Int) - (m : Int) = u := ⟨_, rfl⟩
    have hu2' : (u2 == 1) = false := by simp; omega
    have hw1 : IntKind.u64.wrap ((a : Int) + (b : Int)) = (a : Int) + (b : Int) := by rw [IntKind.wrap_u64]; omega
    have hmd : ((a : Int) + (b : Int)) / 2 = (mid : Int) := by omega
    have hw2 : IntKind.i64.wrap (mid : Int) = (mid : Int) := by rw [IntKind.wrap_i64]; omega
    have hpz : (mid : Int) + (m : Int) - 1 = (p : Int) := by omega
    have HC : Aside (CmpLays P g cb enc k cf blk off d.size w0) := by rw [← hs]; exact hcmp
    have S0 : Aside (SWK enc k w0 blk off d w) := S
    have H1 := Lib.hid h1
    have H2 := Lib.hid h2
    have HT := Lib.hid ht
    have HO := Lib.hid hO
    have Hih := Lib.hid ih
    have hcs2 := hcs
    have Hmid := Lib.hid hmid
    have Hp := Lib.hid hp
    have HF : Hid ((a ≤ s0 ∧ s0 ≤ r0 ∧ r0 ≤ m ∧ r0 ≤ mid ∧ mid + m - s0 ≤ b) ∧ (s0 = a ∨ mid + m - s0 = b) ∧ (r0 = m ∨ mid + m - r0 = m) ∧ a < mid ∧ mid < b) := Lib.hid ⟨⟨F1, F2, F3, F4, F6⟩, E1, E2, F7⟩
    clear hcmp S h1 h2 ht hO ih hcs hmid hp F1 F2 F3 F4 F6 E1 E2 F7 c1 c2
    have hs1 : (mid < m ∧ (mid : Int) + (m : Int) - (b : Int) = (s0 : Int) ∧ (mid : Int) = (r0 : Int)) ∨ (¬ mid < m ∧ (a : Int) = (s0 : Int) ∧ (m : Int) = (r0 : Int)) := by
      have := HF.out
      rcases hc with ⟨y1, y2, y3⟩ | ⟨y1, y2, y3⟩
      · exact .inl ⟨y1, by omega, by omega⟩
      · exact .inr ⟨y1, by omega, by omega⟩
    have hgo : (mid < m ∧ (mid : Int) + (m : Int) - (b : Int) = (s0 : Int) ∧ r0 = mid) ∨ (¬ mid < m ∧ s0 = a ∧ r0 = m) := by
      rcases hc with ⟨y1, y2, y3⟩ | ⟨y1, y2, y3⟩
      · exact .inl ⟨y1, by have := HF.out; omega, y3⟩
      · exact .inr ⟨y1, y2, y3⟩
    clear hs1 hc
    go_enter L.fsym, Tryz.ntmps87
    rcases hgo with ⟨g1, g2, g3⟩ | ⟨g1, g2, g3⟩
    · have g1' : (mid : Int) < (m : Int) := by omega
      have g4 : mid = r0 := g3.symm
      clear g3
      subst g4
      have HF2 := HF
      go_wp2
      go_loopg [20, 21] (mid - s0) (fun kx s20 s21 wr => ∃ s r : Nat, s20 = .int .i64 s ∧ s21 = .int .i64 r ∧ s0 ≤ s ∧ s ≤ r ∧ r ≤ mid ∧ r - s ≤ kx ∧
        Aside ((∀ c, s0 ≤ c → c < s → ltOf cf d[p - c]! d[c]! = false) ∧ (∀ c, r ≤ c → c < mid → ltOf cf d[p - c]! d[c]! = true)) ∧ Aside (SWK enc k w0 blk off d wr))
      case atStart => exact ⟨s0, mid, rfl, rfl, Nat.le_refl _, HF.out.1.2.1, Nat.le_refl _, Nat.le_refl _, (show Aside _ from ⟨fun c x1 x2 => by omega, fun c x1 x2 => by omega⟩), S0⟩
      case round =>
        clear S0
        obtain ⟨s, r, rfl, rfl, hss, hsr, hrr, hkx, HI, S1⟩ := hrel
        have hF := HF.out
        have hpd := Hp.out
        by_cases hlt : s < r
        · obtain ⟨c, hc⟩ : ∃ c, c = (s + r) / 2 := ⟨_, rfl⟩
          have hc1 : s ≤ c ∧ c < r := by omega
          have hpc : m ≤ p - c ∧ p - c < b ∧ c ≤ p := by omega
          have hltz : (s : Int) < (r : Int) := by omega
          have hw3 : IntKind.u64.wrap ((s : Int) + (r : Int)) = (s : Int) + (r : Int) := by rw [IntKind.wrap_u64]; omega
          have hcd : ((s : Int) + (r : Int)) / 2 = (c : Int) := by omega
          have hw4 : IntKind.i64.wrap (c : Int) = (c : Int) := by rw [IntKind.wrap_i64]; omega
          have Hc := Lib.hid hc
          have ea1 : ((p : Int) - (c : Int)).toNat = (p - c) := by omega
          have pa1 : (0 : Int) ≤ (p : Int) - (c : Int) := by omega
          have ba1 : (p : Int) - (c : Int) < (d.size : Int) := by omega
          have ra1 : IntKind.i64.wrap ((p : Int) - (c : Int)) = (p : Int) - (c : Int) := by rw [IntKind.wrap_i64]; omega
          have ec1 : ((c : Int)).toNat = c := by omega
          have pc1 : (0 : Int) ≤ (c : Int) := by omega
          have bc1 : (c : Int) < (d.size : Int) := by omega
          have rc1 : IntKind.i64.wrap ((c : Int)) = (c : Int) := by rw [IntKind.wrap_i64]; omega
          obtain ⟨xx, hxx⟩ : ∃ x, x = d[p - c]! := ⟨_, rfl⟩
          obtain ⟨yy, hyy⟩ : ∃ x, x = d[c]! := ⟨_, rfl⟩
          have la1 := S1.out.ld R (by omega) P (p - c) (by omega)
          have lb1 := S1.out.ld R (by omega) P c (by omega)
          rw [← hxx] at la1
          rw [← hyy] at lb1
          have hcc := S1.out.cmp HC.out (by omega) xx yy
          have hxl : ltOf cf d[p - c]! d[c]! = decide (cf xx yy < 0) := by rw [hxx, hyy]; rfl
          have Hxl := Lib.hid hxl
          have HFF := Lib.hid hF
          have Hpd := Lib.hid hpd
          clear hxx hyy hxl hc hF hpd
          by_cases hv : cf xx yy < 0
          · have hd1 : decide (cf xx yy < 0) = true := decide_eq_true hv
            go_wp2_with fail
            go_quiet_grown (first | (go_at_fn g; refine Calls.grown_of (hcc _ _)))
            have S2 : Aside (SWK enc k w0 blk off d (grow (wr.drewN nq) osq)) := S1.out.grown nq osq
            clear la1 lb1 hcc S1
            generalize grow (wr.drewN nq) osq = w2 at S2 ⊢
            clear nq osq
            go_wp2
            go_roundg (c - s)
            case measure => omega
            case rel =>
              refine ⟨s, c, rfl, rfl, hss, by omega, by omega, by omega, (show Aside _ from ⟨HI.out.1, fun q x1 x2 => ?_⟩), S2⟩
              have hF := HFF.out
              have hpd := Hpd.out
              have hl : ltOf cf d[p - c]! d[c]! = true := by rw [Hxl.out]; exact hd1
              rcases Nat.lt_or_ge c q with x3 | x3
              · exact lt_up HO.out (H1.out c q (by omega) x3 (by omega)) (lt_down HO.out (H2.out (p - q) (p - c) (by omega) (by omega) (by omega)) hl)
              · rw [show q = c by omega]; exact hl
          · have hd1 : decide (cf xx yy < 0) = false := decide_eq_false hv
            go_wp2_with fail
            go_quiet_grown (first | (go_at_fn g; refine Calls.grown_of (hcc _ _)))
            have S2 : Aside (SWK enc k w0 blk off d (grow (wr.drewN nq) osq)) := S1.out.grown nq osq
            clear la1 lb1 hcc S1
            generalize grow (wr.drewN nq) osq = w2 at S2 ⊢
            clear nq osq
            go_wp2
            go_roundg (r - (c + 1))
            case measure => omega
            case rel =>
              refine ⟨c + 1, r, by go_num, rfl, by omega, by omega, hrr, by omega, (show Aside _ from ⟨fun q x1 x2 => ?_, HI.out.2⟩), S2⟩
              have hF := HFF.out
              have hpd := Hpd.out
              have hl : ltOf cf d[p - c]! d[c]! = false := by rw [Hxl.out]; exact hd1
              rcases Nat.lt_or_ge q c with x3 | x3
              · cases y : ltOf cf d[p - q]! d[q]! with
                | false => rfl
                | true => rw [lt_down HO.out (H2.out (p - c) (p - q) (by omega) (by omega) (by omega)) (lt_up HO.out (H1.out q c (by omega) x3 (by omega)) y)] at hl; cases hl
              · rw [show q = c by omega]; exact hl
        · have hrs : r = s := by omega
          subst hrs
          have hE := HI.out
          obtain ⟨e, he⟩ : ∃ e, e = mid + m - r := ⟨_, rfl⟩
          have hsm : r ≤ m := by omega
          have hme : m ≤ e := by omega
          have heb : e ≤ b := by omega
          have hrm : r ≤ mid := by omega
          have hmide : mid ≤ e := by omega
          have har : a ≤ r := by omega
          have hez : (mid : Int) + (m : Int) - (r : Int) = (e : Int) := by omega
          have hmid2 : r + (e - m) = mid := by omega
          have hA : a < r → e < b → ltOf cf d[e]! d[r - 1]! = false := fun x1 x2 => by
            have h := hE.1 (r - 1) (by omega) (by omega)
            rw [show p - (r - 1) = e by omega] at h
            exact h
          have hB : r < m → m < e → ltOf cf d[e - 1]! d[r]! = true := fun x1 x2 => by
            have h := hE.2 r (by omega) (by omega)
            rw [show p - r = e - 1 by omega] at h
            exact h
          have hH : ∀ d1 : Array α, turned d d1 r m e → Halves (ltOf cf) tag d1 a r mid e b := fun d1 hd => by
            have h := halves_of HO.out d d1 a r m e b H1.out H2.out HT.out har hsm hme heb hA hB hd
            rw [hmid2] at h
            exact h
          have HH := Lib.hid hH
          have Hrot := Lib.hid (fun (x1 : r < m) (x2 : m < e) => rotate_K L enc g cb blk off cap r m e d0 d w0 wr R hs S1.out x1 x2 (by omega) (by omega))
          have F7 := hF.2.2.2
          clear hE hA hB hH HI hF hpd he hmid2 HF HF2
          by_cases k1 : r < m ∧ m < e
          · by_cases k2 : a < r ∧ r < mid
            · by_cases k3 : mid < e ∧ e < b
              · first
                  | (exfalso; omega)
                  | (have q1 : (r : Int) < (m : Int) := by omega
                     have q2 : (m : Int) < (e : Int) := by omega
                     have q3 : (a : Int) < (r : Int) := by omega
                     have q4 : (r : Int) < (mid : Int) := by omega
                     have q5 : (mid : Int) < (e : Int) := by omega
                     have q6 : (e : Int) < (b : Int) := by omega
                     go_wp2_with (first
                       | (go_at_fn 99; refine (Hrot.out k1.1 k1.2).mono ?_; rintro e' w1 ⟨rfl, d1, hd, hpm, hS⟩; have hz1 : d1.size = d.size := hd.1; have HH1 := Lib.hid (HH.out d1 hd); have HP1 := Lib.hid hpm; have HS1 := Lib.hid hS; clear hd hpm hS)
                       | (go_at_call_of 87 (Value.int .i64 (r : Int)); have hcl := Hih.out a r mid d1 _ (by omega) k2.1 k2.2 (by omega) (by omega) HS1.out HH1.out.s1 HH1.out.s2 HH1.out.t1; rw [hz1] at hcl; refine hcl.mono ?_; rintro e' w2 ⟨rfl, d2, hpm, hso, hS⟩; have hz2 : d2.size = d.size := hpm.1.trans hz1; have HP2 := Lib.hid hpm; have HO2 := Lib.hid hso; have HS2 := Lib.hid hS; clear hcl hpm hso hS)
                       | (go_at_call_of 87 (Value.int .i64 (e : Int)); have hcr := Hih.out mid e b d2 _ (by omega) k3.1 k3.2 (by omega) (by omega) HS2.out (halves_pre HH1.out hmide HP2.out).1 (halves_pre HH1.out hmide HP2.out).2.1 (halves_pre HH1.out hmide HP2.out).2.2; rw [hz2] at hcr; refine hcr.mono ?_; rintro e' w3 ⟨rfl, d3, hpm, hso, hS⟩; have HP3 := Lib.hid hpm; have HO3 := Lib.hid hso; have HS3 := Lib.hid hS; clear hcr hpm hso hS))
                     refine bodyPost_end (results_none (by simp [go_sem]) _ _ _) rfl ⟨rfl, d3, ?_, halves_join HH1.out (by omega) (by omega) (by omega) HP2.out HP3.out HO2.out HO3.out, HS3.out⟩
                     exact permIn_trans _ _ _ _ _ (permIn_trans _ _ _ _ _ (permIn_mono _ _ _ _ _ _ har heb (by omega) HP1.out) (permIn_mono _ _ _ _ _ _ (Nat.le_refl _) (by omega) (by omega) HP2.out)) (permIn_mono _ _ _ _ _ _ (by omega) (Nat.le_refl _) (by omega) HP3.out))
              · first
                  | (exfalso; omega)
                  | (have q1 : (r : Int) < (m : Int) := by omega
                     have q2 : (m : Int) < (e : Int) := by omega
                     have q3 : (a : Int) < (r : Int) := by omega
                     have q4 : (r : Int) < (mid : Int) := by omega
                     have q5 : (decide (mid < e) && decide (e < b)) = false := by
                       cases h1 : decide (mid < e)
                       · rfl
                       · cases h2 : decide (e < b)
                         · rfl
                         · exfalso; have := of_decide_eq_true h1; have := of_decide_eq_true h2; omega
                     go_wp2_with (first
                       | (go_at_fn 99; refine (Hrot.out k1.1 k1.2).mono ?_; rintro e' w1 ⟨rfl, d1, hd, hpm, hS⟩; have hz1 : d1.size = d.size := hd.1; have HH1 := Lib.hid (HH.out d1 hd); have HP1 := Lib.hid hpm; have HS1 := Lib.hid hS; clear hd hpm hS)
                       | (go_at_call_of 87 (Value.int .i64 (r : Int)); have hcl := Hih.out a r mid d1 _ (by omega) k2.1 k2.2 (by omega) (by omega) HS1.out HH1.out.s1 HH1.out.s2 HH1.out.t1; rw [hz1] at hcl; refine hcl.mono ?_; rintro e' w2 ⟨rfl, d2, hpm, hso, hS⟩; have hz2 : d2.size = d.size := hpm.1.trans hz1; have HP2 := Lib.hid hpm; have HO2 := Lib.hid hso; have HS2 := Lib.hid hS; clear hcl hpm hso hS))
                     have HP3 : Hid (PermIn mid b d2 d2) := Lib.hid (permIn_refl _ _ _)
                     have HO3 := Lib.hid (halves_right HH1.out HP2.out k3 hmide heb)
                     have HS3 := HS2
                     refine bodyPost_end (results_none (by simp [go_sem]) _ _ _) rfl ⟨rfl, d2, ?_, halves_join HH1.out (by omega) (by omega) (by omega) HP2.out HP3.out HO2.out HO3.out, HS3.out⟩
                     exact permIn_trans _ _ _ _ _ (permIn_trans _ _ _ _ _ (permIn_mono _ _ _ _ _ _ har heb (by omega) HP1.out) (permIn_mono _ _ _ _ _ _ (Nat.le_refl _) (by omega) (by omega) HP2.out)) (permIn_mono _ _ _ _ _ _ (by omega) (Nat.le_refl _) (by omega) HP3.out))
            · by_cases k3 : mid < e ∧ e < b
              · first
                  | (exfalso; omega)
                  | (have q1 : (r : Int) < (m : Int) := by omega
                     have q2 : (m : Int) < (e : Int) := by omega
                     have q3 : (decide (a < r) && decide (r < mid)) = false := by
                       cases h1 : decide (a < r)
                       · rfl
                       · cases h2 : decide (r < mid)
                         · rfl
                         · exfalso; have := of_decide_eq_true h1; have := of_decide_eq_true h2; omega
                     have q5 : (mid : Int) < (e : Int) := by omega
                     have q6 : (e : Int) < (b : Int) := by omega
                     go_wp2_with (first
                       | (go_at_fn 99; refine (Hrot.out k1.1 k1.2).mono ?_; rintro e' w1 ⟨rfl, d1, hd, hpm, hS⟩; have hz1 : d1.size = d.size := hd.1; have HH1 := Lib.hid (HH.out d1 hd); have HP1 := Lib.hid hpm; have HS1 := Lib.hid hS; clear hd hpm hS)
                       | (go_at_call_of 87 (Value.int .i64 (e : Int)); have hz2 : d1.size = d.size := hz1; have HP2 : Hid (PermIn a mid d1 d1) := Lib.hid (permIn_refl _ _ _); have HO2 := Lib.hid (halves_left HH1.out k2 har hrm); have HS2 := HS1; have hcr := Hih.out mid e b d1 _ (by omega) k3.1 k3.2 (by omega) (by omega) HS2.out (halves_pre HH1.out hmide HP2.out).1 (halves_pre HH1.out hmide HP2.out).2.1 (halves_pre HH1.out hmide HP2.out).2.2; rw [hz2] at hcr; refine hcr.mono ?_; rintro e' w3 ⟨rfl, d3, hpm, hso, hS⟩; have HP3 := Lib.hid hpm; have HO3 := Lib.hid hso; have HS3 := Lib.hid hS; clear hcr hpm hso hS))
                     refine bodyPost_end (results_none (by simp [go_sem]) _ _ _) rfl ⟨rfl, d3, ?_, halves_join HH1.out (by omega) (by omega) (by omega) HP2.out HP3.out HO2.out HO3.out, HS3.out⟩
                     exact permIn_trans _ _ _ _ _ (permIn_trans _ _ _ _ _ (permIn_mono _ _ _ _ _ _ har heb (by omega) HP1.out) (permIn_mono _ _ _ _ _ _ (Nat.le_refl _) (by omega) (by omega) HP2.out)) (permIn_mono _ _ _ _ _ _ (by omega) (Nat.le_refl _) (by omega) HP3.out))
              · first
                  | (exfalso; omega)
                  | (have q1 : (r : Int) < (m : Int) := by omega
                     have q2 : (m : Int) < (e : Int) := by omega
                     have q3 : (decide (a < r) && decide (r < mid)) = false := by
                       cases h1 : decide (a < r)
                       · rfl
                       · cases h2 : decide (r < mid)
                         · rfl
                         · exfalso; have := of_decide_eq_true h1; have := of_decide_eq_true h2; omega
                     have q5 : (decide (mid < e) && decide (e < b)) = false := by
                       cases h1 : decide (mid < e)
                       · rfl
                       · cases h2 : decide (e < b)
                         · rfl
                         · exfalso; have := of_decide_eq_true h1; have := of_decide_eq_true h2; omega
                     go_wp2_with (first
                       | (go_at_fn 99; refine (Hrot.out k1.1 k1.2).mono ?_; rintro e' w1 ⟨rfl, d1, hd, hpm, hS⟩; have hz1 : d1.size = d.size := hd.1; have HH1 := Lib.hid (HH.out d1 hd); have HP1 := Lib.hid hpm; have HS1 := Lib.hid hS; clear hd hpm hS))
                     have hz2 : d1.size = d.size := hz1
                     have HP2 : Hid (PermIn a mid d1 d1) := Lib.hid (permIn_refl _ _ _)
                     have HO2 := Lib.hid (halves_left HH1.out k2 har hrm)
                     have HS2 := HS1
                     have HP3 : Hid (PermIn mid b d1 d1) := Lib.hid (permIn_refl _ _ _)
                     have HO3 := Lib.hid (halves_right HH1.out HP2.out k3 hmide heb)
                     have HS3 := HS2
                     refine bodyPost_end (results_none (by simp [go_sem]) _ _ _) rfl ⟨rfl, d1, ?_, halves_join HH1.out (by omega) (by omega) (by omega) HP2.out HP3.out HO2.out HO3.out, HS3.out⟩
                     exact permIn_trans _ _ _ _ _ (permIn_trans _ _ _ _ _ (permIn_mono _ _ _ _ _ _ har heb (by omega) HP1.out) (permIn_mono _ _ _ _ _ _ (Nat.le_refl _) (by omega) (by omega) HP2.out)) (permIn_mono _ _ _ _ _ _ (by omega) (Nat.le_refl _) (by omega) HP3.out))
          · by_cases k2 : a < r ∧ r < mid
            · by_cases k3 : mid < e ∧ e < b
              · first
                  | (exfalso; omega)
                  | (have q1 : (decide (r < m) && decide (m < e)) = false := by
                       cases h1 : decide (r < m)
                       · rfl
                       · cases h2 : decide (m < e)
                         · rfl
                         · exfalso; have := of_decide_eq_true h1; have := of_decide_eq_true h2; omega
                     have q3 : (a : Int) < (r : Int) := by omega
                     have q4 : (r : Int) < (mid : Int) := by omega
                     have q5 : (mid : Int) < (e : Int) := by omega
                     have q6 : (e : Int) < (b : Int) := by omega
                     have hz1 : d.size = d.size := rfl
                     have HH1 := Lib.hid (HH.out d (turned_none d hsm hme (by omega)))
                     have HP1 : Hid (PermIn r e d d) := Lib.hid (permIn_refl _ _ _)
                     have HS1 := Lib.hid S1.out
                     go_wp2_with (first
                       | (go_at_call_of 87 (Value.int .i64 (r : Int)); have hcl := Hih.out a r mid d _ (by omega) k2.1 k2.2 (by omega) (by omega) HS1.out HH1.out.s1 HH1.out.s2 HH1.out.t1; rw [hz1] at hcl; refine hcl.mono ?_; rintro e' w2 ⟨rfl, d2, hpm, hso, hS⟩; have hz2 : d2.size = d.size := hpm.1.trans hz1; have HP2 := Lib.hid hpm; have HO2 := Lib.hid hso; have HS2 := Lib.hid hS; clear hcl hpm hso hS)
                       | (go_at_call_of 87 (Value.int .i64 (e : Int)); have hcr := Hih.out mid e b d2 _ (by omega) k3.1 k3.2 (by omega) (by omega) HS2.out (halves_pre HH1.out hmide HP2.out).1 (halves_pre HH1.out hmide HP2.out).2.1 (halves_pre HH1.out hmide HP2.out).2.2; rw [hz2] at hcr; refine hcr.mono ?_; rintro e' w3 ⟨rfl, d3, hpm, hso, hS⟩; have HP3 := Lib.hid hpm; have HO3 := Lib.hid hso; have HS3 := Lib.hid hS; clear hcr hpm hso hS))
                     refine bodyPost_end (results_none (by simp [go_sem]) _ _ _) rfl ⟨rfl, d3, ?_, halves_join HH1.out (by omega) (by omega) (by omega) HP2.out HP3.out HO2.out HO3.out, HS3.out⟩
                     exact permIn_trans _ _ _ _ _ (permIn_trans _ _ _ _ _ (permIn_mono _ _ _ _ _ _ har heb (by omega) HP1.out) (permIn_mono _ _ _ _ _ _ (Nat.le_refl _) (by omega) (by omega) HP2.out)) (permIn_mono _ _ _ _ _ _ (by omega) (Nat.le_refl _) (by omega) HP3.out))
              · first
                  | (exfalso; omega)
                  | (have q1 : (decide (r < m) && decide (m < e)) = false := by
                       cases h1 : decide (r < m)
                       · rfl
                       · cases h2 : decide (m < e)
                         · rfl
                         · exfalso; have := of_decide_eq_true h1; have := of_decide_eq_true h2; omega
                     have q3 : (a : Int) < (r : Int) := by omega
                     have q4 : (r : Int) < (mid : Int) := by omega
                     have q5 : (decide (mid < e) && decide (e < b)) = false := by
                       cases h1 : decide (mid < e)
                       · rfl
                       · cases h2 : decide (e < b)
                         · rfl
                         · exfalso; have := of_decide_eq_true h1; have := of_decide_eq_true h2; omega
                     have hz1 : d.size = d.size := rfl
                     have HH1 := Lib.hid (HH.out d (turned_none d hsm hme (by omega)))
                     have HP1 : Hid (PermIn r e d d) := Lib.hid (permIn_refl _ _ _)
                     have HS1 := Lib.hid S1.out
                     go_wp2_with (first
                       | (go_at_call_of 87 (Value.int .i64 (r : Int)); have hcl := Hih.out a r mid d _ (by omega) k2.1 k2.2 (by omega) (by omega) HS1.out HH1.out.s1 HH1.out.s2 HH1.out.t1; rw [hz1] at hcl; refine hcl.mono ?_; rintro e' w2 ⟨rfl, d2, hpm, hso, hS⟩; have hz2 : d2.size = d.size := hpm.1.trans hz1; have HP2 := Lib.hid hpm; have HO2 := Lib.hid hso; have HS2 := Lib.hid hS; clear hcl hpm hso hS))
                     have HP3 : Hid (PermIn mid b d2 d2) := Lib.hid (permIn_refl _ _ _)
                     have HO3 := Lib.hid (halves_right HH1.out HP2.out k3 hmide heb)
                     have HS3 := HS2
                     refine bodyPost_end (results_none (by simp [go_sem]) _ _ _) rfl ⟨rfl, d2, ?_, halves_join HH1.out (by omega) (by omega) (by omega) HP2.out HP3.out HO2.out HO3.out, HS3.out⟩
                     exact permIn_trans _ _ _ _ _ (permIn_trans _ _ _ _ _ (permIn_mono _ _ _ _ _ _ har heb (by omega) HP1.out) (permIn_mono _ _ _ _ _ _ (Nat.le_refl _) (by omega) (by omega) HP2.out)) (permIn_mono _ _ _ _ _ _ (by omega) (Nat.le_refl _) (by omega) HP3.out))
            · by_cases k3 : mid < e ∧ e < b
              · first
                  | (exfalso; omega)
                  | (have q1 : (decide (r < m) && decide (m < e)) = false := by
                       cases h1 : decide (r < m)
                       · rfl
                       · cases h2 : decide (m < e)
                         · rfl
                         · exfalso; have := of_decide_eq_true h1; have := of_decide_eq_true h2; omega
                     have q3 : (decide (a < r) && decide (r < mid)) = false := by
                       cases h1 : decide (a < r)
                       · rfl
                       · cases h2 : decide (r < mid)
                         · rfl
                         · exfalso; have := of_decide_eq_true h1; have := of_decide_eq_true h2; omega
                     have q5 : (mid : Int) < (e : Int) := by omega
                     have q6 : (e : Int) < (b : Int) := by omega
                     have hz1 : d.size = d.size := rfl
                     have HH1 := Lib.hid (HH.out d (turned_none d hsm hme (by omega)))
                     have HP1 : Hid (PermIn r e d d) := Lib.hid (permIn_refl _ _ _)
                     have HS1 := Lib.hid S1.out
                     go_wp2_with (first
                       | (go_at_call_of 87 (Value.int .i64 (e : Int)); have hz2 : d.size = d.size := hz1; have HP2 : Hid (PermIn a mid d d) := Lib.hid (permIn_refl _ _ _); have HO2 := Lib.hid (halves_left HH1.out k2 har hrm); have HS2 := HS1; have hcr := Hih.out mid e b d _ (by omega) k3.1 k3.2 (by omega) (by omega) HS2.out (halves_pre HH1.out hmide HP2.out).1 (halves_pre HH1.out hmide HP2.out).2.1 (halves_pre HH1.out hmide HP2.out).2.2; rw [hz2] at hcr; refine hcr.mono ?_; rintro e' w3 ⟨rfl, d3, hpm, hso, hS⟩; have HP3 := Lib.hid hpm; have HO3 := Lib.hid hso; have HS3 := Lib.hid hS; clear hcr hpm hso hS))
                     refine bodyPost_end (results_none (by simp [go_sem]) _ _ _) rfl ⟨rfl, d3, ?_, halves_join HH1.out (by omega) (by omega) (by omega) HP2.out HP3.out HO2.out HO3.out, HS3.out⟩
                     exact permIn_trans _ _ _ _ _ (permIn_trans _ _ _ _ _ (permIn_mono _ _ _ _ _ _ har heb (by omega) HP1.out) (permIn_mono _ _ _ _ _ _ (Nat.le_refl _) (by omega) (by omega) HP2.out)) (permIn_mono _ _ _ _ _ _ (by omega) (Nat.le_refl _) (by omega) HP3.out))
              · first
                  | (exfalso; omega)
                  | (have q1 : (decide (r < m) && decide (m < e)) = false := by
                       cases h1 : decide (r < m)
                       · rfl
                       · cases h2 : decide (m < e)
                         · rfl
                         · exfalso; have := of_decide_eq_true h1; have := of_decide_eq_true h2; omega
                     have q3 : (decide (a < r) && decide (r < mid)) = false := by
                       cases h1 : decide (a < r)
                       · rfl
                       · cases h2 : decide (r < mid)
                         · rfl
                         · exfalso; have := of_decide_eq_true h1; have := of_decide_eq_true h2; omega
                     have q5 : (decide (mid < e) && decide (e < b)) = false := by
                       cases h1 : decide (mid < e)
                       · rfl
                       · cases h2 : decide (e < b)
                         · rfl
                         · exfalso; have := of_decide_eq_true h1; have := of_decide_eq_true h2; omega
                     have hz1 : d.size = d.size := rfl
                     have HH1 := Lib.hid (HH.out d (turned_none d hsm hme (by omega)))
                     have HP1 : Hid (PermIn r e d d) := Lib.hid (permIn_refl _ _ _)
                     have HS1 := Lib.hid S1.out
                     go_wp2
                     have hz2 : d.size = d.size := hz1
                     have HP2 : Hid (PermIn a mid d d) := Lib.hid (permIn_refl _ _ _)
                     have HO2 := Lib.hid (halves_left HH1.out k2 har hrm)
                     have HS2 := HS1
                     have HP3 : Hid (PermIn mid b d d) := Lib.hid (permIn_refl _ _ _)
                     have HO3 := Lib.hid (halves_right HH1.out HP2.out k3 hmide heb)
                     have HS3 := HS2
                     refine bodyPost_end (results_none (by simp [go_sem]) _ _ _) rfl ⟨rfl, d, ?_, halves_join HH1.out (by omega) (by omega) (by omega) HP2.out HP3.out HO2.out HO3.out, HS3.out⟩
                     exact permIn_trans _ _ _ _ _ (permIn_trans _ _ _ _ _ (permIn_mono _ _ _ _ _ _ har heb (by omega) HP1.out) (permIn_mono _ _ _ _ _ _ (Nat.le_refl _) (by omega) (by omega) HP2.out)) (permIn_mono _ _ _ _ _ _ (by omega) (Nat.le_refl _) (by omega) HP3.out))
    · exact absurd hcs2 (by have := Hmid.out; omega)
end
end Go.Proofs.YtejgcnmbngdkiaaGreatDoor
/-
  The library's merge of two sorted parts: the middle lies in the second one.
-/
namespace Go.Proofs.YtejgcnmbngdkiaaGreatDoor
section
open Go.Shelf Go.RowKit Go.Lib Go.Sort
set_option linter.unusedVariables false
variable {P : Program} {α : Type} [Inhabited α]

set_option maxHeartbeats 8000000 in
set_option maxRecDepth 1000000 in
theorem sym_lo {k : Nat} (L : SortL P k) (enc : α → List Value) (cf : α → α → Int) (tag : α → Nat) (hO : SWO (ltOf cf)) (g : Nat) (cb : Array Value) (blk off cap : Nat) (d0 : Array α) (w0 : World)
    (eg : ∀ args w, (callFunc g args).run P w = .ok (.enter g args) w) (hcmp : CmpLays P g cb enc k cf blk off d0.size w0) (R : RowK enc k w0 blk off d0) (hsz0 : d0.size < 1000000000) (n : Nat) (ih : SymC P enc cf tag k g cb blk off cap d0 w0 n)
    (a m b : Nat) (d : Array α) (w : World) (hn : b - a ≤ n + 1) (ham : a < m) (hmb : m < b) (hb : b ≤ d.size) (hs : d0.size = d.size) (S : SWK enc k w0 blk off d w) (h1 : SortedIn (lx (ltOf cf) tag) a m d) (h2 : SortedIn (lx (ltOf cf) tag) m b d)
    (ht : ∀ p q, a ≤ p → p < m → m ≤ q → q < b → tag d[p]! < tag d[q]!) (c1 : ¬ m = a + 1) (c2 : ¬ b = m + 1) (hcs : ¬ (a + b) / 2 < m) :
    Calls P 87 #[.slice (some ⟨blk, off, none⟩) d.size cap, .int .i64 a, .int .i64 m, .int .i64 b, .func (.func g) #[] cb] w fun e w' => e = .returned (.tuple #[]) ∧ ∃ d', PermIn a b d d' ∧ SortedIn (lx (ltOf cf) tag) a b d' ∧ SWK enc k w0 blk off d' w' := by
    have hsz : d.size < 1000000000 := by omega
    have mixed := L.mixed; have t0 := L.t0; have a0 := L.a0; have z0 := L.z0; have v0 := L.v0; have t3 := L.t3; have a3 := L.a3; have z3 := L.z3; have v3 := L.v3; have t4 := L.t4; have a4 := L.a4; have z4 := L.z4; have v4 := L.v4; have t23 := L.t23; have a23 := L.a23; have z23 := L.z23; have v23 := L.v23; have t66 := L.t66; have a66 := L.a66; have z66 := L.z66; have v66 := L.v66; have t80 := L.t80; have a80 := L.a80; have z80 := L.z80; have v80 := L.v80; have aE := L.aE; have zE := L.zE
    have e71 : ∀ args w, (callFunc 87 args).run P w = .ok (.enter 87 args) w := enters_of L.fsym (by kernel_rfl) rfl
    have e74 : ∀ args w, (callFunc 99 args).run P w = .ok (.enter 99 args) w := enters_of L.frot (by kernel_rfl) rfl
    obtain ⟨mid, hmid⟩ : ∃ mid, mid = (a + b) / 2 := ⟨_, rfl⟩
    obtain ⟨p, hp⟩ : ∃ p, p = mid + m - 1 := ⟨_, rfl⟩
    obtain ⟨s0, r0, hc⟩ : ∃ s0 r0, (mid < m ∧ s0 = mid + m - b ∧ r0 = mid) ∨ (¬ mid < m ∧ s0 = a ∧ r0 = m) := by
      rcases Nat.lt_or_ge mid m with y | y
      · exact ⟨_, _, .inl ⟨y, rfl, rfl⟩⟩
      · exact ⟨_, _, .inr ⟨by omega, rfl, rfl⟩⟩
    have F1 : a ≤ s0 := by omega
    have F2 : s0 ≤ r0 := by omega
    have F3 : r0 ≤ m := by omega
    have F4 : r0 ≤ mid := by omega
    have F6 : mid + m - s0 ≤ b := by omega
    have E1 : s0 = a ∨ mid + m - s0 = b := by omega
    have E2 : r0 = m ∨ mid + m - r0 = m := by omega
    have F7 : a < mid ∧ mid < b := by omega
    obtain ⟨u1, hu1⟩ : ∃ u, (m : Int) - (a : Int) = u := ⟨_, rfl⟩
    have hu1' : (u1 == 1) = false := by simp; omega
    obtain ⟨u2, hu2⟩ : ∃ u, (b : Int) - (m : Int) = u := ⟨_, rfl⟩
    have hu2' : (u2 == 1) = false := by simp; omega
    have hw1 : IntKind.u64.wrap ((a : Int) + (b : Int)) = (a : Int) + (b : Int) := by rw [IntKind.wrap_u64]; omega
    have hmd : ((a : Int) + (b : Int)) / 2 = (mid : Int) := by omega
    have hw2 : IntKind.i64.wrap (mid : Int) = (mid : Int) := by rw [IntKind.wrap_i64]; omega
    have hpz : (mid : Int) + (m : Int) - 1 = (p : Int) := by omega
    have HC : Aside (CmpLays P g cb enc k cf blk off d.size w0) := by rw [← hs]; exact hcmp
    have S0 : Aside (SWK enc k w0 blk off d w) := S
    have H1 := Lib.hid h1
    have H2 := Lib.hid h2
    have HT := Lib.hid ht
    have HO := Lib.hid hO
    have Hih := Lib.hid ih
    have hcs2 := hcs
    have Hmid := Lib.hid hmid
    have Hp := Lib.hid hp
    have HF : Hid ((a ≤ s0 ∧ s0 ≤ r0 ∧ r0 ≤ m ∧ r0 ≤ mid ∧ mid + m - s0 ≤ b) ∧ (s0 = a ∨ mid + m - s0 = b) ∧ (r0 = m ∨ mid + m - r0 = m) ∧ a < mid ∧ mid < b) := Lib.hid ⟨⟨F1, F2, F3, F4, F6⟩, E1, E2, F7⟩
    clear hcmp S h1 h2 ht hO ih hcs hmid hp F1 F2 F3 F4 F6 E1 E2 F7 c1 c2
    have hs1 : (mid < m ∧ (mid : Int) + (m : Int) - (b : Int) = (s0 : Int) ∧ (mid : Int) = (r0 : Int)) ∨ (¬ mid < m ∧ (a : Int) = (s0 : Int) ∧ (m : Int) = (r0 : Int)) := by
      have := HF.out
      rcases hc with ⟨y1, y2, y3⟩ | ⟨y1, y2, y3⟩
      · exact .inl ⟨y1, by omega, by omega⟩
      · exact .inr ⟨y1, by omega, by omega⟩
    have hgo : (mid < m ∧ (mid : Int) + (m : Int) - (b : Int) = (s0 : Int) ∧ r0 = mid) ∨ (¬ mid < m ∧ s0 = a ∧ r0 = m) := by
      rcases hc with ⟨y1, y2, y3⟩ | ⟨y1, y2, y3⟩
      · exact .inl ⟨y1, by have := HF.out; omega, y3⟩
      · exact .inr ⟨y1, y2, y3⟩
    clear hs1 hc
    go_enter L.fsym, Tryz.ntmps87
    rcases hgo with ⟨g1, g2, g3⟩ | ⟨g1, g2, g3⟩
    · exact absurd hcs2 (by have := Hmid.out; omega)
    · have g1' : ¬ (mid : Int) < (m : Int) := by omega
      have g4 : a = s0 := g2.symm
      have g5 : m = r0 := g3.symm
      clear g2 g3
      subst g4
      subst g5
      have HF2 := HF
      go_wp2
      go_loopg [20, 21] (m - a) (fun kx s20 s21 wr => ∃ s r : Nat, s20 = .int .i64 s ∧ s21 = .int .i64 r ∧ a ≤ s ∧ s ≤ r ∧ r ≤ m ∧ r - s ≤ kx ∧
        Aside ((∀ c, a ≤ c → c < s → ltOf cf d[p - c]! d[c]! = false) ∧ (∀ c, r ≤ c → c < m → ltOf cf d[p - c]! d[c]! = true)) ∧ Aside (SWK enc k w0 blk off d wr))
      case atStart => exact ⟨a, m, rfl, rfl, Nat.le_refl _, HF.out.1.2.1, Nat.le_refl _, Nat.le_refl _, (show Aside _ from ⟨fun c x1 x2 => by omega, fun c x1 x2 => by omega⟩), S0⟩
      case round =>
        clear S0
        obtain ⟨s, r, rfl, rfl, hss, hsr, hrr, hkx, HI, S1⟩ := hrel
        have hF := HF.out
        have hpd := Hp.out
        by_cases hlt : s < r
        · obtain ⟨c, hc⟩ : ∃ c, c = (s + r) / 2 := ⟨_, rfl⟩
          have hc1 : s ≤ c ∧ c < r := by omega
          have hpc : m ≤ p - c ∧ p - c < b ∧ c ≤ p := by omega
          have hltz : (s : Int) < (r : Int) := by omega
          have hw3 : IntKind.u64.wrap ((s : Int) + (r : Int)) = (s : Int) + (r : Int) := by rw [IntKind.wrap_u64]; omega
          have hcd : ((s : Int) + (r : Int)) / 2 = (c : Int) := by omega
          have hw4 : IntKind.i64.wrap (c : Int) = (c : Int) := by rw [IntKind.wrap_i64]; omega
          have Hc := Lib.hid hc
          have ea1 : ((p : Int) - (c : Int)).toNat = (p - c) := by omega
          have pa1 : (0 : Int) ≤ (p : Int) - (c : Int) := by omega
          have ba1 : (p : Int) - (c : Int) < (d.size : Int) := by omega
          have ra1 : IntKind.i64.wrap ((p : Int) - (c : Int)) = (p : Int) - (c : Int) := by rw [IntKind.wrap_i64]; omega
          have ec1 : ((c : Int)).toNat = c := by omega
          have pc1 : (0 : Int) ≤ (c : Int) := by omega
          have bc1 : (c : Int) < (d.size : Int) := by omega
          have rc1 : IntKind.i64.wrap ((c : Int)) = (c : Int) := by rw [IntKind.wrap_i64]; omega
          obtain ⟨xx, hxx⟩ : ∃ x, x = d[p - c]! := ⟨_, rfl⟩
          obtain ⟨yy, hyy⟩ : ∃ x, x = d[c]! := ⟨_, rfl⟩
          have la1 := S1.out.ld R (by omega) P (p - c) (by omega)
          have lb1 := S1.out.ld R (by omega) P c (by omega)
          rw [← hxx] at la1
          rw [← hyy] at lb1
          have hcc := S1.out.cmp HC.out (by omega) xx yy
          have hxl : ltOf cf d[p - c]! d[c]! = decide (cf xx yy < 0) := by rw [hxx, hyy]; rfl
          have Hxl := Lib.hid hxl
          have HFF := Lib.hid hF
          have Hpd := Lib.hid hpd
          clear hxx hyy hxl hc hF hpd
          by_cases hv : cf xx yy < 0
          · have hd1 : decide (cf xx yy < 0) = true := decide_eq_true hv
            go_wp2_with fail
            go_quiet_grown (first | (go_at_fn g; refine Calls.grown_of (hcc _ _)))
            have S2 : Aside (SWK enc k w0 blk off d (grow (wr.drewN nq) osq)) := S1.out.grown nq osq
            clear la1 lb1 hcc S1
            generalize grow (wr.drewN nq) osq = w2 at S2 ⊢
            clear nq osq
            go_wp2
            go_roundg (c - s)
            case measure => omega
            case rel =>
              refine ⟨s, c, rfl, rfl, hss, by omega, by omega, by omega, (show Aside _ from ⟨HI.out.1, fun q x1 x2 => ?_⟩), S2⟩
              have hF := HFF.out
              have hpd := Hpd.out
              have hl : ltOf cf d[p - c]! d[c]! = true := by rw [Hxl.out]; exact hd1
              rcases Nat.lt_or_ge c q with x3 | x3
              · exact lt_up HO.out (H1.out c q (by omega) x3 (by omega)) (lt_down HO.out (H2.out (p - q) (p - c) (by omega) (by omega) (by omega)) hl)
              · rw [show q = c by omega]; exact hl
          · have hd1 : decide (cf xx yy < 0) = false := decide_eq_false hv
            go_wp2_with fail
            go_quiet_grown (first | (go_at_fn g; refine Calls.grown_of (hcc _ _)))
            have S2 : Aside (SWK enc k w0 blk off d (grow (wr.drewN nq) osq)) := S1.out.grown nq osq
            clear la1 lb1 hcc S1
            generalize grow (wr.drewN nq) osq = w2 at S2 ⊢
            clear nq osq
            go_wp2
            go_roundg (r - (c + 1))
            case measure => omega
            case rel =>
              refine ⟨c + 1, r, by go_num, rfl, by omega, by omega, hrr, by omega, (show Aside _ from ⟨fun q x1 x2 => ?_, HI.out.2⟩), S2⟩
              have hF := HFF.out
              have hpd := Hpd.out
              have hl : ltOf cf d[p - c]! d[c]! = false := by rw [Hxl.out]; exact hd1
              rcases Nat.lt_or_ge q c with x3 | x3
              · cases y : ltOf cf d[p - q]! d[q]! with
                | false => rfl
                | true => rw [lt_down HO.out (H2.out (p - c) (p - q) (by omega) (by omega) (by omega)) (lt_up HO.out (H1.out q c (by omega) x3 (by omega)) y)] at hl; cases hl
              · rw [show q = c by omega]; exact hl
        · have hrs : r = s := by omega
          subst hrs
          have hE := HI.out
          obtain ⟨e, he⟩ : ∃ e, e = mid + m - r := ⟨_, rfl⟩
          have hsm : r ≤ m := by omega
          have hme : m ≤ e := by omega
          have heb : e ≤ b := by omega
          have hrm : r ≤ mid := by omega
          have hmide : mid ≤ e := by omega
          have har : a ≤ r := by omega
          have hez : (mid : Int) + (m : Int) - (r : Int) = (e : Int) := by omega
          have hmid2 : r + (e - m) = mid := by omega
          have hA : a < r → e < b → ltOf cf d[e]! d[r - 1]! = false := fun x1 x2 => by
            have h := hE.1 (r - 1) (by omega) (by omega)
            rw [show p - (r - 1) = e by omega] at h
            exact h
          have hB : r < m → m < e → ltOf cf d[e - 1]! d[r]! = true := fun x1 x2 => by
            have h := hE.2 r (by omega) (by omega)
            rw [show p - r = e - 1 by omega] at h
            exact h
          have hH : ∀ d1 : Array α, turned d d1 r m e → Halves (ltOf cf) tag d1 a r mid e b := fun d1 hd => by
            have h := halves_of HO.out d d1 a r m e b H1.out H2.out HT.out har hsm hme heb hA hB hd
            rw [hmid2] at h
            exact h
          have HH := Lib.hid hH
          have Hrot := Lib.hid (fun (x1 : r < m) (x2 : m < e) => rotate_K L enc g cb blk off cap r m e d0 d w0 wr R hs S1.out x1 x2 (by omega) (by omega))
          have F7 := hF.2.2.2
          clear hE hA hB hH HI hF hpd he hmid2 HF HF2
          by_cases k1 : r < m ∧ m < e
          · by_cases k2 : a < r ∧ r < mid
            · by_cases k3 : mid < e ∧ e < b
              · first
                  | (exfalso; omega)
                  | (have q1 : (r : Int) < (m : Int) := by omega
                     have q2 : (m : Int) < (e : Int) := by omega
                     have q3 : (a : Int) < (r : Int) := by omega
                     have q4 : (r : Int) < (mid : Int) := by omega
                     have q5 : (mid : Int) < (e : Int) := by omega
                     have q6 : (e : Int) < (b : Int) := by omega
                     go_wp2_with (first
                       | (go_at_fn 99; refine (Hrot.out k1.1 k1.2).mono ?_; rintro e' w1 ⟨rfl, d1, hd, hpm, hS⟩; have hz1 : d1.size = d.size := hd.1; have HH1 := Lib.hid (HH.out d1 hd); have HP1 := Lib.hid hpm; have HS1 := Lib.hid hS; clear hd hpm hS)
                       | (go_at_call_of 87 (Value.int .i64 (r : Int)); have hcl := Hih.out a r mid d1 _ (by omega) k2.1 k2.2 (by omega) (by omega) HS1.out HH1.out.s1 HH1.out.s2 HH1.out.t1; rw [hz1] at hcl; refine hcl.mono ?_; rintro e' w2 ⟨rfl, d2, hpm, hso, hS⟩; have hz2 : d2.size = d.size := hpm.1.trans hz1; have HP2 := Lib.hid hpm; have HO2 := Lib.hid hso; have HS2 := Lib.hid hS; clear hcl hpm hso hS)
                       | (go_at_call_of 87 (Value.int .i64 (e : Int)); have hcr := Hih.out mid e b d2 _ (by omega) k3.1 k3.2 (by omega) (by omega) HS2.out (halves_pre HH1.out hmide HP2.out).1 (halves_pre HH1.out hmide HP2.out).2.1 (halves_pre HH1.out hmide HP2.out).2.2; rw [hz2] at hcr; refine hcr.mono ?_; rintro e' w3 ⟨rfl, d3, hpm, hso, hS⟩; have HP3 := Lib.hid hpm; have HO3 := Lib.hid hso; have HS3 := Lib.hid hS; clear hcr hpm hso hS))
                     refine bodyPost_end (results_none (by simp [go_sem]) _ _ _) rfl ⟨rfl, d3, ?_, halves_join HH1.out (by omega) (by omega) (by omega) HP2.out HP3.out HO2.out HO3.out, HS3.out⟩
                     exact permIn_trans _ _ _ _ _ (permIn_trans _ _ _ _ _ (permIn_mono _ _ _ _ _ _ har heb (by omega) HP1.out) (permIn_mono _ _ _ _ _ _ (Nat.le_refl _) (by omega) (by omega) HP2.out)) (permIn_mono _ _ _ _ _ _ (by omega) (Nat.le_refl _) (by omega) HP3.out))
              · first
                  | (exfalso; omega)
                  | (have q1 : (r : Int) < (m : Int) := by omega
                     have q2 : (m : Int) < (e : Int) := by omega
                     have q3 : (a : Int) < (r : Int) := by omega
                     have q4 : (r : Int) < (mid : Int) := by omega
                     have q5 : (decide (mid < e) && decide (e < b)) = false := by
                       cases h1 : decide (mid < e)
                       · rfl
                       · cases h2 : decide (e < b)
                         · rfl
                         · exfalso; have := of_decide_eq_true h1; have := of_decide_eq_true h2; omega
                     go_wp2_with (first
                       | (go_at_fn 99; refine (Hrot.out k1.1 k1.2).mono ?_; rintro e' w1 ⟨rfl, d1, hd, hpm, hS⟩; have hz1 : d1.size = d.size := hd.1; have HH1 := Lib.hid (HH.out d1 hd); have HP1 := Lib.hid hpm; have HS1 := Lib.hid hS; clear hd hpm hS)
                       | (go_at_call_of 87 (Value.int .i64 (r : Int)); have hcl := Hih.out a r mid d1 _ (by omega) k2.1 k2.2 (by omega) (by omega) HS1.out HH1.out.s1 HH1.out.s2 HH1.out.t1; rw [hz1] at hcl; refine hcl.mono ?_; rintro e' w2 ⟨rfl, d2, hpm, hso, hS⟩; have hz2 : d2.size = d.size := hpm.1.trans hz1; have HP2 := Lib.hid hpm; have HO2 := Lib.hid hso; have HS2 := Lib.hid hS; clear hcl hpm hso hS))
                     have HP3 : Hid (PermIn mid b d2 d2) := Lib.hid (permIn_refl _ _ _)
                     have HO3 := Lib.hid (halves_right HH1.out HP2.out k3 hmide heb)
                     have HS3 := HS2
                     refine bodyPost_end (results_none (by simp [go_sem]) _ _ _) rfl ⟨rfl, d2, ?_, halves_join HH1.out (by omega) (by omega) (by omega) HP2.out HP3.out HO2.out HO3.out, HS3.out⟩
                     exact permIn_trans _ _ _ _ _ (permIn_trans _ _ _ _ _ (permIn_mono _ _ _ _ _ _ har heb (by omega) HP1.out) (permIn_mono _ _ _ _ _ _ (Nat.le_refl _) (by omega) (by omega) HP2.out)) (permIn_mono _ _ _ _ _ _ (by omega) (Nat.le_refl _) (by omega) HP3.out))
            · by_cases k3 : mid < e ∧ e < b
              · first
                  | (exfalso; omega)
                  | (have q1 : (r : Int) < (m : Int) := by omega
                     have q2 : (m : Int) < (e : Int) := by omega
                     have q3 : (decide (a < r) && decide (r < mid)) = false := by
                       cases h1 : decide (a < r)
                       · rfl
                       · cases h2 : decide (r < mid)
                         · rfl
                         · exfalso; have := of_decide_eq_true h1; have := of_decide_eq_true h2; omega
                     have q5 : (mid : Int) < (e : Int) := by omega
                     have q6 : (e : Int) < (b : Int) := by omega
                     go_wp2_with (first
                       | (go_at_fn 99; refine (Hrot.out k1.1 k1.2).mono ?_; rintro e' w1 ⟨rfl, d1, hd, hpm, hS⟩; have hz1 : d1.size = d.size := hd.1; have HH1 := Lib.hid (HH.out d1 hd); have HP1 := Lib.hid hpm; have HS1 := Lib.hid hS; clear hd hpm hS)
                       | (go_at_call_of 87 (Value.int .i64 (e : Int)); have hz2 : d1.size = d.size := hz1; have HP2 : Hid (PermIn a mid d1 d1) := Lib.hid (permIn_refl _ _ _); have HO2 := Lib.hid (halves_left HH1.out k2 har hrm); have HS2 := HS1; have hcr := Hih.out mid e b d1 _ (by omega) k3.1 k3.2 (by omega) (by omega) HS2.out (halves_pre HH1.out hmide HP2.out).1 (halves_pre HH1.out hmide HP2.out).2.1 (halves_pre HH1.out hmide HP2.out).2.2; rw [hz2] at hcr; refine hcr.mono ?_; rintro e' w3 ⟨rfl, d3, hpm, hso, hS⟩; have HP3 := Lib.hid hpm; have HO3 := Lib.hid hso; have HS3 := Lib.hid hS; clear hcr hpm hso hS))
                     refine bodyPost_end (results_none (by simp [go_sem]) _ _ _) rfl ⟨rfl, d3, ?_, halves_join HH1.out (by omega) (by omega) (by omega) HP2.out HP3.out HO2.out HO3.out, HS3.out⟩
                     exact permIn_trans _ _ _ _ _ (permIn_trans _ _ _ _ _ (permIn_mono _ _ _ _ _ _ har heb (by omega) HP1.out) (permIn_mono _ _ _ _ _ _ (Nat.le_refl _) (by omega) (by omega) HP2.out)) (permIn_mono _ _ _ _ _ _ (by omega) (Nat.le_refl _) (by omega) HP3.out))
              · first
                  | (exfalso; omega)
                  | (have q1 : (r : Int) < (m : Int) := by omega
                     have q2 : (m : Int) < (e : Int) := by omega
                     have q3 : (decide (a < r) && decide (r < mid)) = false := by
                       cases h1 : decide (a < r)
                       · rfl
                       · cases h2 : decide (r < mid)
                         · rfl
                         · exfalso; have := of_decide_eq_true h1; have := of_decide_eq_true h2; omega
                     have q5 : (decide (mid < e) && decide (e < b)) = false := by
                       cases h1 : decide (mid < e)
                       · rfl
                       · cases h2 : decide (e < b)
                         · rfl
                         · exfalso; have := of_decide_eq_true h1; have := of_decide_eq_true h2; omega
                     go_wp2_with (first
                       | (go_at_fn 99; refine (Hrot.out k1.1 k1.2).mono ?_; rintro e' w1 ⟨rfl, d1, hd, hpm, hS⟩; have hz1 : d1.size = d.size := hd.1; have HH1 := Lib.hid (HH.out d1 hd); have HP1 := Lib.hid hpm; have HS1 := Lib.hid hS; clear hd hpm hS))
                     have hz2 : d1.size = d.size := hz1
                     have HP2 : Hid (PermIn a mid d1 d1) := Lib.hid (permIn_refl _ _ _)
                     have HO2 := Lib.hid (halves_left HH1.out k2 har hrm)
                     have HS2 := HS1
                     have HP3 : Hid (PermIn mid b d1 d1) := Lib.hid (permIn_refl _ _ _)
                     have HO3 := Lib.hid (halves_right HH1.out HP2.out k3 hmide heb)
                     have HS3 := HS2
                     refine bodyPost_end (results_none (by simp [go_sem]) _ _ _) rfl ⟨rfl, d1, ?_, halves_join HH1.out (by omega) (by omega) (by omega) HP2.out HP3.out HO2.out HO3.out, HS3.out⟩
                     exact permIn_trans _ _ _ _ _ (permIn_trans _ _ _ _ _ (permIn_mono _ _ _ _ _ _ har heb (by omega) HP1.out) (permIn_mono _ _ _ _ _ _ (Nat.le_refl _) (by omega) (by omega) HP2.out)) (permIn_mono _ _ _ _ _ _ (by omega) (Nat.le_refl _) (by omega) HP3.out))
          · by_cases k2 : a < r ∧ r < mid
            · by_cases k3 : mid < e ∧ e < b
              · first
                  | (exfalso; omega)
                  | (have q1 : (decide (r < m) && decide (m < e)) = false := by
                       cases h1 : decide (r < m)
                       · rfl
                       · cases h2 : decide (m < e)
                         · rfl
                         · exfalso; have := of_decide_eq_true h1; have := of_decide_eq_true h2; omega
                     have q3 : (a : Int) < (r : Int) := by omega
                     have q4 : (r : Int) < (mid : Int) := by omega
                     have q5 : (mid : Int) < (e : Int) := by omega
                     have q6 : (e : Int) < (b : Int) := by omega
                     have hz1 : d.size = d.size := rfl
                     have HH1 := Lib.hid (HH.out d (turned_none d hsm hme (by omega)))
                     have HP1 : Hid (PermIn r e d d) := Lib.hid (permIn_refl _ _ _)
                     have HS1 := Lib.hid S1.out
                     go_wp2_with (first
                       | (go_at_call_of 87 (Value.int .i64 (r : Int)); have hcl := Hih.out a r mid d _ (by omega) k2.1 k2.2 (by omega) (by omega) HS1.out HH1.out.s1 HH1.out.s2 HH1.out.t1; rw [hz1] at hcl; refine hcl.mono ?_; rintro e' w2 ⟨rfl, d2, hpm, hso, hS⟩; have hz2 : d2.size = d.size := hpm.1.trans hz1; have HP2 := Lib.hid hpm; have HO2 := Lib.hid hso; have HS2 := Lib.hid hS; clear hcl hpm hso hS)
                       | (go_at_call_of 87 (Value.int .i64 (e : Int)); have hcr := Hih.out mid e b d2 _ (by omega) k3.1 k3.2 (by omega) (by omega) HS2.out (halves_pre HH1.out hmide HP2.out).1 (halves_pre HH1.out hmide HP2.out).2.1 (halves_pre HH1.out hmide HP2.out).2.2; rw [hz2] at hcr; refine hcr.mono ?_; rintro e' w3 ⟨rfl, d3, hpm, hso, hS⟩; have HP3 := Lib.hid hpm; have HO3 := Lib.hid hso; have HS3 := Lib.hid hS; clear hcr hpm hso hS))
                     refine bodyPost_end (results_none (by simp [go_sem]) _ _ _) rfl ⟨rfl, d3, ?_, halves_join HH1.out (by omega) (by omega) (by omega) HP2.out HP3.out HO2.out HO3.out, HS3.out⟩
                     exact permIn_trans _ _ _ _ _ (permIn_trans _ _ _ _ _ (permIn_mono _ _ _ _ _ _ har heb (by omega) HP1.out) (permIn_mono _ _ _ _ _ _ (Nat.le_refl _) (by omega) (by omega) HP2.out)) (permIn_mono _ _ _ _ _ _ (by omega) (Nat.le_refl _) (by omega) HP3.out))
              · first
                  | (exfalso; omega)
                  | (have q1 : (decide (r < m) && decide (m < e)) = false := by
                       cases h1 : decide (r < m)
                       · rfl
                       · cases h2 : decide (m < e)
                         · rfl
                         · exfalso; have := of_decide_eq_true h1; have := of_decide_eq_true h2; omega
                     have q3 : (a : Int) < (r : Int) := by omega
                     have q4 : (r : Int) < (mid : Int) := by omega
                     have q5 : (decide (mid < e) && decide (e < b)) = false := by
                       cases h1 : decide (mid < e)
                       · rfl
                       · cases h2 : decide (e < b)
                         · rfl
                         · exfalso; have := of_decide_eq_true h1; have := of_decide_eq_true h2; omega
                     have hz1 : d.size = d.size := rfl
                     have HH1 := Lib.hid (HH.out d (turned_none d hsm hme (by omega)))
                     have HP1 : Hid (PermIn r e d d) := Lib.hid (permIn_refl _ _ _)
                     have HS1 := Lib.hid S1.out
                     go_wp2_with (first
                       | (go_at_call_of 87 (Value.int .i64 (r : Int)); have hcl := Hih.out a r mid d _ (by omega) k2.1 k2.2 (by omega) (by omega) HS1.out HH1.out.s1 HH1.out.s2 HH1.out.t1; rw [hz1] at hcl; refine hcl.mono ?_; rintro e' w2 ⟨rfl, d2, hpm, hso, hS⟩; have hz2 : d2.size = d.size := hpm.1.trans hz1; have HP2 := Lib.hid hpm; have HO2 := Lib.hid hso; have HS2 := Lib.hid hS; clear hcl hpm hso hS))
                     have HP3 : Hid (PermIn mid b d2 d2) := Lib.hid (permIn_refl _ _ _)
                     have HO3 := Lib.hid (halves_right HH1.out HP2.out k3 hmide heb)
                     have HS3 := HS2
                     refine bodyPost_end (results_none (by simp [go_sem]) _ _ _) rfl ⟨rfl, d2, ?_, halves_join HH1.out (by omega) (by omega) (by omega) HP2.out HP3.out HO2.out HO3.out, HS3.out⟩
                     exact permIn_trans _ _ _ _ _ (permIn_trans _ _ _ _ _ (permIn_mono _ _ _ _ _ _ har heb (by omega) HP1.out) (permIn_mono _ _ _ _ _ _ (Nat.le_refl _) (by omega) (by omega) HP2.out)) (permIn_mono _ _ _ _ _ _ (by omega) (Nat.le_refl _) (by omega) HP3.out))
            · by_cases k3 : mid < e ∧ e < b
              · first
                  | (exfalso; omega)
                  | (have q1 : (decide (r < m) && decide (m < e)) = false := by
                       cases h1 : decide (r < m)
                       · rfl
                       · cases h2 : decide (m < e)
                         · rfl
                         · exfalso; have := of_decide_eq_true h1; have := of_decide_eq_true h2; omega
                     have q3 : (decide (a < r) && decide (r < mid)) = false := by
                       cases h1 : decide (a < r)
                       · rfl
                       · cases h2 : decide (r < mid)
                         · rfl
                         · exfalso; have := of_decide_eq_true h1; have := of_decide_eq_true h2; omega
                     have q5 : (mid : Int) < (e : Int) := by omega
                     have q6 : (e : Int) < (b : Int) := by omega
                     have hz1 : d.size = d.size := rfl
                     have HH1 := Lib.hid (HH.out d (turned_none d hsm hme (by omega)))
                     have HP1 : Hid (PermIn r e d d) := Lib.hid (permIn_refl _ _ _)
                     have HS1 := Lib.hid S1.out
                     go_wp2_with (first
                       | (go_at_call_of 87 (Value.int .i64 (e : Int)); have hz2 : d.size = d.size := rfl; have HP2 : Hid (PermIn a mid d d) := Lib.hid (permIn_refl _ _ _); have HO2 := Lib.hid (halves_left HH1.out k2 har hrm); have HS2 := HS1; have hcr := Hih.out mid e b d _ (by omega) k3.1 k3.2 (by omega) (by omega) HS2.out (halves_pre HH1.out hmide HP2.out).1 (halves_pre HH1.out hmide HP2.out).2.1 (halves_pre HH1.out hmide HP2.out).2.2; rw [hz2] at hcr; refine hcr.mono ?_; rintro e' w3 ⟨rfl, d3, hpm, hso, hS⟩; have HP3 := Lib.hid hpm; have HO3 := Lib.hid hso; have HS3 := Lib.hid hS; clear hcr hpm hso hS))
                     refine bodyPost_end (results_none (by simp [go_sem]) _ _ _) rfl ⟨rfl, d3, ?_, halves_join HH1.out (by omega) (by omega) (by omega) HP2.out HP3.out HO2.out HO3.out, HS3.out⟩
                     exact permIn_trans _ _ _ _ _ (permIn_trans _ _ _ _ _ (permIn_mono _ _ _ _ _ _ har heb (by omega) HP1.out) (permIn_mono _ _ _ _ _ _ (Nat.le_refl _) (by omega) (by omega) HP2.out)) (permIn_mono _ _ _ _ _ _ (by omega) (Nat.le_refl _) (by omega) HP3.out))
              · first
                  | (exfalso; omega)
                  | (have q1 : (decide (r < m) && decide (m < e)) = false := by
                       cases h1 : decide (r < m)
                       · rfl
                       · cases h2 : decide (m < e)
                         · rfl
                         · exfalso; have := of_decide_eq_true h1; have := of_decide_eq_true h2; omega
                     have q3 : (decide (a < r) && decide (r < mid)) = false := by
                       cases h1 : decide (a < r)
                       · rfl
                       · cases h2 : decide (r < mid)
                         · rfl
                         · exfalso; have := of_decide_eq_true h1; have := of_decide_eq_true h2; omega
                     have q5 : (decide (mid < e) && decide (e < b)) = false := by
                       cases h1 : decide (mid < e)
                       · rfl
                       · cases h2 : decide (e < b)
                         · rfl
                         · exfalso; have := of_decide_eq_true h1; have := of_decide_eq_true h2; omega
                     have hz1 : d.size = d.size := rfl
                     have HH1 := Lib.hid (HH.out d (turned_none d hsm hme (by omega)))
                     have HP1 : Hid (PermIn r e d d) := Lib.hid (permIn_refl _ _ _)
                     have HS1 := Lib.hid S1.out
                     go_wp2
                     have hz2 : d.size = d.size := rfl
                     have HP2 : Hid (PermIn a mid d d) := Lib.hid (permIn_refl _ _ _)
                     have HO2 := Lib.hid (halves_left HH1.out k2 har hrm)
                     have HS2 := HS1
                     have HP3 : Hid (PermIn mid b d d) := Lib.hid (permIn_refl _ _ _)
                     have HO3 := Lib.hid (halves_right HH1.out HP2.out k3 hmide heb)
                     have HS3 := HS2
                     refine bodyPost_end (results_none (by simp [go_sem]) _ _ _) rfl ⟨rfl, d, ?_, halves_join HH1.out (by omega) (by omega) (by omega) HP2.out HP3.out HO2.out HO3.out, HS3.out⟩
                     exact permIn_trans _ _ _ _ _ (permIn_trans _ _ _ _ _ (permIn_mono _ _ _ _ _ _ har heb (by omega) HP1.out) (permIn_mono _ _ _ _ _ _ (Nat.le_refl _) (by omega) (by omega) HP2.out)) (permIn_mono _ _ _ _ _ _ (by omega) (Nat.le_refl _) (by omega) HP3.out))
end
end Go.Proofs.YtejgcnmbngdkiaaGreatDoor
/-
  The library's merge of two sorted neighbours.
-/
namespace Go.Proofs.YtejgcnmbngdkiaaGreatDoor
section
open Go.Shelf Go.RowKit Go.Lib Go.Sort
variable {α : Type} [Inhabited α] {P : Program}
set_option maxRecDepth 100000

theorem sym_any {k : Nat} (L : SortL P k) (enc : α → List Value) (cf : α → α → Int) (tag : α → Nat) (hO : SWO (ltOf cf)) (g : Nat) (cb : Array Value) (blk off cap : Nat) (d0 : Array α) (w0 : World)
    (eg : ∀ args w, (callFunc g args).run P w = .ok (.enter g args) w) (hcmp : CmpLays P g cb enc k cf blk off d0.size w0) (R : RowK enc k w0 blk off d0) (hsz0 : d0.size < 1000000000) (n : Nat) :
    SymC P enc cf tag k g cb blk off cap d0 w0 n := by
  induction n with
  | zero => intro a m b d w hn ham hmb; omega
  | succ n ih =>
    intro a m b d w hn ham hmb hb hs S h1 h2 ht
    by_cases c1 : m = a + 1
    · subst c1
      exact sym_one L enc cf tag hO g cb blk off cap a (a + 1) b rfl d0 d w0 w eg (by rw [← hs]; exact hcmp) R hs S hmb hb (by omega) h2 (fun q hq1 hq2 => ht a q (Nat.le_refl _) (Nat.lt_succ_self _) hq1 hq2)
    by_cases c2 : b = m + 1
    · exact sym_last L enc cf tag hO g cb blk off cap a m b c2 (by omega) d0 d w0 w eg (by rw [← hs]; exact hcmp) R hs S hb (by omega) h1 (fun q hq1 hq2 => ht q m hq1 hq2 (Nat.le_refl _) hmb)
    by_cases hcs : (a + b) / 2 < m
    · exact sym_hi L enc cf tag hO g cb blk off cap d0 w0 eg hcmp R hsz0 n ih a m b d w hn ham hmb hb hs S h1 h2 ht c1 c2 hcs
    · exact sym_lo L enc cf tag hO g cb blk off cap d0 w0 eg hcmp R hsz0 n ih a m b d w hn ham hmb hb hs S h1 h2 ht c1 c2 hcs
end
end Go.Proofs.YtejgcnmbngdkiaaGreatDoor
