/-
  VStab, VStable, VStableF, VCmp: texts merged.
-/
import Derived.Test.YtejgcnmbngdkiaaGreatDoorNPl
import Derived.Test.YtejgcnmbngdkiaaGreatDoorNSy
import Derived.Shelf.SlSortCmp.PdqK
import Derived.Deep.RegionWith
import Derived.Test.YtejgcnmbngdkiaaGreatDoorNMem
import Derived.Test.YtejgcnmbngdkiaaGreatDoorNVal
/-
  The library's stable sort, plainly: blocks sorted one by one, then neighbours made one, ever larger.
-/
namespace Go.Proofs.YtejgcnmbngdkiaaGreatDoor
section
open Go.Sort
set_option autoImplicit false
variable {α : Type} [Inhabited α] {lt : α → α → Bool} {tag : α → Nat}

def Cut (tag : α → Nat) (x n : Nat) (d : Array α) : Prop := ∀ p q, p < x → x ≤ q → q < n → tag d[p]! < tag d[q]!
theorem cut_kept {d d' : Array α} {a b x n : Nat} (hp : PermIn a b d d') (hx : x ≤ a ∨ b ≤ x) (hb : b ≤ d.size) (hbn : b ≤ n) (h : Cut tag x n d) : Cut tag x n d' := by
  intro p q h1 h2 h3
  rcases hx with hx | hx
  · rw [hp.2.1 p (Or.inl (by omega))]
    rcases Nat.lt_or_ge q a with c | c
    · rw [hp.2.1 q (Or.inl c)]; exact h p q h1 h2 h3
    · rcases Nat.lt_or_ge q b with c2 | c2
      · exact permIn_all _ _ a b (fun y => tag d[p]! < tag y) hb hp (fun u g1 g2 => h p u h1 (by omega) (by omega)) q c c2
      · rw [hp.2.1 q (Or.inr c2)]; exact h p q h1 h2 h3
  · rw [hp.2.1 q (Or.inr (by omega))]
    rcases Nat.lt_or_ge p a with c | c
    · rw [hp.2.1 p (Or.inl c)]; exact h p q h1 h2 h3
    · rcases Nat.lt_or_ge p b with c2 | c2
      · exact permIn_all _ _ a b (fun y => tag y < tag d[q]!) hb hp (fun u g1 g2 => h u q (by omega) h2 h3) p c c2
      · rw [hp.2.1 p (Or.inr c2)]; exact h p q h1 h2 h3
theorem sorted_kept {d d' : Array α} {a b x y : Nat} (hp : PermIn a b d d') (hx : y ≤ a ∨ b ≤ x) (h : SortedIn (lx lt tag) x y d) : SortedIn (lx lt tag) x y d' := by
  intro p q h1 h2 h3
  rw [hp.2.1 p (by omega), hp.2.1 q (by omega)]
  exact h p q h1 h2 h3

structure Run (lt : α → α → Bool) (tag : α → Nat) (d : Array α) (B c : Nat) (dk : Array α) : Prop where
  size : dk.size = d.size
  perm : PermIn 0 d.size d dk
  done : ∀ c', c' < c → SortedIn (lx lt tag) (c' * B) ((c' + 1) * B) dk
  cuts : ∀ c', Cut tag (c' * B) d.size dk
structure Whole (lt : α → α → Bool) (tag : α → Nat) (d : Array α) (B : Nat) (dk : Array α) : Prop where
  size : dk.size = d.size
  perm : PermIn 0 d.size d dk
  done : ∀ c', SortedIn (lx lt tag) (c' * B) (min ((c' + 1) * B) d.size) dk
  cuts : ∀ c', Cut tag (c' * B) d.size dk
theorem mul_out (c c' B : Nat) : c' * B ≤ c * B ∨ (c + 1) * B ≤ c' * B := by
  rcases Nat.lt_or_ge c c' with h | h
  · exact Or.inr (Nat.mul_le_mul_right B h)
  · exact Or.inl (Nat.mul_le_mul_right B h)
theorem Run.step {d dk d' : Array α} {B c : Nat} (h : Run lt tag d B c dk) (hn : (c + 1) * B ≤ d.size) (hp : PermIn (c * B) ((c + 1) * B) dk d') (hs : SortedIn (lx lt tag) (c * B) ((c + 1) * B) d') : Run lt tag d B (c + 1) d' := by
  have hs1 := h.size
  refine ⟨hp.1.trans h.size, permIn_trans _ _ _ _ _ h.perm (permIn_mono _ _ _ _ _ _ (Nat.zero_le _) hn (by omega) hp), fun c' hc => ?_, fun c' => cut_kept hp (mul_out c c' B) (by omega) hn (h.cuts c')⟩
  rcases Nat.lt_or_ge c' c with h1 | h1
  · exact sorted_kept hp (Or.inl (Nat.mul_le_mul_right B h1)) (h.done c' h1)
  · obtain rfl : c' = c := by omega
    exact hs
theorem Run.last {d dk d' : Array α} {B c : Nat} (h : Run lt tag d B c dk) (hn : d.size < (c + 1) * B) (ha : c * B ≤ d.size) (hp : PermIn (c * B) d.size dk d') (hs : SortedIn (lx lt tag) (c * B) d.size d') : Whole lt tag d B d' := by
  have hs1 := h.size
  refine ⟨hp.1.trans h.size, permIn_trans _ _ _ _ _ h.perm (permIn_mono _ _ _ _ _ _ (Nat.zero_le _) (Nat.le_refl _) (by omega) hp), fun c' => ?_, fun c' => ?_⟩
  · rcases Nat.lt_trichotomy c' c with h1 | h1 | h1
    · have h2 : (c' + 1) * B ≤ c * B := Nat.mul_le_mul_right B h1
      exact sorted_kept hp (Or.inl (by omega)) (fun p q g1 g2 g3 => h.done c' h1 p q g1 g2 (by omega))
    · subst h1
      intro p q g1 g2 g3
      exact hs p q g1 g2 (by omega)
    · have h2 : (c + 1) * B ≤ c' * B := Nat.mul_le_mul_right B h1
      intro p q g1 g2 g3
      omega
  · rcases mul_out c c' B with h1 | h1
    · exact cut_kept hp (Or.inl h1) (by omega) (Nat.le_refl _) (h.cuts c')
    · intro p q g1 g2 g3
      omega
/-- Where tags go up from. -/
def Up (tag : α → Nat) (x n : Nat) (d : Array α) : Prop := ∀ p q, x ≤ p → p < q → q < n → tag d[p]! < tag d[q]!
theorem up_kept {d d' : Array α} {a b n : Nat} (hp : PermIn a b d d') (hab : a ≤ b) (h : Up tag a n d) : Up tag b n d' := by
  intro p q h1 h2 h3
  rw [hp.2.1 p (by omega), hp.2.1 q (by omega)]
  exact h p q (by omega) h2 h3
theorem run_start {d : Array α} (B : Nat) (h : Up tag 0 d.size d) : Run lt tag d B 0 d :=
  ⟨rfl, permIn_refl _ _ _, fun c' hc => absurd hc (Nat.not_lt_zero _), fun c' p q h1 h2 h3 => h p q (Nat.zero_le _) (by omega) h3⟩
/-- The blocks of the round before that were not yet made one. -/
def Rest (lt : α → α → Bool) (tag : α → Nat) (n B c : Nat) (dk : Array α) : Prop := ∀ c', 2 * c ≤ c' → SortedIn (lx lt tag) (c' * B) (min ((c' + 1) * B) n) dk ∧ Cut tag (c' * B) n dk
theorem dbl (c B : Nat) : c * (2 * B) = 2 * c * B := by rw [← Nat.mul_assoc, Nat.mul_comm c 2]
theorem Whole.run {d dk : Array α} {B : Nat} (h : Whole lt tag d B dk) : Run lt tag d (2 * B) 0 dk :=
  ⟨h.size, h.perm, fun c' hc => absurd hc (Nat.not_lt_zero _), fun c' => by rw [dbl]; exact h.cuts _⟩
theorem Whole.rest {d dk : Array α} {B : Nat} (h : Whole lt tag d B dk) : Rest lt tag d.size B 0 dk := fun c' _ => ⟨h.done c', h.cuts c'⟩
theorem Rest.step {dk d' : Array α} {B c n : Nat} (h : Rest lt tag n B c dk) (hn : (c + 1) * (2 * B) ≤ n) (hs : n = dk.size) (hp : PermIn (c * (2 * B)) ((c + 1) * (2 * B)) dk d') : Rest lt tag n B (c + 1) d' := by
  intro c' hc
  have h1 : (c + 1) * (2 * B) ≤ c' * B := by rw [dbl]; exact Nat.mul_le_mul_right B hc
  obtain ⟨h2, h3⟩ := h c' (by omega)
  exact ⟨sorted_kept hp (Or.inr h1) h2, cut_kept hp (Or.inr h1) (by omega) hn h3⟩
/-- What the merge of the next two asks for. -/
theorem Rest.pre {dk : Array α} {B c n : Nat} (h : Rest lt tag n B c dk) {a m b : Nat} (ha : a = c * (2 * B)) (hm : m = a + B) (hmn : m ≤ n) (hb : b = min (a + 2 * B) n) :
    SortedIn (lx lt tag) a m dk ∧ SortedIn (lx lt tag) m b dk ∧ ∀ p q, a ≤ p → p < m → m ≤ q → q < b → tag dk[p]! < tag dk[q]! := by
  have e1 : 2 * c * B = a := by rw [ha, dbl]
  have e2 : (2 * c + 1) * B = m := by rw [Nat.add_mul, Nat.one_mul, e1, hm]
  have e3 : (2 * c + 1 + 1) * B = a + 2 * B := by rw [Nat.add_mul, Nat.one_mul, e2, hm]; omega
  obtain ⟨h1, _⟩ := h (2 * c) (Nat.le_refl _)
  obtain ⟨h2, h3⟩ := h (2 * c + 1) (by omega)
  rw [e1, e2] at h1
  rw [e2, e3] at h2
  rw [e2] at h3
  refine ⟨fun p q g1 g2 g3 => h1 p q g1 g2 (by omega), fun p q g1 g2 g3 => h2 p q g1 g2 (by omega), fun p q g1 g2 g3 g4 => h3 p q g2 g3 (by omega)⟩
/-- The last block alone. -/
theorem Rest.alone {dk : Array α} {B c n : Nat} (h : Rest lt tag n B c dk) {a : Nat} (ha : a = c * (2 * B)) (hm : n ≤ a + B) : SortedIn (lx lt tag) a n dk := by
  have e1 : 2 * c * B = a := by rw [ha, dbl]
  have e2 : (2 * c + 1) * B = a + B := by rw [Nat.add_mul, Nat.one_mul, e1]
  obtain ⟨h1, _⟩ := h (2 * c) (Nat.le_refl _)
  rw [e1, e2] at h1
  intro p q g1 g2 g3
  exact h1 p q g1 g2 (by omega)
theorem Whole.all {d dk : Array α} {B : Nat} (h : Whole lt tag d B dk) (hB : d.size ≤ B) : SortedIn (lx lt tag) 0 d.size dk := by
  have h1 := h.done 0
  intro p q g1 g2 g3
  exact h1 p q (by omega) g2 (by omega)
end
end Go.Proofs.YtejgcnmbngdkiaaGreatDoor
/-
  The library's stable sort of a row.
-/
namespace Go.Proofs.YtejgcnmbngdkiaaGreatDoor
section
open Go.Shelf Go.RowKit Go.Lib Go.Sort
variable {α : Type} [Inhabited α] {P : Program}
set_option maxRecDepth 1000000

set_option maxHeartbeats 8000000 in
theorem stable_K {k : Nat} (L : SortL P k) (L20 : SlLaysF0.n20 P Tryz.ins86_ren) (enc : α → List Value) (cf : α → α → Int) (tag : α → Nat) (hO : SWO (ltOf cf)) (g : Nat) (cb : Array Value) (blk off cap : Nat) (d0 d : Array α) (w0 w : World)
    (eg : ∀ args w, (callFunc g args).run P w = .ok (.enter g args) w) (hcmp : CmpLays P g cb enc k cf blk off d0.size w0) (R : RowK enc k w0 blk off d0) (hs : d0.size = d.size) (S : SWK enc k w0 blk off d w) (hsz : d.size < 1000000000)
    (ht : Up tag 0 d.size d) :
    Calls P 62 #[.slice (some ⟨blk, off, none⟩) d.size cap, .int .i64 (d.size : Int), .func (.func g) #[] cb] w fun e w' => e = .returned (.tuple #[]) ∧ ∃ d', PermIn 0 d.size d d' ∧ SortedIn (lx (ltOf cf) tag) 0 d.size d' ∧ SWK enc k w0 blk off d' w' := by
  have mixed := L.mixed; have t0 := L.t0; have a0 := L.a0; have z0 := L.z0; have v0 := L.v0; have t3 := L.t3; have a3 := L.a3; have z3 := L.z3; have v3 := L.v3; have t4 := L.t4; have a4 := L.a4; have z4 := L.z4; have v4 := L.v4; have t23 := L.t23; have a23 := L.a23; have z23 := L.z23; have v23 := L.v23; have t66 := L.t66; have a66 := L.a66; have z66 := L.z66; have v66 := L.v66
  have e70 : ∀ args w, (callFunc 86 args).run P w = .ok (.enter 86 args) w := enters_of L.fins (by kernel_rfl) rfl
  have e71 : ∀ args w, (callFunc 87 args).run P w = .ok (.enter 87 args) w := enters_of L.fsym (by kernel_rfl) rfl
  have Hins : Hid (∀ (a b : Nat) (dk : Array α) (wr : World), a ≤ b → b ≤ d.size → dk.size = d.size → Up tag a b dk → SWK enc k w0 blk off dk wr →
      Calls P 86 #[.slice (some ⟨blk, off, none⟩) d.size cap, .int .i64 a, .int .i64 b, .func (.func g) #[] cb] wr fun e w' => e = .returned (.tuple #[]) ∧ ∃ d', PermIn a b dk d' ∧ SortedIn (lx (ltOf cf) tag) a b d' ∧ SWK enc k w0 blk off d' w') := Lib.hid (by
    intro a b dk wr hab hb hdk hu hS
    have hc := AnyQ.insertionSortCmpFunc_w (P := P) (ρ := Tryz.ins86_ren) L20 k L.aE L.zE enc cf g cb blk off cap a b d0 dk w0 wr eg hcmp R (by omega) hS hO hab (by omega) (by omega)
    rw [hdk] at hc
    refine hc.mono ?_
    rintro e w' ⟨rfl, h⟩
    have hst := ins_stable (tag := tag) hO dk a b hab (by omega) hu
    exact ⟨rfl, _, hst.1, hst.2, h⟩)
  have Hsym : Hid (∀ (a m b : Nat) (dk : Array α) (wr : World), a < m → m < b → b ≤ d.size → dk.size = d.size → (SortedIn (lx (ltOf cf) tag) a m dk ∧ SortedIn (lx (ltOf cf) tag) m b dk ∧ ∀ p q, a ≤ p → p < m → m ≤ q → q < b → tag dk[p]! < tag dk[q]!) → SWK enc k w0 blk off dk wr →
      Calls P 87 #[.slice (some ⟨blk, off, none⟩) d.size cap, .int .i64 a, .int .i64 m, .int .i64 b, .func (.func g) #[] cb] wr fun e w' => e = .returned (.tuple #[]) ∧ ∃ d', PermIn a b dk d' ∧ SortedIn (lx (ltOf cf) tag) a b d' ∧ SWK enc k w0 blk off d' w') := Lib.hid (by
    intro a m b dk wr ham hmb hb hdk hpre hS
    have hc := sym_any L enc cf tag hO g cb blk off cap d0 w0 eg hcmp R (by omega) (b - a) a m b dk wr (Nat.le_refl _) ham hmb (by omega) (by omega) hS hpre.1 hpre.2.1 hpre.2.2
    rw [hdk] at hc
    exact hc)
  have S0 : Aside (SWK enc k w0 blk off d w) := S
  have H0 : Hid (Run (ltOf cf) tag d 20 0 d ∧ Up tag 0 d.size d) := Lib.hid ⟨run_start 20 ht, ht⟩
  clear S ht hcmp R hO eg
  go_enter L.fsta, Tryz.ntmps62
  go_wp2
  go_loopg [7, 8] d.size (fun kx s7 s8 wr => ∃ (a b c : Nat) (dk : Array α), s7 = .int .i64 a ∧ s8 = .int .i64 b ∧ a ≤ d.size ∧ b ≤ d.size + 20 ∧ d.size ≤ kx + a ∧ Hid (b = a + 20 ∧ a = c * 20 ∧ dk.size = d.size) ∧ Hid (Run (ltOf cf) tag d 20 c dk ∧ Up tag a d.size dk) ∧ Aside (SWK enc k w0 blk off dk wr))
  case atStart => exact ⟨0, 20, 0, d, rfl, rfl, Nat.zero_le _, by omega, by omega, Lib.hid ⟨rfl, rfl, rfl⟩, H0, S0⟩
  case round =>
    clear S0 H0
    obtain ⟨a, b, c, dk, rfl, rfl, ha, hb2, hkx, HE, HR, S1⟩ := hrel
    by_cases hbn : b ≤ d.size
    · have Hc := Lib.hid (Hins.out a b dk wr (by have := HE.out.1; omega) hbn HE.out.2.2 (fun p q g1 g2 g3 => HR.out.2 p q g1 g2 (by omega)) S1.out)
      go_wp2_with (go_at_fn 86; refine Hc.out.mono ?_; rintro e w1 ⟨rfl, d1, hp, hso, hS⟩; have HP := Lib.hid hp; have HSO := Lib.hid hso; have HS1 := Lib.hid hS; clear hp hso hS)
      go_roundg (d.size - b)
      case measure => have := HE.out.1; omega
      case rel =>
        have hb := HE.out.1
        have hac := HE.out.2.1
        have hb2 : b = (c + 1) * 20 := by omega
        refine ⟨b, b + 20, c + 1, d1, rfl, by go_num, hbn, by omega, by omega, Lib.hid ⟨rfl, hb2, HP.out.1.trans HE.out.2.2⟩, Lib.hid ⟨HR.out.1.step (by omega) (by rw [← hac, ← hb2]; exact HP.out) (by rw [← hac, ← hb2]; exact HSO.out), up_kept HP.out (by omega) HR.out.2⟩, HS1.out⟩
    · have Hc := Lib.hid (Hins.out a d.size dk wr ha (Nat.le_refl _) HE.out.2.2 HR.out.2 S1.out)
      go_wp2_with (go_at_fn 86; refine Hc.out.mono ?_; rintro e w1 ⟨rfl, d1, hp, hso, hS⟩; have HP := Lib.hid hp; have HSO := Lib.hid hso; have HS1 := Lib.hid hS; clear hp hso hS)
      have HW : Hid (Whole (ltOf cf) tag d 20 d1) := Lib.hid (by have hb := HE.out.1; have hac := HE.out.2.1; exact HR.out.1.last (by omega) (by omega) (by rw [← hac]; exact HP.out) (by rw [← hac]; exact HSO.out))
      have HSw : Aside (SWK enc k w0 blk off d1 w1) := HS1.out
      clear Hc HP HSO HS1 HR S1 Hins hkx HE hb2 ha hbn
      go_loopg [6, 7, 8, 9] d.size (fun kx s6 s7 s8 s9 wr => ∃ (bs : Nat) (dk : Array α), s6 = .int .i64 bs ∧ 20 ≤ bs ∧ bs < 2000000000 ∧ d.size ≤ kx + bs ∧ Hid (Whole (ltOf cf) tag d bs dk) ∧ Aside (SWK enc k w0 blk off dk wr))
      case atStart => exact ⟨20, d1, rfl, Nat.le_refl _, by omega, by omega, HW, HSw⟩
      case round =>
        clear HW HSw
        obtain ⟨bs, dk, rfl, hb20, hb2, hkx, HW, HSw⟩ := hrel
        by_cases hbn : bs < d.size
        · have HR : Hid (Run (ltOf cf) tag d (2 * bs) 0 dk ∧ Rest (ltOf cf) tag d.size bs 0 dk) := Lib.hid ⟨HW.out.run, HW.out.rest⟩
          clear HW
          go_wp2
          go_loopg [7, 8] d.size (fun ky s7 s8 wr => ∃ (a b c : Nat) (dk : Array α), s7 = .int .i64 a ∧ s8 = .int .i64 b ∧ a ≤ d.size ∧ b ≤ d.size + 2 * bs ∧ a < b ∧ d.size ≤ ky + a ∧ Hid (b = a + 2 * bs ∧ a = c * (2 * bs) ∧ dk.size = d.size) ∧ Hid (Run (ltOf cf) tag d (2 * bs) c dk ∧ Rest (ltOf cf) tag d.size bs c dk) ∧ Aside (SWK enc k w0 blk off dk wr))
          case atStart => exact ⟨0, 2 * bs, 0, dk, rfl, by go_num, Nat.zero_le _, by omega, by omega, by omega, Lib.hid ⟨by omega, by omega, HR.out.1.size⟩, HR, HSw⟩
          case round =>
            clear HR HSw
            obtain ⟨a, b, c, dk, rfl, rfl, ha, hb3, hab, hky, HE, HR, S1⟩ := hrel
            by_cases hbn2 : b ≤ d.size
            · have hpre := HR.out.2.pre (a := a) (m := a + bs) (b := b) HE.out.2.1 rfl (by have := HE.out.1; omega) (by have := HE.out.1; omega)
              have hc := Hsym.out a (a + bs) b dk wr (by omega) (by have := HE.out.1; omega) hbn2 HE.out.2.2 hpre S1.out
              rw [show ((a + bs : Nat) : Int) = (a : Int) + (bs : Int) by omega] at hc
              have Hc := Lib.hid hc
              clear hc hpre
              go_wp2_with (go_at_fn 87; refine Hc.out.mono ?_; rintro e w2 ⟨rfl, d2, hp, hso, hS⟩; have HP := Lib.hid hp; have HSO := Lib.hid hso; have HS1 := Lib.hid hS; clear hp hso hS)
              go_roundg (d.size - b)
              case measure => omega
              case rel =>
                have hb := HE.out.1
                have hac := HE.out.2.1
                have hbc : b = (c + 1) * (2 * bs) := by rw [Nat.add_mul, Nat.one_mul, ← hac]; exact hb
                refine ⟨b, b + 2 * bs, c + 1, d2, rfl, by go_num, hbn2, by omega, by omega, by omega, Lib.hid ⟨rfl, hbc, HP.out.1.trans HE.out.2.2⟩, Lib.hid ⟨HR.out.1.step (by omega) (by rw [← hac, ← hbc]; exact HP.out) (by rw [← hac, ← hbc]; exact HSO.out), HR.out.2.step (by omega) HE.out.2.2.symm (by rw [← hac, ← hbc]; exact HP.out)⟩, HS1.out⟩
            · have hbc : d.size < (c + 1) * (2 * bs) := by rw [Nat.add_mul, Nat.one_mul, ← HE.out.2.1]; have := HE.out.1; omega
              have Hbc := Lib.hid hbc
              clear hbc
              by_cases hm : a + bs < d.size
              · have hpre := HR.out.2.pre (a := a) (m := a + bs) (b := d.size) HE.out.2.1 rfl (by omega) (by have := HE.out.1; omega)
                have hc := Hsym.out a (a + bs) d.size dk wr (by omega) hm (Nat.le_refl _) HE.out.2.2 hpre S1.out
                rw [show ((a + bs : Nat) : Int) = (a : Int) + (bs : Int) by omega] at hc
                have Hc := Lib.hid hc
                clear hc hpre
                go_wp2_with (go_at_fn 87; refine Hc.out.mono ?_; rintro e w2 ⟨rfl, d2, hp, hso, hS⟩; have HP := Lib.hid hp; have HSO := Lib.hid hso; have HS1 := Lib.hid hS; clear hp hso hS)
                go_roundg (d.size - 2 * bs)
                case measure => omega
                case rel => exact ⟨2 * bs, d2, by go_num, by omega, by omega, by omega, Lib.hid (HR.out.1.last Hbc.out (by rw [← HE.out.2.1]; exact ha) (by rw [← HE.out.2.1]; exact HP.out) (by rw [← HE.out.2.1]; exact HSO.out)), HS1.out⟩
              · have HSO := Lib.hid (HR.out.2.alone HE.out.2.1 (by omega))
                go_wp2
                go_roundg (d.size - 2 * bs)
                case measure => omega
                case rel => exact ⟨2 * bs, dk, by go_num, by omega, by omega, by omega, Lib.hid (HR.out.1.last Hbc.out (by rw [← HE.out.2.1]; exact ha) (permIn_refl _ _ _) (by rw [← HE.out.2.1]; exact HSO.out)), S1⟩
        · go_wp2
          go_end0
          exact ⟨rfl, dk, HW.out.perm, HW.out.all (by omega), HSw.out⟩
end
end Go.Proofs.YtejgcnmbngdkiaaGreatDoor
/-
  The library's stable sort, by its door.
-/
namespace Go.Proofs.YtejgcnmbngdkiaaGreatDoor
section
open Go.Shelf Go.RowKit Go.Lib Go.Sort
variable {α : Type} [Inhabited α] {P : Program}
set_option maxRecDepth 1000000

set_option maxHeartbeats 4000000 in
theorem sortStable_K {k : Nat} (L : SortL P k) (L20 : SlLaysF0.n20 P Tryz.ins86_ren) (enc : α → List Value) (cf : α → α → Int) (tag : α → Nat) (hO : SWO (ltOf cf)) (g : Nat) (cb : Array Value) (blk off cap : Nat) (d : Array α) (w : World)
    (eg : ∀ args w, (callFunc g args).run P w = .ok (.enter g args) w) (hcmp : CmpLays P g cb enc k cf blk off d.size w) (R : RowK enc k w blk off d) (hsz : d.size < 1000000000) (ht : Up tag 0 d.size d) :
    Calls P 37 #[.slice (some ⟨blk, off, none⟩) d.size cap, .func (.func g) #[] cb] w fun e w' => e = .returned (.tuple #[]) ∧ ∃ d', PermIn 0 d.size d d' ∧ SortedIn (lx (ltOf cf) tag) 0 d.size d' ∧ SWK enc k w blk off d' w' := by
  have mixed := L.mixed; have t0 := L.t0; have a0 := L.a0; have z0 := L.z0; have v0 := L.v0; have t3 := L.t3; have a3 := L.a3; have z3 := L.z3; have v3 := L.v3; have t4 := L.t4; have a4 := L.a4; have z4 := L.z4; have v4 := L.v4; have t23 := L.t23; have a23 := L.a23; have z23 := L.z23; have v23 := L.v23; have t66 := L.t66; have a66 := L.a66; have z66 := L.z66; have v66 := L.v66
  have e67 : ∀ args w, (callFunc 62 args).run P w = .ok (.enter 62 args) w := enters_of L.fsta (by kernel_rfl) rfl
  have Hc := Lib.hid (stable_K L L20 enc cf tag hO g cb blk off cap d d w w eg hcmp R rfl (SWK.start R.hH) hsz ht)
  clear hcmp R ht hO eg
  go_enter L.fsrt, Tryz.ntmps37
  go_wp2_with (go_at_fn 62; refine Hc.out.mono ?_; rintro e w1 ⟨rfl, hq⟩; have HQ := Lib.hid hq; clear hq)
  go_end0
  exact ⟨rfl, HQ.out⟩
end
end Go.Proofs.YtejgcnmbngdkiaaGreatDoor
/-
  What the program gives the library's sort and its compaction: two pairs' keys, compared.
-/
namespace Go.Proofs.YtejgcnmbngdkiaaGreatDoor
section
open Go.Shelf Go.RowKit Go.Lib Go.Sort
set_option maxRecDepth 1000000

theorem cmpB_lt : ∀ a b : List UInt8, decide (Lib.compareBytes a b < 0) = Op.bytesLess a b
  | [], [] => rfl
  | [], _ :: _ => rfl
  | _ :: _, [] => rfl
  | a :: x, b :: y => by
    rw [Lib.compareBytes, Op.bytesLess]
    by_cases h : a < b
    · rw [if_pos h, decide_eq_true h]; rfl
    · rw [if_neg h, decide_eq_false h, Bool.false_or]
      by_cases h2 : b < a
      · rw [if_pos h2]
        have : (a == b) = false := by
          rw [beq_eq_false_iff_ne]; intro e; subst e; exact h h2
        rw [this]; rfl
      · rw [if_neg h2, cmpB_lt x y]
        have : a = b := UInt8.toNat_inj.1 (Nat.le_antisymm (Nat.not_lt.1 fun g => h2 (UInt8.lt_iff_toNat_lt.2 g)) (Nat.not_lt.1 fun g => h (UInt8.lt_iff_toNat_lt.2 g)))
        rw [beq_iff_eq.2 this]; rfl

/-- A pair and the place where it stood. -/
abbrev El := Nat × Hp
instance : Inhabited Hp := ⟨⟨⟨#[]⟩, Hv.nil⟩⟩
def elCells (x : El) : List Value := x.2.cells
def cfK (x y : El) : Int := Lib.compareBytes x.2.key.data.toList y.2.key.data.toList
theorem ltOf_cfK (x y : El) : ltOf cfK x y = kLt x.2.key y.2.key := cmpB_lt _ _
theorem swo_cfK : SWO (ltOf cfK) := by
  refine ⟨fun x => ?_, fun x y z => ?_, fun x y z => ?_⟩
  · rw [ltOf_cfK]; exact kLt_irrefl _
  · rw [ltOf_cfK, ltOf_cfK, ltOf_cfK]; exact kLt_trans
  · rw [ltOf_cfK, ltOf_cfK, ltOf_cfK]
    intro h1 h2
    cases h : kLt x.2.key z.2.key with
    | false => rfl
    | true =>
      cases h3 : kLt y.2.key x.2.key with
      | true => rw [kLt_trans h3 h] at h2; cases h2
      | false => rw [kLt_total h1 h3] at h; rw [h] at h2; cases h2

theorem two_allocs (w : World) (o o' : Obj) : ∃ q os', (w.alloc o).alloc o' = grow (w.drewN q) os' := ⟨0, #[o, o'], by rw [World.drewN_zero, alloc_eq_grow, alloc_eq_grow, grow_grow]; rfl⟩
set_option maxHeartbeats 4000000 in
theorem cmp1_any (x y : Hp) (w : World) : Calls Tryz.prog 38 #[.agg x.arr, .agg y.arr] w fun e w' => e = .returned (.int .i64 (Lib.compareBytes x.key.data.toList y.key.data.toList)) ∧ ∃ q os', w' = grow (w.drewN q) os' := by
  obtain ⟨xk, x1, x2, x3, x4, ⟨xp, xl, xc⟩, ⟨xq, xm, xd⟩⟩ := x
  obtain ⟨yk, y1, y2, y3, y4, ⟨yp, yl, yc⟩, ⟨yq, ym, yd⟩⟩ := y
  show Calls Tryz.prog 38 #[.agg #[.string xk, .int .i64 x1, .int .i64 x2, .int .i64 x3, .string x4, .slice xp xl xc, .slice xq xm xd], .agg #[.string yk, .int .i64 y1, .int .i64 y2, .int .i64 y3, .string y4, .slice yp yl yc, .slice yq ym yd]] w _
  have hz := Lib.hid (fun W => Any.strings_Compare Tryz.lays106 xk yk W)
  go_enter Tryz.func38, Tryz.ntmps38
  go_wp2_with (go_at_call 39; refine (hz.out _).mono ?_; rintro e w1 ⟨rfl, hw⟩; subst w1)
  go_ret
  exact ⟨rfl, two_allocs _ _ _⟩
set_option maxHeartbeats 4000000 in
theorem cmp2_any (x y : Hp) (w : World) : Calls Tryz.prog 41 #[.agg x.arr, .agg y.arr] w fun e w' => e = .returned (.bool (decide (x.key = y.key))) ∧ ∃ q os', w' = grow (w.drewN q) os' := by
  obtain ⟨xk, x1, x2, x3, x4, ⟨xp, xl, xc⟩, ⟨xq, xm, xd⟩⟩ := x
  obtain ⟨yk, y1, y2, y3, y4, ⟨yp, yl, yc⟩, ⟨yq, ym, yd⟩⟩ := y
  show Calls Tryz.prog 41 #[.agg #[.string xk, .int .i64 x1, .int .i64 x2, .int .i64 x3, .string x4, .slice xp xl xc, .slice xq xm xd], .agg #[.string yk, .int .i64 y1, .int .i64 y2, .int .i64 y3, .string y4, .slice yp yl yc, .slice yq ym yd]] w fun e w' => e = .returned (.bool (decide (xk = yk))) ∧ _
  by_cases h : xk = yk
  · rw [decide_eq_true h]
    subst h
    go_enter Tryz.func41, Tryz.ntmps41
    go_wp2
    go_ret
    exact ⟨rfl, two_allocs _ _ _⟩
  · rw [decide_eq_false h]
    have hke : ¬ xk.toList = yk.toList := by intro e; apply h; rw [ByteArray.toList_eq, ByteArray.toList_eq] at e; rcases xk with ⟨⟨a⟩⟩; rcases yk with ⟨⟨b⟩⟩; simpa using e
    have hke2 : (xk.toList == yk.toList) = false := by simpa using hke
    have hke3 : decide (xk.toList = yk.toList) = false := decide_eq_false hke
    clear h
    go_enter Tryz.func41, Tryz.ntmps41
    go_wp2
    go_ret
    exact ⟨rfl, two_allocs _ _ _⟩
theorem cmp_lays (blk off size : Nat) (w : World) : CmpLays Tryz.prog 38 #[] elCells 7 cfK blk off size w :=
  fun _ _ _ _ x y => cmp1_any x.2 y.2 _
end
end Go.Proofs.YtejgcnmbngdkiaaGreatDoor
