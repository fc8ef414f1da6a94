/-
  The sum behind deflated bytes: plain facts, no program in sight.
-/
import Derived.Test.YtpanhjhdohdbkaaDPlain
namespace Go.Proofs.Ytpanhjhdohdbkaa

/-- Both halves, the low one first: gone on with bytes. -/
def aFold (p : Nat × Nat) (l : List UInt8) : Nat × Nat := l.foldl (fun p c => ((p.1 + c.toNat) % 65521, (p.2 + (p.1 + c.toNat) % 65521) % 65521)) p
theorem aFold_snoc (p : Nat × Nat) (l : List UInt8) (c : UInt8) : aFold p (l ++ [c]) = (((aFold p l).1 + c.toNat) % 65521, ((aFold p l).2 + ((aFold p l).1 + c.toNat) % 65521) % 65521) := by simp [aFold]
theorem aFold_append (p : Nat × Nat) (a b : List UInt8) : aFold p (a ++ b) = aFold (aFold p a) b := by simp [aFold]
/-- The bytes together, and each as often as there are bytes from it on. -/
def sB : List UInt8 → Nat
  | [] => 0
  | c :: l => c.toNat + sB l
def wB : List UInt8 → Nat
  | [] => 0
  | c :: l => (l.length + 1) * c.toNat + wB l
theorem aFold_is : ∀ (l : List UInt8) (a h : Nat), a < 65521 → h < 65521 → aFold (a, h) l = ((a + sB l) % 65521, (h + l.length * a + wB l) % 65521)
  | [], a, h, ha, hh => by
    simp only [aFold, List.foldl_nil, sB, wB, List.length_nil, Nat.zero_mul, Nat.add_zero]
    rw [Nat.mod_eq_of_lt ha, Nat.mod_eq_of_lt hh]
  | c :: l, a, h, ha, hh => by
    have e : aFold (a, h) (c :: l) = aFold ((a + c.toNat) % 65521, (h + (a + c.toNat) % 65521) % 65521) l := rfl
    rw [e, aFold_is l _ _ (Nat.mod_lt _ (by omega)) (Nat.mod_lt _ (by omega))]
    simp only [sB, wB, List.length_cons]
    congr 1
    · rw [Nat.mod_add_mod, Nat.add_assoc]
    · obtain ⟨r, hr⟩ : ∃ r, (a + c.toNat) % 65521 = r := ⟨_, rfl⟩
      obtain ⟨q, hq⟩ : ∃ q, (a + c.toNat) / 65521 = q := ⟨_, rfl⟩
      have hac : a + c.toNat = 65521 * q + r := by rw [← hr, ← hq]; exact (Nat.div_add_mod _ _).symm
      rw [hr, Nat.add_assoc ((h + r) % 65521), Nat.mod_add_mod]
      have e2 : h + (l.length + 1) * a + ((l.length + 1) * c.toNat + wB l) = (h + r + (l.length * r + wB l)) + 65521 * ((l.length + 1) * q) := by
        have : (l.length + 1) * a + (l.length + 1) * c.toNat = (l.length + 1) * (65521 * q + r) := by rw [← Nat.mul_add, hac]
        have e3 : (l.length + 1) * (65521 * q + r) = 65521 * ((l.length + 1) * q) + (l.length * r + r) := by
          rw [Nat.mul_add, Nat.add_mul (l.length) 1 r, Nat.one_mul, Nat.mul_left_comm]
        omega
      rw [e2, Nat.add_mul_mod_self_left]
theorem sB_append : ∀ (a b : List UInt8), sB (a ++ b) = sB a + sB b
  | [], b => by simp [sB]
  | c :: a, b => by simp only [List.cons_append, sB, sB_append a b]; omega
theorem wB_append : ∀ (a b : List UInt8), wB (a ++ b) = wB a + b.length * sB a + wB b
  | [], b => by simp [sB, wB]
  | c :: a, b => by
    simp only [List.cons_append, sB, wB, wB_append a b, List.length_append]
    have e : (a.length + b.length + 1) * c.toNat = (a.length + 1) * c.toNat + b.length * c.toNat := by rw [← Nat.add_mul]; congr 1; omega
    rw [e, Nat.mul_add]; omega
theorem aFold_lt (l : List UInt8) {p : Nat × Nat} (h1 : p.1 < 65521) (h2 : p.2 < 65521) : (aFold p l).1 < 65521 ∧ (aFold p l).2 < 65521 := by
  obtain ⟨a, h⟩ := p
  rw [aFold_is l a h h1 h2]
  exact ⟨Nat.mod_lt _ (by omega), Nat.mod_lt _ (by omega)⟩

/-- Both halves as one number. -/
def aNum (p : Nat × Nat) : Nat := p.2 * 65536 + p.1
def aSum (l : List UInt8) : Nat := aNum (aFold (1, 0) l)
theorem aNum_parts {p : Nat × Nat} (h : p.1 < 65521) : aNum p % 65536 = p.1 ∧ aNum p / 65536 = p.2 := by unfold aNum; omega
theorem aSum_is (l : List UInt8) : aFold (1, 0) l = ((1 + sB l) % 65521, (l.length + wB l) % 65521) := by
  rw [aFold_is l 1 0 (by omega) (by omega)]; simp
/-- Is it a sum? -/
def aIs (n : Nat) : Prop := n / 65536 < 65521 ∧ n % 65536 < 65521
theorem aSum_ok (l : List UInt8) : aIs (aSum l) := by
  obtain ⟨h1, h2⟩ := aFold_lt l (p := (1, 0)) (by decide) (by decide)
  obtain ⟨e1, e2⟩ := aNum_parts h1
  unfold aIs aSum
  rw [e1, e2]; exact ⟨h2, h1⟩
theorem aNum_ok {p : Nat × Nat} (h1 : p.1 < 65521) (h2 : p.2 < 65521) : aIs (aNum p) := by
  obtain ⟨e1, e2⟩ := aNum_parts h1
  unfold aIs
  rw [e1, e2]; exact ⟨h2, h1⟩

/-- Gone on from a sum. -/
def aOn (n : Nat) (l : List UInt8) : Nat := aNum (aFold (n % 65536, n / 65536) l)
theorem aOn_sum (s t : List UInt8) : aOn (aSum s) t = aSum (s ++ t) := by
  obtain ⟨h1, _⟩ := aFold_lt s (p := (1, 0)) (by decide) (by decide)
  obtain ⟨e1, e2⟩ := aNum_parts h1
  unfold aOn
  rw [show aSum s = aNum (aFold (1, 0) s) from rfl, e1, e2]
  unfold aSum
  rw [aFold_append]
/-- Put together by their sums. -/
def aPut (x y n : Nat) : Nat := aNum ((x % 65536 + y % 65536 + 65520) % 65521, (x / 65536 + y / 65536 + n % 65521 * ((x % 65536 + 65520) % 65521)) % 65521)
theorem aPut_sum (s t : List UInt8) : aPut (aSum s) (aSum t) t.length = aSum (s ++ t) := by
  obtain ⟨hs, _⟩ := aFold_lt s (p := (1, 0)) (by decide) (by decide)
  obtain ⟨ht, _⟩ := aFold_lt t (p := (1, 0)) (by decide) (by decide)
  obtain ⟨s1, s2⟩ := aNum_parts hs
  obtain ⟨t1, t2⟩ := aNum_parts ht
  unfold aPut
  rw [show aSum s = aNum (aFold (1, 0) s) from rfl, show aSum t = aNum (aFold (1, 0) t) from rfl, s1, s2, t1, t2]
  unfold aSum
  rw [aSum_is s, aSum_is t, aSum_is (s ++ t), sB_append, wB_append, List.length_append]
  simp only
  have eL : ((1 + sB s) % 65521 + (1 + sB t) % 65521 + 65520) % 65521 = (1 + (sB s + sB t)) % 65521 := by omega
  have e1 : ((1 + sB s) % 65521 + 65520) % 65521 = sB s % 65521 := by omega
  have eH : ((s.length + wB s) % 65521 + (t.length + wB t) % 65521 + t.length % 65521 * (sB s % 65521)) % 65521 = (s.length + t.length + (wB s + t.length * sB s + wB t)) % 65521 := by
    have h1 := Nat.mul_mod t.length (sB s) 65521
    have h2 : (t.length % 65521 * (sB s % 65521)) % 65521 = (t.length * sB s) % 65521 := h1.symm
    omega
  rw [e1, eL, eH]

/-- More, and Join: the number, and the error. -/
def aBad (n : Int) : Prop := n < 0 ∨ 65521 ≤ n / 65536 ∨ 65521 ≤ n % 65536
instance (n : Int) : Decidable (aBad n) := by unfold aBad; infer_instance
def aMore (sum : Int) (l : List UInt8) : Int × Int := if aBad sum then (0, 3) else ((aOn sum.toNat l : Int), 0)
def aJoin (x y n : Int) : Int × Int := if aBad x ∨ aBad y ∨ n < 0 then (0, 3) else ((aPut x.toNat y.toNat n.toNat : Int), 0)
theorem aBad_nat {n : Nat} : aBad (n : Int) ↔ ¬ aIs n := by unfold aBad aIs; omega
theorem aMore_no {sum : Int} {l : List UInt8} (h : aBad sum) : aMore sum l = (0, 3) := by unfold aMore; rw [if_pos h]
theorem aMore_ok {n : Nat} {l : List UInt8} (h : aIs n) : aMore (n : Int) l = ((aOn n l : Int), 0) := by unfold aMore; rw [if_neg (fun e => aBad_nat.1 e h), Int.toNat_natCast]
theorem aJoin_no {x y n : Int} (h : aBad x ∨ aBad y ∨ n < 0) : aJoin x y n = (0, 3) := by unfold aJoin; rw [if_pos h]
theorem aJoin_ok {x y n : Nat} (hx : aIs x) (hy : aIs y) : aJoin (x : Int) (y : Int) (n : Int) = ((aPut x y n : Int), 0) := by
  unfold aJoin; rw [if_neg]
  · simp
  · rintro (h | h | h)
    · exact aBad_nat.1 h hx
    · exact aBad_nat.1 h hy
    · omega

/-- A byte turned is seen. -/
theorem sum_byte (p r : List UInt8) (c d : UInt8) : aSum (p ++ d :: r) = aSum (p ++ c :: r) ↔ d = c := by
  constructor
  · intro h
    have h1 : aSum (p ++ d :: r) % 65536 = aSum (p ++ c :: r) % 65536 := by rw [h]
    obtain ⟨ha, _⟩ := aFold_lt (p ++ d :: r) (p := (1, 0)) (by decide) (by decide)
    obtain ⟨hb, _⟩ := aFold_lt (p ++ c :: r) (p := (1, 0)) (by decide) (by decide)
    unfold aSum at h1
    rw [(aNum_parts ha).1, (aNum_parts hb).1, aSum_is, aSum_is, sB_append, sB_append] at h1
    simp only [sB] at h1
    apply UInt8.toNat_inj.1
    have := c.toNat_lt
    have := d.toNat_lt
    omega
  · rintro rfl; rfl

end Go.Proofs.Ytpanhjhdohdbkaa
