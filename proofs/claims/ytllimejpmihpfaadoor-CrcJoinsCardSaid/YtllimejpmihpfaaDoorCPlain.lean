/-
  A check sum of 32 bits: plain facts, no program in sight.
-/
import Derived.Test.YtllimejpmihpfaaDoorDPlain
namespace Go.Proofs.YtllimejpmihpfaaDoor

/-- One step. -/
def hN (x : Nat) : Nat := if x % 2 = 1 then x / 2 ^^^ 3988292384 else x / 2

theorem xor_half (a b : Nat) : (a ^^^ b) / 2 = a / 2 ^^^ b / 2 := by
  apply Nat.eq_of_testBit_eq
  intro i
  rw [Nat.testBit_div_two, Nat.testBit_xor, Nat.testBit_xor, Nat.testBit_div_two, Nat.testBit_div_two]
theorem xor_odd (a b : Nat) : (a ^^^ b) % 2 = 1 ↔ ¬ (a % 2 = 1 ↔ b % 2 = 1) := by
  have h := Nat.testBit_xor a b 0
  simp only [Nat.testBit_zero] at h
  rw [← decide_eq_true_iff (p := (a ^^^ b) % 2 = 1), h]
  by_cases ha : a % 2 = 1 <;> by_cases hb : b % 2 = 1 <;> simp [ha, hb]
theorem hN_xor (a b : Nat) : hN (a ^^^ b) = hN a ^^^ hN b := by
  have h := xor_odd a b
  unfold hN
  rw [xor_half]
  by_cases ha : a % 2 = 1 <;> by_cases hb : b % 2 = 1
  · rw [if_neg (by rw [h]; simp [ha, hb]), if_pos ha, if_pos hb]
    have e : a / 2 ^^^ 3988292384 ^^^ (b / 2 ^^^ 3988292384) = a / 2 ^^^ b / 2 ^^^ (3988292384 ^^^ 3988292384) := by ac_rfl
    rw [e, Nat.xor_self, Nat.xor_zero]
  · rw [if_pos (by rw [h]; simp [ha, hb]), if_pos ha, if_neg hb]
    ac_rfl
  · rw [if_pos (by rw [h]; simp [ha, hb]), if_neg ha, if_pos hb]
    ac_rfl
  · rw [if_neg (by rw [h]; simp [ha, hb]), if_neg ha, if_neg hb]
theorem hN_lt {x : Nat} (h : x < 4294967296) : hN x < 4294967296 := by
  unfold hN
  split
  · exact Nat.xor_lt_two_pow (n := 32) (by omega) (by omega)
  · omega
theorem xor_twice (a b : Nat) : a ^^^ b ^^^ b = a := by rw [Nat.xor_assoc, Nat.xor_self, Nat.xor_zero]
theorem hN_zero : hN 0 = 0 := rfl
theorem hN_only {x : Nat} (hx : x < 4294967296) (h : hN x = 0) : x = 0 := by
  unfold hN at h
  split at h
  · have e : x / 2 = 3988292384 := by rw [← xor_twice (x / 2) 3988292384, h, Nat.zero_xor]
    omega
  · omega

/-- So many steps. -/
def HN : Nat → Nat → Nat
  | 0, x => x
  | k + 1, x => HN k (hN x)
theorem HN_xor : ∀ (k a b : Nat), HN k (a ^^^ b) = HN k a ^^^ HN k b
  | 0, _, _ => rfl
  | k + 1, a, b => by unfold HN; rw [hN_xor, HN_xor k]
theorem HN_lt : ∀ (k : Nat) {x : Nat}, x < 4294967296 → HN k x < 4294967296
  | 0, _, h => h
  | k + 1, _, h => HN_lt k (hN_lt h)
theorem HN_zero : ∀ k : Nat, HN k 0 = 0
  | 0 => rfl
  | k + 1 => by unfold HN; rw [hN_zero, HN_zero k]
theorem HN_only : ∀ (k : Nat) {x : Nat}, x < 4294967296 → HN k x = 0 → x = 0
  | 0, _, _, h => h
  | k + 1, _, hx, h => hN_only hx (HN_only k (hN_lt hx) h)
theorem HN_add : ∀ (a b x : Nat), HN (a + b) x = HN b (HN a x)
  | 0, b, x => by rw [Nat.zero_add]; rfl
  | a + 1, b, x => by
    rw [show a + 1 + b = (a + b) + 1 from by omega]
    exact HN_add a b (hN x)
theorem HN_succ (k x : Nat) : HN (k + 1) x = hN (HN k x) := by rw [HN_add]; rfl
/-- A bit falls down, step by step. -/
theorem HN_bit : ∀ (j : Nat), HN j (2 ^ j) = 1
  | 0 => rfl
  | j + 1 => by
    have e : hN (2 ^ (j + 1)) = 2 ^ j := by
      unfold hN
      rw [Nat.pow_succ, if_neg (by omega)]; omega
    unfold HN; rw [e, HN_bit j]
theorem HN_bit_more {j k : Nat} (h : j ≤ k) : HN k (2 ^ j) = HN (k - j) 1 := by
  obtain ⟨d, rfl⟩ : ∃ d, k = j + d := ⟨k - j, by omega⟩
  rw [HN_add, HN_bit, Nat.add_sub_cancel_left]

/-- A byte. -/
def stepN (x c : Nat) : Nat := HN 8 (x ^^^ c)
/-- Bytes, one behind the other. -/
def foldN (x : Nat) (l : List UInt8) : Nat := l.foldl (fun x c => stepN x c.toNat) x
theorem foldN_snoc (x : Nat) (l : List UInt8) (c : UInt8) : foldN x (l ++ [c]) = stepN (foldN x l) c.toNat := by simp [foldN]
theorem foldN_append (x : Nat) (a b : List UInt8) : foldN x (a ++ b) = foldN (foldN x a) b := by simp [foldN]
theorem foldN_cons (x : Nat) (c : UInt8) (l : List UInt8) : foldN x (c :: l) = foldN (stepN x c.toNat) l := rfl
theorem stepN_lt {x : Nat} (hx : x < 4294967296) (c : UInt8) : stepN x c.toNat < 4294967296 :=
  HN_lt 8 (Nat.xor_lt_two_pow (n := 32) hx (by have := c.toNat_lt; omega))
theorem foldN_lt : ∀ (l : List UInt8) {x : Nat}, x < 4294967296 → foldN x l < 4294967296
  | [], _, h => h
  | c :: l, _, h => foldN_lt l (stepN_lt h c)
theorem foldN_xor : ∀ (l : List UInt8) (x y : Nat), foldN (x ^^^ y) l = foldN x l ^^^ HN (8 * l.length) y
  | [], x, y => rfl
  | c :: l, x, y => by
    rw [foldN_cons, foldN_cons]
    have e : stepN (x ^^^ y) c.toNat = stepN x c.toNat ^^^ HN 8 y := by
      unfold stepN
      rw [← HN_xor]; congr 1; ac_rfl
    rw [e, foldN_xor l, ← HN_add, List.length_cons, show 8 + 8 * l.length = 8 * (l.length + 1) from by omega]

/-- The sum of bytes. -/
def sumN (l : List UInt8) : Nat := foldN 4294967295 l ^^^ 4294967295
theorem sumN_lt (l : List UInt8) : sumN l < 4294967296 := Nat.xor_lt_two_pow (n := 32) (foldN_lt l (by omega)) (by omega)

/-- A sum goes on. -/
theorem more_sum (s t : List UInt8) : foldN (sumN s ^^^ 4294967295) t ^^^ 4294967295 = sumN (s ++ t) := by
  unfold sumN
  rw [xor_twice, foldN_append]
/-- Two sums are put together. -/
theorem join_sum (s t : List UInt8) : HN (8 * t.length) (sumN s) ^^^ sumN t = sumN (s ++ t) := by
  rw [← more_sum s t, Nat.xor_comm (sumN s), foldN_xor]
  unfold sumN
  ac_rfl

/-- More, and Join: the number, and the error. -/
def cMore (sum : Int) (l : List UInt8) : Int × Int :=
  if sum < 0 ∨ 4294967295 < sum then (0, 3) else (((foldN (sum.toNat ^^^ 4294967295) l ^^^ 4294967295 : Nat) : Int), 0)
def cJoin (a b n : Int) : Int × Int :=
  if (a < 0 ∨ 4294967295 < a) ∨ (b < 0 ∨ 4294967295 < b) ∨ n < 0 then (0, 3) else (((HN (8 * n.toNat) a.toNat ^^^ b.toNat : Nat) : Int), 0)
theorem cMore_no {sum : Int} {l : List UInt8} (h : sum < 0 ∨ 4294967295 < sum) : cMore sum l = (0, 3) := by unfold cMore; rw [if_pos h]
theorem cMore_ok {x : Nat} {l : List UInt8} (h : x ≤ 4294967295) : cMore (x : Int) l = (((foldN (x ^^^ 4294967295) l ^^^ 4294967295 : Nat) : Int), 0) := by unfold cMore; rw [if_neg (by omega), Int.toNat_natCast]
theorem cJoin_no {a b n : Int} (h : (a < 0 ∨ 4294967295 < a) ∨ (b < 0 ∨ 4294967295 < b) ∨ n < 0) : cJoin a b n = (0, 3) := by unfold cJoin; rw [if_pos h]
theorem cJoin_ok {a b n : Nat} (ha : a ≤ 4294967295) (hb : b ≤ 4294967295) : cJoin (a : Int) (b : Int) (n : Int) = (((HN (8 * n) a ^^^ b : Nat) : Int), 0) := by
  unfold cJoin; rw [if_neg (by omega)]; simp

/-- A bit of a text turned: how its sum is turned. -/
theorem sum_turn (p r : List UInt8) (c d : UInt8) (j : Nat) (hj : j < 8) (hd : d.toNat = c.toNat ^^^ 2 ^ j) :
    sumN (p ++ d :: r) = sumN (p ++ c :: r) ^^^ HN (8 * (r.length + 1) - j) 1 := by
  unfold sumN
  rw [foldN_append, foldN_append, foldN_cons, foldN_cons]
  have e : stepN (foldN 4294967295 p) d.toNat = stepN (foldN 4294967295 p) c.toNat ^^^ HN (8 - j) 1 := by
    unfold stepN
    rw [hd, ← Nat.xor_assoc, HN_xor, HN_bit_more (show j ≤ 8 by omega)]
  rw [e, foldN_xor, ← HN_add, show 8 - j + 8 * r.length = 8 * (r.length + 1) - j from by omega]
  ac_rfl

/-- The bits of a mask below a place. -/
theorem mask_step_on {m i : Nat} (h : m.testBit i = true) : m % 2 ^ (i + 1) = m % 2 ^ i ^^^ 2 ^ i := by
  apply Nat.eq_of_testBit_eq
  intro k
  rw [Nat.testBit_mod_two_pow, Nat.testBit_xor, Nat.testBit_mod_two_pow, Nat.testBit_two_pow]
  by_cases h1 : k < i
  · have : k < i + 1 := by omega
    have : ¬ i = k := by omega
    simp [*]
  · by_cases h2 : k = i
    · subst h2; simp [h]
    · have : ¬ k < i + 1 := by omega
      have : ¬ i = k := by omega
      simp [*]
theorem mask_step_off {m i : Nat} (h : m.testBit i = false) : m % 2 ^ (i + 1) = m % 2 ^ i := by
  apply Nat.eq_of_testBit_eq
  intro k
  rw [Nat.testBit_mod_two_pow, Nat.testBit_mod_two_pow]
  by_cases h1 : k < i
  · have : k < i + 1 := by omega
    simp [*]
  · by_cases h2 : k = i
    · subst h2; simp [h]
    · have : ¬ k < i + 1 := by omega
      simp [*]
/-- What a burst does to a sum, as far as it has come; n bits from its beginning on. -/
theorem burst_on {n m i : Nat} (hi : i ≤ n) (h : m.testBit i = true) : HN n (m % 2 ^ (i + 1)) = HN n (m % 2 ^ i) ^^^ HN (n - i) 1 := by
  rw [mask_step_on h, HN_xor, HN_bit_more hi]
theorem burst_off {n m i : Nat} (h : m.testBit i = false) : HN n (m % 2 ^ (i + 1)) = HN n (m % 2 ^ i) := by rw [mask_step_off h]
theorem burst_seen {n m i a b : Nat} (hi : i ≤ 32) (h : b = a ^^^ HN n (m % 2 ^ i)) : ¬ b = a ↔ ¬ m % 2 ^ i = 0 := by
  have hlt : m % 2 ^ i < 4294967296 := by
    have h1 : m % 2 ^ i < 2 ^ i := Nat.mod_lt _ (Nat.pow_pos (by omega))
    have h2 : (2 : Nat) ^ i ≤ 2 ^ 32 := Nat.pow_le_pow_right (by omega) hi
    omega
  rw [h]
  constructor
  · intro h1 h2
    apply h1
    rw [h2, HN_zero, Nat.xor_zero]
  · intro h1 h2
    apply h1
    apply HN_only n hlt
    have : a ^^^ (a ^^^ HN n (m % 2 ^ i)) = a ^^^ a := by rw [h2]
    rw [← Nat.xor_assoc, Nat.xor_self, Nat.zero_xor] at this
    exact this

end Go.Proofs.YtllimejpmihpfaaDoor
