/-
  Bytes as hexadecimal digits: plain facts, no program in sight.
-/
import Derived.Test.YtnjmapgmodoodaaPlain
import Derived.Test.YtnjmapgmodoodaaDPlain
namespace Go.Proofs.Ytnjmapgmodoodaa

/-- A digit's byte. -/
def digB (n : Nat) : UInt8 := UInt8.ofNat (digitI (n : Int)).toNat
theorem digitI_range {n : Nat} (h : n < 16) : 48 ≤ digitI (n : Int) ∧ digitI (n : Int) ≤ 70 ∧ digitI (n : Int) ≠ 62 := by
  have : ∀ k : Fin 16, 48 ≤ digitI (k.1 : Int) ∧ digitI (k.1 : Int) ≤ 70 ∧ digitI (k.1 : Int) ≠ 62 := by decide
  exact this ⟨n, h⟩
theorem digB_nat {n : Nat} (h : n < 16) : ((digB n).toNat : Int) = digitI (n : Int) := by
  have := digitI_range h
  unfold digB
  rw [UInt8.toNat_ofNat']
  omega
theorem hex_digit {n : Nat} (h : n < 16) : hexI (digitI (n : Int)) = n := by
  have : ∀ k : Fin 16, hexI (digitI (k.1 : Int)) = k.1 := by decide
  exact this ⟨n, h⟩
theorem hexI_range (c : UInt8) : hexI (c.toNat : Int) = -1 ∨ (0 ≤ hexI (c.toNat : Int) ∧ hexI (c.toNat : Int) < 16) := by
  unfold hexI; split
  · omega
  · split
    · omega
    · split <;> omega

/-- The digits of bytes. -/
def encD (l : List UInt8) : List UInt8 := l.flatMap fun c => [digB (c.toNat / 16), digB (c.toNat % 16)]
theorem encD_nil : encD [] = [] := rfl
theorem encD_cons (c : UInt8) (l : List UInt8) : encD (c :: l) = digB (c.toNat / 16) :: digB (c.toNat % 16) :: encD l := rfl
theorem encD_snoc (l : List UInt8) (c : UInt8) : encD (l ++ [c]) = encD l ++ [digB (c.toNat / 16), digB (c.toNat % 16)] := by simp [encD]
theorem encD_length : ∀ l : List UInt8, (encD l).length = 2 * l.length
  | [] => rfl
  | c :: l => by rw [encD_cons, List.length_cons, List.length_cons, encD_length l, List.length_cons]; omega
def encH (l : List UInt8) : List UInt8 := encD l ++ [62]
theorem encH_length (l : List UInt8) : (encH l).length = 2 * l.length + 1 := by unfold encH; rw [List.length_append, encD_length]; rfl
/-- All that is encoded can be seen. -/
theorem encH_seen {l : List UInt8} {c : UInt8} (h : c ∈ encH l) : 48 ≤ c.toNat ∧ c.toNat ≤ 70 := by
  unfold encH at h
  rcases List.mem_append.1 h with h | h
  · unfold encD at h
    obtain ⟨x, _, hx⟩ := List.mem_flatMap.1 h
    have h1 := x.toNat_lt
    have key : ∀ n, n < 16 → 48 ≤ (digB n).toNat ∧ (digB n).toNat ≤ 70 := fun n hn => by
      have a := digitI_range hn
      have b := digB_nat hn
      omega
    simp only [List.mem_cons, List.not_mem_nil, or_false] at hx
    rcases hx with rfl | rfl
    · exact key _ (by omega)
    · exact key _ (by omega)
  · simp only [List.mem_cons, List.not_mem_nil, or_false] at h
    subst h; decide

/-- Digits, two by two. -/
def pairsH : List Nat → List UInt8
  | [] => []
  | [a] => [UInt8.ofNat (16 * a)]
  | a :: b :: r => UInt8.ofNat (16 * a + b) :: pairsH r
theorem pairsH_two (a b : Nat) (r : List Nat) : pairsH (a :: b :: r) = UInt8.ofNat (16 * a + b) :: pairsH r := rfl
/-- A digit that is left over is the high one of a byte whose low one is 0. -/
theorem pairsH_pad : ∀ (ds : List Nat), ds.length % 2 = 1 → pairsH (ds ++ [0]) = pairsH ds
  | [], h => by simp at h
  | [a], _ => rfl
  | a :: b :: r, h => by
    show UInt8.ofNat (16 * a + b) :: pairsH (r ++ [0]) = UInt8.ofNat (16 * a + b) :: pairsH r
    rw [pairsH_pad r (by simp at h; omega)]
theorem pairsH_drop {ds : List Nat} {k a b : Nat} (ha : ds[k]? = some a) (hb : ds[k + 1]? = some b) : pairsH (ds.drop k) = UInt8.ofNat (16 * a + b) :: pairsH (ds.drop (k + 2)) := by
  obtain ⟨h1, e1⟩ := List.getElem?_eq_some_iff.1 ha
  obtain ⟨h2, e2⟩ := List.getElem?_eq_some_iff.1 hb
  rw [List.drop_eq_getElem_cons h1, List.drop_eq_getElem_cons h2, e1, e2, pairsH_two]

def whiteB (c : UInt8) : Bool := decide (kindI (c.toNat : Int) = 0)
/-- What comes of digits that were met, and of what is ahead. -/
def decGo (ds : List Nat) : List UInt8 → List UInt8 × Int
  | [] => ([], 5)
  | c :: t =>
    if c.toNat = 62 then (if t.all whiteB then (pairsH ds, 0) else ([], 4))
    else if 0 ≤ hexI (c.toNat : Int) then decGo (ds ++ [(hexI (c.toNat : Int)).toNat]) t
    else if kindI (c.toNat : Int) = 0 then decGo ds t else ([], 4)
def decH (l : List UInt8) : List UInt8 × Int := decGo [] l
theorem decGo_end {ds : List Nat} {c : UInt8} {t : List UInt8} (h : c.toNat = 62) : decGo ds (c :: t) = if t.all whiteB then (pairsH ds, 0) else ([], 4) := by
  rw [decGo, if_pos h]
theorem decGo_digit {ds : List Nat} {c : UInt8} {t : List UInt8} (h : ¬ c.toNat = 62) (h2 : 0 ≤ hexI (c.toNat : Int)) : decGo ds (c :: t) = decGo (ds ++ [(hexI (c.toNat : Int)).toNat]) t := by
  rw [decGo, if_neg h, if_pos h2]
theorem decGo_white {ds : List Nat} {c : UInt8} {t : List UInt8} (h : ¬ c.toNat = 62) (h2 : ¬ 0 ≤ hexI (c.toNat : Int)) (h3 : kindI (c.toNat : Int) = 0) : decGo ds (c :: t) = decGo ds t := by
  rw [decGo, if_neg h, if_neg h2, if_pos h3]
theorem decGo_bad {ds : List Nat} {c : UInt8} {t : List UInt8} (h : ¬ c.toNat = 62) (h2 : ¬ 0 ≤ hexI (c.toNat : Int)) (h3 : ¬ kindI (c.toNat : Int) = 0) : decGo ds (c :: t) = ([], 4) := by
  rw [decGo, if_neg h, if_neg h2, if_neg h3]

/-- White bytes count for nothing. -/
theorem white_not {c : UInt8} (h : kindI (c.toNat : Int) = 0) : ¬ c.toNat = 62 ∧ ¬ 0 ≤ hexI (c.toNat : Int) := by
  unfold kindI at h
  have h' : c.toNat = 0 ∨ c.toNat = 9 ∨ c.toNat = 10 ∨ c.toNat = 12 ∨ c.toNat = 13 ∨ c.toNat = 32 := by
    by_cases e : (c.toNat : Int) = 0 ∨ (c.toNat : Int) = 9 ∨ (c.toNat : Int) = 10 ∨ (c.toNat : Int) = 12 ∨ (c.toNat : Int) = 13 ∨ (c.toNat : Int) = 32
    · omega
    · rw [if_neg e] at h
      split at h <;> simp at h
  refine ⟨by omega, ?_⟩
  unfold hexI
  rw [if_neg (by omega), if_neg (by omega), if_neg (by omega)]
  omega
theorem decGo_put {w : UInt8} (hw : kindI (w.toNat : Int) = 0) : ∀ (p t : List UInt8) (ds : List Nat), decGo ds (p ++ w :: t) = decGo ds (p ++ t)
  | [], t, ds => by
    have h := white_not hw
    exact decGo_white h.1 h.2 hw
  | c :: p, t, ds => by
    have ih := decGo_put hw p t
    show decGo ds (c :: (p ++ w :: t)) = decGo ds (c :: (p ++ t))
    by_cases h : c.toNat = 62
    · rw [decGo_end h, decGo_end h]
      have e : (p ++ w :: t).all whiteB = (p ++ t).all whiteB := by
        have : whiteB w = true := decide_eq_true hw
        simp [this]
      rw [e]
    · by_cases h2 : 0 ≤ hexI (c.toNat : Int)
      · rw [decGo_digit h h2, decGo_digit h h2, ih]
      · by_cases h3 : kindI (c.toNat : Int) = 0
        · rw [decGo_white h h2 h3, decGo_white h h2 h3, ih]
        · rw [decGo_bad h h2 h3, decGo_bad h h2 h3]

/-- There and back. -/
theorem decGo_digB {ds : List Nat} {n : Nat} {t : List UInt8} (h : n < 16) : decGo ds (digB n :: t) = decGo (ds ++ [n]) t := by
  have a := digitI_range h
  have b := digB_nat h
  have c := hex_digit h
  rw [decGo_digit (by omega) (by rw [b, c]; omega), b, c]
  rfl
theorem pairsH_snoc2 : ∀ (ds : List Nat) (a b : Nat), ds.length % 2 = 0 → pairsH (ds ++ [a] ++ [b]) = pairsH ds ++ [UInt8.ofNat (16 * a + b)]
  | [], a, b, _ => rfl
  | [x], a, b, h => by simp at h
  | x :: y :: r, a, b, h => by
    show UInt8.ofNat (16 * x + y) :: pairsH (r ++ [a] ++ [b]) = UInt8.ofNat (16 * x + y) :: (pairsH r ++ [UInt8.ofNat (16 * a + b)])
    rw [pairsH_snoc2 r a b (by simp at h; omega)]
theorem dec_enc : ∀ (l : List UInt8) (ds : List Nat), ds.length % 2 = 0 → decGo ds (encH l) = (pairsH ds ++ l, 0)
  | [], ds, h => by
    show decGo ds [62] = _
    rw [decGo_end rfl]; simp
  | c :: l, ds, h => by
    show decGo ds (digB (c.toNat / 16) :: digB (c.toNat % 16) :: encH l) = _
    have h1 := c.toNat_lt
    rw [decGo_digB (by omega), decGo_digB (by omega), dec_enc l _ (by simp; omega), pairsH_snoc2 ds _ _ h]
    have e : UInt8.ofNat (16 * (c.toNat / 16) + c.toNat % 16) = c := by
      have : 16 * (c.toNat / 16) + c.toNat % 16 = c.toNat := by omega
      rw [this]; exact UInt8.ofNat_toNat
    rw [e, List.append_assoc]; rfl

end Go.Proofs.Ytnjmapgmodoodaa
