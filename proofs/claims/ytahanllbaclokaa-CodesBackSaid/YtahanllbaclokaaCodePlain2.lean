/-
  Codes that are read: plain facts, no program in sight.
-/
import Derived.Test.YtahanllbaclokaaCodePlain
namespace Go.Proofs.Ytahanllbaclokaa

/-- The symbol of a code of so many bits; -1: there is none. -/
def findC : List Int → List Nat → Nat → Nat → Nat → Int
  | l :: ls, c :: cs, w, x, i => if l = (w : Int) ∧ c = x ∧ 0 < w then (i : Int) else findC ls cs w x (i + 1)
  | _, _, _, _, _ => -1
theorem findC_range : ∀ (ls : List Int) (cs : List Nat) (w x i : Nat), findC ls cs w x i = -1 ∨ (i : Int) ≤ findC ls cs w x i
  | [], _, _, _, _ => .inl rfl
  | _ :: _, [], _, _, _ => .inl rfl
  | l :: ls, c :: cs, w, x, i => by
    unfold findC
    split
    · exact .inr (Int.le_refl _)
    · rcases findC_range ls cs w x (i + 1) with h | h
      · exact .inl h
      · right; omega
theorem findC_none {ls : List Int} {cs : List Nat} {w x : Nat} : ∀ (i : Nat), (∀ (k : Nat) (l : Int) (c : Nat), ls[k]? = some l → cs[k]? = some c → ¬ (l = (w : Int) ∧ c = x ∧ 0 < w)) → findC ls cs w x i = -1 := by
  induction ls generalizing cs with
  | nil => intro i _; rfl
  | cons l ls ih =>
    intro i h
    cases cs with
    | nil => rfl
    | cons c cs =>
      unfold findC
      rw [if_neg (h 0 l c rfl rfl)]
      exact ih (i + 1) fun k a b ha hb => h (k + 1) a b (by simpa using ha) (by simpa using hb)
theorem findC_first {ls : List Int} {cs : List Nat} {w x : Nat} : ∀ (j i : Nat), (∀ (k : Nat) (l : Int) (c : Nat), k < j → ls[k]? = some l → cs[k]? = some c → ¬ (l = (w : Int) ∧ c = x ∧ 0 < w)) → ls[j]? = some (w : Int) → cs[j]? = some x → 0 < w →
    findC ls cs w x i = ((i + j : Nat) : Int) := by
  induction ls generalizing cs with
  | nil => intro j i _ h; simp at h
  | cons l ls ih =>
    intro j i h hl hc hw
    cases cs with
    | nil => simp at hc
    | cons c cs =>
      cases j with
      | zero =>
        simp at hl hc
        unfold findC
        rw [if_pos ⟨hl, hc, hw⟩]; rfl
      | succ j =>
        unfold findC
        rw [if_neg (h 0 l c (by omega) rfl rfl), ih j (i + 1) (fun k a b hk ha hb => h (k + 1) a b (by omega) (by simpa using ha) (by simpa using hb)) (by simpa using hl) (by simpa using hc) hw]
        congr 1; omega
/-- The symbol that bits tell, how many of them, the error: so many lengths are left, so many were tried. -/
def readC (ls : List Int) (cs : List Nat) : Nat → Nat → Nat → List Nat → Int × Nat × Int
  | 0, _, _, _ => (0, 0, 4)
  | _ + 1, _, _, [] => (0, 0, 5)
  | k + 1, n, code, b :: r =>
    if 0 ≤ findC ls cs (n + 1) (2 * code + b) 0 then (findC ls cs (n + 1) (2 * code + b) 0, 1, 0)
    else ((readC ls cs k (n + 1) (2 * code + b) r).1, (readC ls cs k (n + 1) (2 * code + b) r).2.1 + 1, (readC ls cs k (n + 1) (2 * code + b) r).2.2)
/-- A code's bits, the highest ahead. -/
def codeBits (w x : Nat) : List Nat := (bitsN w x).reverse
theorem codeBits_length (w x : Nat) : (codeBits w x).length = w := by unfold codeBits; rw [List.length_reverse, bitsN_length]
theorem codeBits_get {w x j : Nat} (h : j < w) : (codeBits w x)[j]? = some (x / 2 ^ (w - 1 - j) % 2) := by
  unfold codeBits
  rw [List.getElem?_reverse (by rw [bitsN_length]; exact h), bitsN_length, bitsN_get _ _ _ (by omega)]

theorem len_of {ls : List Int} {k : Nat} {l : Int} {w : Nat} (h : ls[k]? = some l) (hl : l = (w : Int)) : (ls.map Int.toNat)[k]? = some w := by
  rw [List.getElem?_map, h, hl]; simp
/-- What is written is read. -/
theorem read_back {ls : List Int} {i n : Nat} (hi : ls[i]? = some ((n + 1 : Nat) : Int)) (rest : List Nat) :
    ∀ (d j L : Nat), j + d = n + 1 → d ≤ L → 0 < d →
      readC ls (codesN (ls.map Int.toNat)) L j (codeAt (ls.map Int.toNat) i / 2 ^ d) ((codeBits (n + 1) (codeAt (ls.map Int.toNat) i)).drop j ++ rest) = ((i : Int), d, 0) := by
  have hni := len_of hi rfl
  generalize hc : codeAt (ls.map Int.toNat) i = c
  intro d
  induction d with
  | zero => intro j L _ _ h0; omega
  | succ d ih =>
    intro j L hjd hL _
    obtain ⟨K, rfl⟩ : ∃ K, L = K + 1 := ⟨L - 1, by omega⟩
    have hj : j < n + 1 := by omega
    have hb := codeBits_get (x := c) hj
    rw [show n + 1 - 1 - j = d by omega] at hb
    obtain ⟨hb1, hb2⟩ := List.getElem?_eq_some_iff.1 hb
    rw [List.drop_eq_getElem_cons hb1, hb2, List.cons_append]
    have hcode : 2 * (c / 2 ^ (d + 1)) + c / 2 ^ d % 2 = c / 2 ^ d := by
      rw [Nat.pow_succ, ← Nat.div_div_eq_div_mul]; omega
    rw [readC, hcode]
    have hno : ∀ (k : Nat) (l : Int) (x : Nat), k ≠ i → ls[k]? = some l → (codesN (ls.map Int.toNat))[k]? = some x → ¬ (l = ((j + 1 : Nat) : Int) ∧ x = c / 2 ^ d ∧ 0 < j + 1) := by
      intro k l x hki hlk hxk ⟨h1, h2, _⟩
      have hnk := len_of hlk h1
      have hkl : k < (ls.map Int.toNat).length := (List.getElem?_eq_some_iff.1 hnk).1
      rw [codesN_at hkl] at hxk
      have := no_prefix hnk hni hki (by omega)
      rw [hc, show n - j = d by omega] at this
      exact this ((Option.some.inj hxk).trans h2).symm
    by_cases hd : d = 0
    · subst hd
      have hjn : j = n := by omega
      subst hjn
      have hil : i < (ls.map Int.toNat).length := (List.getElem?_eq_some_iff.1 hni).1
      have hf := findC_first (ls := ls) (cs := codesN (ls.map Int.toNat)) (w := j + 1) (x := c / 2 ^ 0) i 0 (fun k l x hk => hno k l x (by omega)) hi (by rw [codesN_at hil, hc, Nat.pow_zero, Nat.div_one]) (by omega)
      rw [hf, if_pos (by omega)]
      simp
    · have hf : findC ls (codesN (ls.map Int.toNat)) (j + 1) (c / 2 ^ d) 0 = -1 := findC_none 0 fun k l x hl hx => by
        by_cases hki : k = i
        · subst hki
          intro ⟨h1, _, _⟩
          rw [hi] at hl
          have := Option.some.inj hl
          omega
        · exact hno k l x hki hl hx
      rw [hf, if_neg (by omega), ih (j + 1) K (by omega) (by omega) (by omega)]
theorem read_whole {ls : List Int} (h : ∀ l ∈ ls, 0 ≤ l ∧ l ≤ 15) (hk : kraft ls ≤ 32768) {i n L : Nat} (hi : ls[i]? = some ((n + 1 : Nat) : Int)) (hL : n + 1 ≤ L) (rest : List Nat) :
    readC ls (codesN (ls.map Int.toNat)) L 0 0 (codeBits (n + 1) (codeAt (ls.map Int.toNat) i) ++ rest) = ((i : Int), n + 1, 0) := by
  have h0 := read_back hi rest (n + 1) 0 L (by omega) hL (by omega)
  rw [List.drop_zero] at h0
  have hlt := (codeAt_lt h hk (len_of hi rfl)).2
  rw [Nat.div_eq_of_lt hlt] at h0
  exact h0

end Go.Proofs.Ytahanllbaclokaa
