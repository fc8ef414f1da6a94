/-
  Codes that are counted, dealt, ordered, turned: plain facts, no program in sight.
-/
import Derived.Test.YtahanllbaclokaaCodePlain3
import Derived.Test.YtahanllbaclokaaBitHeld
namespace Go.Proofs.Ytahanllbaclokaa

/-- How much is taken by all lengths, told by the end of the last one. -/
theorem upTo_all : ∀ (ls : List Int), (∀ l ∈ ls, 0 ≤ l ∧ l ≤ 15) → upTo (natsOf ls) 15 = kraft ls
  | [], _ => by simp [upTo, kraft, natsOf]
  | l :: ls, h => by
    have ih := upTo_all ls fun x hx => h x (by simp [hx])
    have hl := h l (by simp)
    unfold upTo natsOf at ih ⊢
    rw [List.map_cons, List.map_cons, List.sum_cons, kraft_cons, ih]
    congr 1
    unfold partK
    by_cases h0 : l ≤ 0
    · rw [if_pos h0, if_neg (by omega)]
    · rw [if_neg h0, if_pos (by omega)]
theorem endC_kraft {ls : List Int} (h : ∀ l ∈ ls, 0 ≤ l ∧ l ≤ 15) : endC (natsOf ls) 15 = kraft ls := by
  have h1 := endC_upTo (natsOf ls) 15 (by omega)
  rw [upTo_all ls h] at h1
  simpa using h1
theorem endC_rough (ns : List Nat) (hn : ns.length ≤ 320) : ∀ k, endC ns k + 320 ≤ 320 * 2 ^ k
  | 0 => by simp [endC]
  | k + 1 => by
    have ih := endC_rough ns hn k
    have := List.count_le_length (a := k + 1) (l := ns)
    rw [endC, Nat.pow_succ]; omega
theorem endC_bound {ns : List Nat} (hn : ns.length ≤ 320) {k : Nat} (hk : k ≤ 15) : endC ns k ≤ 10485760 := by
  have h1 := endC_rough ns hn k
  have h2 : (2 : Nat) ^ k ≤ 2 ^ 15 := Nat.pow_le_pow_right (by omega) hk
  omega
/-- No code at all: each length is 0. -/
theorem kraft_zero {ls : List Int} (h : ∀ l ∈ ls, 0 ≤ l ∧ l ≤ 15) : kraft ls = 0 ↔ ∀ v, 0 < v → (natsOf ls).count v = 0 := by
  constructor
  · intro hk v hv
    rw [List.count_eq_zero]
    intro hm
    unfold natsOf at hm
    obtain ⟨l, hl, rfl⟩ := List.mem_map.1 hm
    have : partK l ≤ kraft ls := by
      obtain ⟨a, b, rfl⟩ := List.append_of_mem hl
      unfold kraft; simp; omega
    unfold partK at this
    rw [if_neg (by omega)] at this
    have : 0 < 2 ^ (15 - l.toNat) := Nat.pow_pos (by omega)
    omega
  · intro hc
    rw [← endC_kraft h]
    have : ∀ k, endC (natsOf ls) k = 0 := by
      intro k
      induction k with
      | zero => rfl
      | succ k ih => rw [endC, ih, hc (k + 1) (by omega)]
    exact this 15

/-- With which number each length begins: so many times the one behind the last of the length ahead. -/
def startN (ns : List Nat) (m : Nat) : Nat → Nat
  | 0 => 0
  | 1 => 0
  | n + 2 => m * (startN ns m (n + 1) + ns.count (n + 1))
theorem startN_two (ns : List Nat) : ∀ n, startN ns 2 (n + 1) = 2 * endC ns n
  | 0 => rfl
  | n + 1 => by rw [startN, startN_two ns n, endC]
theorem startN_more (ns : List Nat) (n : Nat) : startN ns 1 (n + 2) = startN ns 1 (n + 1) + ns.count (n + 1) := by rw [startN]; omega
theorem startN_up (ns : List Nat) (n : Nat) : ∀ d, startN ns 1 (n + 1) ≤ startN ns 1 (n + 1 + d)
  | 0 => Nat.le_refl _
  | d + 1 => by
    have := startN_up ns n d
    rw [show n + 1 + (d + 1) = (n + d) + 2 by omega, startN_more, show n + d + 1 = n + 1 + d by omega]; omega
theorem countP_more (ns : List Nat) (n : Nat) : ns.countP (fun l => decide (1 ≤ l ∧ l ≤ n + 1)) = ns.countP (fun l => decide (1 ≤ l ∧ l ≤ n)) + ns.count (n + 1) := by
  induction ns with
  | nil => rfl
  | cons l ls ih =>
    rw [List.countP_cons, List.countP_cons, List.count_cons, ih]
    by_cases h : l = n + 1
    · subst h
      rw [if_pos (by simp), if_neg (by simp), if_pos (by simp)]
      omega
    · have e : (l == n + 1) = false := by simpa using h
      have e2 : decide (1 ≤ l ∧ l ≤ n + 1) = decide (1 ≤ l ∧ l ≤ n) := by
        rw [decide_eq_decide]; omega
      rw [e, e2]; simp only [Bool.false_eq_true, if_false, Nat.add_zero]; omega
theorem startN_count (ns : List Nat) : ∀ n, startN ns 1 (n + 1) = ns.countP (fun l => decide (1 ≤ l ∧ l ≤ n))
  | 0 => by
    have : ns.countP (fun l => decide (1 ≤ l ∧ l ≤ 0)) = 0 := by
      rw [List.countP_eq_zero]; intro l _; simp; omega
    rw [this]; rfl
  | n + 1 => by rw [startN_more, startN_count ns n, countP_more]
theorem startN_le (ns : List Nat) (n : Nat) : startN ns 1 n ≤ ns.length := by
  cases n with
  | zero => exact Nat.zero_le _
  | succ n => rw [startN_count]; exact List.countP_le_length
theorem startN_bound {ns : List Nat} (hn : ns.length ≤ 320) {m : Nat} (hm : m = 1 ∨ m = 2) {k : Nat} (hk : k ≤ 15) : startN ns m k ≤ 20971520 := by
  rcases hm with rfl | rfl
  · have := startN_le ns k; omega
  · cases k with
    | zero => exact Nat.zero_le _
    | succ k =>
      have := endC_bound hn (k := k) (by omega)
      rw [startN_two]; omega

/-- The number that is dealt to a symbol. -/
def dealAt (ns : List Nat) (g : Nat → Nat) (i : Nat) : Nat :=
  match ns[i]? with
  | some (n + 1) => g (n + 1) + (ns.take i).count (n + 1)
  | _ => 0
def dealN (ns : List Nat) (g : Nat → Nat) : List Nat := (List.range ns.length).map (dealAt ns g)
theorem dealN_length (ns : List Nat) (g : Nat → Nat) : (dealN ns g).length = ns.length := by simp [dealN]
theorem dealAt_some {ns : List Nat} {g : Nat → Nat} {i n : Nat} (h : ns[i]? = some (n + 1)) : dealAt ns g i = g (n + 1) + (ns.take i).count (n + 1) := by unfold dealAt; rw [h]
theorem dealAt_two (ns : List Nat) (i : Nat) : dealAt ns (startN ns 2) i = codeAt ns i := by
  rcases h : ns[i]? with _ | n
  · unfold dealAt codeAt; rw [h]
  · cases n with
    | zero => unfold dealAt codeAt; rw [h]
    | succ n => rw [dealAt_some h, codeAt_some h, startN_two]
theorem dealN_two (ns : List Nat) : dealN ns (startN ns 2) = codesN ns := by
  unfold dealN codesN
  congr 1
  funext i
  exact dealAt_two ns i
/-- So many symbols were dealt to. -/
def dealtN (ns : List Nat) (g : Nat → Nat) (j : Nat) : List Nat := (List.range ns.length).map fun i => if i < j then dealAt ns g i else 0
theorem dealtN_length (ns : List Nat) (g : Nat → Nat) (j : Nat) : (dealtN ns g j).length = ns.length := by simp [dealtN]
theorem dealtN_none (ns : List Nat) (g : Nat → Nat) : dealtN ns g 0 = List.replicate ns.length 0 := by
  apply List.ext_getElem (by simp [dealtN])
  intro i h1 h2
  simp [dealtN]
theorem dealtN_all (ns : List Nat) (g : Nat → Nat) : dealtN ns g ns.length = dealN ns g := by
  unfold dealtN dealN
  apply List.map_congr_left
  intro i hi
  rw [if_pos (List.mem_range.1 hi)]
theorem dealtN_set {ns : List Nat} {g : Nat → Nat} {j : Nat} : (dealtN ns g j).set j (dealAt ns g j) = dealtN ns g (j + 1) := by
  apply List.ext_getElem (by simp [dealtN])
  intro i h1 h2
  rw [List.getElem_set]
  by_cases e : j = i
  · subst e; simp [dealtN]
  · rw [if_neg e]
    have : (i < j + 1) = (i < j) := by apply propext; omega
    simp [dealtN, this]
theorem dealtN_skip {ns : List Nat} {g : Nat → Nat} {j : Nat} (h : ns[j]?.getD 0 = 0) : dealtN ns g j = dealtN ns g (j + 1) := by
  apply List.ext_getElem (by simp [dealtN])
  intro i h1 h2
  by_cases e : i = j
  · subst e
    have : dealAt ns g i = 0 := by
      unfold dealAt
      split
      · rename_i n hn; rw [hn] at h; simp at h
      · rfl
    simp [dealtN, this]
  · have : (i < j + 1) = (i < j) := by apply propext; omega
    simp [dealtN, this]
/-- The number that a length has for its next symbol. -/
def nextG (ns : List Nat) (g : Nat → Nat) (j l : Nat) : Nat := g l + if l = 0 then 0 else (ns.take j).count l
theorem nextG_zero (ns : List Nat) (g : Nat → Nat) : nextG ns g 0 = g := by
  funext l; unfold nextG; simp
theorem nextG_at {ns : List Nat} {g : Nat → Nat} {j n : Nat} (h : ns[j]? = some (n + 1)) : nextG ns g j (n + 1) = dealAt ns g j := by
  rw [dealAt_some h]; unfold nextG; simp
theorem take_count {ns : List Nat} {j v : Nat} (h : ns[j]? = some v) (l : Nat) : (ns.take (j + 1)).count l = (ns.take j).count l + if v = l then 1 else 0 := by
  obtain ⟨hj, hv⟩ := List.getElem?_eq_some_iff.1 h
  rw [List.take_succ_eq_append_getElem hj, hv, List.count_append, List.count_cons, List.count_nil]
  by_cases e : v = l
  · subst e; simp
  · have : (v == l) = false := by simpa using e
    rw [this, if_neg e]; simp
theorem nextG_skip {ns : List Nat} {g : Nat → Nat} {j : Nat} (h : ns[j]? = some 0) : nextG ns g (j + 1) = nextG ns g j := by
  funext l
  unfold nextG
  by_cases e : l = 0
  · rw [if_pos e, if_pos e]
  · rw [if_neg e, if_neg e, take_count h, if_neg (by omega)]; rfl
theorem nextG_more {ns : List Nat} {g : Nat → Nat} {j n : Nat} (h : ns[j]? = some (n + 1)) : nextG ns g (j + 1) = fun k => if k = n + 1 then nextG ns g j (n + 1) + 1 else nextG ns g j k := by
  funext l
  unfold nextG
  by_cases e0 : l = 0
  · subst e0; simp
  · rw [if_neg e0, take_count h]
    by_cases e : l = n + 1
    · subst e; simp; omega
    · rw [if_neg e, if_neg e0, if_neg (by omega)]; rfl

/-- The place of a symbol among those that have codes. -/
def placeAt (ns : List Nat) (i : Nat) : Nat := dealAt ns (startN ns 1) i
theorem placeAt_range {ns : List Nat} {i n : Nat} (h : ns[i]? = some (n + 1)) : startN ns 1 (n + 1) ≤ placeAt ns i ∧ placeAt ns i < startN ns 1 (n + 2) := by
  have := count_take_lt h
  unfold placeAt
  rw [dealAt_some h, startN_more]; omega
theorem placeAt_lt {ns : List Nat} {i n : Nat} (h : ns[i]? = some (n + 1)) : placeAt ns i < ns.length := by
  have h1 := (placeAt_range h).2
  have h2 := startN_le ns (n + 2)
  omega
theorem placeAt_ne {ns : List Nat} {i k n m : Nat} (hi : ns[i]? = some (n + 1)) (hk : ns[k]? = some (m + 1)) (hik : i < k) : placeAt ns i ≠ placeAt ns k := by
  rcases Nat.lt_trichotomy n m with h | h | h
  · have h1 := (placeAt_range hi).2
    have h2 := (placeAt_range hk).1
    have h3 := startN_up ns (n + 1) (m - n - 1)
    rw [show n + 1 + 1 + (m - n - 1) = m + 1 by omega, show n + 1 + 1 = n + 2 by omega] at h3
    omega
  · subst h
    have := count_take_less hik hi
    unfold placeAt
    rw [dealAt_some hi, dealAt_some hk]; omega
  · have h1 := (placeAt_range hk).2
    have h2 := (placeAt_range hi).1
    have h3 := startN_up ns (m + 1) (n - m - 1)
    rw [show m + 1 + 1 + (n - m - 1) = n + 1 by omega, show m + 1 + 1 = m + 2 by omega] at h3
    omega
/-- So many symbols were put in their places. -/
def Ordered (ns : List Nat) (j : Nat) (l : List Nat) : Prop := l.length = ns.length ∧ ∀ i n, i < j → ns[i]? = some (n + 1) → l[placeAt ns i]? = some i
theorem ordered_none (ns : List Nat) : Ordered ns 0 (List.replicate ns.length 0) := ⟨by simp, fun i n h => by omega⟩
theorem Ordered.skip {ns : List Nat} {j : Nat} {l : List Nat} (h : Ordered ns j l) (h0 : ns[j]? = some 0) : Ordered ns (j + 1) l :=
  ⟨h.1, fun i n hi hn => by
    rcases Nat.lt_or_ge i j with hij | hij
    · exact h.2 i n hij hn
    · obtain rfl : i = j := by omega
      rw [h0] at hn; cases hn⟩
theorem Ordered.more {ns : List Nat} {j n : Nat} {l : List Nat} (h : Ordered ns j l) (hn : ns[j]? = some (n + 1)) : Ordered ns (j + 1) (l.set (placeAt ns j) j) :=
  ⟨by rw [List.length_set]; exact h.1, fun i m hi hm => by
    rw [List.getElem?_set]
    rcases Nat.lt_or_ge i j with hij | hij
    · rw [if_neg (Ne.symm (placeAt_ne hm hn hij))]
      exact h.2 i m hij hm
    · obtain rfl : i = j := by omega
      rw [if_pos rfl, if_pos (by rw [h.1]; exact placeAt_lt hn)]⟩
/-- The symbol that has a number among those of its length. -/
theorem symbol_of {v : Nat} : ∀ (ns : List Nat) (k : Nat), k < ns.count v → ∃ i, ns[i]? = some v ∧ (ns.take i).count v = k
  | [], k, h => by simp at h
  | l :: ls, k, h => by
    by_cases e : l = v
    · subst e
      cases k with
      | zero => exact ⟨0, rfl, rfl⟩
      | succ k =>
        rw [List.count_cons_self] at h
        obtain ⟨i, h1, h2⟩ := symbol_of (v := l) ls k (by omega)
        exact ⟨i + 1, by simpa using h1, by rw [List.take_succ_cons, List.count_cons_self, h2]⟩
    · rw [List.count_cons_of_ne (by simpa using e)] at h
      obtain ⟨i, h1, h2⟩ := symbol_of ls k h
      exact ⟨i + 1, by simpa using h1, by rw [List.take_succ_cons, List.count_cons_of_ne (by simpa using e), h2]⟩

theorem ls_of {ls : List Int} (h : ∀ l ∈ ls, 0 ≤ l ∧ l ≤ 15) {i w : Nat} (hi : (natsOf ls)[i]? = some w) : ls[i]? = some (w : Int) := by
  unfold natsOf at hi
  rw [List.getElem?_map] at hi
  obtain ⟨l, hl, he⟩ := Option.map_eq_some_iff.1 hi
  have := h l (List.mem_of_getElem? hl)
  rw [hl]; congr 1; omega
theorem nats_of {ls : List Int} {i : Nat} {w : Nat} {l : Int} (hi : ls[i]? = some l) (hl : l = (w : Int)) : (natsOf ls)[i]? = some w := len_of hi hl
/-- One bit more: a code of this length. -/
theorem read_hit {ls : List Int} (h : ∀ l ∈ ls, 0 ≤ l ∧ l ≤ 15) {n num x : Nat} (hx : x = 2 * endC (natsOf ls) n + num) (hnum : num < (natsOf ls).count (n + 1)) {l : List Nat} (ho : Ordered (natsOf ls) ls.length l) :
    ∃ i : Nat, findC ls (codesN (natsOf ls)) (n + 1) x 0 = (i : Int) ∧ l[startN (natsOf ls) 1 (n + 1) + num]? = some i := by
  obtain ⟨i, h1, h2⟩ := symbol_of (natsOf ls) num hnum
  have hc : codeAt (natsOf ls) i = x := by rw [codeAt_some h1, h2, hx]
  have hil : i < (natsOf ls).length := (List.getElem?_eq_some_iff.1 h1).1
  refine ⟨i, ?_, ?_⟩
  · have := findC_first (ls := ls) (cs := codesN (natsOf ls)) (w := n + 1) (x := x) i 0 (fun k l c hk hl hcc hh => by
      obtain ⟨e1, e2, _⟩ := hh
      have hnk := nats_of hl e1
      have hkl : k < (natsOf ls).length := (List.getElem?_eq_some_iff.1 hnk).1
      rw [codesN_at hkl] at hcc
      have hcc2 := Option.some.inj hcc
      have := count_take_less hk hnk
      rw [codeAt_some hnk] at hcc2
      rw [codeAt_some h1] at hc
      omega) (ls_of h h1) (by rw [codesN_at hil, hc]) (by omega)
    rw [this]; congr 1; omega
  · have hp := ho.2 i n (by rw [natsOf_length] at hil; exact hil) h1
    unfold placeAt at hp
    rwa [dealAt_some h1, h2] at hp
/-- One bit more: none of this length. -/
theorem read_miss {ls : List Int} {n num x : Nat} (hx : x = 2 * endC (natsOf ls) n + num) (hnum : (natsOf ls).count (n + 1) ≤ num) : findC ls (codesN (natsOf ls)) (n + 1) x 0 = -1 :=
  findC_none 0 fun k l c hl hc hh => by
    obtain ⟨e1, e2, _⟩ := hh
    have hnk := nats_of hl e1
    have hkl : k < (natsOf ls).length := (List.getElem?_eq_some_iff.1 hnk).1
    rw [codesN_at hkl] at hc
    have h1 := (codeAt_range hnk).2
    have h2 := Option.some.inj hc
    rw [endC] at h1
    omega

/-- Bits that are turned. -/
def revN (w x : Nat) : Nat := numB (codeBits w x)
theorem codeBits_lt2 (w x : Nat) : ∀ b ∈ codeBits w x, b < 2 := fun b hb => bitsN_two _ _ b (List.mem_reverse.1 hb)
theorem revN_lt (w x : Nat) : revN w x < 2 ^ w := by
  have := numB_lt (codeBits w x) (codeBits_lt2 w x)
  rwa [codeBits_length] at this
theorem bits_revN (w x : Nat) : bitsN w (revN w x) = codeBits w x := by
  have := bitsN_numB (codeBits w x) (codeBits_lt2 w x)
  rwa [codeBits_length] at this
theorem bitsN_add : ∀ (a b x : Nat), bitsN (a + b) x = bitsN a x ++ bitsN b (x / 2 ^ a)
  | 0, b, x => by simp [bitsN]
  | a + 1, b, x => by
    rw [show a + 1 + b = (a + b) + 1 by omega, bitsN, bitsN_add a b, bitsN, List.cons_append, Nat.div_div_eq_div_mul, Nat.pow_succ, Nat.mul_comm 2]
/-- Two halves, each turned, and put the other way round. -/
theorem revN_halves (x : Nat) : revN 16 x = revN 8 (x / 256) + 256 * revN 8 x := by
  unfold revN codeBits
  rw [show (16 : Nat) = 8 + 8 from rfl, bitsN_add, List.reverse_append, numB_append, List.length_reverse, bitsN_length]
theorem bitsN_mod : ∀ (k x : Nat), bitsN k (x % 2 ^ k) = bitsN k x
  | 0, _ => rfl
  | k + 1, x => by
    rw [bitsN, bitsN, show x % 2 ^ (k + 1) % 2 = x % 2 by rw [Nat.pow_succ, Nat.mul_comm, Nat.mod_mul_right_mod], show x % 2 ^ (k + 1) / 2 = x / 2 % 2 ^ k by rw [Nat.pow_succ, Nat.mul_comm, Nat.mod_mul_right_div_self], bitsN_mod k]
theorem revN_mod (x : Nat) : revN 8 (x % 256) = revN 8 x := by
  unfold revN codeBits
  rw [show (256 : Nat) = 2 ^ 8 from rfl, bitsN_mod]
/-- Sixteen bits turned, and cut. -/
theorem revN_cut {w x : Nat} (hw : w ≤ 16) (hx : x < 2 ^ w) : revN 16 x / 2 ^ (16 - w) = revN w x := by
  have e : codeBits 16 x = List.replicate (16 - w) 0 ++ codeBits w x := by
    unfold codeBits
    rw [show (16 : Nat) = w + (16 - w) by omega, bitsN_add, Nat.div_eq_of_lt hx, bitsN_zero, List.reverse_append, List.reverse_replicate]
    congr 2
    omega
  unfold revN
  rw [e, numB_append, numB_zeros, List.length_replicate, Nat.zero_add, Nat.mul_div_cancel_left _ (Nat.pow_pos (by omega))]
/-- So many codes were turned. -/
def turnAt (ns : List Nat) (j i : Nat) : Nat := if i < j then revN (ns[i]?.getD 0) (codeAt ns i) else codeAt ns i
def turnN (ns : List Nat) (j : Nat) : List Nat := (List.range ns.length).map (turnAt ns j)
theorem turnN_length (ns : List Nat) (j : Nat) : (turnN ns j).length = ns.length := by simp [turnN]
theorem turnN_none (ns : List Nat) : turnN ns 0 = codesN ns := by
  unfold turnN codesN turnAt; simp
theorem turnN_at {ns : List Nat} {j i : Nat} (h : i < ns.length) : (turnN ns j)[i]? = some (turnAt ns j i) := by simp [turnN, h]
theorem turnN_set {ns : List Nat} {j n : Nat} (h : ns[j]? = some n) : (turnN ns j).set j (revN n (codeAt ns j)) = turnN ns (j + 1) := by
  apply List.ext_getElem (by simp [turnN])
  intro i h1 h2
  rw [List.getElem_set]
  by_cases e : j = i
  · subst e
    simp [turnN, turnAt, h]
  · rw [if_neg e]
    have : (i < j + 1) = (i < j) := by apply propext; omega
    simp [turnN, turnAt, this]
theorem codeAt_none {ns : List Nat} {j : Nat} (h : ns[j]? = some 0) : codeAt ns j = 0 := by unfold codeAt; rw [h]
theorem turnN_skip {ns : List Nat} {j : Nat} (h : ns[j]? = some 0) : turnN ns (j + 1) = turnN ns j := by
  apply List.ext_getElem (by simp [turnN])
  intro i h1 h2
  by_cases e : i = j
  · subst e
    simp [turnN, turnAt, h, codeAt_none h, revN, codeBits, bitsN, numB]
  · have : (i < j + 1) = (i < j) := by apply propext; omega
    simp [turnN, turnAt, this]

end Go.Proofs.Ytahanllbaclokaa
