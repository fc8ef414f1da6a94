/-
  BitHeld, CodePlain4, BitHold, BitTouch, BitRef, BitReader, BitBytes: texts merged.
-/
import Derived.Test.YtjmamomnbfnngaaDoorGPlain
import Derived.WalkKit
import Derived.WalkSpells
import Derived.WalkLawsBesides
import Derived.Lib.Hide
import Derived.Laws.BitsAllLaws
import Derived.Laws.BitsLemmas
import Derived.Test.YtjmamomnbfnngaaDoorGRows
import Derived.Deep.RegionWith
import Derived.BigQuiet
import Derived.Deep.QuietTactic
import Derived.Deep.RegionLaw
import Derived.Test.YtjmamomnbfnngaaDoorRows
import Derived.WalkSmall
import Derived.Deep.LoopGhost
import Derived.Deep.RegionHeld3
import Derived.Test.YtjmamomnbfnngaaDoorShelf
/-
  Bits that stand between numbers and bytes: plain facts, no program in sight.
-/
namespace Go.Proofs.YtjmamomnbfnngaaDoor
section

theorem numB_append : ∀ (L M : List Nat), numB (L ++ M) = numB L + 2 ^ L.length * numB M
  | [], M => by simp [numB]
  | x :: r, M => by
    rw [List.cons_append, numB, numB_append r M, numB, List.length_cons, Nat.pow_succ, Nat.mul_add, ← Nat.mul_assoc, Nat.mul_comm 2 (2 ^ r.length)]; omega
theorem numB_parts (k : Nat) (L : List Nat) (h2 : ∀ b ∈ L, b < 2) (hk : k ≤ L.length) : numB (L.take k) = numB L % 2 ^ k ∧ numB (L.drop k) = numB L / 2 ^ k := by
  have hl : (L.take k).length = k := by rw [List.length_take]; omega
  have h := numB_append (L.take k) (L.drop k)
  rw [List.take_append_drop, hl] at h
  have hlt := numB_lt (L.take k) fun b hb => h2 b (List.mem_of_mem_take hb)
  rw [hl] at hlt
  have hp : 0 < 2 ^ k := Nat.pow_pos (by omega)
  constructor
  · rw [h, Nat.add_mul_mod_self_left, Nat.mod_eq_of_lt hlt]
  · rw [h, Nat.add_mul_div_left _ _ hp, Nat.div_eq_of_lt hlt, Nat.zero_add]
theorem bitsN_zero : ∀ k, bitsN k 0 = List.replicate k 0
  | 0 => rfl
  | k + 1 => by rw [bitsN, show (0 : Nat) / 2 = 0 by omega, bitsN_zero k, List.replicate_succ]

/-- Whole bytes, one more. -/
theorem packB_snoc : ∀ (n : Nat) (l m : List Nat), l.length = 8 * n → m.length = 8 → packB (l ++ m) = packB l ++ [UInt8.ofNat (numB m)]
  | 0, l, m, h, hm => by
    obtain rfl : l = [] := List.eq_nil_of_length_eq_zero (by omega)
    rw [List.nil_append, packB_take m (by omega), List.take_of_length_le (by omega), List.drop_of_length_le (by omega), packB_nil]
    rfl
  | n + 1, l, m, h, hm => by
    rw [packB_take (l ++ m) (by rw [List.length_append]; omega), packB_take l (by omega), List.take_append_of_le_length (by omega), List.drop_append_of_le_length (by omega), packB_snoc n _ m (by rw [List.length_drop]; omega) hm, List.cons_append]
/-- The bytes of a row of which some bits stand behind whole bytes. -/
theorem textB_none {D : List Nat} (h : D.length % 8 = 0) : textB D = packB D := by
  unfold textB alignB
  rw [show padN D.length = 0 by unfold padN; omega, List.replicate_zero, List.append_nil]
theorem textB_some {D L : List Nat} (h : D.length % 8 = 0) (h0 : 0 < L.length) (h8 : L.length < 8) : textB (D ++ L) = packB D ++ [UInt8.ofNat (numB L)] := by
  unfold textB alignB
  have hp : padN (D ++ L).length = 8 - L.length := by unfold padN; rw [List.length_append]; omega
  rw [hp, List.append_assoc, packB_snoc (D.length / 8) D _ (by omega) (by rw [List.length_append, List.length_replicate]; omega), numB_append, numB_zeros, Nat.mul_zero, Nat.add_zero]
theorem packB_len {D : List Nat} (h : D.length % 8 = 0) : 8 * (packB D).length = D.length := by
  rw [packB_length (D.length / 8) D (by omega)]; omega

/-- The bits of a byte, among all. -/
theorem bitsOf_byte : ∀ (l : List UInt8) (k : Nat) (c : UInt8), l[k]? = some c → ((bitsOf l).drop (8 * k)).take 8 = bitsN 8 c.toNat
  | [], k, c, h => by simp at h
  | x :: l, 0, c, h => by
    simp at h
    subst h
    rw [Nat.mul_zero, List.drop_zero, bitsOf_cons, List.take_append_of_le_length (by rw [bitsN_length]; omega), List.take_of_length_le (by rw [bitsN_length]; omega)]
  | x :: l, k + 1, c, h => by
    rw [List.getElem?_cons_succ] at h
    rw [bitsOf_cons, List.drop_append, List.drop_of_length_le (by rw [bitsN_length]; omega), bitsN_length, List.nil_append, show 8 * (k + 1) - 8 = 8 * k by omega, bitsOf_byte l k c h]
/-- One byte's bits more. -/
theorem held_more {l : List UInt8} {pos k : Nat} {L : List Nat} {c : UInt8} (hL : L = ((bitsOf l).drop pos).take L.length) (hk : 8 * k = pos + L.length) (hc : l[k]? = some c) : L ++ bitsN 8 c.toNat = ((bitsOf l).drop pos).take (L.length + 8) := by
  rw [List.take_add, List.drop_drop, ← hk, bitsOf_byte l k c hc, ← hL]
/-- Bits that went. -/
theorem held_less {l : List UInt8} {pos v : Nat} {L : List Nat} (hL : L = ((bitsOf l).drop pos).take L.length) : L.drop v = ((bitsOf l).drop (pos + v)).take (L.drop v).length := by
  have h : L.drop v = (((bitsOf l).drop pos).take L.length).drop v := by rw [← hL]
  rw [List.length_drop, ← List.drop_drop]
  rw [h, List.drop_take]

/-- Where a reader stands: its bits, what it has of them, the next byte. -/
def HeldR (l : List UInt8) (pos next : Nat) (L : List Nat) : Prop := L = ((bitsOf l).drop pos).take L.length ∧ 8 * next = pos + L.length ∧ next ≤ l.length
theorem HeldR.two {l : List UInt8} {pos next : Nat} {L : List Nat} (h : HeldR l pos next L) : ∀ b ∈ L, b < 2 := fun b hb => by
  rw [h.1] at hb
  exact bitsOf_two l b (List.mem_of_mem_drop (List.mem_of_mem_take hb))
theorem HeldR.more {l : List UInt8} {pos next : Nat} {L : List Nat} (h : HeldR l pos next L) {c : UInt8} (hc : l[next]? = some c) : HeldR l pos (next + 1) (L ++ bitsN 8 c.toNat) := by
  have hlt : next < l.length := (List.getElem?_eq_some_iff.1 hc).1
  refine ⟨?_, by rw [List.length_append, bitsN_length]; have := h.2.1; omega, hlt⟩
  rw [List.length_append, bitsN_length]
  exact held_more h.1 h.2.1 hc
theorem HeldR.less {l : List UInt8} {pos next : Nat} {L : List Nat} (h : HeldR l pos next L) {v : Nat} (hv : v ≤ L.length) : HeldR l (pos + v) next (L.drop v) :=
  ⟨held_less h.1, by rw [List.length_drop]; have := h.2.1; omega, h.2.2⟩
theorem HeldR.take {l : List UInt8} {pos next : Nat} {L : List Nat} (h : HeldR l pos next L) {v : Nat} (hv : v ≤ L.length) : L.take v = ((bitsOf l).drop pos).take v := by
  rw [h.1, List.take_take, Nat.min_eq_left hv]

end
end Go.Proofs.YtjmamomnbfnngaaDoor
/-
  Codes that are counted, dealt, ordered, turned: plain facts, no program in sight.
-/
namespace Go.Proofs.YtjmamomnbfnngaaDoor
section

/-- How much is taken by all lengths, told by the end of the last one. -/
theorem upTo_all : ∀ (ls : List Int), (∀ l ∈ ls, 0 ≤ l ∧ l ≤ 15) → upTo (natsOf ls) 15 = kraft ls
  | [], _ => by simp [upTo, kraft, natsOf]
  | l :: ls, h => by
    have ih := upTo_all ls fun x hx => h x (by simp [hx])
    have hl := h l (by simp)
    unfold upTo natsOf at ih ⊢
    rw [List.map_cons, List.map_cons, List.sum_cons, kraft_cons, ih]
    congr 1
    unfold partK
    by_cases h0 : l ≤ 0
    · rw [if_pos h0, if_neg (by omega)]
    · rw [if_neg h0, if_pos (by omega)]
theorem endC_kraft {ls : List Int} (h : ∀ l ∈ ls, 0 ≤ l ∧ l ≤ 15) : endC (natsOf ls) 15 = kraft ls := by
  have h1 := endC_upTo (natsOf ls) 15 (by omega)
  rw [upTo_all ls h] at h1
  simpa using h1
theorem endC_rough (ns : List Nat) (hn : ns.length ≤ 320) : ∀ k, endC ns k + 320 ≤ 320 * 2 ^ k
  | 0 => by simp [endC]
  | k + 1 => by
    have ih := endC_rough ns hn k
    have := List.count_le_length (a := k + 1) (l := ns)
    rw [endC, Nat.pow_succ]; omega
theorem endC_bound {ns : List Nat} (hn : ns.length ≤ 320) {k : Nat} (hk : k ≤ 15) : endC ns k ≤ 10485760 := by
  have h1 := endC_rough ns hn k
  have h2 : (2 : Nat) ^ k ≤ 2 ^ 15 := Nat.pow_le_pow_right (by omega) hk
  omega
/-- No code at all: each length is 0. -/
theorem kraft_zero {ls : List Int} (h : ∀ l ∈ ls, 0 ≤ l ∧ l ≤ 15) : kraft ls = 0 ↔ ∀ v, 0 < v → (natsOf ls).count v = 0 := by
  constructor
  · intro hk v hv
    rw [List.count_eq_zero]
    intro hm
    unfold natsOf at hm
    obtain ⟨l, hl, rfl⟩ := List.mem_map.1 hm
    have : partK l ≤ kraft ls := by
      obtain ⟨a, b, rfl⟩ := List.append_of_mem hl
      unfold kraft; simp; omega
    unfold partK at this
    rw [if_neg (by omega)] at this
    have : 0 < 2 ^ (15 - l.toNat) := Nat.pow_pos (by omega)
    omega
  · intro hc
    rw [← endC_kraft h]
    have : ∀ k, endC (natsOf ls) k = 0 := by
      intro k
      induction k with
      | zero => rfl
      | succ k ih => rw [endC, ih, hc (k + 1) (by omega)]
    exact this 15

/-- With which number each length begins: so many times the one behind the last of the length ahead. -/
def startN (ns : List Nat) (m : Nat) : Nat → Nat
  | 0 => 0
  | 1 => 0
  | n + 2 => m * (startN ns m (n + 1) + ns.count (n + 1))
theorem startN_two (ns : List Nat) : ∀ n, startN ns 2 (n + 1) = 2 * endC ns n
  | 0 => rfl
  | n + 1 => by rw [startN, startN_two ns n, endC]
theorem startN_more (ns : List Nat) (n : Nat) : startN ns 1 (n + 2) = startN ns 1 (n + 1) + ns.count (n + 1) := by rw [startN]; omega
theorem startN_up (ns : List Nat) (n : Nat) : ∀ d, startN ns 1 (n + 1) ≤ startN ns 1 (n + 1 + d)
  | 0 => Nat.le_refl _
  | d + 1 => by
    have := startN_up ns n d
    rw [show n + 1 + (d + 1) = (n + d) + 2 by omega, startN_more, show n + d + 1 = n + 1 + d by omega]; omega
theorem countP_more (ns : List Nat) (n : Nat) : ns.countP (fun l => decide (1 ≤ l ∧ l ≤ n + 1)) = ns.countP (fun l => decide (1 ≤ l ∧ l ≤ n)) + ns.count (n + 1) := by
  induction ns with
  | nil => rfl
  | cons l ls ih =>
    rw [List.countP_cons, List.countP_cons, List.count_cons, ih]
    by_cases h : l = n + 1
    · subst h
      rw [if_pos (by simp), if_neg (by simp), if_pos (by simp)]
      omega
    · have e : (l == n + 1) = false := by simpa using h
      have e2 : decide (1 ≤ l ∧ l ≤ n + 1) = decide (1 ≤ l ∧ l ≤ n) := by
        rw [decide_eq_decide]; omega
      rw [e, e2]; simp only [Bool.false_eq_true, if_false, Nat.add_zero]; omega
theorem startN_count (ns : List Nat) : ∀ n, startN ns 1 (n + 1) = ns.countP (fun l => decide (1 ≤ l ∧ l ≤ n))
  | 0 => by
    have : ns.countP (fun l => decide (1 ≤ l ∧ l ≤ 0)) = 0 := by
      rw [List.countP_eq_zero]; intro l _; simp; omega
    rw [this]; rfl
  | n + 1 => by rw [startN_more, startN_count ns n, countP_more]
theorem startN_le (ns : List Nat) (n : Nat) : startN ns 1 n ≤ ns.length := by
  cases n with
  | zero => exact Nat.zero_le _
  | succ n => rw [startN_count]; exact List.countP_le_length
theorem startN_bound {ns : List Nat} (hn : ns.length ≤ 320) {m : Nat} (hm : m = 1 ∨ m = 2) {k : Nat} (hk : k ≤ 15) : startN ns m k ≤ 20971520 := by
  rcases hm with rfl | rfl
  · have := startN_le ns k; omega
  · cases k with
    | zero => exact Nat.zero_le _
    | succ k =>
      have := endC_bound hn (k := k) (by omega)
      rw [startN_two]; omega

/-- The number that is dealt to a symbol. -/
def dealAt (ns : List Nat) (g : Nat → Nat) (i : Nat) : Nat :=
  match ns[i]? with
  | some (n + 1) => g (n + 1) + (ns.take i).count (n + 1)
  | _ => 0
def dealN (ns : List Nat) (g : Nat → Nat) : List Nat := (List.range ns.length).map (dealAt ns g)
theorem dealN_length (ns : List Nat) (g : Nat → Nat) : (dealN ns g).length = ns.length := by simp [dealN]
theorem dealAt_some {ns : List Nat} {g : Nat → Nat} {i n : Nat} (h : ns[i]? = some (n + 1)) : dealAt ns g i = g (n + 1) + (ns.take i).count (n + 1) := by unfold dealAt; rw [h]
theorem dealAt_two (ns : List Nat) (i : Nat) : dealAt ns (startN ns 2) i = codeAt ns i := by
  rcases h : ns[i]? with _ | n
  · unfold dealAt codeAt; rw [h]
  · cases n with
    | zero => unfold dealAt codeAt; rw [h]
    | succ n => rw [dealAt_some h, codeAt_some h, startN_two]
theorem dealN_two (ns : List Nat) : dealN ns (startN ns 2) = codesN ns := by
  unfold dealN codesN
  congr 1
  funext i
  exact dealAt_two ns i
/-- So many symbols were dealt to. -/
def dealtN (ns : List Nat) (g : Nat → Nat) (j : Nat) : List Nat := (List.range ns.length).map fun i => if i < j then dealAt ns g i else 0
theorem dealtN_length (ns : List Nat) (g : Nat → Nat) (j : Nat) : (dealtN ns g j).length = ns.length := by simp [dealtN]
theorem dealtN_none (ns : List Nat) (g : Nat → Nat) : dealtN ns g 0 = List.replicate ns.length 0 := by
  apply List.ext_getElem (by simp [dealtN])
  intro i h1 h2
  simp [dealtN]
theorem dealtN_all (ns : List Nat) (g : Nat → Nat) : dealtN ns g ns.length = dealN ns g := by
  unfold dealtN dealN
  apply List.map_congr_left
  intro i hi
  rw [if_pos (List.mem_range.1 hi)]
theorem dealtN_set {ns : List Nat} {g : Nat → Nat} {j : Nat} : (dealtN ns g j).set j (dealAt ns g j) = dealtN ns g (j + 1) := by
  apply List.ext_getElem (by simp [dealtN])
  intro i h1 h2
  rw [List.getElem_set]
  by_cases e : j = i
  · subst e; simp [dealtN]
  · rw [if_neg e]
    have : (i < j + 1) = (i < j) := by apply propext; omega
    simp [dealtN, this]
theorem dealtN_skip {ns : List Nat} {g : Nat → Nat} {j : Nat} (h : ns[j]?.getD 0 = 0) : dealtN ns g j = dealtN ns g (j + 1) := by
  apply List.ext_getElem (by simp [dealtN])
  intro i h1 h2
  by_cases e : i = j
  · subst e
    have : dealAt ns g i = 0 := by
      unfold dealAt
      split
      · rename_i n hn; rw [hn] at h; simp at h
      · rfl
    simp [dealtN, this]
  · have : (i < j + 1) = (i < j) := by apply propext; omega
    simp [dealtN, this]
/-- The number that a length has for its next symbol. -/
def nextG (ns : List Nat) (g : Nat → Nat) (j l : Nat) : Nat := g l + if l = 0 then 0 else (ns.take j).count l
theorem nextG_zero (ns : List Nat) (g : Nat → Nat) : nextG ns g 0 = g := by
  funext l; unfold nextG; simp
theorem nextG_at {ns : List Nat} {g : Nat → Nat} {j n : Nat} (h : ns[j]? = some (n + 1)) : nextG ns g j (n + 1) = dealAt ns g j := by
  rw [dealAt_some h]; unfold nextG; simp
theorem take_count {ns : List Nat} {j v : Nat} (h : ns[j]? = some v) (l : Nat) : (ns.take (j + 1)).count l = (ns.take j).count l + if v = l then 1 else 0 := by
  obtain ⟨hj, hv⟩ := List.getElem?_eq_some_iff.1 h
  rw [List.take_succ_eq_append_getElem hj, hv, List.count_append, List.count_cons, List.count_nil]
  by_cases e : v = l
  · subst e; simp
  · have : (v == l) = false := by simpa using e
    rw [this, if_neg e]; simp
theorem nextG_skip {ns : List Nat} {g : Nat → Nat} {j : Nat} (h : ns[j]? = some 0) : nextG ns g (j + 1) = nextG ns g j := by
  funext l
  unfold nextG
  by_cases e : l = 0
  · rw [if_pos e, if_pos e]
  · rw [if_neg e, if_neg e, take_count h, if_neg (by omega)]; rfl
theorem nextG_more {ns : List Nat} {g : Nat → Nat} {j n : Nat} (h : ns[j]? = some (n + 1)) : nextG ns g (j + 1) = fun k => if k = n + 1 then nextG ns g j (n + 1) + 1 else nextG ns g j k := by
  funext l
  unfold nextG
  by_cases e0 : l = 0
  · subst e0; simp
  · rw [if_neg e0, take_count h]
    by_cases e : l = n + 1
    · subst e; simp; omega
    · rw [if_neg e, if_neg e0, if_neg (by omega)]; rfl

/-- The place of a symbol among those that have codes. -/
def placeAt (ns : List Nat) (i : Nat) : Nat := dealAt ns (startN ns 1) i
theorem placeAt_range {ns : List Nat} {i n : Nat} (h : ns[i]? = some (n + 1)) : startN ns 1 (n + 1) ≤ placeAt ns i ∧ placeAt ns i < startN ns 1 (n + 2) := by
  have := count_take_lt h
  unfold placeAt
  rw [dealAt_some h, startN_more]; omega
theorem placeAt_lt {ns : List Nat} {i n : Nat} (h : ns[i]? = some (n + 1)) : placeAt ns i < ns.length := by
  have h1 := (placeAt_range h).2
  have h2 := startN_le ns (n + 2)
  omega
theorem placeAt_ne {ns : List Nat} {i k n m : Nat} (hi : ns[i]? = some (n + 1)) (hk : ns[k]? = some (m + 1)) (hik : i < k) : placeAt ns i ≠ placeAt ns k := by
  rcases Nat.lt_trichotomy n m with h | h | h
  · have h1 := (placeAt_range hi).2
    have h2 := (placeAt_range hk).1
    have h3 := startN_up ns (n + 1) (m - n - 1)
    rw [show n + 1 + 1 + (m - n - 1) = m + 1 by omega, show n + 1 + 1 = n + 2 by omega] at h3
    omega
  · subst h
    have := count_take_less hik hi
    unfold placeAt
    rw [dealAt_some hi, dealAt_some hk]; omega
  · have h1 := (placeAt_range hk).2
    have h2 := (placeAt_range hi).1
    have h3 := startN_up ns (m + 1) (n - m - 1)
    rw [show m + 1 + 1 + (n - m - 1) = n + 1 by omega, show m + 1 + 1 = m + 2 by omega] at h3
    omega
/-- So many symbols were put in their places. -/
def Ordered (ns : List Nat) (j : Nat) (l : List Nat) : Prop := l.length = ns.length ∧ ∀ i n, i < j → ns[i]? = some (n + 1) → l[placeAt ns i]? = some i
theorem ordered_none (ns : List Nat) : Ordered ns 0 (List.replicate ns.length 0) := ⟨by simp, fun i n h => by omega⟩
theorem Ordered.skip {ns : List Nat} {j : Nat} {l : List Nat} (h : Ordered ns j l) (h0 : ns[j]? = some 0) : Ordered ns (j + 1) l :=
  ⟨h.1, fun i n hi hn => by
    rcases Nat.lt_or_ge i j with hij | hij
    · exact h.2 i n hij hn
    · obtain rfl : i = j := by omega
      rw [h0] at hn; cases hn⟩
theorem Ordered.more {ns : List Nat} {j n : Nat} {l : List Nat} (h : Ordered ns j l) (hn : ns[j]? = some (n + 1)) : Ordered ns (j + 1) (l.set (placeAt ns j) j) :=
  ⟨by rw [List.length_set]; exact h.1, fun i m hi hm => by
    rw [List.getElem?_set]
    rcases Nat.lt_or_ge i j with hij | hij
    · rw [if_neg (Ne.symm (placeAt_ne hm hn hij))]
      exact h.2 i m hij hm
    · obtain rfl : i = j := by omega
      rw [if_pos rfl, if_pos (by rw [h.1]; exact placeAt_lt hn)]⟩
/-- The symbol that has a number among those of its length. -/
theorem symbol_of {v : Nat} : ∀ (ns : List Nat) (k : Nat), k < ns.count v → ∃ i, ns[i]? = some v ∧ (ns.take i).count v = k
  | [], k, h => by simp at h
  | l :: ls, k, h => by
    by_cases e : l = v
    · subst e
      cases k with
      | zero => exact ⟨0, rfl, rfl⟩
      | succ k =>
        rw [List.count_cons_self] at h
        obtain ⟨i, h1, h2⟩ := symbol_of (v := l) ls k (by omega)
        exact ⟨i + 1, by simpa using h1, by rw [List.take_succ_cons, List.count_cons_self, h2]⟩
    · rw [List.count_cons_of_ne (by simpa using e)] at h
      obtain ⟨i, h1, h2⟩ := symbol_of ls k h
      exact ⟨i + 1, by simpa using h1, by rw [List.take_succ_cons, List.count_cons_of_ne (by simpa using e), h2]⟩

theorem ls_of {ls : List Int} (h : ∀ l ∈ ls, 0 ≤ l ∧ l ≤ 15) {i w : Nat} (hi : (natsOf ls)[i]? = some w) : ls[i]? = some (w : Int) := by
  unfold natsOf at hi
  rw [List.getElem?_map] at hi
  obtain ⟨l, hl, he⟩ := Option.map_eq_some_iff.1 hi
  have := h l (List.mem_of_getElem? hl)
  rw [hl]; congr 1; omega
theorem nats_of {ls : List Int} {i : Nat} {w : Nat} {l : Int} (hi : ls[i]? = some l) (hl : l = (w : Int)) : (natsOf ls)[i]? = some w := len_of hi hl
/-- One bit more: a code of this length. -/
theorem read_hit {ls : List Int} (h : ∀ l ∈ ls, 0 ≤ l ∧ l ≤ 15) {n num x : Nat} (hx : x = 2 * endC (natsOf ls) n + num) (hnum : num < (natsOf ls).count (n + 1)) {l : List Nat} (ho : Ordered (natsOf ls) ls.length l) :
    ∃ i : Nat, findC ls (codesN (natsOf ls)) (n + 1) x 0 = (i : Int) ∧ l[startN (natsOf ls) 1 (n + 1) + num]? = some i := by
  obtain ⟨i, h1, h2⟩ := symbol_of (natsOf ls) num hnum
  have hc : codeAt (natsOf ls) i = x := by rw [codeAt_some h1, h2, hx]
  have hil : i < (natsOf ls).length := (List.getElem?_eq_some_iff.1 h1).1
  refine ⟨i, ?_, ?_⟩
  · have := findC_first (ls := ls) (cs := codesN (natsOf ls)) (w := n + 1) (x := x) i 0 (fun k l c hk hl hcc hh => by
      obtain ⟨e1, e2, _⟩ := hh
      have hnk := nats_of hl e1
      have hkl : k < (natsOf ls).length := (List.getElem?_eq_some_iff.1 hnk).1
      rw [codesN_at hkl] at hcc
      have hcc2 := Option.some.inj hcc
      have := count_take_less hk hnk
      rw [codeAt_some hnk] at hcc2
      rw [codeAt_some h1] at hc
      omega) (ls_of h h1) (by rw [codesN_at hil, hc]) (by omega)
    rw [this]; congr 1; omega
  · have hp := ho.2 i n (by rw [natsOf_length] at hil; exact hil) h1
    unfold placeAt at hp
    rwa [dealAt_some h1, h2] at hp
/-- One bit more: none of this length. -/
theorem read_miss {ls : List Int} {n num x : Nat} (hx : x = 2 * endC (natsOf ls) n + num) (hnum : (natsOf ls).count (n + 1) ≤ num) : findC ls (codesN (natsOf ls)) (n + 1) x 0 = -1 :=
  findC_none 0 fun k l c hl hc hh => by
    obtain ⟨e1, e2, _⟩ := hh
    have hnk := nats_of hl e1
    have hkl : k < (natsOf ls).length := (List.getElem?_eq_some_iff.1 hnk).1
    rw [codesN_at hkl] at hc
    have h1 := (codeAt_range hnk).2
    have h2 := Option.some.inj hc
    rw [endC] at h1
    omega

/-- Bits that are turned. -/
def revN (w x : Nat) : Nat := numB (codeBits w x)
theorem codeBits_lt2 (w x : Nat) : ∀ b ∈ codeBits w x, b < 2 := fun b hb => bitsN_two _ _ b (List.mem_reverse.1 hb)
theorem revN_lt (w x : Nat) : revN w x < 2 ^ w := by
  have := numB_lt (codeBits w x) (codeBits_lt2 w x)
  rwa [codeBits_length] at this
theorem bits_revN (w x : Nat) : bitsN w (revN w x) = codeBits w x := by
  have := bitsN_numB (codeBits w x) (codeBits_lt2 w x)
  rwa [codeBits_length] at this
theorem bitsN_add : ∀ (a b x : Nat), bitsN (a + b) x = bitsN a x ++ bitsN b (x / 2 ^ a)
  | 0, b, x => by simp [bitsN]
  | a + 1, b, x => by
    rw [show a + 1 + b = (a + b) + 1 by omega, bitsN, bitsN_add a b, bitsN, List.cons_append, Nat.div_div_eq_div_mul, Nat.pow_succ, Nat.mul_comm 2]
/-- Two halves, each turned, and put the other way round. -/
theorem revN_halves (x : Nat) : revN 16 x = revN 8 (x / 256) + 256 * revN 8 x := by
  unfold revN codeBits
  rw [show (16 : Nat) = 8 + 8 from rfl, bitsN_add, List.reverse_append, numB_append, List.length_reverse, bitsN_length]
theorem bitsN_mod : ∀ (k x : Nat), bitsN k (x % 2 ^ k) = bitsN k x
  | 0, _ => rfl
  | k + 1, x => by
    rw [bitsN, bitsN, show x % 2 ^ (k + 1) % 2 = x % 2 by rw [Nat.pow_succ, Nat.mul_comm, Nat.mod_mul_right_mod], show x % 2 ^ (k + 1) / 2 = x / 2 % 2 ^ k by rw [Nat.pow_succ, Nat.mul_comm, Nat.mod_mul_right_div_self], bitsN_mod k]
theorem revN_mod (x : Nat) : revN 8 (x % 256) = revN 8 x := by
  unfold revN codeBits
  rw [show (256 : Nat) = 2 ^ 8 from rfl, bitsN_mod]
/-- Sixteen bits turned, and cut. -/
theorem revN_cut {w x : Nat} (hw : w ≤ 16) (hx : x < 2 ^ w) : revN 16 x / 2 ^ (16 - w) = revN w x := by
  have e : codeBits 16 x = List.replicate (16 - w) 0 ++ codeBits w x := by
    unfold codeBits
    rw [show (16 : Nat) = w + (16 - w) by omega, bitsN_add, Nat.div_eq_of_lt hx, bitsN_zero, List.reverse_append, List.reverse_replicate]
    congr 2
    omega
  unfold revN
  rw [e, numB_append, numB_zeros, List.length_replicate, Nat.zero_add, Nat.mul_div_cancel_left _ (Nat.pow_pos (by omega))]
/-- So many codes were turned. -/
def turnAt (ns : List Nat) (j i : Nat) : Nat := if i < j then revN (ns[i]?.getD 0) (codeAt ns i) else codeAt ns i
def turnN (ns : List Nat) (j : Nat) : List Nat := (List.range ns.length).map (turnAt ns j)
theorem turnN_length (ns : List Nat) (j : Nat) : (turnN ns j).length = ns.length := by simp [turnN]
theorem turnN_none (ns : List Nat) : turnN ns 0 = codesN ns := by
  unfold turnN codesN turnAt; simp
theorem turnN_at {ns : List Nat} {j i : Nat} (h : i < ns.length) : (turnN ns j)[i]? = some (turnAt ns j i) := by simp [turnN, h]
theorem turnN_set {ns : List Nat} {j n : Nat} (h : ns[j]? = some n) : (turnN ns j).set j (revN n (codeAt ns j)) = turnN ns (j + 1) := by
  apply List.ext_getElem (by simp [turnN])
  intro i h1 h2
  rw [List.getElem_set]
  by_cases e : j = i
  · subst e
    simp [turnN, turnAt, h]
  · rw [if_neg e]
    have : (i < j + 1) = (i < j) := by apply propext; omega
    simp [turnN, turnAt, this]
theorem codeAt_none {ns : List Nat} {j : Nat} (h : ns[j]? = some 0) : codeAt ns j = 0 := by unfold codeAt; rw [h]
theorem turnN_skip {ns : List Nat} {j : Nat} (h : ns[j]? = some 0) : turnN ns (j + 1) = turnN ns j := by
  apply List.ext_getElem (by simp [turnN])
  intro i h1 h2
  by_cases e : i = j
  · subst e
    simp [turnN, turnAt, h, codeAt_none h, revN, codeBits, bitsN, numB]
  · have : (i < j + 1) = (i < j) := by apply propext; omega
    simp [turnN, turnAt, this]

end
end Go.Proofs.YtjmamomnbfnngaaDoor
/-
  The contracts of bitrow's bits that stand between: come, leave, isWidth.
-/
namespace Go.Proofs.YtjmamomnbfnngaaDoor
section
open Go.RowKit

theorem i64_nat (n : Nat) (h : n < 9223372036854775808) : wrap64 (n : Int) = (n : Int) := by unfold wrap64; omega
theorem i64_or_nat (x c n : Nat) (hx : x < 2 ^ c) (hb : x + 2 ^ c * n < 9223372036854775808) : bits .or .i64 (x : Int) ((2 ^ c * n : Nat) : Int) = ((x + 2 ^ c * n : Nat) : Int) := by
  have h1 : x < 18446744073709551616 := by omega
  have h2 : 2 ^ c * n < 18446744073709551616 := by omega
  show IntKind.i64.wrap ((BitVec.ofInt 64 ((x : Nat) : Int) ||| BitVec.ofInt 64 ((2 ^ c * n : Nat) : Int)).toNat : Int) = _
  have e : ∀ m : Nat, m < 18446744073709551616 → (BitVec.ofInt 64 (m : Int)).toNat = m := fun m hm => by
    rw [BitVec.toNat_ofInt, show (m : Int) % ((2 ^ 64 : Nat) : Int) = (m : Int) by omega, Int.toNat_natCast]
  rw [BitVec.toNat_or, e _ h1, e _ h2, Nat.or_comm, ← Nat.two_pow_add_eq_or_of_lt hx n, Nat.add_comm, IntKind.wrap_i64]
  omega
theorem i64_and_low (x k : Nat) (hx : x < 9223372036854775808) (hk : k ≤ 30) : bits .and .i64 (x : Int) ((2 ^ k : Nat) - 1 : Int) = ((x % 2 ^ k : Nat) : Int) := by
  have hp : 0 < 2 ^ k := Nat.pow_pos (by omega)
  have hp2 : 2 ^ k ≤ 2 ^ 30 := Nat.pow_le_pow_right (by omega) hk
  have e : ∀ m : Nat, m < 18446744073709551616 → (BitVec.ofInt 64 (m : Int)).toNat = m := fun m hm => by
    rw [BitVec.toNat_ofInt, show (m : Int) % ((2 ^ 64 : Nat) : Int) = (m : Int) by omega, Int.toNat_natCast]
  rw [show (((2 ^ k : Nat) : Int) - 1) = ((2 ^ k - 1 : Nat) : Int) by omega]
  show IntKind.i64.wrap ((BitVec.ofInt 64 ((x : Nat) : Int) &&& BitVec.ofInt 64 ((2 ^ k - 1 : Nat) : Int)).toNat : Int) = _
  rw [BitVec.toNat_and, e _ (by omega), e _ (by omega), Nat.and_two_pow_sub_one_eq_mod, IntKind.wrap_i64]
  have := Nat.mod_le x (2 ^ k)
  omega
theorem pow_two_int (k : Nat) : (2 : Int) ^ k = ((2 ^ k : Nat) : Int) := by simp

/-- Two cells of a block are written, and an order is drawn. -/
def twoSet (w : World) (b : Nat) (x y : Int) : World := ((w.setCell ⟨b, 0, none⟩ (.int .i64 x)).setCell ⟨b, 1, none⟩ (.int .i64 y)).drew

set_option maxHeartbeats 1000000 in
theorem come_is (b : Nat) (L : List Nat) (n k : Nat) (w : World) (h2 : ∀ b ∈ L, b < 2) (hl : L.length ≤ 15) (hn : n < 2 ^ k) (hk : k ≤ 16) (h0 : w.cell? ⟨b, 0, none⟩ = some (.int .i64 (numB L : Int))) (h1 : w.cell? ⟨b, 1, none⟩ = some (.int .i64 (L.length : Int)))
   (hf : w.frozen? ⟨b, 0, none⟩ = false) (hf1 : w.frozen? ⟨b, 1, none⟩ = false) :
    Calls Tryd.prog 35 #[.pointer (some ⟨b, 0, none⟩), .int .i64 (n : Int), .int .i64 (k : Int)] w fun e w' => e = .returned (.tuple #[]) ∧ w' = twoSet w b (numB (L ++ bitsN k n)) ((L ++ bitsN k n).length : Nat) := by
  have hx := numB_lt L h2
  have hor := i64_or_nat (numB L) L.length n hx (by
    have e1 : (2 : Nat) ^ L.length ≤ 2 ^ 15 := Nat.pow_le_pow_right (by omega) hl
    have e2 : (2 : Nat) ^ k ≤ 2 ^ 16 := Nat.pow_le_pow_right (by omega) hk
    have e3 : 2 ^ L.length * n ≤ 2 ^ 15 * 2 ^ 16 := Nat.mul_le_mul e1 (by omega)
    omega)
  have hsh : wrap64 ((n : Int) * 2 ^ L.length) = ((2 ^ L.length * n : Nat) : Int) := by
    have e1 : (2 : Nat) ^ L.length ≤ 2 ^ 15 := Nat.pow_le_pow_right (by omega) hl
    have e2 : (2 : Nat) ^ k ≤ 2 ^ 16 := Nat.pow_le_pow_right (by omega) hk
    have e3 : 2 ^ L.length * n ≤ 2 ^ 15 * 2 ^ 16 := Nat.mul_le_mul e1 (by omega)
    rw [pow_two_int, ← Int.natCast_mul, Nat.mul_comm n, i64_nat _ (by omega)]
  have hnum : numB L + 2 ^ L.length * n = numB (L ++ bitsN k n) := by rw [numB_append, numB_bitsN k n hn]
  rw [hnum] at hor
  have hlen : (L ++ bitsN k n).length = L.length + k := by rw [List.length_append, bitsN_length]
  rw [hlen]
  obtain ⟨z, hz⟩ : ∃ z, numB (L ++ bitsN k n) = z := ⟨_, rfl⟩
  obtain ⟨x, hx2⟩ : ∃ x, numB L = x := ⟨_, rfl⟩
  obtain ⟨c, hc⟩ : ∃ c, L.length = c := ⟨_, rfl⟩
  obtain ⟨y, hy⟩ : ∃ y : Nat, 2 ^ c * n = y := ⟨_, rfl⟩
  rw [hz] at hor ⊢
  rw [hx2] at hor h0
  rw [hc] at hor h1 hsh hl ⊢
  rw [hy] at hor hsh
  have Hor := Lib.hid hor
  have Hsh := Lib.hid hsh
  clear hor hsh hnum hlen hz hx2 hc hy hx h2 hn
  go_enter Tryd.func35, Tryd.ntmps35
  go_wp2_with fail
  go_region
  all_goals
    go_wp2_with fail
    rw [Hsh.out, Hor.out]
    go_end0
    exact ⟨rfl, rfl⟩

set_option maxHeartbeats 1000000 in
theorem leave_is (b : Nat) (L : List Nat) (k : Nat) (w : World) (h2 : ∀ b ∈ L, b < 2) (hl : L.length ≤ 31) (hk : k ≤ 16) (hkl : k ≤ L.length) (h0 : w.cell? ⟨b, 0, none⟩ = some (.int .i64 (numB L : Int))) (h1 : w.cell? ⟨b, 1, none⟩ = some (.int .i64 (L.length : Int)))
   (hf : w.frozen? ⟨b, 0, none⟩ = false) (hf1 : w.frozen? ⟨b, 1, none⟩ = false) :
    Calls Tryd.prog 36 #[.pointer (some ⟨b, 0, none⟩), .int .i64 (k : Int)] w fun e w' => e = .returned (.int .i64 (numB (L.take k) : Int)) ∧ w' = twoSet w b (numB (L.drop k)) ((L.drop k).length : Nat) := by
  have hx := numB_lt L h2
  have hx3 : (2 : Nat) ^ L.length ≤ 2 ^ 31 := Nat.pow_le_pow_right (by omega) hl
  obtain ⟨ht, hd⟩ := numB_parts k L h2 hkl
  have hand := i64_and_low (numB L) k (by omega) (by omega)
  rw [← ht] at hand
  rw [List.length_drop]
  obtain ⟨t, htt⟩ : ∃ t, numB (L.take k) = t := ⟨_, rfl⟩
  obtain ⟨d, hdd⟩ : ∃ d, numB (L.drop k) = d := ⟨_, rfl⟩
  obtain ⟨x, hx2⟩ : ∃ x, numB L = x := ⟨_, rfl⟩
  obtain ⟨c, hc⟩ : ∃ c, L.length = c := ⟨_, rfl⟩
  rw [htt] at hand ⊢
  rw [hdd] at hd ⊢
  rw [hx2] at hand hd h0
  rw [hc] at h1 hkl hl ⊢
  have hp2 : 2 ^ k ≤ 65536 := by
    have : (2 : Nat) ^ k ≤ 2 ^ 16 := Nat.pow_le_pow_right (by omega) hk
    omega
  have hck : ((c - k : Nat) : Int) = (c : Int) - (k : Int) := by omega
  rw [hck]
  have hdz : (x : Int) / ((2 ^ k : Nat) : Int) = (d : Int) := by rw [hd]; rfl
  have hpk := pow_two_int k
  obtain ⟨p, hp⟩ : ∃ p, 2 ^ k = p := ⟨_, rfl⟩
  have hp0 : 0 < p := by rw [← hp]; exact Nat.pow_pos (by omega)
  rw [hp] at hpk hp2 hand hdz
  have Hand := Lib.hid hand
  have Hdz := Lib.hid hdz
  clear hand hdz ht hd htt hdd hx2 hc hx hx3 h2 hck hp
  go_enter Tryd.func36, Tryd.ntmps36
  go_wp2_with fail
  go_region
  all_goals
    go_wp2_with fail
    rw [Hand.out, Hdz.out]
    go_ret
    exact ⟨rfl, rfl⟩

theorem isWidth_is (k : Int) (w : World) {b : Bool} (hb : decide (0 ≤ k ∧ k ≤ 16) = b) :
    Calls Tryd.prog 34 #[.int .i64 k] w fun e w' => e = .returned (.bool b) ∧ w = w' := by
  subst hb
  by_cases h1 : 0 ≤ k
  · by_cases h2 : k ≤ 16
    · go_enter Tryd.func34, Tryd.ntmps34
      go_wp2_with fail
      go_ret
      exact ⟨by simp [h1, h2], rfl⟩
    · go_enter Tryd.func34, Tryd.ntmps34
      go_wp2_with fail
      go_ret
      exact ⟨by simp [h2], rfl⟩
  · go_enter Tryd.func34, Tryd.ntmps34
    go_wp2_with fail
    go_ret
    exact ⟨by simp; omega, rfl⟩

end
end Go.Proofs.YtjmamomnbfnngaaDoor
/-
  Bits that stand between, and what they turn of memory.
-/
namespace Go.Proofs.YtjmamomnbfnngaaDoor
section
open Go.RowKit
theorem Touches.two {F F' : List Nat} {w w' : World} (h : Touches F F' w w') {b : Nat} (hb : b ∈ F') (x y : Int) : Touches F F' w (twoSet w' b x y) := ((h.setCell (a := ⟨b, 0, none⟩) hb _).setCell (a := ⟨b, 1, none⟩) hb _).drew

theorem two_block (w : World) (b : Nat) (x y : Int) (k : Nat) (h : k ≠ b) : (twoSet w b x y).heap[k]? = w.heap[k]? :=
  (Below.heap_setCell _ ⟨b, 1, none⟩ _ k h).trans (Below.heap_setCell _ ⟨b, 0, none⟩ _ k h)
theorem two_size (w : World) (b : Nat) (x y : Int) : (twoSet w b x y).heap.size = w.heap.size := by simp [twoSet, World.setCell, World.drew]

end
end Go.Proofs.YtjmamomnbfnngaaDoor
/-
  The contracts of the document's small functions on rows of bits: power, Bit, Get, Whole, Bytes.
-/
namespace Go.Proofs.YtjmamomnbfnngaaDoor
section
open Go.RowKit

set_option maxHeartbeats 1000000 in
theorem rPower_any (v : Nat) (w : World) (h : v ≤ 16) :
    Calls Tryd.prog 64 #[.int .i64 (v : Int)] w fun e w' => e = .returned (.int .i64 ((2 ^ v : Nat) : Int)) ∧ w = w' := by
  go_enter Tryd.func64, Tryd.ntmps64
  go_wp2_with fail
  go_loopg [3, 4] v (fun g s3 s4 wx => ∃ (j z : Nat), j + g = v ∧ s4 = .int .i64 j ∧ s3 = .int .i64 z ∧ z ≤ 65536 ∧ Aside (z = 2 ^ j) ∧ w = wx)
  case atStart => exact ⟨0, 1, by omega, rfl, rfl, by omega, rfl, rfl⟩
  case round =>
    obtain ⟨j, z, hjg, rfl, rfl, hz, HZ, rfl⟩ := hrel
    cases gk with
    | zero =>
      obtain rfl : j = v := by omega
      go_wp2_with fail
      go_ret
      exact ⟨ret_int (by rw [HZ.out]), rfl⟩
    | succ g =>
      have hjz : (j : Int) < (v : Int) := by omega
      have hz2 : Hid (2 * z ≤ 65536) := Lib.hid (by
        have h1 : (2 : Nat) ^ (j + 1) ≤ 2 ^ 16 := Nat.pow_le_pow_right (by omega) (by omega)
        rw [Nat.pow_succ] at h1
        have := HZ.out
        omega)
      go_wp2_with fail
      go_roundg g
      case measure => omega
      case rel => exact ⟨j + 1, 2 * z, by omega, by go_num, by go_num, hz2.out, by show _ = _; rw [HZ.out, Nat.pow_succ]; omega, rfl⟩

theorem calm_one {P : Program} {f : FuncId} {args : Array Value} {w : World} {n : Nat} {v : Value}
    (h : Calls P f args (w.drewN n) fun e w' => e = .returned v ∧ w.drewN n = w') : Calls P f args (w.drewN n) fun e w'' => e = .returned v ∧ ∃ m, w'' = w.drewN m :=
  h.mono fun _ _ ⟨he, hm⟩ => ⟨he, n, hm.symm⟩
theorem power_pos (k : Nat) : 0 < 2 ^ k := Nat.pow_pos (by omega)
set_option maxHeartbeats 1000000 in
theorem rBit_any (s : ByteArray) (pos : Nat) (w : World) (h : pos < 8 * s.size) (hs : s.size ≤ 1000000) :
    ∃ b : Nat, (bitsOf s.data.toList)[pos]? = some b ∧ b < 2 ∧ Calls Tryd.prog 49 #[.string s, .int .i64 (pos : Int)] w fun e w' => e = .returned (.int .i64 (b : Int)) ∧ ∃ q, w.drewN q = w' := by
  obtain ⟨k, hk8⟩ : ∃ k, pos / 8 = k := ⟨_, rfl⟩
  obtain ⟨r, hr8⟩ : ∃ r, pos % 8 = r := ⟨_, rfl⟩
  have hk : k < s.size := by omega
  have hr : r < 8 := by omega
  have hb := bitsOf_get s.data.toList pos s[k] (by rw [hk8]; exact Lib.data_getElem? s _ hk)
  rw [hr8] at hb
  refine ⟨_, hb, by omega, ?_⟩
  have hc := s[k].toNat_lt
  have hp := power_pos r
  have hp2 : 2 ^ r ≤ 128 := by
    have : (2 : Nat) ^ r ≤ 2 ^ 7 := Nat.pow_le_pow_right (by omega) (by omega)
    omega
  have Hpow := Lib.hid (fun W => rPower_any r W (by omega))
  obtain ⟨z, hz⟩ : ∃ z, 2 ^ r = z := ⟨_, rfl⟩
  rw [hz] at Hpow hp hp2 hb ⊢
  clear hb
  have q1 : IntKind.i64.wrap ((pos : Int) / 8) = (k : Int) := by rw [IntKind.wrap_i64]; omega
  have q2 : (pos : Int).tmod 8 = (r : Int) := by rw [Int.tmod_eq_emod_of_nonneg (by omega)]; omega
  have q2' : (pos : Int) % 8 = (r : Int) := by omega
  have hkz : (k : Int) < (s.size : Int) := by omega
  clear hk8 hr8
  obtain ⟨c, hcn⟩ : ∃ c, s[k].toNat = c := ⟨_, rfl⟩
  rw [hcn] at hc ⊢
  obtain ⟨y, hy⟩ : ∃ y : Nat, c / z = y := ⟨_, rfl⟩
  have hyc : y ≤ c := by rw [← hy]; exact Nat.div_le_self _ _
  rw [hy]
  have q3 : IntKind.i64.wrap (c : Int) = (c : Int) := by rw [IntKind.wrap_i64]; omega
  have q4 : (c : Int).tdiv (z : Int) = (y : Int) := by rw [Int.tdiv_eq_ediv_of_nonneg (by omega), ← hy]; simp
  have q5 : (c : Int) / (z : Int) = (y : Int) := by rw [← hy]; simp
  have q6 : IntKind.i64.wrap (y : Int) = (y : Int) := by rw [IntKind.wrap_i64]; omega
  obtain ⟨x, hx⟩ : ∃ x : Nat, y % 2 = x := ⟨_, rfl⟩
  rw [hx]
  have q7 : (y : Int).tmod 2 = (x : Int) := by rw [Int.tmod_eq_emod_of_nonneg (by omega)]; omega
  have q7' : (y : Int) % 2 = (x : Int) := by omega
  have q8 : ((z : Int) == 0) = false := by rw [beq_eq_false_iff_ne]; omega
  have q9 : ¬ (z : Int) = 0 := by omega
  clear hy hz hx
  go_enter Tryd.func49, Tryd.ntmps49
  go_wp2_with fail
  go_quiet ((go_at_call 64; exact calm_one (Hpow.out _)))
  go_wp2_with fail
  go_ret
  exact ⟨rfl, _, rfl⟩

theorem bit_there {s : ByteArray} {pos : Nat} (h : pos < 8 * s.size) : ∃ b, (bitsOf s.data.toList)[pos]? = some b ∧ b < 2 := by
  have hl : pos < (bitsOf s.data.toList).length := by rw [bitsOf_length, ← size_data]; exact h
  exact ⟨_, List.getElem?_eq_getElem hl, bitsOf_two _ _ (List.getElem_mem hl)⟩
theorem rBit_is (s : ByteArray) (pos b : Nat) (w : World) (h : pos < 8 * s.size) (hs : s.size ≤ 1000000) (hb : (bitsOf s.data.toList)[pos]? = some b) :
    Calls Tryd.prog 49 #[.string s, .int .i64 (pos : Int)] w fun e w' => e = .returned (.int .i64 (b : Int)) ∧ ∃ q, w.drewN q = w' := by
  obtain ⟨c, hc, _, hr⟩ := rBit_any s pos w h hs
  obtain rfl : c = b := Option.some.inj (hc.symm.trans hb)
  exact hr
set_option maxHeartbeats 1000000 in
theorem rGetB_is (s : ByteArray) (pos : Nat) (width : Int) (w : World) (hp : pos ≤ 8 * s.size) (hs : s.size ≤ 1000000) (_h0 : -9223372036854775808 ≤ width) (_h1 : width ≤ 9223372036854775807) {n e : Int} {to : Nat} (h : getB s.data.toList pos width = (n, to, e)) :
    Calls Tryd.prog 25 #[.string s, .int .i64 (pos : Int), .int .i64 width] w fun en w' => en = .returned (.tuple #[.int .i64 n, .int .i64 (to : Int), .int .i64 e]) ∧ ∃ q, w.drewN q = w' := by
  by_cases hbad : width < 0 ∨ 16 < width
  · have Hr := Lib.hid ((getB_arg hbad).symm.trans h)
    have hcase : width < 0 ∨ (¬ width < 0 ∧ 16 < width) := by omega
    clear hbad h
    rcases hcase with h | ⟨h, h'⟩
    all_goals
      go_enter Tryd.func25, Tryd.ntmps25
      go_wp2_with fail
      go_ret3
      simp only [Prod.mk.injEq] at Hr
      obtain ⟨rfl, rfl, rfl⟩ := Hr.out
      exact ⟨rfl, 0, rfl⟩
  · obtain ⟨v, rfl⟩ := Int.eq_ofNat_of_zero_le (show 0 ≤ width by omega)
    have hv : v ≤ 16 := by omega
    have h1 : ¬ (v : Int) < 0 := by omega
    have h2 : ¬ 16 < (v : Int) := by omega
    clear hbad
    have hlen : s.data.toList.length = s.size := by rw [← size_data]
    by_cases hsh : pos + v ≤ 8 * s.size
    · have Hr := Lib.hid ((getB_ok hv (by rw [hlen]; exact hsh)).symm.trans h)
      have hshz : ¬ 8 * (s.size : Int) - (pos : Int) < (v : Int) := by omega
      clear h hlen
      go_enter Tryd.func25, Tryd.ntmps25
      go_wp2_with fail
      go_loopg [9, 10] v (fun g s9 s10 wx => ∃ (z q : Nat), g ≤ v ∧ s10 = .int .i64 ((g : Int) - 1) ∧ s9 = .int .i64 z ∧ z < 65536 ∧ Aside (z = numB ((((bitsOf s.data.toList).drop pos).take v).drop g)) ∧ w.drewN q = wx)
      case atStart => exact ⟨0, 0, Nat.le_refl _, rfl, rfl, by omega, by show 0 = _; rw [List.drop_of_length_le (by rw [List.length_take]; omega)]; rfl, rfl⟩
      case round =>
        obtain ⟨z, q, hgv, rfl, rfl, hz, HZ, rfl⟩ := hrel
        cases gk with
        | zero =>
          go_wp2_with fail
          go_ret3
          simp only [Prod.mk.injEq] at Hr
          obtain ⟨rfl, rfl, rfl⟩ := Hr.out
          exact ⟨by rw [HZ.out]; rfl, q, rfl⟩
        | succ g =>
          obtain ⟨b, hb, hb2⟩ := bit_there (show pos + g < 8 * s.size by omega)
          have Hcall := Lib.hid fun W => rBit_is s (pos + g) b W (by omega) hs hb
          have Hst := Lib.hid (take_at (v := v) hb (by omega))
          have Hlt := Lib.hid (part_lt (L := bitsOf s.data.toList) (pos := pos) (v := v) (g := g) (bitsOf_two _) hv)
          have hgz : 0 ≤ ((g + 1 : Nat) : Int) - 1 := by omega
          have hgi : (pos : Int) + (((g + 1 : Nat) : Int) - 1) = ((pos + g : Nat) : Int) := by omega
          rw [Int.natCast_add] at Hcall
          clear hb
          go_wp2_with fail
          refine (Hcall.out _).mono ?_
          rintro e w1 ⟨rfl, q2, rfl⟩
          go_wp2_with fail
          go_roundg g
          case measure => omega
          case rel =>
            have hnew : numB ((((bitsOf s.data.toList).drop pos).take v).drop g) = b + 2 * z := by rw [Hst.out, HZ.out]; rfl
            exact ⟨b + 2 * z, _, by omega, by go_num, by first | go_num | (congr 1; omega), by rw [← hnew]; exact Hlt.out, hnew.symm, rfl⟩
    · have Hr := Lib.hid ((getB_short hv (by rw [hlen]; omega)).symm.trans h)
      have hshz : 8 * (s.size : Int) - (pos : Int) < (v : Int) := by omega
      clear h hlen
      go_enter Tryd.func25, Tryd.ntmps25
      go_wp2_with fail
      go_ret3
      simp only [Prod.mk.injEq] at Hr
      obtain ⟨rfl, rfl, rfl⟩ := Hr.out
      exact ⟨rfl, 0, rfl⟩

set_option maxHeartbeats 1000000 in
theorem rWhole_any (pos : Nat) (w : World) (h : pos ≤ 8000000) :
    Calls Tryd.prog 19 #[.int .i64 (pos : Int)] w fun e w' => e = .returned (.int .i64 (wholeN pos : Int)) ∧ w = w' := by
  have hr : ((pos : Int) + 7) / 8 * 8 = (wholeN pos : Int) := by unfold wholeN; omega
  go_enter Tryd.func19, Tryd.ntmps19
  go_wp2_with fail
  go_ret
  exact ⟨ret_int (by first | done | exact hr | omega), rfl⟩
theorem whole_bound {pos n : Nat} (h : pos ≤ 8 * n) : wholeN pos / 8 ≤ n := by unfold wholeN; omega
set_option maxHeartbeats 1000000 in
theorem rBytesB_is (s : ByteArray) (pos : Nat) (n : Int) (w : World) (hp : pos ≤ 8 * s.size) (hs : s.size ≤ 1000000) (_h0 : -9223372036854775808 ≤ n) (_h1 : n ≤ 9223372036854775807) {u : ByteArray} {e : Int} {to : Nat} (h : bytesB s.data.toList pos n = (u.data.toList, to, e)) :
    Calls Tryd.prog 26 #[.string s, .int .i64 (pos : Int), .int .i64 n] w fun en w' => en = .returned (.tuple #[.string u, .int .i64 (to : Int), .int .i64 e]) ∧ w = w' := by
  have hlen : s.data.toList.length = s.size := by rw [← size_data]
  have hwb := whole_bound hp
  have Hw := Lib.hid fun W => rWhole_any pos W (by omega)
  obtain ⟨k, hk⟩ : ∃ k, wholeN pos / 8 = k := ⟨_, rfl⟩
  have hq : (wholeN pos : Int) / 8 = (k : Int) := by omega
  have hq2 : (wholeN pos : Int).tdiv 8 = (k : Int) := by rw [Int.tdiv_eq_ediv_of_nonneg (by omega)]; exact hq
  have hwl : wholeN pos ≤ 8000008 := by unfold wholeN; omega
  rw [hk] at hwb
  obtain ⟨m, hm⟩ : ∃ m, wholeN pos = m := ⟨_, rfl⟩
  rw [hm] at hq hq2 hwl Hw
  by_cases hneg : n < 0
  · have Hr : Hid ((([] : List UInt8), pos, (2 : Int)) = (u.data.toList, to, e)) := Lib.hid (by rw [← h]; unfold bytesB; rw [if_pos hneg])
    clear h
    go_enter Tryd.func26, Tryd.ntmps26
    go_wp2_with fail
    go_ret3
    simp only [Prod.mk.injEq] at Hr
    obtain ⟨h1, rfl, rfl⟩ := Hr.out
    exact ⟨by rw [← bytes_of u, ← h1]; rfl, rfl⟩
  · by_cases hsh : (s.size : Int) - (k : Int) < n
    · have Hr : Hid ((([] : List UInt8), pos, (5 : Int)) = (u.data.toList, to, e)) := Lib.hid (by rw [← h]; unfold bytesB; rw [if_neg hneg, hk, hlen, if_pos hsh])
      clear h hk hm
      go_enter Tryd.func26, Tryd.ntmps26
      go_wp2_with fail
      refine (Hw.out _).mono ?_
      rintro e w1 ⟨rfl, rfl⟩
      go_wp2_with fail
      go_ret3
      simp only [Prod.mk.injEq] at Hr
      obtain ⟨h1, rfl, rfl⟩ := Hr.out
      exact ⟨by rw [← bytes_of u, ← h1]; rfl, rfl⟩
    · obtain ⟨v, rfl⟩ := Int.eq_ofNat_of_zero_le (show 0 ≤ n by omega)
      have hv : k + v ≤ s.size := by omega
      have Hr : Hid (((s.extract k (k + v)).data.toList, 8 * (k + v), (0 : Int)) = (u.data.toList, to, e)) := Lib.hid (by
        rw [← h]; unfold bytesB; rw [if_neg hneg, hk, hlen, if_neg hsh, Int.toNat_natCast, Lib.extract_data, Nat.add_sub_cancel_left])
      have q1 : ((k : Int) + (v : Int)).toNat = k + v := by omega
      clear h hk hm
      go_enter Tryd.func26, Tryd.ntmps26
      go_wp2_with fail
      refine (Hw.out _).mono ?_
      rintro e w1 ⟨rfl, rfl⟩
      go_wp2_with fail
      go_ret3
      simp only [Prod.mk.injEq] at Hr
      obtain ⟨h1, rfl, rfl⟩ := Hr.out
      exact ⟨by rw [← bytes_of u, ← h1, bytes_of]; rfl, rfl⟩

end
end Go.Proofs.YtjmamomnbfnngaaDoor
/-
  The contracts of bitrow's Reader: New, Get, At.
-/
namespace Go.Proofs.YtjmamomnbfnngaaDoor
section
open Go.RowKit
/-- A reader's object. -/
def RdCell (w : World) (b : Nat) (s : ByteArray) (next : Nat) (L : List Nat) : Prop := w.heap[b]? = some (.cells #[.int .i64 (numB L : Int), .int .i64 (L.length : Int), .string s, .int .i64 (next : Int)] 59 (0, 0))
theorem RdCell.held {w : World} {b : Nat} {s : ByteArray} {next : Nat} {L : List Nat} (h : RdCell w b s next L) : w.cell? ⟨b, 0, none⟩ = some (.int .i64 (numB L : Int)) := by rw [cell_of_row _ _ _ _ _ _ h]; rfl
theorem RdCell.count {w : World} {b : Nat} {s : ByteArray} {next : Nat} {L : List Nat} (h : RdCell w b s next L) : w.cell? ⟨b, 1, none⟩ = some (.int .i64 (L.length : Int)) := by rw [cell_of_row _ _ _ _ _ _ h]; rfl
theorem RdCell.text {w : World} {b : Nat} {s : ByteArray} {next : Nat} {L : List Nat} (h : RdCell w b s next L) : w.cell? ⟨b, 2, none⟩ = some (.string s) := by rw [cell_of_row _ _ _ _ _ _ h]; rfl
theorem RdCell.next {w : World} {b : Nat} {s : ByteArray} {next : Nat} {L : List Nat} (h : RdCell w b s next L) : w.cell? ⟨b, 3, none⟩ = some (.int .i64 (next : Int)) := by rw [cell_of_row _ _ _ _ _ _ h]; rfl
theorem RdCell.free {w : World} {b : Nat} {s : ByteArray} {next : Nat} {L : List Nat} (h : RdCell w b s next L) (j : Nat) : w.frozen? ⟨b, j, none⟩ = false := frozen_of_row _ _ _ _ _ h
theorem RdCell.lt {w : World} {b : Nat} {s : ByteArray} {next : Nat} {L : List Nat} (h : RdCell w b s next L) : b < w.heap.size := by
  rcases Nat.lt_or_ge b w.heap.size with h' | h'
  · exact h'
  · unfold RdCell at h; rw [Array.getElem?_eq_none h'] at h; cases h
theorem RdCell.two {w : World} {b : Nat} {s : ByteArray} {next : Nat} {L : List Nat} (h : RdCell w b s next L) (L' : List Nat) : RdCell (twoSet w b (numB L') (L'.length : Nat)) b s next L' := by
  have h1 := heap_setCell_same _ _ 0 _ _ (.int .i64 (numB L' : Int)) h
  exact heap_setCell_same _ _ 1 _ _ (.int .i64 (L'.length : Int)) h1
theorem RdCell.put {w : World} {b : Nat} {s : ByteArray} {next : Nat} {L : List Nat} (h : RdCell w b s next L) (n' : Nat) : RdCell (w.setCell ⟨b, 3, none⟩ (.int .i64 (n' : Int))) b s n' L := heap_setCell_same _ _ 3 _ _ (.int .i64 (n' : Int)) h
theorem RdCell.put_int {w : World} {b : Nat} {s : ByteArray} {next : Nat} {L : List Nat} (h : RdCell w b s next L) {n' : Nat} {z : Int} (hz : z = (n' : Int)) : RdCell (w.setCell ⟨b, 3, none⟩ (.int .i64 z)) b s n' L := by
  subst hz; exact h.put n'

/-- A reader of s, of whose bits so many were read. -/
def ReaderAt (w : World) (b : Nat) (s : ByteArray) (pos : Nat) (F : List Nat) : Prop := ∃ next L, F = [b] ∧ L.length < 8 ∧ HeldR s.data.toList pos next L ∧ RdCell w b s next L
theorem ReaderAt.lt {w : World} {b : Nat} {s : ByteArray} {pos : Nat} {F : List Nat} (h : ReaderAt w b s pos F) : ∀ k ∈ F, k < w.heap.size := by
  obtain ⟨next, L, rfl, _, _, h⟩ := h
  intro k hk
  obtain rfl : k = b := by simpa using hk
  exact h.lt
theorem ReaderAt.move {w w' : World} {b : Nat} {s : ByteArray} {pos : Nat} {F : List Nat} (h : ReaderAt w b s pos F) (_ : w.heap.size ≤ w'.heap.size) (hk : ∀ k ∈ F, w'.heap[k]? = w.heap[k]?) : ReaderAt w' b s pos F := by
  obtain ⟨next, L, rfl, h1, h2, h⟩ := h
  exact ⟨next, L, rfl, h1, h2, (hk b (by simp)).trans h⟩

theorem ReaderAt.later' {w w' : World} {b : Nat} {s : ByteArray} {pos : Nat} {F : List Nat} (h : ReaderAt w b s pos F) (hb : Below w.drew.heap.size w.drew w') : ReaderAt w' b s pos F := h.move hb.size fun k hk => hb.block k (h.lt k hk)
theorem rNew_is (s : ByteArray) (w : World) (_hs : s.size ≤ 100000) :
    Calls Tryd.prog 9 #[.string s] w fun en w' => ∃ b F, en = .returned (.pointer (some ⟨b, 0, none⟩)) ∧ ReaderAt w' b s 0 F ∧ (∀ k ∈ F, w.heap.size ≤ k) ∧ Below w.heap.size w w' := by
  go_enter Tryd.func9, Tryd.ntmps9
  go_wp2_with fail
  go_ret
  exact ⟨w.heap.size, [w.heap.size], rfl, ⟨0, [], rfl, by decide, ⟨rfl, rfl, Nat.zero_le _⟩, heap_alloc_new w _⟩, by simp, (below_same w).alloc (Nat.le_refl _) _⟩

theorem rGet_nil (width : Int) (w : World) : Calls Tryd.prog 20 #[.pointer none, .int .i64 width] w fun en w' => en = .returned (.tuple #[.int .i64 0, .int .i64 1]) ∧ Below w.heap.size w w' := by
  go_enter Tryd.func20, Tryd.ntmps20
  go_wp2_with fail
  go_ret2
  exact ⟨rfl, below_same _⟩
theorem rAt_nil (w : World) : Calls Tryd.prog 11 #[.pointer none] w fun en w' => en = .returned (.int .i64 0) ∧ Below w.heap.size w w' := by
  go_enter Tryd.func11, Tryd.ntmps11
  go_wp2_with fail
  go_ret
  exact ⟨rfl, below_same _⟩

set_option maxHeartbeats 1000000 in
theorem rAt_is (b : Nat) (s : ByteArray) (pos : Nat) (F : List Nat) (w : World) (h : ReaderAt w b s pos F) (_hp : pos ≤ 8 * s.size) (hs : s.size ≤ 100000) :
    Calls Tryd.prog 11 #[.pointer (some ⟨b, 0, none⟩)] w fun en w' => en = .returned (.int .i64 (pos : Int)) ∧ Below w.heap.size w w' := by
  obtain ⟨next, L, hF, hL, hH, hC⟩ := h
  have c1 := hC.count
  have c3 := hC.next
  have h1 := hH.2.1
  have h2 := hH.2.2
  rw [← size_data] at h2
  have HR : Hid (8 * (next : Int) - (L.length : Int) = (pos : Int)) := Lib.hid (by omega)
  clear hH hC h1 hF
  go_enter Tryd.func11, Tryd.ntmps11
  go_wp2_with fail
  go_region
  all_goals
    go_wp2_with fail
    go_ret
    exact ⟨ret_int HR.out, (below_same w).drew⟩

set_option maxHeartbeats 1000000 in
theorem rGet_arg (b : Addr) (width : Int) (w : World) (hw : width < 0 ∨ 16 < width) :
    Calls Tryd.prog 20 #[.pointer (some b), .int .i64 width] w fun en w' => en = .returned (.tuple #[.int .i64 0, .int .i64 2]) ∧ w = w' := by
  have Hw := Lib.hid (fun W => isWidth_is width W (b := false) (by simp; omega))
  clear hw
  go_enter Tryd.func20, Tryd.ntmps20
  go_wp2_with fail
  refine (Hw.out _).mono ?_
  rintro e w1 ⟨rfl, rfl⟩
  go_wp2_with fail
  go_ret2
  exact ⟨rfl, rfl⟩

set_option maxHeartbeats 1000000 in
theorem rGet_short (b k next : Nat) (L : List Nat) (s : ByteArray) (w : World) (hk : k ≤ 16) (hC : RdCell w b s next L) (hL : L.length < 8) (hn : next ≤ s.size) (_hs : s.size ≤ 100000) (hsh : L.length + 8 * (s.size - next) < k) :
    Calls Tryd.prog 20 #[.pointer (some ⟨b, 0, none⟩), .int .i64 (k : Int)] w fun en w' => en = .returned (.tuple #[.int .i64 0, .int .i64 5]) ∧ w' = w.drew := by
  have Hw := Lib.hid (fun W => isWidth_is (k : Int) W (b := true) (by simp; omega))
  have c1 := hC.count
  have c2 := hC.text
  have c3 := hC.next
  have hz : (L.length : Int) + 8 * ((s.size : Int) - (next : Int)) < (k : Int) := by omega
  clear hC hsh
  go_enter Tryd.func20, Tryd.ntmps20
  go_wp2_with fail
  refine (Hw.out _).mono ?_
  rintro e w1 ⟨rfl, rfl⟩
  go_wp2_with fail
  go_region
  all_goals
    go_wp2_with fail
    go_ret2
    exact ⟨rfl, rfl⟩

theorem come8_is (b : Nat) (L : List Nat) (n : Nat) (w : World) (h2 : ∀ b ∈ L, b < 2) (hl : L.length ≤ 15) (hn : n < 256) (h0 : w.cell? ⟨b, 0, none⟩ = some (.int .i64 (numB L : Int))) (h1 : w.cell? ⟨b, 1, none⟩ = some (.int .i64 (L.length : Int)))
   (hf : w.frozen? ⟨b, 0, none⟩ = false) (hf1 : w.frozen? ⟨b, 1, none⟩ = false) :
    Calls Tryd.prog 35 #[.pointer (some ⟨b, 0, none⟩), .int .i64 (n : Int), .int .i64 8] w fun e w' => e = .returned (.tuple #[]) ∧ w' = twoSet w b (numB (L ++ bitsN 8 n)) ((L ++ bitsN 8 n).length : Nat) :=
  come_is b L n 8 w h2 hl hn (by decide) h0 h1 hf hf1

set_option maxHeartbeats 2000000 in
theorem rGet_ok (b k pos next : Nat) (L : List Nat) (s : ByteArray) (w : World) (hk : k ≤ 16) (hH : HeldR s.data.toList pos next L) (hC : RdCell w b s next L) (hL : L.length < 8) (hs : s.size ≤ 100000) (hen : pos + k ≤ 8 * s.size) :
    Calls Tryd.prog 20 #[.pointer (some ⟨b, 0, none⟩), .int .i64 (k : Int)] w fun en w' => en = .returned (.tuple #[.int .i64 (numB (((bitsOf s.data.toList).drop pos).take k) : Int), .int .i64 0]) ∧ ∃ F', ReaderAt w' b s (pos + k) F' ∧ Touches [b] F' w w' := by
  have Hw := Lib.hid (fun W => isWidth_is (k : Int) W (b := true) (by simp; omega))
  have c1 := hC.count
  have c2 := hC.text
  have c3 := hC.next
  have hn := hH.2.2
  have h8 := hH.2.1
  rw [← size_data] at hn
  have hz : ¬ (L.length : Int) + 8 * ((s.size : Int) - (next : Int)) < (k : Int) := by omega
  have HH := Lib.hid hH
  have HC : Hid (RdCell w.drew b s next L) := Lib.hid hC
  clear hH hC h8
  go_enter Tryd.func20, Tryd.ntmps20
  go_wp2_with fail
  refine (Hw.out _).mono ?_
  rintro e w1 ⟨rfl, rfl⟩
  go_wp2_with fail
  go_region
  all_goals
    go_wp2_with fail
    clear c1 c2 c3
    go_loopg [] k (fun g wx => ∃ (m : Nat) (M : List Nat), k ≤ M.length + g ∧ M.length < k + 8 ∧ m ≤ s.size ∧ Aside (HeldR s.data.toList pos m M ∧ RdCell wx b s m M ∧ Touches [b] [b] w wx))
    case atStart => exact ⟨next, L, by omega, by omega, hn, HH.out, HC.out, (Touches.refl _ _).drew⟩
    case round =>
      obtain ⟨m, M, hg, hM, hm, HI⟩ := hrel
      have c1 := HI.out.2.1.count
      by_cases hlt : M.length < k
      · have hmm : m < s.size := by have := HI.out.1.2.1; omega
        have hmz : (m : Int) < (s.size : Int) := by omega
        have hc := s[m].toNat_lt
        have hwc : IntKind.i64.wrap (s[m].toNat : Int) = (s[m].toNat : Int) := by rw [IntKind.wrap_i64]; omega
        have c2 := HI.out.2.1.text
        have c3 := HI.out.2.1.next
        have Hl := Lib.hid (come8_is b M s[m].toNat wr.drew HI.out.1.two (by omega) hc HI.out.2.1.held HI.out.2.1.count (HI.out.2.1.free 0) (HI.out.2.1.free 1))
        have HC2 : Hid (RdCell (twoSet wr.drew b (numB (M ++ bitsN 8 s[m].toNat)) ((M ++ bitsN 8 s[m].toNat).length : Nat)) b s m (M ++ bitsN 8 s[m].toNat)) := Lib.hid (RdCell.two (w := wr.drew) HI.out.2.1 _)
        have HH2 := Lib.hid (HI.out.1.more (c := s[m]) (Lib.data_getElem? s _ hmm))
        have HT2 := Lib.hid (HI.out.2.2.drew.two (b := b) (by simp) (numB (M ++ bitsN 8 s[m].toNat)) ((M ++ bitsN 8 s[m].toNat).length : Nat))
        have hlen : (M ++ bitsN 8 s[m].toNat).length = M.length + 8 := by rw [List.length_append, bitsN_length]
        obtain ⟨W2, hW2⟩ : ∃ W2, twoSet wr.drew b (numB (M ++ bitsN 8 s[m].toNat)) ((M ++ bitsN 8 s[m].toNat).length : Nat) = W2 := ⟨_, rfl⟩
        rw [hW2] at Hl HC2 HT2
        obtain ⟨N, hN⟩ : ∃ N, M ++ bitsN 8 s[m].toNat = N := ⟨_, rfl⟩
        rw [hN] at HC2 HH2 hlen
        have d3 := HC2.out.next
        have f3 := HC2.out.free 3
        clear hW2 hN
        go_wp2_with fail
        go_region_with (first | (go_at_call 35; refine Hl.out.mono ?_; rintro e w1 ⟨rfl, rfl⟩))
        all_goals
          have HC3 := Lib.hid (HC2.out.put_int (n' := m + 1) (z := (m : Int) + 1) (by omega))
          have HT3 := Lib.hid (HT2.out.setCell (a := ⟨b, 3, none⟩) (by simp) (.int .i64 ((m : Int) + 1)))
          go_wp2_with fail
          go_roundg (k - N.length)
          case measure => omega
          case rel => exact ⟨m + 1, N, by omega, by omega, by omega, HH2.out, HC3.out, HT3.out⟩
      · have hge : ¬ (M.length : Int) < (k : Int) := by omega
        have Hl := Lib.hid (leave_is b M k wr HI.out.1.two (by omega) hk (by omega) HI.out.2.1.held HI.out.2.1.count (HI.out.2.1.free 0) (HI.out.2.1.free 1))
        have HC2 := Lib.hid (HI.out.2.1.two (M.drop k))
        have HH2 := Lib.hid (HI.out.1.less (v := k) (by omega))
        have HT2 := Lib.hid (HI.out.2.2.two (b := b) (by simp) (numB (M.drop k)) ((M.drop k).length : Nat))
        have hd : (M.drop k).length < 8 := by rw [List.length_drop]; omega
        have ht := HI.out.1.take (v := k) (by omega)
        rw [ht] at Hl
        obtain ⟨W2, hW2⟩ : ∃ W2, twoSet wr b (numB (M.drop k)) ((M.drop k).length : Nat) = W2 := ⟨_, rfl⟩
        rw [hW2] at Hl HC2 HT2
        clear ht hW2
        go_wp2_with fail
        refine Hl.out.mono ?_
        rintro e w1 ⟨rfl, rfl⟩
        go_wp2_with fail
        go_ret2
        exact ⟨rfl, [b], ⟨m, _, rfl, hd, HH2.out, HC2.out⟩, HT2.out⟩

theorem rGet_is (b : Nat) (s : ByteArray) (pos : Nat) (F : List Nat) (width : Int) (w : World) (h : ReaderAt w b s pos F) (_hp : pos ≤ 8 * s.size) (hs : s.size ≤ 100000) (_h0 : -9223372036854775808 ≤ width) (_h1 : width ≤ 9223372036854775807)
    {n e : Int} {to : Nat} (hr : getB s.data.toList pos width = (n, to, e)) :
    Calls Tryd.prog 20 #[.pointer (some ⟨b, 0, none⟩), .int .i64 width] w fun en w' => en = .returned (.tuple #[.int .i64 n, .int .i64 e]) ∧ ∃ F', ReaderAt w' b s to F' ∧ Touches F F' w w' := by
  by_cases hw : width < 0 ∨ 16 < width
  · rw [getB_arg hw] at hr
    obtain ⟨rfl, hr2⟩ := Prod.mk.inj hr
    obtain ⟨rfl, rfl⟩ := Prod.mk.inj hr2
    refine (rGet_arg ⟨b, 0, none⟩ width w hw).mono ?_
    rintro e w' ⟨rfl, rfl⟩
    exact ⟨rfl, F, h, Touches.refl _ _⟩
  · obtain ⟨k, rfl⟩ := Int.eq_ofNat_of_zero_le (show 0 ≤ width by omega)
    have hk : k ≤ 16 := by omega
    obtain ⟨next, L, rfl, hL, hH, hC⟩ := h
    have h8 := hH.2.1
    have hn := hH.2.2
    have hsz := size_data s
    by_cases hen : pos + k ≤ 8 * s.size
    · have hr2 := (getB_ok (l := s.data.toList) (pos := pos) hk (by rw [← hsz]; exact hen)).symm.trans hr
      obtain ⟨rfl, hr3⟩ := Prod.mk.inj hr2
      obtain ⟨rfl, rfl⟩ := Prod.mk.inj hr3
      exact rGet_ok b k pos next L s w hk hH hC hL hs hen
    · have hr2 := (getB_short (l := s.data.toList) (pos := pos) hk (by rw [← hsz]; omega)).symm.trans hr
      obtain ⟨rfl, hr3⟩ := Prod.mk.inj hr2
      obtain ⟨rfl, rfl⟩ := Prod.mk.inj hr3
      rw [← hsz] at hn
      refine (rGet_short b k next L s w hk hC hL hn hs (by omega)).mono ?_
      rintro e w' ⟨rfl, rfl⟩
      exact ⟨rfl, [b], ⟨next, L, rfl, hL, hH, hC⟩, (Touches.refl _ _).drew⟩

theorem ReaderAt.later {w w' : World} {b : Nat} {s : ByteArray} {pos : Nat} {F : List Nat} (h : ReaderAt w b s pos F) (hb : Below w.heap.size w w') : ReaderAt w' b s pos F := h.move hb.size fun k hk => hb.block k (h.lt k hk)

end
end Go.Proofs.YtjmamomnbfnngaaDoor
/-
  The contracts of bitrow's Reader: Bytes, Align.
-/
namespace Go.Proofs.YtjmamomnbfnngaaDoor
section
open Go.RowKit
theorem extract_is (s : ByteArray) (a n : Nat) (_h : a + n ≤ s.size) : s.extract a (a + n) = bytes ((s.data.toList.drop a).take n) := by
  apply bytes_eq
  rw [ByteArray.data_extract, Array.toList_extract]
  simp

theorem rBytes_nil (n : Int) (w : World) : Calls Tryd.prog 38 #[.pointer none, .int .i64 n] w fun en w' => en = .returned (.tuple #[.string ⟨#[]⟩, .int .i64 1]) ∧ Below w.heap.size w w' := by
  go_enter Tryd.func38, Tryd.ntmps38
  go_wp2_with fail
  go_ret2
  exact ⟨rfl, below_same _⟩
theorem rAlign_nil (w : World) : Calls Tryd.prog 37 #[.pointer none] w fun en w' => en = .returned (.tuple #[]) ∧ Below w.heap.size w w' := by
  go_enter Tryd.func37, Tryd.ntmps37
  go_wp2_with fail
  exact bodyPost_ret (v := .tuple #[]) (by simp [results, go_sem]) rfl ⟨rfl, below_same _⟩
set_option maxHeartbeats 1000000 in
theorem rAlign_is (b : Nat) (s : ByteArray) (pos : Nat) (F : List Nat) (w : World) (h : ReaderAt w b s pos F) (_hp : pos ≤ 8 * s.size) (_hs : s.size ≤ 100000) :
    Calls Tryd.prog 37 #[.pointer (some ⟨b, 0, none⟩)] w fun en w' => en = .returned (.tuple #[]) ∧ ∃ F', ReaderAt w' b s (wholeN pos) F' ∧ Touches F F' w w' := by
  obtain ⟨next, L, rfl, hL, hH, hC⟩ := h
  have c1 := hC.count
  have Hl := Lib.hid (leave_is b L L.length w.drew hH.two (by omega) (by omega) (Nat.le_refl _) hC.held hC.count (hC.free 0) (hC.free 1))
  have HC : Hid (RdCell (twoSet w.drew b (numB (L.drop L.length)) ((L.drop L.length).length : Nat)) b s next (L.drop L.length)) := Lib.hid (RdCell.two (w := w.drew) hC _)
  have HH := Lib.hid (hH.less (Nat.le_refl _))
  have hw : pos + L.length = wholeN pos := by have := hH.2.1; unfold wholeN; omega
  rw [hw] at HH
  have HT := Lib.hid ((Touches.refl [b] w).drew.two (b := b) (by simp) (numB (L.drop L.length)) ((L.drop L.length).length : Nat))
  have hd : (L.drop L.length).length < 8 := by rw [List.length_drop]; omega
  obtain ⟨W2, hW2⟩ : ∃ W2, twoSet w.drew b (numB (L.drop L.length)) ((L.drop L.length).length : Nat) = W2 := ⟨_, rfl⟩
  rw [hW2] at Hl HC HT
  clear hH hC hw hW2
  go_enter Tryd.func37, Tryd.ntmps37
  go_wp2_with fail
  go_region_with (first | (go_at_call 36; refine Hl.out.mono ?_; rintro e w1 ⟨rfl, rfl⟩))
  all_goals
    go_wp2_with fail
    go_end0
    exact ⟨rfl, [b], ⟨next, _, rfl, hd, HH.out, HC.out⟩, HT.out⟩

theorem clone_is (s : ByteArray) (w : World) (hs : s.size ≤ 100000) : Calls Tryd.prog 56 #[.string s] w fun e w' => e = .returned (.string s) ∧ Below w.heap.size w w' := by
  have H := Lib.hid (fun W => Any.stringslite_Clone Tryd.laysM316 s W (by omega))
  go_enter Tryd.func56, Tryd.ntmps56
  go_wp2_with fail
  refine (H.out _).mono ?_
  rintro e w1 ⟨rfl, hb⟩
  have Hb := Lib.hid hb
  clear hb
  go_wp2_with fail
  go_ret
  exact ⟨rfl, Hb.out⟩

set_option maxHeartbeats 2000000 in
theorem rBytes_ok (b n pos : Nat) (s : ByteArray) (F : List Nat) (w : World) (h : ReaderAt w b s pos F) (hp : pos ≤ 8 * s.size) (hs : s.size ≤ 100000) (hen : wholeN pos / 8 + n ≤ s.size) :
    Calls Tryd.prog 38 #[.pointer (some ⟨b, 0, none⟩), .int .i64 (n : Int)] w fun en w' => en = .returned (.tuple #[.string (bytes ((s.data.toList.drop (wholeN pos / 8)).take n)), .int .i64 0]) ∧ ∃ F', ReaderAt w' b s (8 * (wholeN pos / 8 + n)) F' ∧ Touches F F' w w' := by
  have Ha := Lib.hid (rAlign_is b s pos F w.drew h hp hs)
  obtain ⟨next, L, rfl, hL, hH, hC⟩ := h
  have c2 := hC.text
  have c3 := hC.next
  have h8 := hH.2.1
  have hn := hH.2.2
  rw [← size_data] at hn
  have hnx : wholeN pos / 8 = next := by unfold wholeN; omega
  rw [hnx] at hen ⊢
  have hz : ¬ (s.size : Int) - (next : Int) < (n : Int) := by omega
  have Hnx := Lib.hid hnx
  clear hC hH h8 hnx
  go_enter Tryd.func38, Tryd.ntmps38
  go_wp2_with fail
  go_region
  all_goals
    go_wp2_with fail
    refine Ha.out.mono ?_
    rintro e w1 ⟨rfl, F', ⟨next', L', hF', hL', hH', hC'⟩, ht⟩
    subst hF'
    have hn8 : next' = next ∧ L' = [] := by
      have h1 := hH'.2.1
      have h2 := Hnx.out
      have h3 : L'.length = 0 := by unfold wholeN at h1 h2; omega
      refine ⟨by unfold wholeN at h1 h2; omega, List.eq_nil_of_length_eq_zero h3⟩
    obtain ⟨rfl, rfl⟩ := hn8
    have HC' := Lib.hid hC'
    have c2' := hC'.text
    have c3' := hC'.next
    have f3' := hC'.free 3
    have HT := Lib.hid ht
    have HC2 := Lib.hid (hC'.put_int (n' := next' + n) (z := (next' : Int) + (n : Int)) (by omega))
    have HT2 : Hid (Touches [b] [b] w (w1.setCell ⟨b, 3, none⟩ (.int .i64 ((next' : Int) + (n : Int)))).drew) := Lib.hid (Touches.setCell (w := w) ht (a := ⟨b, 3, none⟩) (by simp) _).drew
    have hx := extract_is s next' n hen
    obtain ⟨x, hxx⟩ : ∃ x, s.extract next' (next' + n) = x := ⟨_, rfl⟩
    have hxs : x.size ≤ 100000 := by
      rw [← hxx, hx, bytes_size, List.length_take]; omega
    have Hc := Lib.hid (fun W => clone_is x W hxs)
    rw [hxx] at hx
    have Hx := Lib.hid hx
    clear hx
    clear hC' hH' ht c2 c3
    go_wp2_with fail
    go_region_with (first | (go_at_call 56; refine (Hc.out _).mono ?_; rintro e w2 ⟨rfl, hb⟩))
    all_goals
      have Hb := Lib.hid hb
      clear hb
      go_wp2_with fail
      go_ret2
      refine ⟨by rw [← Hx.out]; rfl, [b], ?_, HT2.out.trans (.of_below Hb.out)⟩
      refine ReaderAt.later' ⟨next' + n, [], rfl, by decide, ?_, HC2.out⟩ Hb.out
      refine ⟨rfl, ?_, ?_⟩
      · simp
      · rw [← size_data]; exact hen


set_option maxHeartbeats 1000000 in
theorem rBytes_arg (b : Addr) (n : Int) (w : World) (hn : n < 0) :
    Calls Tryd.prog 38 #[.pointer (some b), .int .i64 n] w fun en w' => en = .returned (.tuple #[.string ⟨#[]⟩, .int .i64 2]) ∧ w = w' := by
  go_enter Tryd.func38, Tryd.ntmps38
  go_wp2_with fail
  go_ret2
  exact ⟨rfl, rfl⟩
set_option maxHeartbeats 1000000 in
theorem rBytes_short (b n next : Nat) (L : List Nat) (s : ByteArray) (w : World) (hC : RdCell w b s next L) (hn : next ≤ s.size) (_hs : s.size ≤ 100000) (hsh : s.size - next < n) (_hn : n ≤ 9223372036854775807) :
    Calls Tryd.prog 38 #[.pointer (some ⟨b, 0, none⟩), .int .i64 (n : Int)] w fun en w' => en = .returned (.tuple #[.string ⟨#[]⟩, .int .i64 5]) ∧ w' = w.drew := by
  have c2 := hC.text
  have c3 := hC.next
  have hz : (s.size : Int) - (next : Int) < (n : Int) := by omega
  clear hC hsh
  go_enter Tryd.func38, Tryd.ntmps38
  go_wp2_with fail
  go_region
  all_goals
    go_wp2_with fail
    go_ret2
    exact ⟨rfl, rfl⟩
theorem empty_of {u : ByteArray} (h : ([] : List UInt8) = u.data.toList) : u = ⟨#[]⟩ := bytes_eq h.symm

theorem rBytes_is (b : Nat) (s : ByteArray) (pos : Nat) (F : List Nat) (n : Int) (w : World) (h : ReaderAt w b s pos F) (hp : pos ≤ 8 * s.size) (hs : s.size ≤ 100000) (_h0 : -9223372036854775808 ≤ n) (h1 : n ≤ 9223372036854775807)
    {u : ByteArray} {e : Int} {to : Nat} (hr : bytesB s.data.toList pos n = (u.data.toList, to, e)) :
    Calls Tryd.prog 38 #[.pointer (some ⟨b, 0, none⟩), .int .i64 n] w fun en w' => en = .returned (.tuple #[.string u, .int .i64 e]) ∧ ∃ F', ReaderAt w' b s to F' ∧ Touches F F' w w' := by
  have hsz := size_data s
  unfold bytesB at hr
  by_cases hn : n < 0
  · rw [if_pos hn] at hr
    obtain ⟨hu, hr2⟩ := Prod.mk.inj hr
    obtain ⟨rfl, rfl⟩ := Prod.mk.inj hr2
    obtain rfl := empty_of hu
    refine (rBytes_arg ⟨b, 0, none⟩ n w hn).mono ?_
    rintro e w' ⟨rfl, rfl⟩
    exact ⟨rfl, F, h, Touches.refl _ _⟩
  · rw [if_neg hn] at hr
    obtain ⟨k, rfl⟩ := Int.eq_ofNat_of_zero_le (show 0 ≤ n by omega)
    by_cases hen : wholeN pos / 8 + k ≤ s.size
    · rw [if_neg (by omega), Int.toNat_natCast] at hr
      obtain ⟨hu, hr2⟩ := Prod.mk.inj hr
      obtain ⟨rfl, rfl⟩ := Prod.mk.inj hr2
      rw [bytes_eq hu.symm]
      exact rBytes_ok b k pos s F w h hp hs hen
    · rw [if_pos (by omega)] at hr
      obtain ⟨hu, hr2⟩ := Prod.mk.inj hr
      obtain ⟨rfl, rfl⟩ := Prod.mk.inj hr2
      obtain rfl := empty_of hu
      obtain ⟨next, L, rfl, hL, hH, hC⟩ := h
      have h8 := hH.2.1
      have hnx := hH.2.2
      rw [← hsz] at hnx
      refine (rBytes_short b k next L s w hC hnx hs (by unfold wholeN at hen; omega) (by omega)).mono ?_
      rintro e w' ⟨rfl, rfl⟩
      exact ⟨rfl, [b], ⟨next, L, rfl, hL, hH, hC⟩, (Touches.refl _ _).drew⟩

end
end Go.Proofs.YtjmamomnbfnngaaDoor
