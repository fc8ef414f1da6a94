/-
  VSort, VSortL: texts merged.
-/
import Derived.Sort.LotA
import Derived.Test.YtejgcnmbngdkiaaGreatDoorShelf
import Derived.Test.YtejgcnmbngdkiaaGreatDoorRows
import Derived.Shelf.SlSortCmp.KitK
import Derived.Sort.WalkB2
import Derived.Sort.WalkB12
import Derived.Deep.LoopGhost
/-
  Sorting, so that alike ones keep their order: plainly, over arrays. 'tag': where an element stood at first.
-/
namespace Go.Proofs.YtejgcnmbngdkiaaGreatDoor
section
open Go.Sort
set_option autoImplicit false
variable {α : Type} [Inhabited α]

/-- Less; and of alike ones the one that stood farther ahead. -/
def lx (lt : α → α → Bool) (tag : α → Nat) (x y : α) : Bool := lt x y || (!lt y x && decide (tag x < tag y))
omit [Inhabited α] in
theorem lx_swo {lt : α → α → Bool} (tag : α → Nat) (hS : SWO lt) : SWO (lx lt tag) := by
  refine ⟨fun x => ?_, fun x y z h1 h2 => ?_, fun x y z h1 h2 => ?_⟩
  · unfold lx; rw [hS.irrefl]; simp
  · unfold lx at *
    have t1 := hS.trans x y z
    have n1 := hS.ntrans x y z; have n2 := hS.ntrans z y x; have n3 := hS.ntrans y x z; have n4 := hS.ntrans x z y; have n5 := hS.ntrans z x y; have n6 := hS.ntrans y z x
    have a1 := @SWO.asymmA _ _ hS x y; have a2 := @SWO.asymmA _ _ hS y z
    have a3 := @SWO.asymmA _ _ hS x z
    cases e1 : lt x y <;> cases e2 : lt y x <;> cases e3 : lt y z <;> cases e4 : lt z y <;> cases e5 : lt x z <;> cases e6 : lt z x <;> simp_all <;> omega
  · unfold lx at *
    have t1 := hS.trans x y z
    have n1 := hS.ntrans x y z; have n2 := hS.ntrans z y x; have n3 := hS.ntrans y x z; have n4 := hS.ntrans x z y; have n5 := hS.ntrans z x y; have n6 := hS.ntrans y z x
    have a1 := @SWO.asymmA _ _ hS x y; have a2 := @SWO.asymmA _ _ hS y z
    have a3 := @SWO.asymmA _ _ hS x z
    cases e1 : lt x y <;> cases e2 : lt y x <;> cases e3 : lt y z <;> cases e4 : lt z y <;> cases e5 : lt x z <;> cases e6 : lt z x <;> simp_all <;> omega
section
variable {lt : α → α → Bool} {tag : α → Nat} (hS : SWO lt)
include hS
omit [Inhabited α] in
theorem le_of_lt {x y : α} (h : lt x y = true) : lx lt tag y x = false := by unfold lx; rw [hS.asymmA h, h]; rfl
omit [Inhabited α] hS in
theorem le_of_tag {x y : α} (h : lt y x = false) (ht : tag x < tag y) : lx lt tag y x = false := by unfold lx; rw [h, decide_eq_false (by omega)]; simp
omit [Inhabited α] hS in
theorem nlt_of_le {x y : α} (h : lx lt tag y x = false) : lt y x = false := by unfold lx at h; rw [Bool.or_eq_false_iff] at h; exact h.1
omit [Inhabited α] in
theorem le_trans' {x y z : α} (h1 : lx lt tag y x = false) (h2 : lx lt tag z y = false) : lx lt tag z x = false := (lx_swo tag hS).ntrans z y x h2 h1
omit [Inhabited α] in
theorem lt_down {x y z : α} (h : lx lt tag y x = false) (h2 : lt y z = true) : lt x z = true := by
  cases e : lt x z with
  | true => rfl
  | false => rw [hS.ntrans y x z (nlt_of_le h) e] at h2; cases h2
omit [Inhabited α] in
theorem lt_up {x y z : α} (h : lx lt tag y x = false) (h2 : lt z x = true) : lt z y = true := by
  cases e : lt z y with
  | true => rfl
  | false => rw [hS.ntrans z y x e (nlt_of_le h)] at h2; cases h2
end

/-! The insertion sort keeps the order of alike ones. -/
theorem insInner_alike {lt : α → α → Bool} {tag : α → Nat} (a : Nat) : ∀ (j : Nat) (d : Array α), j < d.size → (∀ q, a ≤ q → q < j → tag d[q]! < tag d[j]!) → insInner lt a j d = insInner (lx lt tag) a j d
  | 0, d, _, _ => by rw [insInner, insInner]
  | j + 1, d, hj, h => by
    rw [insInner, insInner]
    by_cases ha : j + 1 > a
    · have e : lx lt tag d[j + 1]! d[j]! = lt d[j + 1]! d[j]! := by
        unfold lx
        rw [decide_eq_false (by have := h j (by omega) (by omega); omega)]
        simp
      rw [e]
      have g := swp_get d hj (show j < d.size by omega)
      split
      · refine insInner_alike a j _ (by rw [swp_size]; omega) fun q h1 h2 => ?_
        rw [g, g, if_neg (by omega), if_neg (by omega), if_pos rfl]
        exact h q h1 (by omega)
      · rfl
    · rw [if_neg (by simp; omega), if_neg (by simp; omega)]
theorem insInner_perm {lt : α → α → Bool} (a : Nat) : ∀ (j : Nat) (d : Array α), j < d.size → PermIn a (j + 1) d (insInner lt a j d)
  | 0, d, _ => by rw [insInner]; exact permIn_refl _ _ _
  | j + 1, d, hj => by
    rw [insInner]
    split
    · rename_i hc
      simp only [Bool.and_eq_true, decide_eq_true_eq] at hc
      have h1 := swp_permIn d a (j + 1 + 1) (j + 1) j (by omega) (by omega) (by omega) (by omega) (by omega)
      have h2 := insInner_perm (lt := lt) a j (swp d (j + 1) j) (by rw [swp_size]; omega)
      exact permIn_trans _ _ _ _ _ h1 (permIn_mono _ _ _ _ _ _ (Nat.le_refl _) (by omega) (by rw [swp_size]; omega) h2)
    · exact permIn_refl _ _ _
theorem outer_go (lt : α → α → Bool) (a b i : Nat) (d : Array α) (h : i < b) : insOuter lt a b i d = insOuter lt a b (i + 1) (insInner lt a i d) := by
  conv => lhs; rw [insOuter]
  rw [if_pos h]
theorem outer_stop (lt : α → α → Bool) (a b i : Nat) (d : Array α) (h : ¬ i < b) : insOuter lt a b i d = d := by rw [insOuter, if_neg h]
theorem insOuter_alike {lt : α → α → Bool} {tag : α → Nat} (a b : Nat) : ∀ (n i : Nat) (d : Array α), b - i = n → a < i → i ≤ b → b ≤ d.size →
    (∀ p q, a ≤ p → p < q → i ≤ q → q < b → tag d[p]! < tag d[q]!) → insOuter lt a b i d = insOuter (lx lt tag) a b i d
  | 0, i, d, hn, hai, hib, hb, h => by rw [outer_stop _ _ _ _ _ (by omega), outer_stop _ _ _ _ _ (by omega)]
  | n + 1, i, d, hn, hai, hib, hb, h => by
    rw [outer_go lt _ _ _ _ (by omega), outer_go (lx lt tag) _ _ _ _ (by omega)]
    rw [← insInner_alike a i d (by omega) (fun q h1 h2 => h q i h1 h2 (Nat.le_refl _) (by omega))]
    have hp := insInner_perm (lt := lt) a i d (by omega)
    refine insOuter_alike a b n (i + 1) _ (by omega) (by omega) (by omega) (by rw [hp.1]; exact hb) fun p q h1 h2 h3 h4 => ?_
    rw [hp.2.1 q (Or.inr h3)]
    rcases Nat.lt_or_ge p (i + 1) with h5 | h5
    · exact permIn_all _ _ a (i + 1) (fun x => tag x < tag d[q]!) (by omega) hp (fun p' g1 g2 => h p' q g1 (by omega) (by omega) h4) p h1 h5
    · rw [hp.2.1 p (Or.inr h5)]
      exact h p q h1 h2 (by omega) h4
theorem ins_stable {lt : α → α → Bool} {tag : α → Nat} (hS : SWO lt) (d : Array α) (a b : Nat) (hab : a ≤ b) (hb : b ≤ d.size) (h : ∀ p q, a ≤ p → p < q → q < b → tag d[p]! < tag d[q]!) :
    PermIn a b d (insertionSort lt d a b) ∧ SortedIn (lx lt tag) a b (insertionSort lt d a b) := by
  have e : insertionSort lt d a b = insertionSort (lx lt tag) d a b := by
    unfold insertionSort
    rcases Nat.lt_or_ge a b with h1 | h1
    · exact insOuter_alike a b _ (a + 1) d rfl (by omega) (by omega) hb (fun p q g1 g2 _ g4 => h p q g1 g2 g4)
    · rw [outer_stop _ _ _ _ _ (by omega), outer_stop _ _ _ _ _ (by omega)]
  rw [e]
  exact insertionSort_holds (lx_swo tag hS) d a b hab hb

/-! Two sorted parts, side by side, made one. -/
section
variable {lt : α → α → Bool} {tag : α → Nat} (hS : SWO lt)
include hS
/-- One element ahead of a sorted part. -/
theorem merge_one (d d' : Array α) (a b i : Nat) (hs : SortedIn (lx lt tag) (a + 1) b d) (ht : ∀ h, a + 1 ≤ h → h < b → tag d[a]! < tag d[h]!) (h1 : a + 1 ≤ i) (h2 : i ≤ b)
    (hlo : ∀ h, a + 1 ≤ h → h < i → lt d[h]! d[a]! = true) (hhi : ∀ h, i ≤ h → h < b → lt d[h]! d[a]! = false)
    (hd : ∀ t, a ≤ t → t < b → d'[t]! = if t + 1 < i then d[t + 1]! else if t + 1 = i then d[a]! else d[t]!) : SortedIn (lx lt tag) a b d' := by
  intro p q hap hpq hqb
  rw [hd p hap (by omega), hd q (by omega) hqb]
  by_cases c1 : q + 1 < i
  · rw [if_pos c1, if_pos (by omega)]
    exact hs _ _ (by omega) (by omega) (by omega)
  · rw [if_neg c1]
    by_cases c2 : q + 1 = i
    · rw [if_pos c2, if_pos (by omega)]
      exact le_of_lt hS (hlo _ (by omega) (by omega))
    · rw [if_neg c2]
      by_cases c3 : p + 1 < i
      · rw [if_pos c3]
        exact hs _ _ (by omega) (by omega) (by omega)
      · rw [if_neg c3]
        by_cases c4 : p + 1 = i
        · rw [if_pos c4]
          exact le_of_tag (hhi _ (by omega) hqb) (ht _ (by omega) hqb)
        · rw [if_neg c4]
          exact hs _ _ (by omega) hpq hqb
/-- One element behind a sorted part. -/
theorem merge_last (d d' : Array α) (a m i : Nat) (hs : SortedIn (lx lt tag) a m d) (ht : ∀ h, a ≤ h → h < m → tag d[h]! < tag d[m]!) (h1 : a ≤ i) (h2 : i ≤ m)
    (hlo : ∀ h, a ≤ h → h < i → lt d[m]! d[h]! = false) (hhi : ∀ h, i ≤ h → h < m → lt d[m]! d[h]! = true)
    (hd : ∀ t, a ≤ t → t < m + 1 → d'[t]! = if t < i then d[t]! else if t = i then d[m]! else d[t - 1]!) : SortedIn (lx lt tag) a (m + 1) d' := by
  intro p q hap hpq hqb
  rw [hd p hap (by omega), hd q (by omega) hqb]
  by_cases c1 : q < i
  · rw [if_pos c1, if_pos (by omega)]
    exact hs _ _ hap hpq (by omega)
  · rw [if_neg c1]
    by_cases c2 : q = i
    · rw [if_pos c2, if_pos (by omega)]
      exact le_of_tag (hlo _ hap (by omega)) (ht _ hap (by omega))
    · rw [if_neg c2]
      by_cases c3 : p < i
      · rw [if_pos c3]
        exact hs _ _ hap (by omega) (by omega)
      · rw [if_neg c3]
        by_cases c4 : p = i
        · rw [if_pos c4]
          exact le_of_lt hS (hhi _ (by omega) (by omega))
        · rw [if_neg c4]
          exact hs _ _ (by omega) (by omega) (by omega)
/-- What stands in a row behind a turn of its two parts [s, m) and [m, e). -/
def tuI (s m e t : Nat) : Nat := if s ≤ t ∧ t < s + (e - m) then t + (m - s) else if s + (e - m) ≤ t ∧ t < e then t - (e - m) else t
def turned (d d' : Array α) (s m e : Nat) : Prop := d'.size = d.size ∧ ∀ t : Nat, d'[t]! = d[tuI s m e t]!
/-- What stands in a row behind the exchange of [x, x + n) and [y, y + n). -/
def exI (x y n t : Nat) : Nat := if x ≤ t ∧ t < x + n then t + (y - x) else if y ≤ t ∧ t < y + n then t - (y - x) else t
def exchd (d d' : Array α) (x y n : Nat) : Prop := d'.size = d.size ∧ ∀ t : Nat, d'[t]! = d[exI x y n t]!
omit hS in
theorem turn_left {d d1 d' : Array α} {i j m : Nat} (hi : i ≤ m) (hij : j < i) (h1 : exchd d d1 (m - i) m j) (h2 : turned d1 d' (m - i + j) m (m + j)) : turned d d' (m - i) m (m + j) := by
  refine ⟨h2.1.trans h1.1, fun t => ?_⟩
  rw [h2.2 t, h1.2]
  congr 1
  unfold exI tuI
  repeat' split
  all_goals omega
omit hS in
theorem turn_right {d d1 d' : Array α} {i j m : Nat} (hi : i ≤ m) (hij : i < j) (h1 : exchd d d1 (m - i) (m + j - i) i) (h2 : turned d1 d' (m - i) m (m + (j - i))) : turned d d' (m - i) m (m + j) := by
  refine ⟨h2.1.trans h1.1, fun t => ?_⟩
  rw [h2.2 t, h1.2]
  congr 1
  unfold exI tuI
  repeat' split
  all_goals omega
omit hS in
theorem turn_last {d d' : Array α} {i m : Nat} (hi : i ≤ m) (h1 : exchd d d' (m - i) m i) : turned d d' (m - i) m (m + i) := by
  refine ⟨h1.1, fun t => ?_⟩
  rw [h1.2]
  congr 1
  unfold exI tuI
  repeat' split
  all_goals omega
omit hS in
theorem exch_none (d : Array α) (x y : Nat) : exchd d d x y 0 := ⟨rfl, fun t => by congr 1; unfold exI; (repeat' split) <;> omega⟩
omit hS in
/-- One exchange more. -/
theorem exch_step {d d1 : Array α} {x y n : Nat} (h : exchd d d1 x y n) (hxy : x + n < y) (hy : y + n < d.size) : exchd d (swp d1 (x + n) (y + n)) x y (n + 1) := by
  refine ⟨by rw [swp_size]; exact h.1, fun t => ?_⟩
  rw [swp_get d1 (by rw [h.1]; omega) (by rw [h.1]; exact hy), h.2, h.2, h.2]
  have e1 : exI x y n (x + n) = x + n := by unfold exI; (repeat' split) <;> omega
  have e2 : exI x y n (y + n) = y + n := by unfold exI; (repeat' split) <;> omega
  rw [e1, e2]
  by_cases c1 : t = y + n
  · rw [if_pos c1]; congr 1; subst c1; unfold exI; (repeat' split) <;> omega
  · rw [if_neg c1]
    by_cases c2 : t = x + n
    · rw [if_pos c2]; congr 1; subst c2; unfold exI; (repeat' split) <;> omega
    · rw [if_neg c2]; congr 1; unfold exI; (repeat' split) <;> omega
/-- What is known of a row whose parts were turned about the middle. -/
structure Halves (lt : α → α → Bool) (tag : α → Nat) (d : Array α) (a s mid e b : Nat) : Prop where
  s1 : SortedIn (lx lt tag) a s d
  s2 : SortedIn (lx lt tag) s mid d
  s3 : SortedIn (lx lt tag) mid e d
  s4 : SortedIn (lx lt tag) e b d
  t1 : ∀ p q, a ≤ p → p < s → s ≤ q → q < mid → tag d[p]! < tag d[q]!
  t2 : ∀ p q, mid ≤ p → p < e → e ≤ q → q < b → tag d[p]! < tag d[q]!
  x : ∀ p q, a ≤ p → p < mid → mid ≤ q → q < b → lx lt tag d[q]! d[p]! = false
theorem halves_of (d d' : Array α) (a s m e b : Nat) (h1 : SortedIn (lx lt tag) a m d) (h2 : SortedIn (lx lt tag) m b d) (ht : ∀ p q, a ≤ p → p < m → m ≤ q → q < b → tag d[p]! < tag d[q]!)
    (has : a ≤ s) (hsm : s ≤ m) (hme : m ≤ e) (heb : e ≤ b) (hA : a < s → e < b → lt d[e]! d[s - 1]! = false) (hB : s < m → m < e → lt d[e - 1]! d[s]! = true) (hd : turned d d' s m e) :
    Halves lt tag d' a s (s + (e - m)) e b := by
  have g1 : ∀ t, t < s → d'[t]! = d[t]! := fun t h => by rw [hd.2 t, tuI, if_neg (by omega), if_neg (by omega)]
  have g2 : ∀ t, s ≤ t → t < s + (e - m) → d'[t]! = d[t + (m - s)]! := fun t h h' => by rw [hd.2 t, tuI, if_pos ⟨h, h'⟩]
  have g3 : ∀ t, s + (e - m) ≤ t → t < e → d'[t]! = d[t - (e - m)]! := fun t h h' => by rw [hd.2 t, tuI, if_neg (by omega), if_pos ⟨h, h'⟩]
  have g4 : ∀ t, e ≤ t → d'[t]! = d[t]! := fun t h => by rw [hd.2 t, tuI, if_neg (by omega), if_neg (by omega)]
  refine ⟨fun p q x1 x2 x3 => ?_, fun p q x1 x2 x3 => ?_, fun p q x1 x2 x3 => ?_, fun p q x1 x2 x3 => ?_, fun p q x1 x2 x3 x4 => ?_, fun p q x1 x2 x3 x4 => ?_, fun p q x1 x2 x3 x4 => ?_⟩
  · rw [g1 p (by omega), g1 q (by omega)]; exact h1 _ _ x1 x2 (by omega)
  · rw [g2 p x1 (by omega), g2 q (by omega) x3]; exact h2 _ _ (by omega) (by omega) (by omega)
  · rw [g3 p x1 (by omega), g3 q (by omega) x3]; exact h1 _ _ (by omega) (by omega) (by omega)
  · rw [g4 p x1, g4 q (by omega)]; exact h2 _ _ (by omega) x2 x3
  · rw [g1 p x2, g2 q x3 x4]; exact ht _ _ x1 (by omega) (by omega) (by omega)
  · rw [g3 p x1 x2, g4 q x3]; exact ht _ _ (by omega) (by omega) (by omega) x4
  · have le : ∀ u v : Nat, u = v → lx lt tag d[u]! d[v]! = false := fun u v h => by subst h; exact (lx_swo tag hS).irrefl _
    have L1 : ∀ u v : Nat, a ≤ u → u ≤ v → v < m → lx lt tag d[v]! d[u]! = false := fun u v y1 y2 y3 => by
      rcases Nat.lt_or_ge u v with h | h
      · exact h1 _ _ y1 h y3
      · exact le _ _ (by omega)
    have L2 : ∀ u v : Nat, m ≤ u → u ≤ v → v < b → lx lt tag d[v]! d[u]! = false := fun u v y1 y2 y3 => by
      rcases Nat.lt_or_ge u v with h | h
      · exact h2 _ _ y1 h y3
      · exact le _ _ (by omega)
    rcases Nat.lt_or_ge p s with c1 | c1
    · rw [g1 p c1]
      rcases Nat.lt_or_ge q e with c2 | c2
      · rw [g3 q x3 c2]; exact L1 _ _ x1 (by omega) (by omega)
      · rw [g4 q c2]
        have h3 := le_of_tag (tag := tag) (hA (by omega) (by omega)) (ht (s - 1) e (by omega) (by omega) (by omega) (by omega))
        exact le_trans' hS (le_trans' hS (L1 p (s - 1) x1 (by omega) (by omega)) h3) (L2 e q (by omega) c2 x4)
    · rw [g2 p c1 x2]
      rcases Nat.lt_or_ge q e with c2 | c2
      · rw [g3 q x3 c2]
        have h3 := le_of_lt (tag := tag) hS (hB (by omega) (by omega))
        exact le_trans' hS (le_trans' hS (L2 (p + (m - s)) (e - 1) (by omega) (by omega) (by omega)) h3) (L1 s (q - (e - m)) has (by omega) (by omega))
      · rw [g4 q c2]; exact L2 _ _ (by omega) (by omega) x4
omit hS in
/-- Both halves sorted: the whole is. -/
theorem halves_join {d d2 d3 : Array α} {a s mid e b : Nat} (h : Halves lt tag d a s mid e b) (_ham : a ≤ mid) (_hmb : mid ≤ b) (hb : b ≤ d.size) (p1 : PermIn a mid d d2) (p2 : PermIn mid b d2 d3)
    (h1 : SortedIn (lx lt tag) a mid d2) (h2 : SortedIn (lx lt tag) mid b d3) : SortedIn (lx lt tag) a b d3 := by
  intro p q x1 x2 x3
  rcases Nat.lt_or_ge q mid with c | c
  · rw [p2.2.1 p (Or.inl (by omega)), p2.2.1 q (Or.inl c)]; exact h1 _ _ x1 x2 c
  · rcases Nat.lt_or_ge p mid with c1 | c1
    · rw [p2.2.1 p (Or.inl c1)]
      have y1 : ∀ v, mid ≤ v → v < b → lx lt tag d3[v]! d2[p]! = false := by
        refine permIn_all d2 d3 mid b (fun x => lx lt tag x d2[p]! = false) (by rw [p1.1]; exact hb) p2 fun v g1 g2 => ?_
        rw [p1.2.1 v (Or.inr g1)]
        exact permIn_all d d2 a mid (fun x => lx lt tag d[v]! x = false) (by omega) p1 (fun u g3 g4 => h.x u v g3 g4 g1 g2) p x1 c1
      exact y1 q c x3
    · exact h2 _ _ c1 x2 x3
end
end
end Go.Proofs.YtejgcnmbngdkiaaGreatDoor
/-
  What the library's stable sort leans on, over any program that bears its functions: an element's cells are k, a letter, so that a walk takes loads and stores of them as one.
-/
namespace Go.Proofs.YtejgcnmbngdkiaaGreatDoor
section
open Go.Shelf Go.RowKit Go.Lib Go.Sort

structure SortL (P : Program) (k : Nat) : Prop where
  mixed : P.follows Departure.mixedOrders = true
  fswap : P.funcs[111]? = some Tryz.f111
  frot : P.funcs[99]? = some Tryz.f99
  fsym : P.funcs[87]? = some Tryz.f87
  fsta : P.funcs[62]? = some Tryz.f62
  fins : P.funcs[86]? = some Tryz.f86
  fsrt : P.funcs[37]? = some Tryz.f37
  t0 : P.underlying 0 = some (TypeDesc.tuple #[])
  a0 : ∀ w : World, Sem.run P (isAgg 0) w = Result.ok false w
  z0 : ∀ w : World, Sem.run P (Go.sizeOf 0) w = Result.ok 1 w
  v0 : ∀ w : World, Sem.run P (zeroValue 0) w = Result.ok (Value.tuple #[]) w
  t3 : P.underlying 3 = some (TypeDesc.int IntKind.i64)
  a3 : ∀ w : World, Sem.run P (isAgg 3) w = Result.ok false w
  z3 : ∀ w : World, Sem.run P (Go.sizeOf 3) w = Result.ok 1 w
  v3 : ∀ w : World, Sem.run P (zeroValue 3) w = Result.ok (Value.int IntKind.i64 0) w
  t4 : P.underlying 4 = some TypeDesc.bool
  a4 : ∀ w : World, Sem.run P (isAgg 4) w = Result.ok false w
  z4 : ∀ w : World, Sem.run P (Go.sizeOf 4) w = Result.ok 1 w
  v4 : ∀ w : World, Sem.run P (zeroValue 4) w = Result.ok (Value.bool false) w
  t23 : P.underlying 23 = some (TypeDesc.slice 42)
  a23 : ∀ w : World, Sem.run P (isAgg 23) w = Result.ok false w
  z23 : ∀ w : World, Sem.run P (Go.sizeOf 23) w = Result.ok 1 w
  v23 : ∀ w : World, Sem.run P (zeroValue 23) w = Result.ok (Value.slice none 0 0) w
  t66 : P.underlying 75 = some (TypeDesc.func #[42, 42] #[3] false)
  a66 : ∀ w : World, Sem.run P (isAgg 75) w = Result.ok false w
  z66 : ∀ w : World, Sem.run P (Go.sizeOf 75) w = Result.ok 1 w
  v66 : ∀ w : World, Sem.run P (zeroValue 75) w = Result.ok (Value.nilFunc) w
  t80 : P.underlying 99 = some (TypeDesc.int IntKind.u64)
  a80 : ∀ w : World, Sem.run P (isAgg 99) w = Result.ok false w
  z80 : ∀ w : World, Sem.run P (Go.sizeOf 99) w = Result.ok 1 w
  v80 : ∀ w : World, Sem.run P (zeroValue 99) w = Result.ok (Value.int IntKind.u64 0) w
  aE : ∀ w : World, Sem.run P (isAgg 42) w = Result.ok true w
  zE : ∀ w : World, Sem.run P (Go.sizeOf 42) w = Result.ok k w
theorem sortL : SortL Tryz.prog 7 :=
  { mixed := by kernel_rfl
    fswap := Tryz.func111
    frot := Tryz.func99
    fsym := Tryz.func87
    fsta := Tryz.func62
    fins := Tryz.func86
    fsrt := Tryz.func37
    t0 := Tryz.underlying0
    a0 := Tryz.isAgg0
    z0 := Tryz.sizeOf0
    v0 := Tryz.zeroValue0
    t3 := Tryz.underlying3
    a3 := Tryz.isAgg3
    z3 := Tryz.sizeOf3
    v3 := Tryz.zeroValue3
    t4 := Tryz.underlying4
    a4 := Tryz.isAgg4
    z4 := Tryz.sizeOf4
    v4 := Tryz.zeroValue4
    t23 := Tryz.underlying23
    a23 := Tryz.isAgg23
    z23 := Tryz.sizeOf23
    v23 := Tryz.zeroValue23
    t66 := Tryz.underlying75
    a66 := Tryz.isAgg75
    z66 := Tryz.sizeOf75
    v66 := Tryz.zeroValue75
    t80 := Tryz.underlying99
    a80 := Tryz.isAgg99
    z80 := Tryz.sizeOf99
    v80 := Tryz.zeroValue99
    aE := Tryz.isAgg42
    zE := Tryz.sizeOf42 }
end
end Go.Proofs.YtejgcnmbngdkiaaGreatDoor
