/-
  VPlain, VPlain2, VPlain3, VFit: texts merged.
-/
import Derived.WalkKit
/-
  Values, plainly: no program in sight.
-/
namespace Go.Proofs.YtejgcnmbngdkiaaGreatDoor
set_option autoImplicit false

/-- A value: its kind, its numbers, its bytes, its elements, its pairs. -/
inductive Val where
  | mk (kind n g : Int) (s : ByteArray) (l : List Val) (d : List (ByteArray × Val))
namespace Val
def kind : Val → Int | mk k _ _ _ _ _ => k
def n : Val → Int | mk _ n _ _ _ _ => n
def g : Val → Int | mk _ _ g _ _ _ => g
def s : Val → ByteArray | mk _ _ _ s _ _ => s
def l : Val → List Val | mk _ _ _ _ l _ => l
def d : Val → List (ByteArray × Val) | mk _ _ _ _ _ d => d
def null : Val := mk 0 0 0 ByteArray.empty [] []
section
variable (k n' g' : Int) (s' : ByteArray) (l' : List Val) (d' : List (ByteArray × Val))
@[simp] theorem kind_mk : (mk k n' g' s' l' d').kind = k := rfl
@[simp] theorem n_mk : (mk k n' g' s' l' d').n = n' := rfl
@[simp] theorem g_mk : (mk k n' g' s' l' d').g = g' := rfl
@[simp] theorem s_mk : (mk k n' g' s' l' d').s = s' := rfl
@[simp] theorem l_mk : (mk k n' g' s' l' d').l = l' := rfl
@[simp] theorem d_mk : (mk k n' g' s' l' d').d = d' := rfl
end
theorem ext {a b : Val} (h1 : a.kind = b.kind) (h2 : a.n = b.n) (h3 : a.g = b.g) (h4 : a.s = b.s) (h5 : a.l = b.l) (h6 : a.d = b.d) : a = b := by
  cases a; cases b; simp only [kind, n, g, s, l, d] at *; subst_vars; rfl
theorem eta (v : Val) : mk v.kind v.n v.g v.s v.l v.d = v := by cases v; rfl
end Val

mutual
/-- How many values a value is. -/
def sizeV : Val → Nat
  | .mk _ _ _ _ l d => 1 + sizeL l + sizeD d
def sizeL : List Val → Nat
  | [] => 0
  | v :: t => sizeV v + sizeL t
def sizeD : List (ByteArray × Val) → Nat
  | [] => 0
  | (_, v) :: t => sizeV v + sizeD t
end
theorem sizeV_eq (v : Val) : sizeV v = 1 + sizeL v.l + sizeD v.d := by cases v; rfl
theorem sizeV_pos (v : Val) : 1 ≤ sizeV v := by rw [sizeV_eq]; omega
theorem sizeL_mem {x : Val} : ∀ {l : List Val}, x ∈ l → sizeV x ≤ sizeL l
  | v :: t, h => by
    rw [sizeL]
    rcases List.mem_cons.1 h with h | h
    · subst h; omega
    · have := sizeL_mem h; omega
theorem sizeD_mem {p : ByteArray × Val} : ∀ {d : List (ByteArray × Val)}, p ∈ d → sizeV p.2 ≤ sizeD d
  | (k, v) :: t, h => by
    rw [sizeD]
    rcases List.mem_cons.1 h with h | h
    · subst h; exact Nat.le_add_right _ _
    · have := sizeD_mem h; omega
theorem sizeL_length (l : List Val) : l.length ≤ sizeL l := by
  induction l with
  | nil => exact Nat.zero_le _
  | cons v t ih => rw [sizeL, List.length_cons]; have := sizeV_pos v; omega
theorem sizeD_length (d : List (ByteArray × Val)) : d.length ≤ sizeD d := by
  induction d with
  | nil => exact Nat.zero_le _
  | cons p t ih => obtain ⟨k, v⟩ := p; rw [sizeD, List.length_cons]; have := sizeV_pos v; omega
theorem sizeV_l {v x : Val} (h : x ∈ v.l) : sizeV x < sizeV v := by have := sizeL_mem h; rw [sizeV_eq v]; omega
theorem sizeV_d {v : Val} {p : ByteArray × Val} (h : p ∈ v.d) : sizeV p.2 < sizeV v := by have := sizeD_mem h; rw [sizeV_eq v]; omega
/-- Whatever holds of a value if it holds of all that it holds, holds of all values. -/
theorem Val.ind {P : Val → Prop} (h : ∀ v, (∀ x ∈ v.l, P x) → (∀ p ∈ v.d, P p.2) → P v) : ∀ v, P v := by
  intro v
  generalize hn : sizeV v = m
  induction m using Nat.strongRecOn generalizing v with
  | _ m ih =>
    exact h v (fun x hx => ih _ (by rw [← hn]; exact sizeV_l hx) x rfl) (fun p hp => ih _ (by rw [← hn]; exact sizeV_d hp) p.2 rfl)

/-- Size as it is counted: no farther than so many. -/
def cutN (n m : Nat) : Nat := min n (max m 1)
theorem cut_step {n a m : Nat} (h : n < m) : n + cutN a (m - n) = min (n + a) m := by unfold cutN; omega

mutual
/-- Is a value no deeper than that? -/
def lowV : Val → Int → Bool
  | .mk _ _ _ _ l d, m => !decide (m < 0) && (lowL l (m - 1) && lowD d (m - 1))
def lowL : List Val → Int → Bool
  | [], _ => true
  | v :: t, m => lowV v m && lowL t m
def lowD : List (ByteArray × Val) → Int → Bool
  | [], _ => true
  | (_, v) :: t, m => lowV v m && lowD t m
end
theorem lowV_eq (v : Val) (m : Int) : lowV v m = (!decide (m < 0) && (lowL v.l (m - 1) && lowD v.d (m - 1))) := by cases v; rfl

mutual
/-- Are all texts no longer than that? -/
def shortV : Val → Nat → Bool
  | .mk _ _ _ s l d, m => decide (s.size ≤ m) && (shortL l m && shortD d m)
def shortL : List Val → Nat → Bool
  | [], _ => true
  | v :: t, m => shortV v m && shortL t m
def shortD : List (ByteArray × Val) → Nat → Bool
  | [], _ => true
  | (k, v) :: t, m => (decide (k.size ≤ m) && shortV v m) && shortD t m
end
theorem shortV_eq (v : Val) (m : Nat) : shortV v m = (decide (v.s.size ≤ m) && (shortL v.l m && shortD v.d m)) := by cases v; rfl
theorem shortL_mem {x : Val} {m : Nat} : ∀ {l : List Val}, shortL l m = true → x ∈ l → shortV x m = true
  | v :: t, h, hx => by
    rw [shortL, Bool.and_eq_true] at h
    rcases List.mem_cons.1 hx with e | e
    · subst e; exact h.1
    · exact shortL_mem h.2 e
theorem shortD_mem {p : ByteArray × Val} {m : Nat} : ∀ {d : List (ByteArray × Val)}, shortD d m = true → p ∈ d → p.1.size ≤ m ∧ shortV p.2 m = true
  | (k, v) :: t, h, hx => by
    rw [shortD, Bool.and_eq_true, Bool.and_eq_true, decide_eq_true_eq] at h
    rcases List.mem_cons.1 hx with e | e
    · subst e; exact h.1
    · exact shortD_mem h.2 e
/-- Few values, with texts that are short. -/
def fewV (v : Val) (most : Nat) : Bool := decide (sizeV v ≤ most) && (lowV v 200 && shortV v 3000)
/-- What the walks ask of a value: no more values than so many, texts no longer than so many bytes. -/
def Fit (v : Val) (m : Nat) : Prop := sizeV v ≤ m ∧ shortV v 3000 = true
theorem Fit.l {v x : Val} {m : Nat} (h : Fit v m) (hx : x ∈ v.l) : Fit x m := by
  have h2 := h.2
  rw [shortV_eq, Bool.and_eq_true, Bool.and_eq_true] at h2
  exact ⟨by have := sizeV_l hx; have := h.1; omega, shortL_mem h2.2.1 hx⟩
theorem Fit.d {v : Val} {p : ByteArray × Val} {m : Nat} (h : Fit v m) (hx : p ∈ v.d) : Fit p.2 m ∧ p.1.size ≤ 3000 := by
  have h2 := h.2
  rw [shortV_eq, Bool.and_eq_true, Bool.and_eq_true] at h2
  have h3 := shortD_mem h2.2.2 hx
  exact ⟨⟨by have := sizeV_d hx; have := h.1; omega, h3.2⟩, h3.1⟩
theorem Fit.s {v : Val} {m : Nat} (h : Fit v m) : v.s.size ≤ 3000 := by
  have h2 := h.2
  rw [shortV_eq, Bool.and_eq_true, decide_eq_true_eq] at h2
  exact h2.1
theorem few_fit {v : Val} {m : Nat} (h : fewV v m = true) : Fit v m := by
  unfold fewV at h
  rw [Bool.and_eq_true, Bool.and_eq_true, decide_eq_true_eq] at h
  exact ⟨h.1, h.2.2⟩

/-! What is wrong with a value. -/
def holderV (k : Int) : Bool := decide (k = 5) || decide (k = 6) || decide (k = 8)
def zeroS (s : ByteArray) : Bool := s.data.toList.any (fun c => decide (c.toNat = 0))
def extraV (v : Val) : Bool :=
  decide (v.n ≠ 0 ∧ v.kind ≠ 1 ∧ v.kind ≠ 2 ∧ v.kind ≠ 7 ∨ v.g ≠ 0 ∧ v.kind ≠ 7 ∨ v.s.size ≠ 0 ∧ v.kind ≠ 3 ∧ v.kind ≠ 4 ∧ v.kind ≠ 8 ∨ v.l.length ≠ 0 ∧ v.kind ≠ 5 ∨ v.d.length ≠ 0 ∧ v.kind ≠ 6 ∧ v.kind ≠ 8)
def outV (v : Val) : Bool :=
  if v.kind = 1 then decide (v.n ≠ 0 ∧ v.n ≠ 1) else if v.kind = 2 then decide (v.n < -2147483647 ∨ 2147483647 < v.n)
  else if v.kind = 7 then decide (v.n < 1 ∨ 8388607 < v.n ∨ v.g < 0 ∨ 65535 < v.g) else false
def oneV (v : Val) (st : Bool) (w : Int) : Int :=
  if v.kind < 0 ∨ 8 < v.kind ∨ v.kind = 8 ∧ st = false then 10
  else if extraV v = true ∨ v.kind = 3 ∧ zeroS v.s = true then 4
  else if outV v = true then 3
  else if v.kind = 3 ∧ 127 < v.s.size ∨ v.kind = 4 ∧ 65535 < v.s.size then 8
  else if v.kind = 8 ∧ 1048576 < v.s.size then 7
  else if holderV v.kind = true ∧ 64 ≤ w then 9 else 0
def keyV (k : ByteArray) (seen : List ByteArray) : Bool := decide (127 < k.size) || zeroS k || seen.any (fun x => decide (x = k))
mutual
def checkV : Val → Bool → Int → Int
  | .mk k n g s l d, st, w =>
    if oneV (.mk k n g s l d) st w ≠ 0 then oneV (.mk k n g s l d) st w else if checkL l (w + 1) ≠ 0 then checkL l (w + 1) else checkD d [] (w + 1)
def checkL : List Val → Int → Int
  | [], _ => 0
  | v :: t, w => if checkV v false w ≠ 0 then checkV v false w else checkL t w
def checkD : List (ByteArray × Val) → List ByteArray → Int → Int
  | [], _, _ => 0
  | (k, v) :: t, seen, w => if keyV k seen = true then 11 else if checkV v false w ≠ 0 then checkV v false w else checkD t (seen ++ [k]) w
end
theorem checkV_eq (v : Val) (st : Bool) (w : Int) : checkV v st w = if oneV v st w ≠ 0 then oneV v st w else if checkL v.l (w + 1) ≠ 0 then checkL v.l (w + 1) else checkD v.d [] (w + 1) := by
  cases v; rw [checkV]; rfl

/-! How deep a value is; what it names. -/
mutual
def depthV : Val → Nat
  | .mk k _ _ _ l d => if holderV k = true then max (depthL l) (depthD d) + 1 else 0
def depthL : List Val → Nat
  | [] => 0
  | v :: t => max (depthV v) (depthL t)
def depthD : List (ByteArray × Val) → Nat
  | [] => 0
  | (_, v) :: t => max (depthV v) (depthD t)
end
theorem depthV_eq (v : Val) : depthV v = if holderV v.kind = true then max (depthL v.l) (depthD v.d) + 1 else 0 := by cases v; rw [depthV]; rfl
mutual
def linksV : Val → List (Int × Int)
  | .mk k n g _ l d => (if k = 7 then [(n, g)] else []) ++ (linksL l ++ linksD d)
def linksL : List Val → List (Int × Int)
  | [] => []
  | v :: t => linksV v ++ linksL t
def linksD : List (ByteArray × Val) → List (Int × Int)
  | [] => []
  | (_, v) :: t => linksV v ++ linksD t
end
theorem linksV_eq (v : Val) : linksV v = (if v.kind = 7 then [(v.n, v.g)] else []) ++ (linksL v.l ++ linksD v.d) := by cases v; rw [linksV]; rfl

/-! Alike, field by field. -/
mutual
def equalV : Val → Val → Bool
  | .mk k n g s l d, .mk k' n' g' s' l' d' => decide (k = k' ∧ n = n' ∧ g = g' ∧ s = s') && (equalL l l' && equalD d d')
def equalL : List Val → List Val → Bool
  | [], [] => true
  | v :: t, v' :: t' => equalV v v' && equalL t t'
  | _, _ => false
def equalD : List (ByteArray × Val) → List (ByteArray × Val) → Bool
  | [], [] => true
  | (k, v) :: t, (k', v') :: t' => (decide (k = k') && equalV v v') && equalD t t'
  | _, _ => false
end
end Go.Proofs.YtejgcnmbngdkiaaGreatDoor
/-
  Values in the one form that all alike ones have, plainly.
-/
namespace Go.Proofs.YtejgcnmbngdkiaaGreatDoor
section
set_option autoImplicit false

/-! Keys, byte by byte. -/
def kLt (a b : ByteArray) : Bool := Op.bytesLess a.data.toList b.data.toList
theorem bl_irrefl : ∀ l, Op.bytesLess l l = false
  | [] => rfl
  | a :: t => by rw [Op.bytesLess, bl_irrefl t]; simp
theorem bl_trans : ∀ a b c, Op.bytesLess a b = true → Op.bytesLess b c = true → Op.bytesLess a c = true
  | _, _, [], _, h => by cases ‹List UInt8› <;> simp [Op.bytesLess] at h
  | _, [], _ :: _, h, _ => by cases ‹List UInt8› <;> simp [Op.bytesLess] at h
  | [], _ :: _, _ :: _, _, _ => rfl
  | a :: x, b :: y, c :: z, h1, h2 => by
    simp only [Op.bytesLess, Bool.or_eq_true, Bool.and_eq_true, decide_eq_true_eq, beq_iff_eq] at h1 h2 ⊢
    rcases h1 with h1 | ⟨rfl, h1⟩
    · rcases h2 with h2 | ⟨rfl, h2⟩
      · exact .inl (UInt8.lt_trans h1 h2)
      · exact .inl h1
    · rcases h2 with h2 | ⟨rfl, h2⟩
      · exact .inl h2
      · exact .inr ⟨rfl, bl_trans x y z h1 h2⟩
theorem bl_total : ∀ a b, Op.bytesLess a b = false → Op.bytesLess b a = false → a = b
  | [], [], _, _ => rfl
  | [], _ :: _, h, _ => by simp [Op.bytesLess] at h
  | _ :: _, [], _, h => by simp [Op.bytesLess] at h
  | a :: x, b :: y, h1, h2 => by
    simp only [Op.bytesLess, Bool.or_eq_false_iff, Bool.and_eq_false_iff, decide_eq_false_iff_not, beq_eq_false_iff_ne] at h1 h2
    have e : a = b := by
      rcases Nat.lt_trichotomy a.toNat b.toNat with h | h | h
      · exact absurd (UInt8.lt_iff_toNat_lt.2 h) h1.1
      · exact UInt8.toNat_inj.1 h
      · exact absurd (UInt8.lt_iff_toNat_lt.2 h) h2.1
    subst e
    rw [bl_total x y (h1.2.resolve_left (fun h => h rfl)) (h2.2.resolve_left (fun h => h rfl))]
theorem kLt_irrefl (a : ByteArray) : kLt a a = false := bl_irrefl _
theorem kLt_trans {a b c : ByteArray} (h1 : kLt a b = true) (h2 : kLt b c = true) : kLt a c = true := bl_trans _ _ _ h1 h2
theorem kLt_total {a b : ByteArray} (h1 : kLt a b = false) (h2 : kLt b a = false) : a = b := by
  have h := bl_total _ _ h1 h2
  rcases a with ⟨⟨a⟩⟩; rcases b with ⟨⟨b⟩⟩; simpa using h
theorem kLt_ne {a b : ByteArray} (h : kLt a b = true) : a ≠ b := fun e => by rw [e, kLt_irrefl] at h; cases h
theorem kLt_asymm {a b : ByteArray} (h : kLt a b = true) : kLt b a = false := by
  cases h2 : kLt b a
  · rfl
  · have := kLt_trans h h2; rw [kLt_irrefl] at this; cases this

/-! Pairs by rising keys. -/
abbrev Prs := List (ByteArray × Val)
def insP (p : ByteArray × Val) : Prs → Prs
  | [] => [p]
  | q :: t => if kLt p.1 q.1 = true then p :: q :: t else q :: insP p t
def hasK (k : ByteArray) (d : Prs) : Bool := d.any (fun q => decide (q.1 = k))
def putP (d : Prs) (p : ByteArray × Val) : Prs := if hasK p.1 d = true then d else insP p d
/-- Of pairs of one key the first one alone, by rising keys. -/
def riseD (d : Prs) : Prs := d.foldl putP []
def firstD (k : ByteArray) : Prs → Option Val
  | [] => none
  | (a, v) :: t => if a = k then some v else firstD k t
def Rise (d : Prs) : Prop := d.Pairwise (fun p q => kLt p.1 q.1 = true)

theorem firstD_none {k : ByteArray} : ∀ {d : Prs}, firstD k d = none ↔ ∀ p ∈ d, p.1 ≠ k
  | [] => by simp [firstD]
  | (a, v) :: t => by
    rw [firstD]
    by_cases e : a = k
    · simp [e]
    · rw [if_neg e, firstD_none]; simp [e]
theorem hasK_iff {k : ByteArray} {d : Prs} : hasK k d = true ↔ firstD k d ≠ none := by
  rw [hasK, List.any_eq_true, Ne, firstD_none]
  simp
theorem mem_insP {p q : ByteArray × Val} : ∀ {d : Prs}, q ∈ insP p d ↔ q = p ∨ q ∈ d
  | [] => by simp [insP]
  | r :: t => by
    rw [insP]
    split
    · simp
    · rw [List.mem_cons, mem_insP, List.mem_cons]; constructor <;> rintro (h | h | h) <;> simp [h]
theorem insP_rise {p : ByteArray × Val} : ∀ {d : Prs}, Rise d → firstD p.1 d = none → Rise (insP p d)
  | [], _, _ => by simp [insP, Rise]
  | q :: t, h, hf => by
    unfold Rise at h
    rw [List.pairwise_cons] at h
    rw [insP]
    rw [firstD_none] at hf
    split
    · rename_i hl
      refine List.pairwise_cons.2 ⟨fun r hr => ?_, List.pairwise_cons.2 h⟩
      rcases List.mem_cons.1 hr with e | e
      · subst e; exact hl
      · exact kLt_trans hl (h.1 r e)
    · rename_i hl
      have hl' : kLt p.1 q.1 = false := by simpa using hl
      refine List.pairwise_cons.2 ⟨fun r hr => ?_, insP_rise h.2 (firstD_none.2 fun r hr => hf r (List.mem_cons_of_mem _ hr))⟩
      rcases mem_insP.1 hr with e | e
      · subst e
        cases hq : kLt q.1 r.1
        · exact absurd (kLt_total hq hl') (hf q (List.mem_cons_self ..))
        · rfl
      · exact h.1 r e
theorem firstD_insP {p : ByteArray × Val} {k : ByteArray} : ∀ {d : Prs}, firstD p.1 d = none → firstD k (insP p d) = if p.1 = k then some p.2 else firstD k d
  | [], _ => by obtain ⟨a, v⟩ := p; simp [insP, firstD]
  | (a, v) :: t, h => by
    rw [insP]
    split
    · obtain ⟨b, x⟩ := p; simp [firstD]
    · rw [firstD] at h ⊢
      by_cases e : a = p.1
      · rw [if_pos e] at h; cases h
      · rw [if_neg e] at h
        rw [firstD_insP h, firstD]
        by_cases e1 : a = k
        · rw [if_pos e1, if_pos e1, if_neg (fun e2 => e (e1.trans e2.symm))]
        · rw [if_neg e1, if_neg e1]
theorem fold_rise : ∀ (d a : Prs), Rise a → Rise (d.foldl putP a) ∧ ∀ k, firstD k (d.foldl putP a) = (firstD k a).or (firstD k d)
  | [], a, h => ⟨h, fun k => by simp [firstD]⟩
  | p :: t, a, h => by
    rw [List.foldl_cons]
    by_cases hk : hasK p.1 a = true
    · have e : putP a p = a := by rw [putP, if_pos hk]
      rw [e]
      refine ⟨(fold_rise t a h).1, fun k => ?_⟩
      rw [(fold_rise t a h).2 k]
      rw [hasK_iff] at hk
      cases ha : firstD k a with
      | some v => simp
      | none =>
        obtain ⟨b, x⟩ := p
        rw [firstD, if_neg (fun e => hk (by rw [e]; exact ha))]
    · have hn : firstD p.1 a = none := by
        cases hf : firstD p.1 a with
        | none => rfl
        | some v => exact absurd (hasK_iff.2 (by rw [hf]; simp)) hk
      have e : putP a p = insP p a := by rw [putP, if_neg hk]
      rw [e]
      have hr := insP_rise h hn
      refine ⟨(fold_rise t _ hr).1, fun k => ?_⟩
      rw [(fold_rise t _ hr).2 k, firstD_insP hn]
      obtain ⟨b, x⟩ := p
      rw [firstD]
      by_cases e1 : b = k
      · subst e1; simp [show firstD b a = none from hn]
      · simp [e1]
theorem riseD_rise (d : Prs) : Rise (riseD d) := (fold_rise d [] List.Pairwise.nil).1
theorem riseD_first (d : Prs) (k : ByteArray) : firstD k (riseD d) = firstD k d := by
  rw [riseD, (fold_rise d [] List.Pairwise.nil).2]; rfl
theorem firstD_mem {k : ByteArray} {v : Val} : ∀ {d : Prs}, firstD k d = some v → (k, v) ∈ d
  | (a, x) :: t, h => by
    rw [firstD] at h
    by_cases e : a = k
    · rw [if_pos e] at h; obtain rfl := Option.some.inj h; subst e; exact List.mem_cons_self ..
    · rw [if_neg e] at h; exact List.mem_cons_of_mem _ (firstD_mem h)
theorem rise_first {k : ByteArray} {v : Val} : ∀ {d : Prs}, Rise d → (k, v) ∈ d → firstD k d = some v
  | (a, x) :: t, h, hm => by
    unfold Rise at h
    rw [List.pairwise_cons] at h
    rw [firstD]
    rcases List.mem_cons.1 hm with e | e
    · cases e; rw [if_pos rfl]
    · rw [if_neg (kLt_ne (h.1 _ e)), rise_first h.2 e]
/-- Two lists by rising keys that tell the same under each key are one. -/
theorem rise_ext : ∀ {a b : Prs}, Rise a → Rise b → (∀ k, firstD k a = firstD k b) → a = b
  | [], [], _, _, _ => rfl
  | [], (k, v) :: t, _, _, h => by have := h k; simp [firstD] at this
  | (k, v) :: t, [], _, _, h => by have := h k; simp [firstD] at this
  | (k, v) :: t, (k', v') :: t', ha, hb, h => by
    have ha' := ha; have hb' := hb
    unfold Rise at ha hb
    rw [List.pairwise_cons] at ha hb
    have e : k = k' := by
      have h1 : (k, v) ∈ (k', v') :: t' := firstD_mem (by rw [← h k, firstD, if_pos rfl])
      have h2 : (k', v') ∈ (k, v) :: t := firstD_mem (by rw [h k', firstD, if_pos rfl])
      rcases List.mem_cons.1 h1 with e | e
      · exact congrArg Prod.fst e
      · rcases List.mem_cons.1 h2 with e2 | e2
        · exact (congrArg Prod.fst e2).symm
        · have x := kLt_trans (ha.1 _ e2) (hb.1 _ e); rw [kLt_irrefl] at x; cases x
    subst e
    have ev : v = v' := by have := h k; simpa [firstD] using this
    subst ev
    have et : t = t' := rise_ext ha.2 hb.2 (fun q => by
      have h3 := h q
      rw [firstD, firstD] at h3
      by_cases e : k = q
      · subst e
        rw [firstD_none.2 (fun p hp => (kLt_ne (ha.1 p hp)).symm), firstD_none.2 (fun p hp => (kLt_ne (hb.1 p hp)).symm)]
      · rwa [if_neg e, if_neg e] at h3)
    rw [et]
theorem riseD_id {d : Prs} (h : Rise d) : riseD d = d := rise_ext (riseD_rise d) h (riseD_first d)
theorem rise_filter {d : Prs} (f : ByteArray × Val → Bool) (h : Rise d) : Rise (d.filter f) := List.Pairwise.filter _ h
theorem first_filter (f : Val → Bool) (k : ByteArray) : ∀ {d : Prs}, Rise d → firstD k (d.filter (fun p => f p.2)) = (firstD k d).filter f
  | [], _ => rfl
  | (a, v) :: t, h => by
    unfold Rise at h
    rw [List.pairwise_cons] at h
    rw [List.filter_cons, firstD]
    by_cases e : a = k
    · subst e
      rw [if_pos rfl]
      by_cases hf : f v = true
      · rw [if_pos hf, firstD, if_pos rfl]; exact (if_pos hf).symm
      · rw [if_neg hf, first_filter f a h.2, firstD_none.2 (fun p hp => (kLt_ne (h.1 p hp)).symm)]
        exact (if_neg hf).symm
    · rw [if_neg e]
      split
      · rw [firstD, if_neg e]; exact first_filter f k h.2
      · exact first_filter f k h.2
def mapD (f : Val → Val) (d : Prs) : Prs := d.map (fun p => (p.1, f p.2))
theorem first_mapD (f : Val → Val) (k : ByteArray) : ∀ (d : Prs), firstD k (mapD f d) = (firstD k d).map f
  | [] => rfl
  | (a, v) :: t => by
    rw [mapD, List.map_cons, firstD, firstD]
    by_cases e : a = k
    · simp [e]
    · rw [if_neg e, if_neg e]; exact first_mapD f k t
theorem rise_mapD {f : Val → Val} {d : Prs} (h : Rise d) : Rise (mapD f d) := by
  unfold Rise mapD
  rw [List.pairwise_map]
  exact h
theorem riseD_mapD (f : Val → Val) (d : Prs) : riseD (mapD f d) = mapD f (riseD d) :=
  rise_ext (riseD_rise _) (rise_mapD (riseD_rise _)) (fun k => by rw [riseD_first, first_mapD, first_mapD, riseD_first])

/-! The one form. -/
def some0 (v : Val) : Bool := decide (v.kind ≠ 0)
def pairsV (d : Prs) : Prs := (riseD d).filter (fun p => some0 p.2)
mutual
def plainV : Val → Val
  | .mk k n g s l d =>
    if k = 1 ∨ k = 2 then .mk k n 0 ByteArray.empty [] []
    else if k = 3 ∨ k = 4 then .mk k 0 0 s [] []
    else if k = 5 then .mk k 0 0 ByteArray.empty (plainL l) []
    else if k = 6 then .mk k 0 0 ByteArray.empty [] (pairsV (plainD d))
    else if k = 7 then .mk k n g ByteArray.empty [] []
    else if k = 8 then .mk k 0 0 s [] (pairsV (plainD d))
    else .null
def plainL : List Val → List Val
  | [] => []
  | v :: t => plainV v :: plainL t
def plainD : Prs → Prs
  | [] => []
  | (k, v) :: t => (k, plainV v) :: plainD t
end
theorem plainL_map (l : List Val) : plainL l = l.map plainV := by
  induction l with
  | nil => rfl
  | cons v t ih => rw [plainL, ih, List.map_cons]
theorem plainD_map (d : Prs) : plainD d = mapD plainV d := by
  induction d with
  | nil => rfl
  | cons p t ih => obtain ⟨k, v⟩ := p; rw [plainD, ih]; rfl
/-- A value with the fields of its kind alone. -/
def bareV : Val → Val
  | .mk k n g s l d =>
    if k = 1 ∨ k = 2 then .mk k n 0 ByteArray.empty [] []
    else if k = 3 ∨ k = 4 then .mk k 0 0 s [] []
    else if k = 5 then .mk k 0 0 ByteArray.empty l []
    else if k = 6 then .mk k 0 0 ByteArray.empty [] d
    else if k = 7 then .mk k n g ByteArray.empty [] []
    else if k = 8 then .mk k 0 0 s [] d
    else .null
theorem bareV_sub (v : Val) : (∀ x ∈ (bareV v).l, x ∈ v.l) ∧ (∀ p ∈ (bareV v).d, p ∈ v.d) := by
  cases v with
  | mk k n g s l d =>
    rw [bareV]
    repeat' split
    all_goals simp [Val.null]
theorem plainV_bare (v : Val) : plainV v = .mk (bareV v).kind (bareV v).n (bareV v).g (bareV v).s ((bareV v).l.map plainV) (pairsV (mapD plainV (bareV v).d)) := by
  cases v with
  | mk k n g s l d =>
    rw [plainV, plainL_map, plainD_map, bareV]
    have hp : pairsV (mapD plainV []) = [] := rfl
    by_cases h1 : k = 1 ∨ k = 2
    · simp only [Val.kind_mk, Val.n_mk, Val.g_mk, Val.s_mk, Val.l_mk, Val.d_mk, if_pos h1, hp, List.map_nil]
    · by_cases h2 : k = 3 ∨ k = 4
      · simp only [Val.kind_mk, Val.n_mk, Val.g_mk, Val.s_mk, Val.l_mk, Val.d_mk, if_neg h1, if_pos h2, hp, List.map_nil]
      · by_cases h3 : k = 5
        · simp only [Val.kind_mk, Val.n_mk, Val.g_mk, Val.s_mk, Val.l_mk, Val.d_mk, if_neg h1, if_neg h2, if_pos h3, hp]
        · by_cases h4 : k = 6
          · simp only [Val.kind_mk, Val.n_mk, Val.g_mk, Val.s_mk, Val.l_mk, Val.d_mk, if_neg h1, if_neg h2, if_neg h3, if_pos h4, List.map_nil]
          · by_cases h5 : k = 7
            · simp only [Val.kind_mk, Val.n_mk, Val.g_mk, Val.s_mk, Val.l_mk, Val.d_mk, if_neg h1, if_neg h2, if_neg h3, if_neg h4, if_pos h5, hp, List.map_nil]
            · by_cases h6 : k = 8
              · simp only [Val.kind_mk, Val.n_mk, Val.g_mk, Val.s_mk, Val.l_mk, Val.d_mk, if_neg h1, if_neg h2, if_neg h3, if_neg h4, if_neg h5, if_pos h6, List.map_nil]
              · simp only [Val.kind_mk, Val.n_mk, Val.g_mk, Val.s_mk, Val.l_mk, Val.d_mk, if_neg h1, if_neg h2, if_neg h3, if_neg h4, if_neg h5, if_neg h6, Val.null, hp, List.map_nil]
/-- Plain pairs: of one key the first, sorted, plain, without null. -/
theorem pairsV_mapD (d : Prs) : pairsV (mapD plainV d) = (mapD plainV (riseD d)).filter (fun p => some0 p.2) := by rw [pairsV, riseD_mapD]
theorem bareV_kind_fix (v : Val) (l : List Val) (d : Prs) (h1 : (bareV v).l = [] → l = []) (h2 : (bareV v).d = [] → d = []) :
    bareV (.mk (bareV v).kind (bareV v).n (bareV v).g (bareV v).s l d) = .mk (bareV v).kind (bareV v).n (bareV v).g (bareV v).s l d := by
  cases v with
  | mk k n g s l0 d0 =>
    revert h1 h2
    rw [bareV]
    repeat' split
    all_goals intro h1 h2
    all_goals simp_all [Val.null, bareV]
theorem plain_plain (v : Val) : plainV (plainV v) = plainV v := by
  induction v using Val.ind with
  | h v hl hd =>
    have e := plainV_bare v
    have hf : bareV (plainV v) = plainV v := by
      rw [e]
      exact bareV_kind_fix v _ _ (fun h => by rw [h]; rfl) (fun h => by rw [h]; rfl)
    rw [plainV_bare (plainV v), hf]
    have hll : (plainV v).l.map plainV = (plainV v).l := by
      rw [e]
      simp only [Val.l_mk, List.map_map]
      refine List.map_congr_left fun x hx => ?_
      exact hl x ((bareV_sub v).1 x hx)
    have hdd : mapD plainV (plainV v).d = (plainV v).d := by
      rw [e]
      simp only [Val.d_mk]
      rw [pairsV_mapD]
      unfold mapD
      conv => rhs; rw [← List.map_id (List.filter _ _)]
      refine List.map_congr_left fun p hp => ?_
      obtain ⟨q, hq, rfl⟩ := List.mem_map.1 (List.mem_filter.1 hp).1
      have hq2 : q ∈ (bareV v).d := by
        obtain ⟨a, x⟩ := q
        have h3 := rise_first (riseD_rise _) hq
        rw [riseD_first] at h3
        exact firstD_mem h3
      simp only [id_eq]
      rw [hd q ((bareV_sub v).2 q hq2)]
    rw [hll, hdd]
    have hpp : pairsV (plainV v).d = (plainV v).d := by
      rw [e]
      simp only [Val.d_mk]
      rw [pairsV_mapD]
      have hr := rise_filter (fun p => some0 p.2) (rise_mapD (f := plainV) (riseD_rise (bareV v).d))
      rw [pairsV, riseD_id hr, List.filter_filter]
      simp
    rw [hpp]
    exact Val.eta _
end
end Go.Proofs.YtejgcnmbngdkiaaGreatDoor
/-
  What stands under a key; what is wrong with a plain value; alike values: plainly.
-/
namespace Go.Proofs.YtejgcnmbngdkiaaGreatDoor
section
set_option autoImplicit false

/-! Alike, field by field: the same. -/
theorem equalL_iff_of {l : List Val} (h : ∀ x ∈ l, ∀ y, equalV x y = true ↔ x = y) : ∀ l', equalL l l' = true ↔ l = l' := by
  induction l with
  | nil => intro l'; cases l' <;> simp [equalL]
  | cons v t ih =>
    intro l'
    cases l' with
    | nil => simp [equalL]
    | cons v' t' =>
      rw [equalL, Bool.and_eq_true, h v (List.mem_cons_self ..), ih (fun x hx => h x (List.mem_cons_of_mem _ hx)), List.cons.injEq]
theorem equalD_iff_of {d : Prs} (h : ∀ p ∈ d, ∀ y, equalV p.2 y = true ↔ p.2 = y) : ∀ d', equalD d d' = true ↔ d = d' := by
  induction d with
  | nil => intro l'; cases l' <;> simp [equalD]
  | cons p t ih =>
    intro d'
    obtain ⟨k, v⟩ := p
    cases d' with
    | nil => simp [equalD]
    | cons p' t' =>
      obtain ⟨k', v'⟩ := p'
      rw [equalD, Bool.and_eq_true, Bool.and_eq_true, decide_eq_true_eq, h (k, v) (List.mem_cons_self ..), ih (fun x hx => h x (List.mem_cons_of_mem _ hx)), List.cons.injEq, Prod.mk.injEq]
theorem equalV_iff (v : Val) : ∀ v', equalV v v' = true ↔ v = v' := by
  induction v using Val.ind with
  | h v hl hd =>
    intro v'
    cases v with
    | mk k n g s l d =>
      cases v' with
      | mk k' n' g' s' l' d' =>
        rw [Val.l_mk] at hl
        rw [Val.d_mk] at hd
        rw [equalV, Bool.and_eq_true, Bool.and_eq_true, decide_eq_true_eq, equalL_iff_of hl, equalD_iff_of hd, Val.mk.injEq]
        constructor
        · rintro ⟨⟨h1, h2, h3, h4⟩, h5, h6⟩; exact ⟨h1, h2, h3, h4, h5, h6⟩
        · rintro ⟨h1, h2, h3, h4, h5, h6⟩; exact ⟨⟨h1, h2, h3, h4⟩, h5, h6⟩
theorem equalV_refl (v : Val) : equalV v v = true := (equalV_iff v v).2 rfl

/-! What stands under a key. -/
def getV (v : Val) (k : ByteArray) : Val × Bool :=
  match firstD k (bareV v).d with
  | none => (.null, false)
  | some x => (plainV x, some0 (plainV x))
def withV (v : Val) (k : ByteArray) (x : Val) : Val := plainV (.mk v.kind v.n v.g v.s v.l ((k, x) :: v.d))
def findV (v : Val) (k : ByteArray) : Val × Bool :=
  match firstD k v.d with
  | none => (.null, false)
  | some x => (x, true)
theorem some0_null : some0 .null = false := rfl
theorem plainV_kind0 {v : Val} (h : (plainV v).kind = 0) : plainV v = .null := by
  rw [plainV_bare] at h ⊢
  rw [Val.kind_mk] at h
  cases v with
  | mk k n g s l d =>
    rw [bareV] at h ⊢
    repeat' split at h
    all_goals first | (simp at h; omega) | skip
    rename_i h1 h2 h3 h4 h5 h6
    simp only [if_neg h1, if_neg h2, if_neg h3, if_neg h4, if_neg h5, if_neg h6]
    rfl
theorem plainV_d (v : Val) : (plainV v).d = (mapD plainV (riseD (bareV v).d)).filter (fun p => some0 p.2) := by
  rw [plainV_bare, Val.d_mk, pairsV_mapD]
theorem first_plain (v : Val) (k : ByteArray) : firstD k (plainV v).d = ((firstD k (bareV v).d).map plainV).filter some0 := by
  rw [plainV_d, first_filter some0 k (rise_mapD (riseD_rise _)), first_mapD, riseD_first]
theorem getV_find (v : Val) (k : ByteArray) : getV v k = findV (plainV v) k := by
  unfold getV findV
  rw [first_plain]
  cases firstD k (bareV v).d with
  | none => rfl
  | some x =>
    cases h : some0 (plainV x) with
    | true => simp [Option.filter, h]
    | false =>
      have h0 : (plainV x).kind = 0 := by simpa [some0] using h
      simp [Option.filter, plainV_kind0 h0, some0_null]
theorem withV_not {v : Val} (k : ByteArray) (x : Val) (h : ¬ (v.kind = 6 ∨ v.kind = 8)) : withV v k x = plainV v := by
  unfold withV
  rw [plainV_bare, plainV_bare v]
  cases v with
  | mk k0 n g s l d =>
    rw [Val.kind_mk] at h
    have h6 : ¬ k0 = 6 := fun e => h (.inl e)
    have h8 : ¬ k0 = 8 := fun e => h (.inr e)
    have e : bareV (.mk k0 n g s l ((k, x) :: d)) = bareV (.mk k0 n g s l d) := by rw [bareV, bareV, if_neg h6, if_neg h8, if_neg h6, if_neg h8]
    simp only [Val.kind_mk, Val.n_mk, Val.g_mk, Val.s_mk, Val.l_mk, Val.d_mk, e]
theorem withV_holds {v : Val} (k : ByteArray) (x : Val) (h : v.kind = 6 ∨ v.kind = 8) : withV v k x = plainV (.mk v.kind 0 0 v.s [] ((k, x) :: v.d)) := by
  unfold withV
  rw [plainV_bare, plainV_bare (.mk v.kind 0 0 _ _ _)]
  rcases h with h | h <;> rw [h] <;> simp [bareV]
/-- What is put under a key of a dictionary is got there, and nothing else is turned. -/
theorem get_with {v : Val} {k : ByteArray} {x : Val} (h : v.kind = 6) : getV (withV v k x) k = (plainV x, some0 (plainV x)) := by
  rw [getV_find, withV, plain_plain]
  unfold findV
  rw [first_plain]
  have e : (bareV (.mk v.kind v.n v.g v.s v.l ((k, x) :: v.d))).d = (k, x) :: v.d := by rw [h]; simp [bareV]
  rw [e, firstD, if_pos rfl]
  cases h2 : some0 (plainV x) with
  | true => simp [Option.filter, h2]
  | false =>
    have h0 : (plainV x).kind = 0 := by simpa [some0] using h2
    simp [Option.filter, plainV_kind0 h0, some0_null]
theorem get_other {v : Val} {k o : ByteArray} {x : Val} (h : v.kind = 6) (hk : o ≠ k) : getV (withV v k x) o = getV v o := by
  rw [getV_find, getV_find v, withV, plain_plain]
  unfold findV
  rw [first_plain, first_plain]
  have e : (bareV (.mk v.kind v.n v.g v.s v.l ((k, x) :: v.d))).d = (k, x) :: v.d := by rw [h]; simp [bareV]
  have e2 : (bareV v).d = v.d := by cases v with | mk k0 n g s l d => rw [Val.kind_mk] at h; subst h; simp [bareV]
  rw [e, e2, firstD, if_neg (fun e => hk e.symm)]

/-! What may be may be, plain. -/
theorem checkL_zero {w : Int} : ∀ {l : List Val}, checkL l w = 0 ↔ ∀ x ∈ l, checkV x false w = 0
  | [] => by simp [checkL]
  | v :: t => by
    rw [checkL]
    by_cases h : checkV v false w = 0
    · rw [if_neg (fun e => e h), checkL_zero]; simp [h]
    · rw [if_pos h]; simp [h]
theorem keyV_false {k : ByteArray} {seen : List ByteArray} : keyV k seen = false ↔ k.size ≤ 127 ∧ zeroS k = false ∧ k ∉ seen := by
  unfold keyV
  rw [Bool.or_eq_false_iff, Bool.or_eq_false_iff, decide_eq_false_iff_not, and_assoc]
  refine and_congr (by omega) (and_congr Iff.rfl ?_)
  rw [List.any_eq_false]
  constructor
  · intro h hm; have := h k hm; simp at this
  · intro h x hx; simp; rintro rfl; exact h hx
theorem checkD_zero {w : Int} : ∀ {d : Prs} {seen : List ByteArray}, checkD d seen w = 0 ↔
    (∀ p ∈ d, (p.1.size ≤ 127 ∧ zeroS p.1 = false ∧ p.1 ∉ seen) ∧ checkV p.2 false w = 0) ∧ (d.map Prod.fst).Pairwise (· ≠ ·)
  | [], _ => by simp [checkD]
  | (k, v) :: t, seen => by
    rw [checkD]
    cases hk : keyV k seen with
    | true =>
      simp only [if_true]
      constructor
      · intro h; simp at h
      · rintro ⟨h, _⟩
        have := keyV_false.2 (h (k, v) (List.mem_cons_self ..)).1
        rw [this] at hk; cases hk
    | false =>
      have hk2 := keyV_false.1 hk
      rw [if_neg (by simp)]
      by_cases h : checkV v false w = 0
      · rw [if_neg (fun e => e h), checkD_zero, List.map_cons, List.pairwise_cons]
        constructor
        · rintro ⟨h1, h2⟩
          refine ⟨fun p hp => ?_, ⟨fun q hq => ?_, h2⟩⟩
          · rcases List.mem_cons.1 hp with e | e
            · subst e; exact ⟨hk2, h⟩
            · have := h1 p e
              exact ⟨⟨this.1.1, this.1.2.1, fun hm => this.1.2.2 (List.mem_append_left _ hm)⟩, this.2⟩
          · obtain ⟨p, hp, rfl⟩ := List.mem_map.1 hq
            rintro rfl
            exact (h1 p hp).1.2.2 (List.mem_append_right _ (List.mem_cons_self ..))
        · rintro ⟨h1, h2, h3⟩
          refine ⟨fun p hp => ?_, h3⟩
          have := h1 p (List.mem_cons_of_mem _ hp)
          refine ⟨⟨this.1.1, this.1.2.1, fun hm => ?_⟩, this.2⟩
          rcases List.mem_append.1 hm with e | e
          · exact this.1.2.2 e
          · exact h2 p.1 (List.mem_map_of_mem hp) (List.mem_singleton.1 e).symm
      · rw [if_pos h]
        constructor
        · intro e; exact absurd e h
        · rintro ⟨h1, _⟩; exact absurd (h1 (k, v) (List.mem_cons_self ..)).2 h
theorem checkV_zero {v : Val} {st : Bool} {w : Int} : checkV v st w = 0 ↔ oneV v st w = 0 ∧ checkL v.l (w + 1) = 0 ∧ checkD v.d [] (w + 1) = 0 := by
  rw [checkV_eq]
  by_cases h : oneV v st w = 0
  · rw [if_neg (fun e => e h)]
    by_cases h2 : checkL v.l (w + 1) = 0
    · rw [if_neg (fun e => e h2)]; simp [h, h2]
    · rw [if_pos h2]; simp [h2]
  · rw [if_pos h]; simp [h]
theorem oneV_zero {v : Val} {st : Bool} {w : Int} : oneV v st w = 0 ↔ ¬ (v.kind < 0 ∨ 8 < v.kind ∨ v.kind = 8 ∧ st = false) ∧ ¬ (extraV v = true ∨ v.kind = 3 ∧ zeroS v.s = true) ∧ outV v = false ∧
    ¬ (v.kind = 3 ∧ 127 < v.s.size ∨ v.kind = 4 ∧ 65535 < v.s.size) ∧ ¬ (v.kind = 8 ∧ 1048576 < v.s.size) ∧ ¬ (holderV v.kind = true ∧ 64 ≤ w) := by
  unfold oneV
  repeat' split
  all_goals simp_all
theorem bare_bare (v : Val) : bareV (bareV v) = bareV v := by
  have h := bareV_kind_fix v (bareV v).l (bareV v).d id id
  rw [Val.eta] at h
  exact h
theorem extraV_iff (v : Val) : extraV v = false ↔ v.n = (bareV v).n ∧ v.g = (bareV v).g ∧ v.s.size = (bareV v).s.size ∧ v.l.length = (bareV v).l.length ∧ v.d.length = (bareV v).d.length := by
  cases v with
  | mk k n g s l d =>
    unfold extraV
    rw [decide_eq_false_iff_not, bareV]
    simp only [Val.kind_mk, Val.n_mk, Val.g_mk, Val.s_mk, Val.l_mk, Val.d_mk]
    have he : ByteArray.empty.size = 0 := rfl
    repeat' split
    all_goals simp only [Val.null, Val.n_mk, Val.g_mk, Val.s_mk, Val.l_mk, Val.d_mk, he, List.length_nil, true_and, and_true]
    all_goals omega
theorem bareV_of_extra {v : Val} (h : extraV v = false) (h1 : 0 ≤ v.kind) (h2 : v.kind ≤ 8) : bareV v = v := by
  have hx := (extraV_iff v).1 h
  have hk : (bareV v).kind = v.kind := by
    cases v with
    | mk k n g s l d =>
      rw [Val.kind_mk] at h1 h2
      rw [bareV, Val.kind_mk]
      repeat' split
      all_goals simp only [Val.null, Val.kind_mk]
      omega
  have hs : (bareV v).s = v.s := by
    cases v with
    | mk k n g s l d =>
      revert hx
      rw [bareV]
      repeat' split
      all_goals simp only [Val.null, Val.n_mk, Val.g_mk, Val.s_mk, Val.l_mk, Val.d_mk]
      all_goals first | (intro _; trivial) | (rintro ⟨_, _, h, _⟩; exact (ByteArray.ext (Array.eq_empty_of_size_eq_zero h)).symm)
  have hl : (bareV v).l = v.l := by
    cases v with
    | mk k n g s l d =>
      revert hx
      rw [bareV]
      repeat' split
      all_goals simp only [Val.null, Val.n_mk, Val.g_mk, Val.s_mk, Val.l_mk, Val.d_mk]
      all_goals first | (intro _; trivial) | (rintro ⟨_, _, _, h, _⟩; exact (List.eq_nil_of_length_eq_zero h).symm)
  have hd : (bareV v).d = v.d := by
    cases v with
    | mk k n g s l d =>
      revert hx
      rw [bareV]
      repeat' split
      all_goals simp only [Val.null, Val.n_mk, Val.g_mk, Val.s_mk, Val.l_mk, Val.d_mk]
      all_goals first | (intro _; trivial) | (rintro ⟨_, _, _, _, h⟩; exact (List.eq_nil_of_length_eq_zero h).symm)
  exact Val.ext hk hx.1.symm hx.2.1.symm hs hl hd
theorem check_plain (v : Val) : ∀ st w, checkV v st w = 0 → checkV (plainV v) st w = 0 := by
  induction v using Val.ind with
  | h v hl hd =>
    intro st w h
    obtain ⟨h1, h2, h3⟩ := checkV_zero.1 h
    obtain ⟨o1, o2, o3, o4, o5, o6⟩ := oneV_zero.1 h1
    have hx : extraV v = false := by cases he : extraV v; rfl; exact absurd (.inl he) o2
    have hb := bareV_of_extra hx (by omega) (by omega)
    have e := plainV_bare v
    rw [hb] at e
    refine checkV_zero.2 ⟨oneV_zero.2 ?_, ?_, ?_⟩
    · have hf : bareV (plainV v) = plainV v := by
        have h := bareV_kind_fix v (v.l.map plainV) (pairsV (mapD plainV v.d)) (fun h => by rw [hb] at h; rw [h]; rfl) (fun h => by rw [hb] at h; rw [h]; rfl)
        rw [hb, ← e] at h
        exact h
      have hk : (plainV v).kind = v.kind := by rw [e]; rfl
      have hn : (plainV v).n = v.n := by rw [e]; rfl
      have hg : (plainV v).g = v.g := by rw [e]; rfl
      have hs : (plainV v).s = v.s := by rw [e]; rfl
      have hxp : extraV (plainV v) = false := (extraV_iff _).2 (by rw [hf]; exact ⟨rfl, rfl, rfl, rfl, rfl⟩)
      have ho : outV (plainV v) = outV v := by unfold outV; rw [hk, hn, hg]
      rw [hk, hs, hxp, ho]
      refine ⟨o1, ?_, o3, o4, o5, o6⟩
      rintro (h | h)
      · cases h
      · exact o2 (.inr h)
    · rw [e]
      refine checkL_zero.2 fun x hx => ?_
      obtain ⟨y, hy, rfl⟩ := List.mem_map.1 hx
      exact hl y hy _ _ (checkL_zero.1 h2 y hy)
    · rw [plainV_d, hb]
      obtain ⟨h4, h5⟩ := checkD_zero.1 h3
      refine checkD_zero.2 ⟨fun p hp => ?_, ?_⟩
      · obtain ⟨q, hq, rfl⟩ := List.mem_map.1 (List.mem_filter.1 hp).1
        have hq2 : q ∈ v.d := by
          obtain ⟨a, x⟩ := q
          have h6 := rise_first (riseD_rise _) hq
          rw [riseD_first] at h6
          exact firstD_mem h6
        exact ⟨⟨(h4 q hq2).1.1, (h4 q hq2).1.2.1, List.not_mem_nil⟩, hd q hq2 _ _ (h4 q hq2).2⟩
      · rw [List.pairwise_map]
        exact (rise_filter _ (rise_mapD (riseD_rise _))).imp (fun h => kLt_ne h)

end
end Go.Proofs.YtejgcnmbngdkiaaGreatDoor
/-
  What is plain is no greater than what it was made of: plainly.
-/
namespace Go.Proofs.YtejgcnmbngdkiaaGreatDoor
section
set_option autoImplicit false

theorem shortL_iff {m : Nat} : ∀ {l : List Val}, shortL l m = true ↔ ∀ x ∈ l, shortV x m = true
  | [] => by simp [shortL]
  | v :: t => by rw [shortL, Bool.and_eq_true, shortL_iff]; simp
theorem shortD_iff {m : Nat} : ∀ {d : Prs}, shortD d m = true ↔ ∀ p ∈ d, p.1.size ≤ m ∧ shortV p.2 m = true
  | [] => by simp [shortD]
  | (k, v) :: t => by rw [shortD, Bool.and_eq_true, Bool.and_eq_true, shortD_iff, decide_eq_true_eq]; simp
theorem sizeL_map {f : Val → Val} {l : List Val} (h : ∀ x ∈ l, sizeV (f x) ≤ sizeV x) : sizeL (l.map f) ≤ sizeL l := by
  induction l with
  | nil => exact Nat.le_refl _
  | cons v t ih =>
    rw [List.map_cons, sizeL, sizeL]
    have h1 := h v (List.mem_cons_self ..)
    have h2 := ih (fun x hx => h x (List.mem_cons_of_mem _ hx))
    omega
theorem sizeD_map {f : Val → Val} {d : Prs} (h : ∀ p ∈ d, sizeV (f p.2) ≤ sizeV p.2) : sizeD (mapD f d) ≤ sizeD d := by
  induction d with
  | nil => exact Nat.le_refl _
  | cons p t ih =>
    obtain ⟨k, v⟩ := p
    have h1 := h (k, v) (List.mem_cons_self ..)
    have h2 := ih (fun x hx => h x (List.mem_cons_of_mem _ hx))
    unfold mapD at h2 ⊢
    rw [List.map_cons, sizeD, sizeD]
    dsimp only at h1 ⊢
    omega
theorem sizeD_filter (f : ByteArray × Val → Bool) : ∀ d : Prs, sizeD (d.filter f) ≤ sizeD d
  | [] => Nat.le_refl _
  | (k, v) :: t => by
    have := sizeD_filter f t
    rw [List.filter_cons]
    split
    · rw [sizeD, sizeD]; omega
    · rw [sizeD]; omega
theorem sizeD_ins (p : ByteArray × Val) : ∀ d : Prs, sizeD (insP p d) = sizeV p.2 + sizeD d
  | [] => by obtain ⟨k, v⟩ := p; rfl
  | (k, v) :: t => by
    rw [insP]
    split
    · obtain ⟨k2, v2⟩ := p; rw [sizeD]
    · rw [sizeD, sizeD_ins p t, sizeD]; omega
theorem sizeD_put (d : Prs) (p : ByteArray × Val) : sizeD (putP d p) ≤ sizeV p.2 + sizeD d := by unfold putP; split; omega; rw [sizeD_ins]; exact Nat.le_refl _
theorem sizeD_fold : ∀ (d a : Prs), sizeD (d.foldl putP a) ≤ sizeD a + sizeD d
  | [], _ => Nat.le_refl _
  | (k, v) :: t, a => by rw [List.foldl_cons, sizeD]; have h1 := sizeD_fold t (putP a (k, v)); have h2 := sizeD_put a (k, v); dsimp only at h2; omega
theorem sizeD_rise (d : Prs) : sizeD (riseD d) ≤ sizeD d := by have := sizeD_fold d []; rw [sizeD] at this; unfold riseD; omega
theorem bareV_size (v : Val) : sizeL (bareV v).l ≤ sizeL v.l ∧ sizeD (bareV v).d ≤ sizeD v.d ∧ ((bareV v).s = v.s ∨ (bareV v).s = ByteArray.empty) := by
  cases v with
  | mk k n g s l d =>
    rw [bareV]
    repeat' split
    all_goals simp [Val.null, sizeL, sizeD]
theorem plain_size (v : Val) : sizeV (plainV v) ≤ sizeV v := by
  induction v using Val.ind with
  | h v hl hd =>
    have hb := bareV_sub v
    have hz := bareV_size v
    rw [plainV_bare, sizeV_eq, sizeV_eq v, Val.l_mk, Val.d_mk, pairsV_mapD]
    have h1 := sizeL_map (f := plainV) (l := (bareV v).l) (fun x hx => hl x (hb.1 x hx))
    have h2 := sizeD_filter (fun p => some0 p.2) (mapD plainV (riseD (bareV v).d))
    have h3 := sizeD_map (f := plainV) (d := riseD (bareV v).d) (fun p hp => by
      obtain ⟨a, x⟩ := p
      have h6 := rise_first (riseD_rise _) hp
      rw [riseD_first] at h6
      exact hd _ (hb.2 _ (firstD_mem h6)))
    have h4 := sizeD_rise (bareV v).d
    omega
theorem plain_short {m : Nat} (v : Val) : shortV v m = true → shortV (plainV v) m = true := by
  induction v using Val.ind with
  | h v hl hd =>
    intro h
    rw [shortV_eq, Bool.and_eq_true, Bool.and_eq_true, decide_eq_true_eq, shortL_iff, shortD_iff] at h
    have hb := bareV_sub v
    have hz := bareV_size v
    rw [plainV_bare, shortV_eq, Bool.and_eq_true, Bool.and_eq_true, decide_eq_true_eq, shortL_iff, shortD_iff, Val.s_mk, Val.l_mk, Val.d_mk, pairsV_mapD]
    refine ⟨?_, fun y hy => ?_, fun p hp => ?_⟩
    · rcases hz.2.2 with e | e
      · rw [e]; exact h.1
      · rw [e]; exact Nat.zero_le _
    · obtain ⟨x, hx, rfl⟩ := List.mem_map.1 hy
      exact hl x (hb.1 x hx) (h.2.1 x (hb.1 x hx))
    · obtain ⟨q, hq, rfl⟩ := List.mem_map.1 (List.mem_filter.1 hp).1
      have hq2 : q ∈ v.d := by
        obtain ⟨a, x⟩ := q
        have h6 := rise_first (riseD_rise _) hq
        rw [riseD_first] at h6
        exact hb.2 _ (firstD_mem h6)
      exact ⟨(h.2.2 q hq2).1, hd q hq2 (h.2.2 q hq2).2⟩
theorem plain_fit {v : Val} {m : Nat} (h : Fit v m) : Fit (plainV v) m := ⟨Nat.le_trans (plain_size v) h.1, plain_short v h.2⟩
theorem Fit.mono {v : Val} {m m' : Nat} (h : Fit v m) (hm : m ≤ m') : Fit v m' := ⟨Nat.le_trans h.1 hm, h.2⟩
theorem null_fit {m : Nat} (h : 1 ≤ m) : Fit .null m := ⟨h, rfl⟩
/-- A value with a pair ahead of its own. -/
theorem put_fit {v x : Val} {key : ByteArray} {m m' : Nat} (h : Fit v m) (hx : Fit x m') (hk : key.size ≤ 3000) (k n g : Int) (s : ByteArray) (l : List Val) (hl : l = v.l ∨ l = []) (hs : s = v.s) :
    Fit (.mk k n g s l ((key, x) :: v.d)) (m + m') := by
  obtain ⟨h1, h2⟩ := h
  rw [shortV_eq, Bool.and_eq_true, Bool.and_eq_true, decide_eq_true_eq] at h2
  rw [sizeV_eq] at h1
  have hll : sizeL l ≤ sizeL v.l ∧ shortL l 3000 = true := by rcases hl with rfl | rfl; exact ⟨Nat.le_refl _, h2.2.1⟩; exact ⟨by rw [sizeL]; omega, rfl⟩
  refine ⟨?_, ?_⟩
  · rw [sizeV_eq, Val.l_mk, Val.d_mk, sizeD]; have := hx.1; omega
  · rw [shortV_eq, Bool.and_eq_true, Bool.and_eq_true, decide_eq_true_eq, Val.s_mk, Val.l_mk, Val.d_mk, shortD, Bool.and_eq_true, Bool.and_eq_true, decide_eq_true_eq, hs]
    exact ⟨h2.1, hll.2, ⟨hk, hx.2⟩, h2.2.2⟩
theorem with_fit {v x : Val} {key : ByteArray} {m m' : Nat} (h : Fit v m) (hx : Fit x m') (hk : key.size ≤ 3000) : Fit (withV v key x) (m + m') :=
  plain_fit (put_fit h hx hk _ _ _ _ _ (.inl rfl) rfl)
end
end Go.Proofs.YtejgcnmbngdkiaaGreatDoor
