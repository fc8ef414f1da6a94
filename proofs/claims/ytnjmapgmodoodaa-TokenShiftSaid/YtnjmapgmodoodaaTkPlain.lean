/-
  The signs of the format, plainly: no program in sight.
-/
import Derived.Test.YtnjmapgmodoodaaHPlain
import Derived.Test.YtnjmapgmodoodaaLinesPlain
namespace Go.Proofs.Ytnjmapgmodoodaa

/-- A sign: its kind, its number, its bytes, where it begins, where it ends, and the error, if there is none. -/
structure Sg where
  kind : Int
  num : Int
  str : List UInt8
  beg : Nat
  fin : Nat
  code : Int
def Sg.err (c : Int) : Sg := ⟨0, 0, [], 0, 0, c⟩
def Sg.bare (k : Int) (e : Nat) : Sg := ⟨k, 0, [], 0, e, 0⟩

/-- How many bytes are passed: white ones, and notes. -/
def skipGo : Bool → List UInt8 → Nat
  | _, [] => 0
  | note, c :: t =>
    if c.toNat = 10 ∨ c.toNat = 13 then skipGo false t + 1
    else if note = true ∨ c.toNat = 37 then skipGo true t + 1
    else if kindI (c.toNat : Int) = 0 then skipGo false t + 1 else 0
theorem skip_eol {n : Bool} {c : UInt8} {t : List UInt8} (h : c.toNat = 10 ∨ c.toNat = 13) : skipGo n (c :: t) = skipGo false t + 1 := by rw [skipGo, if_pos h]
theorem skip_in {c : UInt8} {t : List UInt8} (h : ¬ (c.toNat = 10 ∨ c.toNat = 13)) : skipGo true (c :: t) = skipGo true t + 1 := by rw [skipGo, if_neg h, if_pos (Or.inl rfl)]
theorem skip_note {n : Bool} {c : UInt8} {t : List UInt8} (h : c.toNat = 37) : skipGo n (c :: t) = skipGo true t + 1 := by rw [skipGo, if_neg (by omega), if_pos (Or.inr h)]
theorem kind_zero {c : UInt8} : kindI (c.toNat : Int) = 0 ↔ c.toNat = 0 ∨ c.toNat = 9 ∨ c.toNat = 10 ∨ c.toNat = 12 ∨ c.toNat = 13 ∨ c.toNat = 32 := by
  unfold kindI
  constructor
  · intro h
    by_cases e : (c.toNat : Int) = 0 ∨ (c.toNat : Int) = 9 ∨ (c.toNat : Int) = 10 ∨ (c.toNat : Int) = 12 ∨ (c.toNat : Int) = 13 ∨ (c.toNat : Int) = 32
    · omega
    · rw [if_neg e] at h
      split at h <;> simp at h
  · intro h; rw [if_pos (by omega)]
theorem skip_white {c : UInt8} {t : List UInt8} (h : kindI (c.toNat : Int) = 0) : skipGo false (c :: t) = skipGo false t + 1 := by
  have h' := kind_zero.1 h
  rw [skipGo]
  by_cases e : c.toNat = 10 ∨ c.toNat = 13
  · rw [if_pos e]
  · rw [if_neg e, if_neg (by rintro (x | x); cases x; omega), if_pos h]
theorem skip_stop {c : UInt8} {t : List UInt8} (h : ¬ kindI (c.toNat : Int) = 0) (h2 : ¬ c.toNat = 37) : skipGo false (c :: t) = 0 := by
  have h' : ¬ (c.toNat = 10 ∨ c.toNat = 13) := fun e => h (kind_zero.2 (by omega))
  rw [skipGo, if_neg h', if_neg (by rintro (x | x); cases x; exact h2 x), if_neg h]
theorem skip_le : ∀ (l : List UInt8) (n : Bool), skipGo n l ≤ l.length
  | [], n => by cases n <;> exact Nat.le_refl _
  | c :: t, n => by
    have h1 := skip_le t false
    have h2 := skip_le t true
    rw [skipGo, List.length_cons]
    split
    · omega
    · split
      · omega
      · split <;> omega
/-- What stands where that ends. -/
theorem skip_head : ∀ (l : List UInt8) (n : Bool), ∀ c t, l.drop (skipGo n l) = c :: t → ¬ kindI (c.toNat : Int) = 0 ∧ ¬ c.toNat = 37
  | [], n, c, t, h => by simp at h
  | a :: r, n, c, t, h => by
    have h1 := skip_head r false c t
    have h2 := skip_head r true c t
    rw [skipGo] at h
    split at h
    · exact h1 h
    · split at h
      · exact h2 h
      · rename_i e1 e2
        split at h
        · exact h1 h
        · rename_i e3
          rw [List.drop_zero] at h
          injection h with ha _
          subst ha
          exact ⟨e3, fun e => e2 (Or.inr e)⟩
theorem skip_span (l : List UInt8) : ∀ k, (∀ m, m < k → goodN l [0] m = true) → skipGo false l = k + skipGo false (l.drop k)
  | 0, _ => by simp
  | k + 1, h => by
    rw [skip_span l k (fun m hm => h m (by omega))]
    have hk := h k (by omega)
    unfold goodN at hk
    cases hd : l.drop k with
    | nil =>
      have : l[k]? = none := by have := congrArg (fun x => x[0]?) hd; simpa using this
      rw [this] at hk; cases hk
    | cons c t =>
      have hc : l[k]? = some c := by have := congrArg (fun x => x[0]?) hd; simpa using this
      rw [hc] at hk
      have hz : kindI (c.toNat : Int) = 0 := by simpa using hk
      have ht : l.drop (k + 1) = t := by rw [← List.drop_drop, hd]; rfl
      rw [skip_white hz, ht]; omega

/-- The byte that a # and two digits are. -/
def hidL : List UInt8 → Option UInt8
  | _ :: a :: b :: _ => if hexI (a.toNat : Int) < 0 ∨ hexI (b.toNat : Int) < 0 ∨ hexI (a.toNat : Int) + hexI (b.toNat : Int) = 0 then none else some (UInt8.ofNat (16 * (hexI (a.toNat : Int)).toNat + (hexI (b.toNat : Int)).toNat))
  | _ => none
/-- A name's bytes, from the first one behind the / on. -/
def nameGo (out : List UInt8) (n : Nat) (l : List UInt8) : Sg :=
  match l with
  | [] => ⟨2, 0, out, 0, n, 0⟩
  | c :: t =>
    if ¬ kindI (c.toNat : Int) = 2 then ⟨2, 0, out, 0, n, 0⟩
    else if c.toNat = 35 then
      match hidL (c :: t) with
      | none => Sg.err 4
      | some b => if 127 ≤ out.length then Sg.err 8 else nameGo (out ++ [b]) (n + 3) (t.drop 2)
    else if 127 ≤ out.length then Sg.err 8 else nameGo (out ++ [c]) (n + 1) t
termination_by l.length
decreasing_by
  · simp only [List.length_drop, List.length_cons]; omega
  · simp only [List.length_cons]; omega
theorem name_nil {out : List UInt8} {n : Nat} : nameGo out n [] = ⟨2, 0, out, 0, n, 0⟩ := by rw [nameGo]
theorem name_end {out : List UInt8} {n : Nat} {c : UInt8} {t : List UInt8} (h : ¬ kindI (c.toNat : Int) = 2) : nameGo out n (c :: t) = ⟨2, 0, out, 0, n, 0⟩ := by rw [nameGo, if_pos h]
theorem name_form {out : List UInt8} {n : Nat} {c : UInt8} {t : List UInt8} (h : kindI (c.toNat : Int) = 2) (h2 : c.toNat = 35) (h3 : hidL (c :: t) = none) : nameGo out n (c :: t) = Sg.err 4 := by
  rw [nameGo, if_neg (by simpa using h), if_pos h2, h3]
theorem name_hid {out : List UInt8} {n : Nat} {c b : UInt8} {t : List UInt8} (h : kindI (c.toNat : Int) = 2) (h2 : c.toNat = 35) (h3 : hidL (c :: t) = some b) : nameGo out n (c :: t) = if 127 ≤ out.length then Sg.err 8 else nameGo (out ++ [b]) (n + 3) (t.drop 2) := by
  rw [nameGo, if_neg (by simpa using h), if_pos h2, h3]
theorem name_plain {out : List UInt8} {n : Nat} {c : UInt8} {t : List UInt8} (h : kindI (c.toNat : Int) = 2) (h2 : ¬ c.toNat = 35) : nameGo out n (c :: t) = if 127 ≤ out.length then Sg.err 8 else nameGo (out ++ [c]) (n + 1) t := by
  rw [nameGo, if_neg (by simpa using h), if_neg h2]

/-- How many digits to the base 8 stand first, of those that tell a byte; and the byte. -/
def octB (c : UInt8) : Bool := decide (48 ≤ c.toNat ∧ c.toNat ≤ 55)
def octN (l : List UInt8) : Nat := ((l.take 3).takeWhile octB).length
def octV (l : List UInt8) : Nat := l.foldl (fun n c => (8 * n + (c.toNat - 48)) % 256) 0
/-- What a letter behind a backslash means. -/
def escC (c : UInt8) : UInt8 := if c.toNat = 110 then 10 else if c.toNat = 114 then 13 else if c.toNat = 116 then 9 else if c.toNat = 98 then 8 else if c.toNat = 102 then 12 else c
/-- What stands behind a backslash, and how long it is. -/
def escL (l : List UInt8) : List UInt8 × Nat :=
  match l with
  | [] => ([], 0)
  | c :: _ =>
    if 0 < endsN l 0 then ([], endsN l 0)
    else if 0 < octN l then ([UInt8.ofNat (octV (l.take (octN l)))], octN l)
    else ([escC c], 1)
/-- What the bytes of a text with which it begins stand for, and how many they are. -/
def withinL (l : List UInt8) : List UInt8 × Nat :=
  match l with
  | [] => ([], 0)
  | c :: t =>
    if 0 < endsN l 0 then ([10], endsN l 0)
    else if c.toNat = 92 then ((escL t).1, 1 + (escL t).2)
    else ([c], 1)
theorem within_pos (c : UInt8) (t : List UInt8) : 0 < (withinL (c :: t)).2 := by
  unfold withinL
  by_cases h : 0 < endsN (c :: t) 0
  · simp only [if_pos h]; exact h
  · simp only [if_neg h]
    by_cases h2 : c.toNat = 92
    · simp only [if_pos h2]; omega
    · simp only [if_neg h2]; omega
def depthL (d : Nat) (c : UInt8) : Nat := if c.toNat = 40 then d + 1 else if c.toNat = 41 then d - 1 else d
/-- A text's bytes, from the first one behind the ( on, within so many brackets. -/
def textGo (d : Nat) (out : List UInt8) (n : Nat) (l : List UInt8) : Sg :=
  match l with
  | [] => Sg.err 5
  | c :: t =>
    if c.toNat = 41 ∧ d = 1 then ⟨3, 0, out, 0, n + 1, 0⟩
    else if 65535 < (out ++ (withinL (c :: t)).1).length then Sg.err 8
    else textGo (depthL d c) (out ++ (withinL (c :: t)).1) (n + (withinL (c :: t)).2) ((c :: t).drop (withinL (c :: t)).2)
termination_by l.length
decreasing_by
  have := within_pos c t
  simp only [List.length_drop, List.length_cons]; omega
theorem text_nil {d : Nat} {out : List UInt8} {n : Nat} : textGo d out n [] = Sg.err 5 := by rw [textGo]
theorem text_end {d : Nat} {out : List UInt8} {n : Nat} {c : UInt8} {t : List UInt8} (h : c.toNat = 41) (hd : d = 1) : textGo d out n (c :: t) = ⟨3, 0, out, 0, n + 1, 0⟩ := by rw [textGo, if_pos ⟨h, hd⟩]
theorem text_long {d : Nat} {out p : List UInt8} {n k : Nat} {c : UInt8} {t : List UInt8} (h : ¬ (c.toNat = 41 ∧ d = 1)) (hw : withinL (c :: t) = (p, k)) (hp : 65535 < out.length + p.length) : textGo d out n (c :: t) = Sg.err 8 := by
  rw [textGo, if_neg h, hw, if_pos (by rw [List.length_append]; exact hp)]
theorem text_step {d : Nat} {out p : List UInt8} {n k : Nat} {c : UInt8} {t : List UInt8} (h : ¬ (c.toNat = 41 ∧ d = 1)) (hw : withinL (c :: t) = (p, k)) (hp : ¬ 65535 < out.length + p.length) : textGo d out n (c :: t) = textGo (depthL d c) (out ++ p) (n + k) ((c :: t).drop k) := by
  rw [textGo, if_neg h, hw, if_neg (by rw [List.length_append]; exact hp)]

/-- A text of digits, from the first byte behind the < on. -/
def hexGo (ds : List Nat) (n : Nat) : List UInt8 → Sg
  | [] => Sg.err 5
  | c :: t =>
    if c.toNat = 62 then (if 65535 < (ds.length + 1) / 2 then Sg.err 8 else ⟨3, 0, pairsH ds, 0, n + 1, 0⟩)
    else if 0 ≤ hexI (c.toNat : Int) then (if 65535 < (ds.length + 1) / 2 then Sg.err 8 else hexGo (ds ++ [(hexI (c.toNat : Int)).toNat]) (n + 1) t)
    else if kindI (c.toNat : Int) = 0 then hexGo ds (n + 1) t else Sg.err 4
theorem hex_end {ds : List Nat} {n : Nat} {c : UInt8} {t : List UInt8} (h : c.toNat = 62) : hexGo ds n (c :: t) = if 65535 < (ds.length + 1) / 2 then Sg.err 8 else ⟨3, 0, pairsH ds, 0, n + 1, 0⟩ := by rw [hexGo, if_pos h]
theorem hex_put {ds : List Nat} {n : Nat} {c : UInt8} {t : List UInt8} (h : ¬ c.toNat = 62) (h2 : 0 ≤ hexI (c.toNat : Int)) : hexGo ds n (c :: t) = if 65535 < (ds.length + 1) / 2 then Sg.err 8 else hexGo (ds ++ [(hexI (c.toNat : Int)).toNat]) (n + 1) t := by rw [hexGo, if_neg h, if_pos h2]
theorem hex_white {ds : List Nat} {n : Nat} {c : UInt8} {t : List UInt8} (h : kindI (c.toNat : Int) = 0) : hexGo ds n (c :: t) = hexGo ds (n + 1) t := by
  have h' := white_not h
  rw [hexGo, if_neg h'.1, if_neg h'.2, if_pos h]
theorem hex_bad {ds : List Nat} {n : Nat} {c : UInt8} {t : List UInt8} (h : ¬ c.toNat = 62) (h2 : ¬ 0 ≤ hexI (c.toNat : Int)) (h3 : ¬ kindI (c.toNat : Int) = 0) : hexGo ds n (c :: t) = Sg.err 4 := by rw [hexGo, if_neg h, if_neg h2, if_neg h3]

/-- A number, or a word. -/
def wordOf (w : List UInt8) : Sg :=
  if (looseL w).2 = 0 then ⟨1, (looseL w).1, [], 0, w.length, 0⟩
  else if (looseL w).2 = 3 then Sg.err 3
  else if 127 < w.length then Sg.err 8 else ⟨8, 0, w, 0, w.length, 0⟩
def wordL (l : List UInt8) : Sg := wordOf (l.take (spanN l [2] 0))

/-- The sign with which a text begins. -/
def firstL (l : List UInt8) : Sg :=
  match l with
  | [] => Sg.bare 0 0
  | c :: t =>
    if c.toNat = 91 then Sg.bare 4 1
    else if c.toNat = 93 then Sg.bare 5 1
    else if c.toNat = 47 then nameGo [] 1 t
    else if c.toNat = 40 then textGo 1 [] 1 t
    else if c.toNat = 60 then (if preB l [60, 60] = true then Sg.bare 6 2 else hexGo [] 1 t)
    else if c.toNat = 62 then (if preB l [62, 62] = true then Sg.bare 7 2 else Sg.err 4)
    else if c.toNat = 41 ∨ c.toNat = 123 ∨ c.toNat = 125 then Sg.err 4
    else wordL l
/-- The same, where it stands. -/
def Sg.put (k : Nat) (a : Sg) : Sg := if a.code = 0 then ⟨a.kind, a.num, a.str, k, a.fin + k, 0⟩ else Sg.err a.code
/-- The same, so much farther on. -/
def Sg.off (k : Nat) (a : Sg) : Sg := if a.code = 0 then ⟨a.kind, a.num, a.str, a.beg + k, a.fin + k, 0⟩ else Sg.err a.code
def skipN (l : List UInt8) (k : Nat) : Nat := k + skipGo false (l.drop k)
def placeN (l : List UInt8) (a : Int) : Nat := (min (max a 0) (l.length : Int)).toNat
def skipI (l : List UInt8) (a : Int) : Nat := skipN l (placeN l a)
def nextN (l : List UInt8) (k : Nat) : Sg := (firstL (l.drop (skipN l k))).put (skipN l k)
def nextI (l : List UInt8) (a : Int) : Sg := nextN l (placeN l a)

theorem skipN_le {l : List UInt8} {k : Nat} (h : k ≤ l.length) : k ≤ skipN l k ∧ skipN l k ≤ l.length := by
  have := skip_le (l.drop k) false
  rw [List.length_drop] at this
  unfold skipN; omega
theorem placeN_le (l : List UInt8) (a : Int) : placeN l a ≤ l.length := by unfold placeN; omega
theorem placeN_nat {l : List UInt8} {k : Nat} (h : k ≤ l.length) : placeN l (k : Int) = k := by unfold placeN; omega
theorem nextI_nat {l : List UInt8} {k : Nat} (h : k ≤ l.length) : nextI l (k : Int) = nextN l k := by unfold nextI; rw [placeN_nat h]
theorem Sg.put_err {k : Nat} {a : Sg} (h : ¬ a.code = 0) : a.put k = Sg.err a.code := if_neg h
theorem Sg.put_ok {k : Nat} {a : Sg} (h : a.code = 0) : a.put k = ⟨a.kind, a.num, a.str, k, a.fin + k, 0⟩ := if_pos h

/-- A sign is none, or an error is told alone. -/
def Sg.good (a : Sg) (m : Nat) : Prop := (¬ a.code = 0 → a = Sg.err a.code) ∧ a.fin ≤ m ∧ a.str.length ≤ m ∧ (-2147483648 ≤ a.num ∧ a.num ≤ 2147483647) ∧ (0 ≤ a.kind ∧ a.kind ≤ 8) ∧ (a.code = 0 ∨ a.code = 3 ∨ a.code = 4 ∨ a.code = 5 ∨ a.code = 8)
theorem Sg.good_err {c : Int} (m : Nat) (h : c = 3 ∨ c = 4 ∨ c = 5 ∨ c = 8) : (Sg.err c).good m := ⟨fun _ => rfl, Nat.zero_le _, Nat.zero_le _, (by decide : (-2147483648 : Int) ≤ 0 ∧ (0 : Int) ≤ 2147483647), (by decide : (0 : Int) ≤ 0 ∧ (0 : Int) ≤ 8), .inr h⟩
theorem Sg.good_mk {k n : Int} {s : List UInt8} {b f m : Nat} (hf : f ≤ m) (hs : s.length ≤ m) (hn : -2147483648 ≤ n ∧ n ≤ 2147483647) (hk : 0 ≤ k ∧ k ≤ 8) : (Sg.mk k n s b f 0).good m := ⟨fun h => absurd rfl h, hf, hs, hn, hk, .inl rfl⟩
theorem Sg.good_bare {k : Int} {e m : Nat} (h : 0 ≤ k ∧ k ≤ 8) (he : e ≤ m) : (Sg.bare k e).good m := Sg.good_mk he (Nat.zero_le _) (by decide) h
theorem hidL_length {l : List UInt8} {b : UInt8} (h : hidL l = some b) : 3 ≤ l.length := by
  match l, h with
  | _ :: _ :: _ :: _, _ => simp only [List.length_cons]; omega
theorem name_good : ∀ (k : Nat) (l out : List UInt8) (n : Nat), l.length ≤ k → out.length ≤ n → (nameGo out n l).good (n + l.length) ∧ ((nameGo out n l).code = 0 → n ≤ (nameGo out n l).fin ∧ (nameGo out n l).kind = 2)
  | k, [], out, n, _, ho => by
    rw [name_nil]
    exact ⟨Sg.good_mk (by omega) (by omega) (by decide) (by decide), fun _ => ⟨Nat.le_refl _, rfl⟩⟩
  | 0, c :: t, out, n, hk, ho => by simp at hk
  | k + 1, c :: t, out, n, hk, ho => by
    rw [List.length_cons] at hk ⊢
    have herr : ∀ e : Int, e = 4 ∨ e = 8 → (Sg.err e).good (n + (t.length + 1)) ∧ ((Sg.err e).code = 0 → n ≤ (Sg.err e).fin ∧ (Sg.err e).kind = 2) := fun e he =>
      ⟨Sg.good_err _ (by omega), fun h => by have : e = 0 := h; omega⟩
    by_cases h : kindI (c.toNat : Int) = 2
    · by_cases h2 : c.toNat = 35
      · cases h3 : hidL (c :: t) with
        | none => rw [name_form h h2 h3]; exact herr 4 (by omega)
        | some b =>
          rw [name_hid h h2 h3]
          split
          · exact herr 8 (by omega)
          · have hl := hidL_length h3
            rw [List.length_cons] at hl
            have ih := name_good k (t.drop 2) (out ++ [b]) (n + 3) (by rw [List.length_drop]; omega) (by simp; omega)
            have e : n + 3 + (t.drop 2).length = n + (t.length + 1) := by rw [List.length_drop]; omega
            rw [e] at ih
            exact ⟨ih.1, fun h => ⟨by have := (ih.2 h).1; omega, (ih.2 h).2⟩⟩
      · rw [name_plain h h2]
        split
        · exact herr 8 (by omega)
        · have ih := name_good k t (out ++ [c]) (n + 1) (by omega) (by simp; omega)
          have e : n + 1 + t.length = n + (t.length + 1) := by omega
          rw [e] at ih
          exact ⟨ih.1, fun h => ⟨by have := (ih.2 h).1; omega, (ih.2 h).2⟩⟩
    · rw [name_end h]
      exact ⟨Sg.good_mk (by omega) (by omega) (by decide) (by decide), fun _ => ⟨Nat.le_refl _, rfl⟩⟩
theorem octN_le (l : List UInt8) : octN l ≤ l.length ∧ octN l ≤ 3 := by
  have h := (List.takeWhile_prefix octB (l := l.take 3)).length_le
  rw [List.length_take] at h
  unfold octN
  omega
theorem endsN_zero (l : List UInt8) : endsN l 0 ≤ l.length ∧ endsN l 0 ≤ 2 := by
  unfold endsN
  rw [List.drop_zero]
  split
  · rename_i h
    have := h.length_le
    simp at this; omega
  · split
    · rename_i h
      have : l ≠ [] := by rintro rfl; simp at h
      have := List.length_pos_iff.2 this
      omega
    · omega
theorem esc_len (l : List UInt8) : (escL l).2 ≤ l.length ∧ (escL l).1.length ≤ (escL l).2 := by
  have h1 := endsN_zero l
  have h2 := octN_le l
  cases l with
  | nil => exact ⟨Nat.le_refl _, Nat.le_refl _⟩
  | cons c t =>
    unfold escL
    by_cases h : 0 < endsN (c :: t) 0
    · simp only [if_pos h]; exact ⟨h1.1, Nat.zero_le _⟩
    · simp only [if_neg h]
      by_cases h' : 0 < octN (c :: t)
      · simp only [if_pos h', List.length_cons, List.length_nil]; exact ⟨h2.1, h'⟩
      · simp only [if_neg h', List.length_cons, List.length_nil]; omega
theorem within_len (l : List UInt8) : (withinL l).2 ≤ l.length ∧ (withinL l).1.length ≤ (withinL l).2 := by
  have h1 := endsN_zero l
  cases l with
  | nil => exact ⟨Nat.le_refl _, Nat.le_refl _⟩
  | cons c t =>
    have h3 := esc_len t
    unfold withinL
    by_cases h : 0 < endsN (c :: t) 0
    · simp only [if_pos h, List.length_cons, List.length_nil]; rw [List.length_cons] at h1; omega
    · simp only [if_neg h]
      by_cases h' : c.toNat = 92
      · simp only [if_pos h', List.length_cons]; omega
      · simp only [if_neg h', List.length_cons, List.length_nil]; omega
theorem text_good : ∀ (k : Nat) (l : List UInt8) (d : Nat) (out : List UInt8) (n : Nat), l.length ≤ k → out.length ≤ n → (textGo d out n l).good (n + l.length) ∧ ((textGo d out n l).code = 0 → n ≤ (textGo d out n l).fin ∧ (textGo d out n l).kind = 3)
  | k, [], d, out, n, _, ho => by
    rw [text_nil]
    exact ⟨Sg.good_err _ (by omega), fun h => by have : (5 : Int) = 0 := h; omega⟩
  | 0, c :: t, d, out, n, hk, ho => by simp at hk
  | k + 1, c :: t, d, out, n, hk, ho => by
    obtain ⟨p, j, hw⟩ : ∃ p j, withinL (c :: t) = (p, j) := ⟨_, _, rfl⟩
    have hl := within_len (c :: t)
    have hp := within_pos c t
    rw [hw] at hl hp
    rw [List.length_cons] at hk hl
    by_cases h : c.toNat = 41 ∧ d = 1
    · rw [text_end h.1 h.2]
      exact ⟨Sg.good_mk (by simp only [List.length_cons]; omega) (by simp only [List.length_cons]; omega) (by decide) (by decide), fun _ => ⟨Nat.le_succ _, rfl⟩⟩
    · by_cases hb : 65535 < out.length + p.length
      · rw [text_long h hw hb]
        exact ⟨Sg.good_err _ (by omega), fun h => by have : (8 : Int) = 0 := h; omega⟩
      · rw [text_step h hw hb]
        simp only at hl hp
        have ih := text_good k ((c :: t).drop j) (depthL d c) (out ++ p) (n + j) (by simp only [List.length_drop, List.length_cons]; omega) (by rw [List.length_append]; omega)
        have e : n + j + ((c :: t).drop j).length = n + (c :: t).length := by simp only [List.length_drop, List.length_cons]; omega
        rw [e] at ih
        exact ⟨ih.1, fun h => ⟨by have := (ih.2 h).1; omega, (ih.2 h).2⟩⟩
theorem pairsH_le : ∀ ds : List Nat, (pairsH ds).length ≤ ds.length
  | [] => Nat.le_refl _
  | [_] => Nat.le_refl _
  | a :: b :: r => by
    show (pairsH r).length + 1 ≤ r.length + 1 + 1
    have := pairsH_le r
    omega
theorem hex_good : ∀ (l : List UInt8) (ds : List Nat) (n : Nat), ds.length ≤ n → (hexGo ds n l).good (n + l.length) ∧ ((hexGo ds n l).code = 0 → n ≤ (hexGo ds n l).fin ∧ (hexGo ds n l).kind = 3)
  | [], ds, n, _ => ⟨Sg.good_err _ (by omega), fun h => by have : (5 : Int) = 0 := h; omega⟩
  | c :: t, ds, n, hn => by
    have herr : ∀ e : Int, e = 4 ∨ e = 8 → (Sg.err e).good (n + (c :: t).length) ∧ ((Sg.err e).code = 0 → n ≤ (Sg.err e).fin ∧ (Sg.err e).kind = 3) := fun e he =>
      ⟨Sg.good_err _ (by omega), fun h => by have : e = 0 := h; omega⟩
    have e : n + (c :: t).length = n + 1 + t.length := by rw [List.length_cons]; omega
    by_cases h : c.toNat = 62
    · rw [hex_end h]
      split
      · exact herr 8 (by omega)
      · have := pairsH_le ds
        exact ⟨Sg.good_mk (by simp only [List.length_cons]; omega) (by simp only [List.length_cons]; omega) (by decide) (by decide), fun _ => ⟨Nat.le_succ _, rfl⟩⟩
    · by_cases h2 : 0 ≤ hexI (c.toNat : Int)
      · rw [hex_put h h2]
        split
        · exact herr 8 (by omega)
        · have ih := hex_good t (ds ++ [(hexI (c.toNat : Int)).toNat]) (n + 1) (by simp; omega)
          rw [e]
          exact ⟨ih.1, fun h => ⟨by have := (ih.2 h).1; omega, (ih.2 h).2⟩⟩
      · by_cases h3 : kindI (c.toNat : Int) = 0
        · rw [hex_white h3]
          have ih := hex_good t ds (n + 1) (by omega)
          rw [e]
          exact ⟨ih.1, fun h => ⟨by have := (ih.2 h).1; omega, (ih.2 h).2⟩⟩
        · rw [hex_bad h h2 h3]
          exact herr 4 (by omega)
theorem looseL_code (l : List UInt8) : ((looseL l).2 = 0 ∨ (looseL l).2 = 3 ∨ (looseL l).2 = 4) ∧ -2147483648 ≤ (looseL l).1 ∧ (looseL l).1 ≤ 2147483647 := by
  have key : ∀ t, ((fixL t).2 = 0 ∨ (fixL t).2 = 3 ∨ (fixL t).2 = 4) ∧ 0 ≤ (fixL t).1 ∧ (fixL t).1 ≤ 2147483647 := fun t => by
    refine ⟨?_, fixL_bound t⟩
    unfold fixL
    split
    · exact .inr (.inr rfl)
    · split
      · exact .inr (.inl rfl)
      · exact .inl rfl
  unfold looseL
  split
  · split
    · rename_i t _
      have := key t
      exact ⟨this.1, by omega, by omega⟩
    · split
      · rename_i t _ _
        have := key t
        exact ⟨this.1, by omega, by omega⟩
      · rename_i c t _ _
        have := key (c :: t)
        exact ⟨this.1, by omega, by omega⟩
  · have := key []
    exact ⟨this.1, by omega, by omega⟩
theorem wordOf_good (w : List UInt8) : (wordOf w).good w.length ∧ ((wordOf w).code = 0 → (wordOf w).fin = w.length ∧ ((wordOf w).kind = 1 ∨ (wordOf w).kind = 8)) := by
  have hc := looseL_code w
  unfold wordOf
  split
  · exact ⟨Sg.good_mk (Nat.le_refl _) (Nat.zero_le _) hc.2 (by decide), fun _ => ⟨rfl, .inl rfl⟩⟩
  · split
    · exact ⟨Sg.good_err _ (by omega), fun h => by have : (3 : Int) = 0 := h; omega⟩
    · split
      · exact ⟨Sg.good_err _ (by omega), fun h => by have : (8 : Int) = 0 := h; omega⟩
      · exact ⟨Sg.good_mk (Nat.le_refl _) (Nat.le_refl _) (by decide) (by decide), fun _ => ⟨rfl, .inr rfl⟩⟩
theorem spanN_le (l : List UInt8) (zs : List Int) (k : Nat) : spanN l zs k ≤ l.length - k := by
  have := (List.takeWhile_prefix (fun c : UInt8 => zs.contains (kindI (c.toNat : Int))) (l := l.drop k)).length_le
  rw [List.length_drop] at this
  exact this
theorem span_regular {c : UInt8} {t : List UInt8} (h : kindI (c.toNat : Int) = 2) : 0 < spanN (c :: t) [2] 0 := by
  unfold spanN
  rw [List.drop_zero, List.takeWhile_cons_of_pos (by simp [h]), List.length_cons]; omega
theorem kind_regs {c : UInt8} (h : ¬ kindI (c.toNat : Int) = 0) (h0 : ¬ (c.toNat = 40 ∨ c.toNat = 41 ∨ c.toNat = 60 ∨ c.toNat = 62 ∨ c.toNat = 91 ∨ c.toNat = 93 ∨ c.toNat = 123 ∨ c.toNat = 125 ∨ c.toNat = 47 ∨ c.toNat = 37)) : kindI (c.toNat : Int) = 2 := by
  unfold kindI at *
  split at h
  · exact absurd rfl h
  · rename_i e
    rw [if_neg e, if_neg (by omega)]
theorem first_good (l : List UInt8) (h : ∀ c t, l = c :: t → ¬ kindI (c.toNat : Int) = 0 ∧ ¬ c.toNat = 37) :
    (firstL l).good l.length ∧ ((firstL l).code = 0 → ((firstL l).kind = 0 ∧ (firstL l).fin = 0 ∧ l = [] ∨ ¬ (firstL l).kind = 0 ∧ 0 < (firstL l).fin)) := by
  cases l with
  | nil => exact ⟨Sg.good_bare (by decide) (Nat.le_refl _), fun _ => .inl ⟨rfl, rfl, rfl⟩⟩
  | cons c t =>
    obtain ⟨hw, hn⟩ := h c t rfl
    have hl : (c :: t).length = 1 + t.length := by rw [List.length_cons]; omega
    have key : ∀ {a : Sg} {n : Nat}, 0 < n → a.good (c :: t).length ∧ (a.code = 0 → n ≤ a.fin ∧ ¬ a.kind = 0) → a.good (c :: t).length ∧ (a.code = 0 → (a.kind = 0 ∧ a.fin = 0 ∧ c :: t = [] ∨ ¬ a.kind = 0 ∧ 0 < a.fin)) := fun hn ⟨h1, h2⟩ =>
      ⟨h1, fun h => .inr ⟨(h2 h).2, Nat.lt_of_lt_of_le hn (h2 h).1⟩⟩
    have herr : (Sg.err 4).good (c :: t).length ∧ ((Sg.err 4).code = 0 → 1 ≤ (Sg.err 4).fin ∧ ¬ (Sg.err 4).kind = 0) := ⟨Sg.good_err _ (by omega), fun h => absurd (show (4 : Int) = 0 from h) (by decide)⟩
    have htwo : ∀ q, preB (c :: t) [q, q] = true → 2 ≤ (c :: t).length := fun q hq => (of_decide_eq_true hq).length_le
    unfold firstL
    simp only
    split
    · exact key (n := 1) (by omega) ⟨Sg.good_bare (by decide) (by omega), fun _ => ⟨Nat.le_refl _, by decide⟩⟩
    split
    · exact key (n := 1) (by omega) ⟨Sg.good_bare (by decide) (by omega), fun _ => ⟨Nat.le_refl _, by decide⟩⟩
    split
    · have g := name_good t.length t [] 1 (Nat.le_refl _) (by decide)
      rw [hl]
      exact hl ▸ key (n := 1) (by omega) ⟨by rw [hl]; exact g.1, fun h => ⟨(g.2 h).1, by rw [(g.2 h).2]; decide⟩⟩
    split
    · have g := text_good t.length t 1 [] 1 (Nat.le_refl _) (by decide)
      exact key (n := 1) (by omega) ⟨by rw [hl]; exact g.1, fun h => ⟨(g.2 h).1, by rw [(g.2 h).2]; decide⟩⟩
    split
    · split
      · rename_i hp
        exact key (n := 2) (by omega) ⟨Sg.good_bare (by decide) (htwo _ hp), fun _ => ⟨Nat.le_refl _, by decide⟩⟩
      · have g := hex_good t [] 1 (by decide)
        exact key (n := 1) (by omega) ⟨by rw [hl]; exact g.1, fun h => ⟨(g.2 h).1, by rw [(g.2 h).2]; decide⟩⟩
    split
    · split
      · rename_i hp
        exact key (n := 2) (by omega) ⟨Sg.good_bare (by decide) (htwo _ hp), fun _ => ⟨Nat.le_refl _, by decide⟩⟩
      · exact key (n := 1) (by omega) herr
    split
    · exact key (n := 1) (by omega) herr
    · have hr : kindI (c.toNat : Int) = 2 := kind_regs hw (by omega)
      have hs := span_regular (t := t) hr
      have hs2 := spanN_le (c :: t) [2] 0
      have g := wordOf_good ((c :: t).take (spanN (c :: t) [2] 0))
      have e : ((c :: t).take (spanN (c :: t) [2] 0)).length = spanN (c :: t) [2] 0 := by rw [List.length_take]; omega
      rw [e] at g
      have g1 := g.1
      refine key (n := 1) (by omega) ⟨⟨g1.1, by have := g1.2.1; show _ ≤ _; unfold wordL; omega, by have := g1.2.2.1; unfold wordL; omega, g1.2.2.2⟩, fun h => ⟨by have := (g.2 h).1; unfold wordL; omega, ?_⟩⟩
      rcases (g.2 h).2 with hk | hk <;> (unfold wordL; rw [hk]; decide)
theorem next_good (l : List UInt8) (k : Nat) (hk : k ≤ l.length) :
    (nextN l k).good l.length ∧ ((nextN l k).code = 0 → k ≤ (nextN l k).beg ∧ (nextN l k).beg ≤ (nextN l k).fin ∧ ((nextN l k).kind = 0 ↔ (nextN l k).fin = (nextN l k).beg)) := by
  have hs := skipN_le hk
  have g := first_good (l.drop (skipN l k)) (fun c t h => by
    unfold skipN at h
    rw [← List.drop_drop] at h
    exact skip_head (l.drop k) false c t h)
  unfold nextN Sg.put
  obtain ⟨⟨g1, g2, g3, g4, g5, g6⟩, g7⟩ := g
  rw [List.length_drop] at g2 g3
  by_cases h : (firstL (l.drop (skipN l k))).code = 0
  · rw [if_pos h]
    refine ⟨Sg.good_mk (by omega) (by omega) g4 g5, fun _ => ⟨?_, ?_, ?_⟩⟩
    · simp only; omega
    · simp only; omega
    · simp only
      rcases g7 h with ⟨a, b, _⟩ | ⟨a, b⟩
      · constructor <;> intro _ <;> omega
      · constructor <;> intro _ <;> omega
  · rw [if_neg h]
    exact ⟨Sg.good_err _ (by omega), fun e => absurd e h⟩

end Go.Proofs.Ytnjmapgmodoodaa
