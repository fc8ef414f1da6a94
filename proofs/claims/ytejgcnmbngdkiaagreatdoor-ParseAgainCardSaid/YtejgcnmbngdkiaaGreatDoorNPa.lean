/-
  PaPlain, PaGood: texts merged.
-/
import Derived.Test.YtejgcnmbngdkiaaGreatDoorNPlain
import Derived.Test.YtejgcnmbngdkiaaGreatDoorNVal
/-
  Texts as values, plainly: no program in sight.
-/
namespace Go.Proofs.YtejgcnmbngdkiaaGreatDoor
section
set_option autoImplicit false

/-- What is read: a value, where it ends, and the error, if there is one (-1: the fuel was out). -/
structure Ps where
  v : Val
  fin : Nat
  code : Int
def Ps.err (c : Int) : Ps := ⟨.null, 0, c⟩
def bitV (k n g : Int) (s : List UInt8) : Val := .mk k n g (bytes s) [] []
def trueL : List UInt8 := [116, 114, 117, 101]
def falseL : List UInt8 := [102, 97, 108, 115, 101]
def nullL : List UInt8 := [110, 117, 108, 108]
def overG (n g : Int) : Bool := decide (n < 1 ∨ 8388607 < n ∨ g < 0 ∨ 65535 < g)
/-- Is the sign at a place the end of a link? -/
def endsR (w : Sg) : Bool := decide (w.code = 0) && (decide (w.kind = 8) && decide (w.str = [82]))
def numberP (l : List UInt8) (t : Sg) : Ps :=
  if (nextN l t.fin).code = 0 ∧ (nextN l t.fin).kind = 1 ∧ endsR (nextN l (nextN l t.fin).fin) = true then
    (if overG t.num (nextN l t.fin).num = true then .err 3 else ⟨bitV 7 t.num (nextN l t.fin).num [], (nextN l (nextN l t.fin).fin).fin, 0⟩)
  else ⟨bitV 2 t.num 0 [], t.fin, 0⟩
def wordP (t : Sg) : Ps :=
  if t.str = trueL then ⟨bitV 1 1 0 [], t.fin, 0⟩ else if t.str = falseL then ⟨bitV 1 0 0 [], t.fin, 0⟩ else if t.str = nullL then ⟨.null, t.fin, 0⟩ else .err 4
def pairV (k : List UInt8) (v : Val) : ByteArray × Val := (bytes k, v)
mutual
/-- The value whose first sign was read, within so many others; what a list holds; what a dictionary holds. -/
def begunP (l : List UInt8) : Nat → Sg → Nat → Ps
  | 0, _, _ => .err (-1)
  | f + 1, t, d =>
    if t.kind = 0 then .err 5
    else if t.kind = 1 then numberP l t
    else if t.kind = 2 then ⟨bitV 3 0 0 t.str, t.fin, 0⟩
    else if t.kind = 3 then ⟨bitV 4 0 0 t.str, t.fin, 0⟩
    else if t.kind = 8 then wordP t
    else if t.kind = 5 ∨ t.kind = 7 then .err 4
    else if 64 ≤ d then .err 9
    else if t.kind = 4 then listP l f t.fin (d + 1) [] else dictP l f t.fin (d + 1) []
def listP (l : List UInt8) : Nat → Nat → Nat → List Val → Ps
  | 0, _, _, _ => .err (-1)
  | f + 1, k, d, acc =>
    if ¬ (nextN l k).code = 0 then .err (nextN l k).code
    else if (nextN l k).kind = 5 then ⟨.mk 5 0 0 (bytes []) acc [], (nextN l k).fin, 0⟩
    else if ¬ (begunP l f (nextN l k) d).code = 0 then .err (begunP l f (nextN l k) d).code
    else listP l f (begunP l f (nextN l k) d).fin d (acc ++ [(begunP l f (nextN l k) d).v])
def dictP (l : List UInt8) : Nat → Nat → Nat → Prs → Ps
  | 0, _, _, _ => .err (-1)
  | f + 1, k, d, acc =>
    if ¬ (nextN l k).code = 0 then .err (nextN l k).code
    else if (nextN l k).kind = 7 then ⟨.mk 6 0 0 (bytes []) [] acc, (nextN l k).fin, 0⟩
    else if (nextN l k).kind = 0 then .err 5
    else if ¬ (nextN l k).kind = 2 then .err 4
    else if hasK (bytes (nextN l k).str) acc = true then .err 11
    else if ¬ (nextN l (nextN l k).fin).code = 0 then .err (nextN l (nextN l k).fin).code
    else if ¬ (begunP l f (nextN l (nextN l k).fin) d).code = 0 then .err (begunP l f (nextN l (nextN l k).fin) d).code
    else dictP l f (begunP l f (nextN l (nextN l k).fin) d).fin d (acc ++ [pairV (nextN l k).str (begunP l f (nextN l (nextN l k).fin) d).v])
end
def readP (l : List UInt8) (f k d : Nat) : Ps := if ¬ (nextN l k).code = 0 then .err (nextN l k).code else begunP l f (nextN l k) d
/-- The value that begins at a place, plain; the value that a text is. -/
def valueP (l : List UInt8) (k : Nat) : Ps :=
  if ¬ (readP l (2 * l.length + 1) k 0).code = 0 then .err (readP l (2 * l.length + 1) k 0).code else ⟨plainV (readP l (2 * l.length + 1) k 0).v, (readP l (2 * l.length + 1) k 0).fin, 0⟩
def wholeV (l : List UInt8) : Val × Int :=
  if ¬ (valueP l 0).code = 0 then (.null, (valueP l 0).code)
  else if ¬ (nextN l (valueP l 0).fin).code = 0 then (.null, (nextN l (valueP l 0).fin).code)
  else if ¬ (nextN l (valueP l 0).fin).kind = 0 then (.null, 4) else ((valueP l 0).v, 0)

section
variable {l : List UInt8} {f d k : Nat} {t : Sg} {acc : List Val} {prs : Prs}
theorem begun_end (h : t.kind = 0) : begunP l (f + 1) t d = .err 5 := by rw [begunP, if_pos h]
theorem begun_num (h : t.kind = 1) : begunP l (f + 1) t d = numberP l t := by rw [begunP, if_neg (by omega), if_pos h]
theorem begun_name (h : t.kind = 2) : begunP l (f + 1) t d = ⟨bitV 3 0 0 t.str, t.fin, 0⟩ := by rw [begunP, if_neg (by omega), if_neg (by omega), if_pos h]
theorem begun_text (h : t.kind = 3) : begunP l (f + 1) t d = ⟨bitV 4 0 0 t.str, t.fin, 0⟩ := by rw [begunP, if_neg (by omega), if_neg (by omega), if_neg (by omega), if_pos h]
theorem begun_word (h : t.kind = 8) : begunP l (f + 1) t d = wordP t := by rw [begunP, if_neg (by omega), if_neg (by omega), if_neg (by omega), if_neg (by omega), if_pos h]
theorem begun_form (h : t.kind = 5 ∨ t.kind = 7) : begunP l (f + 1) t d = .err 4 := by rw [begunP, if_neg (by omega), if_neg (by omega), if_neg (by omega), if_neg (by omega), if_neg (by omega), if_pos h]
theorem begun_deep (h : t.kind = 4 ∨ t.kind = 6) (hd : 64 ≤ d) : begunP l (f + 1) t d = .err 9 := by
  rw [begunP, if_neg (by omega), if_neg (by omega), if_neg (by omega), if_neg (by omega), if_neg (by omega), if_neg (by omega), if_pos hd]
theorem begun_list (h : t.kind = 4) (hd : ¬ 64 ≤ d) : begunP l (f + 1) t d = listP l f t.fin (d + 1) [] := by
  rw [begunP, if_neg (by omega), if_neg (by omega), if_neg (by omega), if_neg (by omega), if_neg (by omega), if_neg (by omega), if_neg hd, if_pos h]
theorem begun_dict (h : t.kind = 6) (hd : ¬ 64 ≤ d) : begunP l (f + 1) t d = dictP l f t.fin (d + 1) [] := by
  rw [begunP, if_neg (by omega), if_neg (by omega), if_neg (by omega), if_neg (by omega), if_neg (by omega), if_neg (by omega), if_neg hd, if_neg (by omega)]
theorem list_err (h : ¬ (nextN l k).code = 0) : listP l (f + 1) k d acc = .err (nextN l k).code := by rw [listP, if_pos h]
theorem list_end (h : (nextN l k).code = 0) (h2 : (nextN l k).kind = 5) : listP l (f + 1) k d acc = ⟨.mk 5 0 0 (bytes []) acc [], (nextN l k).fin, 0⟩ := by rw [listP, if_neg (by simpa using h), if_pos h2]
theorem list_bad (h : (nextN l k).code = 0) (h2 : ¬ (nextN l k).kind = 5) (h3 : ¬ (begunP l f (nextN l k) d).code = 0) : listP l (f + 1) k d acc = .err (begunP l f (nextN l k) d).code := by
  rw [listP, if_neg (by simpa using h), if_neg h2, if_pos h3]
theorem list_step (h : (nextN l k).code = 0) (h2 : ¬ (nextN l k).kind = 5) (h3 : (begunP l f (nextN l k) d).code = 0) :
    listP l (f + 1) k d acc = listP l f (begunP l f (nextN l k) d).fin d (acc ++ [(begunP l f (nextN l k) d).v]) := by
  rw [listP, if_neg (by simpa using h), if_neg h2, if_neg (by simpa using h3)]
theorem dict_err (h : ¬ (nextN l k).code = 0) : dictP l (f + 1) k d prs = .err (nextN l k).code := by rw [dictP, if_pos h]
theorem dict_end (h : (nextN l k).code = 0) (h2 : (nextN l k).kind = 7) : dictP l (f + 1) k d prs = ⟨.mk 6 0 0 (bytes []) [] prs, (nextN l k).fin, 0⟩ := by rw [dictP, if_neg (by simpa using h), if_pos h2]
theorem dict_short (h : (nextN l k).code = 0) (h2 : (nextN l k).kind = 0) : dictP l (f + 1) k d prs = .err 5 := by rw [dictP, if_neg (by simpa using h), if_neg (by omega), if_pos h2]
theorem dict_form (h : (nextN l k).code = 0) (h2 : ¬ ((nextN l k).kind = 0 ∨ (nextN l k).kind = 7 ∨ (nextN l k).kind = 2)) : dictP l (f + 1) k d prs = .err 4 := by
  rw [dictP, if_neg (by simpa using h), if_neg (by omega), if_neg (by omega), if_pos (by omega)]
theorem dict_key (h : (nextN l k).code = 0) (h2 : (nextN l k).kind = 2) (h3 : hasK (bytes (nextN l k).str) prs = true) : dictP l (f + 1) k d prs = .err 11 := by
  rw [dictP, if_neg (by simpa using h), if_neg (by omega), if_neg (by omega), if_neg (by omega), if_pos h3]
theorem dict_read (h : (nextN l k).code = 0) (h2 : (nextN l k).kind = 2) (h3 : hasK (bytes (nextN l k).str) prs = false) (h4 : ¬ (readP l f (nextN l k).fin d).code = 0) : dictP l (f + 1) k d prs = .err (readP l f (nextN l k).fin d).code := by
  rw [dictP, if_neg (by simpa using h), if_neg (by omega), if_neg (by omega), if_neg (by omega), if_neg (by simpa using h3)]
  unfold readP at h4 ⊢
  by_cases e : (nextN l (nextN l k).fin).code = 0
  · have e' : ¬ ¬ (nextN l (nextN l k).fin).code = 0 := fun h => h e
    rw [if_neg e'] at h4 ⊢
    rw [if_pos h4, if_neg e']
  · rw [if_pos e, if_pos e]; rfl
theorem dict_step (h : (nextN l k).code = 0) (h2 : (nextN l k).kind = 2) (h3 : hasK (bytes (nextN l k).str) prs = false) (h4 : (readP l f (nextN l k).fin d).code = 0) :
    dictP l (f + 1) k d prs = dictP l f (readP l f (nextN l k).fin d).fin d (prs ++ [pairV (nextN l k).str (readP l f (nextN l k).fin d).v]) := by
  rw [dictP, if_neg (by simpa using h), if_neg (by omega), if_neg (by omega), if_neg (by omega), if_neg (by simpa using h3)]
  unfold readP at h4 ⊢
  by_cases e : (nextN l (nextN l k).fin).code = 0
  · have e' : ¬ ¬ (nextN l (nextN l k).fin).code = 0 := fun h => h e
    rw [if_neg e'] at h4
    rw [if_neg e', if_neg (fun h => h h4), if_neg e']
  · rw [if_pos e] at h4
    exact absurd h4 e
theorem pread_err (h : ¬ (nextN l k).code = 0) : readP l f k d = .err (nextN l k).code := by unfold readP; rw [if_pos h]
theorem pread_ok (h : (nextN l k).code = 0) : readP l f k d = begunP l f (nextN l k) d := by unfold readP; rw [if_neg (by simpa using h)]
end

/-! What signs hold. -/
def NoZero (l : List UInt8) : Prop := ∀ c ∈ l, ¬ c.toNat = 0
structure Sg.held (a : Sg) : Prop where
  num : -2147483647 ≤ a.num ∧ a.num ≤ 2147483647
  name : a.kind = 2 → a.str.length ≤ 127 ∧ NoZero a.str
  text : a.str.length ≤ 65535
theorem num_zero : (-2147483647 : Int) ≤ 0 ∧ (0 : Int) ≤ 2147483647 := by decide
theorem held_err (c : Int) : (Sg.err c).held := ⟨num_zero, fun h => by (cases h), Nat.zero_le _⟩
theorem held_bare (k : Int) (e : Nat) (h : ¬ k = 2) : (Sg.bare k e).held := ⟨num_zero, fun h' => absurd h' h, Nat.zero_le _⟩
theorem hid_zero {l : List UInt8} {b : UInt8} (h : hidL l = some b) : ¬ b.toNat = 0 := by
  match l, h with
  | c :: x :: y :: t, h =>
    simp only [hidL] at h
    split at h
    · cases h
    · rename_i hn
      injection h with h
      rw [← h]
      have h1 := hexI_range x
      have h2 := hexI_range y
      rw [UInt8.toNat_ofNat_of_lt' (by show _ < 256; omega)]
      omega
theorem name_held : ∀ (k : Nat) (l out : List UInt8) (n : Nat), l.length ≤ k → out.length ≤ 127 → NoZero out → (nameGo out n l).held
  | k, [], out, n, _, ho, hz => by rw [name_nil]; exact ⟨num_zero, fun _ => ⟨ho, hz⟩, by show out.length ≤ _; omega⟩
  | 0, c :: t, out, n, hk, ho, hz => by simp at hk
  | k + 1, c :: t, out, n, hk, ho, hz => by
    rw [List.length_cons] at hk
    have snoc : ∀ b : UInt8, ¬ b.toNat = 0 → NoZero (out ++ [b]) := fun b hb x hx => by
      rcases List.mem_append.1 hx with e | e
      · exact hz x e
      · obtain rfl := List.mem_singleton.1 e; exact hb
    by_cases h : kindI (c.toNat : Int) = 2
    · by_cases h2 : c.toNat = 35
      · cases h3 : hidL (c :: t) with
        | none => rw [name_form h h2 h3]; exact held_err 4
        | some b =>
          rw [name_hid h h2 h3]
          split
          · exact held_err 8
          · exact name_held k _ _ _ (by rw [List.length_drop]; omega) (by rw [List.length_append]; show out.length + 1 ≤ _; omega) (snoc b (hid_zero h3))
      · rw [name_plain h h2]
        split
        · exact held_err 8
        · exact name_held k _ _ _ (by omega) (by rw [List.length_append]; show out.length + 1 ≤ _; omega) (snoc c fun e => by rw [e] at h; exact absurd h (by decide))
    · rw [name_end h]
      exact ⟨num_zero, fun _ => ⟨ho, hz⟩, by show out.length ≤ _; omega⟩
theorem text_held : ∀ (k : Nat) (l : List UInt8) (d : Nat) (out : List UInt8) (n : Nat), l.length ≤ k → out.length ≤ 65535 → (textGo d out n l).held
  | k, [], d, out, n, _, _ => by rw [text_nil]; exact held_err 5
  | 0, c :: t, d, out, n, hk, _ => by simp at hk
  | k + 1, c :: t, d, out, n, hk, ho => by
    by_cases h : c.toNat = 41 ∧ d = 1
    · rw [text_end h.1 h.2]
      exact ⟨num_zero, fun h => by (cases h), ho⟩
    · obtain ⟨p, j, hw⟩ : ∃ p j, withinL (c :: t) = (p, j) := ⟨_, _, rfl⟩
      have hp := within_pos c t
      rw [hw] at hp
      by_cases hl : 65535 < out.length + p.length
      · rw [text_long h hw hl]; exact held_err 8
      · rw [text_step h hw hl]
        exact text_held k _ _ _ _ (by simp only [List.length_drop]; dsimp only at hp; omega) (by rw [List.length_append]; omega)
theorem pairsH_length : ∀ ds : List Nat, (pairsH ds).length ≤ (ds.length + 1) / 2
  | [] => Nat.zero_le _
  | [_] => by simp [pairsH]
  | a :: b :: r => by
    show (pairsH r).length + 1 ≤ (r.length + 1 + 1 + 1) / 2
    have := pairsH_length r
    omega
theorem hex_held : ∀ (l : List UInt8) (ds : List Nat) (n : Nat), (hexGo ds n l).held
  | [], ds, n => held_err 5
  | c :: t, ds, n => by
    by_cases h : c.toNat = 62
    · rw [hex_end h]
      split
      · exact held_err 8
      · have := pairsH_length ds
        exact ⟨num_zero, fun h => by have : (3 : Int) = 2 := h; omega, by show (pairsH ds).length ≤ _; omega⟩
    · by_cases h2 : 0 ≤ hexI (c.toNat : Int)
      · rw [hex_put h h2]
        split
        · exact held_err 8
        · exact hex_held t _ _
      · by_cases h3 : kindI (c.toNat : Int) = 0
        · rw [hex_white h3]; exact hex_held t _ _
        · rw [hex_bad h h2 h3]; exact held_err 4
theorem looseL_num (l : List UInt8) : -2147483647 ≤ (looseL l).1 ∧ (looseL l).1 ≤ 2147483647 := by
  have key : ∀ t, 0 ≤ (fixL t).1 ∧ (fixL t).1 ≤ 2147483647 := fixL_bound
  unfold looseL
  split
  · split
    · rename_i t _
      have := key t
      exact ⟨by dsimp only; omega, by dsimp only; omega⟩
    · split
      · rename_i t _ _
        have := key t
        exact ⟨by omega, by omega⟩
      · rename_i c t _ _
        have := key (c :: t)
        exact ⟨by omega, by omega⟩
  · have := key []
    exact ⟨by omega, by omega⟩
theorem wordOf_held (w : List UInt8) : (wordOf w).held := by
  have hc := looseL_num w
  unfold wordOf
  split
  · exact ⟨hc, fun h => by have : (1 : Int) = 2 := h; omega, Nat.zero_le _⟩
  · split
    · exact held_err 3
    · split
      · exact held_err 8
      · exact ⟨num_zero, fun h => by have : (8 : Int) = 2 := h; omega, by show w.length ≤ _; omega⟩
theorem first_held (l : List UInt8) : (firstL l).held := by
  cases l with
  | nil => exact held_bare 0 0 (by decide)
  | cons c t =>
    unfold firstL
    simp only
    repeat' split
    · exact held_bare _ _ (by decide)
    · exact held_bare _ _ (by decide)
    · exact name_held t.length t [] 1 (Nat.le_refl _) (by decide) (fun _ h => absurd h List.not_mem_nil)
    · exact text_held t.length t 1 [] 1 (Nat.le_refl _) (by decide)
    · exact held_bare _ _ (by decide)
    · exact hex_held t [] 1
    · exact held_bare _ _ (by decide)
    · exact held_err 4
    · exact held_err 4
    · exact wordOf_held _
theorem next_held (l : List UInt8) (k : Nat) : (nextN l k).held := by
  have h := first_held (l.drop (skipN l k))
  unfold nextN Sg.put
  split
  · exact ⟨h.num, h.name, h.text⟩
  · exact held_err _
end
end Go.Proofs.YtejgcnmbngdkiaaGreatDoor
/-
  What is read: where it ends, how great it is, that it may be; that the fuel isn't out. Plainly.
-/
namespace Go.Proofs.YtejgcnmbngdkiaaGreatDoor
section
set_option autoImplicit false

structure Sg.sound (l : List UInt8) (t : Sg) : Prop where
  held : t.held
  fin : t.fin ≤ l.length
  str : t.str.length ≤ l.length
  kind : 0 ≤ t.kind ∧ t.kind ≤ 8
theorem next_sound (l : List UInt8) (k : Nat) (hk : k ≤ l.length) : (nextN l k).sound l := by
  have g := (next_good l k hk).1
  exact ⟨next_held l k, g.2.1, g.2.2.1, g.2.2.2.2.1⟩
theorem next_code (l : List UInt8) (k : Nat) (hk : k ≤ l.length) : (nextN l k).code = 0 ∨ 3 ≤ (nextN l k).code := by
  have g := (next_good l k hk).1.2.2.2.2.2
  omega

theorem bit_short {k n g : Int} {s : List UInt8} {m : Nat} (h : s.length ≤ m) : shortV (bitV k n g s) m = true := by
  unfold bitV
  rw [shortV_eq]
  simp [shortL, shortD, bytes_size, h]
theorem zeroS_no {s : List UInt8} (h : NoZero s) : zeroS (bytes s) = false := by
  unfold zeroS
  rw [bytes_data, List.any_eq_false]
  intro c hc
  have := h c hc
  simpa using this
theorem outV_mk (k n g : Int) (s : ByteArray) (l : List Val) (p : Prs) : outV (.mk k n g s l p) = if k = 1 then decide (n ≠ 0 ∧ n ≠ 1) else if k = 2 then decide (n < -2147483647 ∨ 2147483647 < n)
  else if k = 7 then decide (n < 1 ∨ 8388607 < n ∨ g < 0 ∨ 65535 < g) else false := rfl
theorem bit_check {k n g : Int} {s : List UInt8} (d : Int) (hk : 0 ≤ k ∧ k ≤ 7 ∧ k ≠ 5 ∧ k ≠ 6) (hn : n = 0 ∨ k = 1 ∨ k = 2 ∨ k = 7) (hg : g = 0 ∨ k = 7) (hs : s = [] ∨ k = 3 ∨ k = 4)
    (h1 : k = 1 → n = 0 ∨ n = 1) (h2 : k = 2 → -2147483647 ≤ n ∧ n ≤ 2147483647) (h7 : k = 7 → 1 ≤ n ∧ n ≤ 8388607 ∧ 0 ≤ g ∧ g ≤ 65535)
    (h3 : k = 3 → s.length ≤ 127 ∧ NoZero s) (h4 : k = 4 → s.length ≤ 65535) : checkV (bitV k n g s) false d = 0 := by
  have hsl : s.length = 0 ∨ k = 3 ∨ k = 4 := hs.imp (fun h => by rw [h]; rfl) id
  refine checkV_zero.2 ⟨oneV_zero.2 ⟨?_, ?_, ?_, ?_, ?_, ?_⟩, rfl, rfl⟩
  · simp only [bitV, Val.kind_mk]; omega
  · rintro (h | ⟨h, hz⟩)
    · unfold extraV bitV at h
      simp only [Val.kind_mk, Val.n_mk, Val.g_mk, Val.s_mk, Val.l_mk, Val.d_mk, bytes_size, List.length_nil, decide_eq_true_eq] at h
      omega
    · simp only [bitV, Val.kind_mk, Val.s_mk] at h hz
      rw [zeroS_no (h3 h).2] at hz
      cases hz
  · unfold bitV
    rw [outV_mk]
    split
    · exact decide_eq_false (by have := h1 (by assumption); omega)
    split
    · exact decide_eq_false (by have := h2 (by assumption); omega)
    split
    · exact decide_eq_false (by have := h7 (by assumption); omega)
    · rfl
  · simp only [bitV, Val.kind_mk, Val.s_mk, bytes_size]
    intro h
    rcases h with ⟨h, h'⟩ | ⟨h, h'⟩
    · have := (h3 h).1; omega
    · have := h4 h; omega
  · simp only [bitV, Val.kind_mk]; omega
  · rintro ⟨h, _⟩
    have h' : (decide (k = 5) || decide (k = 6) || decide (k = 8)) = true := h
    simp only [Bool.or_eq_true, decide_eq_true_eq] at h'
    omega

/-- What is read: where its first sign ended, within so many others. -/
structure Ps.fine (l : List UInt8) (R : Ps) (k d : Nat) : Prop where
  lo : k ≤ R.fin
  hi : R.fin ≤ l.length
  size : sizeV R.v + k ≤ R.fin + 1
  short : l.length ≤ 3000 → shortV R.v 3000 = true
  check : checkV R.v false (d : Int) = 0
theorem err_code {c : Int} (hc : ¬ c = 0) {P : Prop} (h : (Ps.err c).code = 0) : P := absurd h hc
theorem number_fine {l : List UInt8} {t : Sg} {d : Nat} (ht : t.sound l) (h : (numberP l t).code = 0) : (numberP l t).fine l t.fin d := by
  have hu := next_sound l t.fin ht.fin
  have hw := next_sound l (nextN l t.fin).fin hu.fin
  unfold numberP at h ⊢
  split at h
  · rename_i hc
    rw [if_pos hc]
    split at h
    · exact absurd h (by decide)
    · rename_i ho
      rw [if_neg ho]
      unfold overG at ho
      simp only [decide_eq_true_eq] at ho
      have s1 := next_step ht.fin hc.1 (by rw [hc.2.1]; decide)
      have he := hc.2.2
      unfold endsR at he
      simp only [Bool.and_eq_true, decide_eq_true_eq] at he
      have s2 := next_step hu.fin he.1 (by rw [he.2.1]; decide)
      exact ⟨by dsimp only; omega, s2.2, by show 1 + _ ≤ _; dsimp only; omega, fun _ => bit_short (Nat.zero_le _), bit_check _ (by decide) (.inr (.inr (.inr rfl))) (.inr rfl) (.inl rfl) (fun h => by omega) (fun h => by omega) (fun _ => by omega) (fun h => by omega) (fun h => by omega)⟩
  · rename_i hc
    rw [if_neg hc]
    exact ⟨Nat.le_refl _, ht.fin, by show 1 + _ ≤ _; dsimp only; omega, fun _ => bit_short (Nat.zero_le _), bit_check _ (by decide) (.inr (.inr (.inl rfl))) (.inl rfl) (.inl rfl) (fun h => by omega) (fun _ => ht.held.num) (fun h => by omega) (fun h => by omega) (fun h => by omega)⟩
theorem word_fine {l : List UInt8} {t : Sg} {d : Nat} (ht : t.sound l) (h : (wordP t).code = 0) : (wordP t).fine l t.fin d := by
  unfold wordP at h ⊢
  split at h
  · rename_i hc
    rw [if_pos hc]
    exact ⟨Nat.le_refl _, ht.fin, by show 1 + _ ≤ _; dsimp only; omega, fun _ => bit_short (Nat.zero_le _), bit_check _ (by decide) (.inr (.inl rfl)) (.inl rfl) (.inl rfl) (fun _ => .inr rfl) (fun h => by omega) (fun h => by omega) (fun h => by omega) (fun h => by omega)⟩
  · rename_i hc1
    rw [if_neg hc1]
    split at h
    · rename_i hc
      rw [if_pos hc]
      exact ⟨Nat.le_refl _, ht.fin, by show 1 + _ ≤ _; dsimp only; omega, fun _ => bit_short (Nat.zero_le _), bit_check _ (by decide) (.inr (.inl rfl)) (.inl rfl) (.inl rfl) (fun _ => .inl rfl) (fun h => by omega) (fun h => by omega) (fun h => by omega) (fun h => by omega)⟩
    · rename_i hc2
      rw [if_neg hc2]
      split at h
      · rename_i hc
        rw [if_pos hc]
        exact ⟨Nat.le_refl _, ht.fin, by show 1 + _ ≤ _; dsimp only; omega, fun _ => rfl, bit_check (s := []) _ (by decide) (.inl rfl) (.inl rfl) (.inl rfl) (fun h => by omega) (fun h => by omega) (fun h => by omega) (fun h => by omega) (fun h => by omega)⟩
      · exact absurd h (by decide)
theorem holder_check {k : Int} {l : List Val} {p : Prs} {d : Nat} (hk : k = 5 ∧ p = [] ∨ k = 6 ∧ l = []) (hd : d < 64) (hl : ∀ x ∈ l, checkV x false ((d + 1 : Nat) : Int) = 0)
    (hp : ∀ q ∈ p, (q.1.size ≤ 127 ∧ zeroS q.1 = false) ∧ checkV q.2 false ((d + 1 : Nat) : Int) = 0) (hw : (p.map Prod.fst).Pairwise (· ≠ ·)) : checkV (.mk k 0 0 (bytes []) l p) false (d : Int) = 0 := by
  refine checkV_zero.2 ⟨oneV_zero.2 ⟨?_, ?_, ?_, ?_, ?_, ?_⟩, checkL_zero.2 ?_, checkD_zero.2 ⟨?_, hw⟩⟩
  · simp only [Val.kind_mk]; omega
  · rintro (h | ⟨h, hz⟩)
    · unfold extraV at h
      simp only [Val.kind_mk, Val.n_mk, Val.g_mk, Val.s_mk, Val.l_mk, Val.d_mk, bytes_size, List.length_nil, decide_eq_true_eq] at h
      rcases hk with ⟨hk, hp⟩ | ⟨hk, hl⟩
      · rw [hp, List.length_nil] at h; omega
      · rw [hl, List.length_nil] at h; omega
    · simp only [Val.kind_mk] at h
      omega
  · rw [outV_mk, if_neg (by omega), if_neg (by omega), if_neg (by omega)]
  · simp only [Val.kind_mk]; omega
  · simp only [Val.kind_mk]; omega
  · omega
  · intro x hx; exact hl x hx
  · intro q hq
    have := hp q hq
    exact ⟨⟨this.1.1, this.1.2, List.not_mem_nil⟩, this.2⟩
theorem sizeL_snoc (v : Val) : ∀ l : List Val, sizeL (l ++ [v]) = sizeL l + sizeV v
  | [] => by simp [sizeL]
  | x :: t => by rw [List.cons_append, sizeL, sizeL, sizeL_snoc v t]; omega
theorem sizeD_snoc (k : List UInt8) (v : Val) : ∀ p : Prs, sizeD (p ++ [pairV k v]) = sizeD p + sizeV v
  | [] => by simp [sizeD, pairV]
  | (a, x) :: t => by rw [List.cons_append, sizeD, sizeD, sizeD_snoc k v t]; omega
theorem hasK_no {k : ByteArray} {p : Prs} (h : hasK k p = false) : ∀ q ∈ p, q.1 ≠ k := by
  unfold hasK at h
  rw [List.any_eq_false] at h
  intro q hq
  have := h q hq
  simpa using this

/-- What holds of a row of elements, of pairs, that were read. -/
def RowL (l : List UInt8) (d : Nat) (acc : List Val) : Prop := ∀ x ∈ acc, (l.length ≤ 3000 → shortV x 3000 = true) ∧ checkV x false ((d + 1 : Nat) : Int) = 0
def RowD (l : List UInt8) (d : Nat) (p : Prs) : Prop :=
  (∀ q ∈ p, (q.1.size ≤ 127 ∧ zeroS q.1 = false) ∧ (l.length ≤ 3000 → shortV q.2 3000 = true) ∧ checkV q.2 false ((d + 1 : Nat) : Int) = 0) ∧ (p.map Prod.fst).Pairwise (· ≠ ·)
/-- What is read behind what opens a holder, from a place on, behind so many values. -/
structure Ps.fineL (l : List UInt8) (R : Ps) (k d n : Nat) : Prop where
  lo : k < R.fin
  hi : R.fin ≤ l.length
  size : sizeV R.v + k ≤ R.fin + n
  short : l.length ≤ 3000 → shortV R.v 3000 = true
  check : checkV R.v false (d : Int) = 0
theorem reads_fine (l : List UInt8) : ∀ f : Nat,
    (∀ t d, t.sound l → (begunP l f t d).code = 0 → (begunP l f t d).fine l t.fin d) ∧
    (∀ k d acc, k ≤ l.length → d < 64 → RowL l d acc → (listP l f k (d + 1) acc).code = 0 → (listP l f k (d + 1) acc).fineL l k d (sizeL acc)) ∧
    (∀ k d p, k ≤ l.length → d < 64 → RowD l d p → (dictP l f k (d + 1) p).code = 0 → (dictP l f k (d + 1) p).fineL l k d (sizeD p))
  | 0 => ⟨fun t d _ h => by rw [begunP] at h; exact absurd h (by decide), fun k d acc _ _ _ h => by rw [listP] at h; exact absurd h (by decide), fun k d acc _ _ _ h => by rw [dictP] at h; exact absurd h (by decide)⟩
  | f + 1 => by
    obtain ⟨ihb, ihl, ihd⟩ := reads_fine l f
    refine ⟨fun t d ht h => ?_, fun k d acc hk hd ha h => ?_, fun k d p hk hd ha h => ?_⟩
    · have hkd := ht.kind
      have hcs : t.kind = 0 ∨ t.kind = 1 ∨ t.kind = 2 ∨ t.kind = 3 ∨ t.kind = 4 ∨ (t.kind = 5 ∨ t.kind = 7) ∨ t.kind = 6 ∨ t.kind = 8 := by omega
      rcases hcs with e | e | e | e | e | e | e | e
      · rw [begun_end e] at h; exact absurd h (by decide)
      · rw [begun_num e] at h ⊢; exact number_fine ht h
      · rw [begun_name e]
        have hn := ht.held.name e
        exact ⟨Nat.le_refl _, ht.fin, by show 1 + _ ≤ _; dsimp only; omega, fun _ => bit_short (by omega), bit_check _ (by decide) (.inl rfl) (.inl rfl) (.inr (.inl rfl)) (fun h => by omega) (fun h => by omega) (fun h => by omega) (fun _ => hn) (fun h => by omega)⟩
      · rw [begun_text e]
        have hn := ht.held.text
        have hs := ht.str
        exact ⟨Nat.le_refl _, ht.fin, by show 1 + _ ≤ _; dsimp only; omega, fun _ => bit_short (by omega), bit_check _ (by decide) (.inl rfl) (.inl rfl) (.inr (.inr rfl)) (fun h => by omega) (fun h => by omega) (fun h => by omega) (fun h => by omega) (fun _ => hn)⟩
      · by_cases hd : 64 ≤ d
        · rw [begun_deep (.inl e) hd] at h; exact absurd h (by decide)
        · rw [begun_list e hd] at h ⊢
          have q := ihl t.fin d [] ht.fin (by omega) (fun x hx => absurd hx List.not_mem_nil) h
          have q3 := q.size
          have q1 := q.lo
          rw [sizeL] at q3
          exact ⟨by omega, q.hi, by omega, q.short, q.check⟩
      · rw [begun_form e] at h; exact absurd h (by decide)
      · by_cases hd : 64 ≤ d
        · rw [begun_deep (.inr e) hd] at h; exact absurd h (by decide)
        · rw [begun_dict e hd] at h ⊢
          have q := ihd t.fin d [] ht.fin (by omega) ⟨fun x hx => absurd hx List.not_mem_nil, List.Pairwise.nil⟩ h
          have q3 := q.size
          have q1 := q.lo
          rw [sizeD] at q3
          exact ⟨by omega, q.hi, by omega, q.short, q.check⟩
      · rw [begun_word e] at h ⊢; exact word_fine ht h
    · by_cases h1 : (nextN l k).code = 0
      · have ht := next_sound l k hk
        by_cases h2 : (nextN l k).kind = 5
        · rw [list_end h1 h2]
          have hs := next_step hk h1 (by rw [h2]; decide)
          refine ⟨hs.1, hs.2, by rw [sizeV_eq]; simp only [Val.l_mk, Val.d_mk, sizeD]; omega, fun hl => ?_, ?_⟩
          · rw [shortV_eq, Val.s_mk, Val.l_mk, Val.d_mk, Bool.and_eq_true, Bool.and_eq_true]
            exact ⟨by rw [bytes_size]; decide, shortL_iff.2 fun x hx => (ha x hx).1 hl, rfl⟩
          · exact holder_check (.inl ⟨rfl, rfl⟩) hd (fun x hx => (ha x hx).2) (fun q hq => absurd hq List.not_mem_nil) List.Pairwise.nil
        · by_cases h3 : (begunP l f (nextN l k) (d + 1)).code = 0
          · rw [list_step h1 h2 h3] at h ⊢
            have b := ihb _ (d + 1) ht h3
            have h0 : ¬ (nextN l k).kind = 0 := fun e => by
              cases f with
              | zero => rw [begunP] at h3; exact absurd h3 (by decide)
              | succ f => rw [begun_end e] at h3; exact absurd h3 (by decide)
            have hs := next_step hk h1 h0
            have q := ihl _ d (acc ++ [(begunP l f (nextN l k) (d + 1)).v]) b.hi hd (fun x hx => by
              rcases List.mem_append.1 hx with e | e
              · exact ha x e
              · obtain rfl := List.mem_singleton.1 e
                exact ⟨b.short, b.check⟩) h
            have q3 := q.size
            have q1 := q.lo
            have b1 := b.lo
            have b3 := b.size
            rw [sizeL_snoc] at q3
            exact ⟨by omega, q.hi, by omega, q.short, q.check⟩
          · rw [list_bad h1 h2 h3] at h; exact absurd h h3
      · rw [list_err h1] at h; exact absurd h h1
    · by_cases h1 : (nextN l k).code = 0
      · have ht := next_sound l k hk
        by_cases h7 : (nextN l k).kind = 7
        · rw [dict_end h1 h7]
          have hs := next_step hk h1 (by rw [h7]; decide)
          refine ⟨hs.1, hs.2, by rw [sizeV_eq]; simp only [Val.l_mk, Val.d_mk, sizeL]; omega, fun hl => ?_, ?_⟩
          · rw [shortV_eq, Val.s_mk, Val.l_mk, Val.d_mk, Bool.and_eq_true, Bool.and_eq_true]
            exact ⟨by rw [bytes_size]; decide, rfl, shortD_iff.2 fun x hx => ⟨by have := (ha.1 x hx).1.1; omega, (ha.1 x hx).2.1 hl⟩⟩
          · exact holder_check (.inr ⟨rfl, rfl⟩) hd (fun q hq => absurd hq List.not_mem_nil) (fun x hx => ⟨(ha.1 x hx).1, (ha.1 x hx).2.2⟩) ha.2
        · by_cases h0 : (nextN l k).kind = 0
          · rw [dict_short h1 h0] at h; exact absurd h (by decide)
          · by_cases h2 : (nextN l k).kind = 2
            · cases h4 : hasK (bytes (nextN l k).str) p with
              | true => rw [dict_key h1 h2 h4] at h; exact absurd h (by decide)
              | false =>
                have hs := next_step hk h1 h0
                by_cases h3 : (readP l f (nextN l k).fin (d + 1)).code = 0
                · rw [dict_step h1 h2 h4 h3] at h ⊢
                  have hu : (nextN l (nextN l k).fin).code = 0 := by
                    by_cases e : (nextN l (nextN l k).fin).code = 0
                    · exact e
                    · rw [pread_err e] at h3; exact absurd h3 e
                  have hus := next_sound l (nextN l k).fin ht.fin
                  have hug := (next_good l (nextN l k).fin ht.fin).2 hu
                  rw [pread_ok hu] at h h3 ⊢
                  have b := ihb _ (d + 1) hus h3
                  have hn := ht.held.name h2
                  have q := ihd _ d (p ++ [pairV (nextN l k).str (begunP l f (nextN l (nextN l k).fin) (d + 1)).v]) b.hi hd ⟨fun x hx => by
                    rcases List.mem_append.1 hx with e | e
                    · exact ha.1 x e
                    · obtain rfl := List.mem_singleton.1 e
                      exact ⟨⟨by show (bytes _).size ≤ _; rw [bytes_size]; exact hn.1, zeroS_no hn.2⟩, b.short, b.check⟩, by
                    rw [List.map_append, List.pairwise_append]
                    refine ⟨ha.2, by simp, fun x hx y hy => ?_⟩
                    obtain ⟨z, hz, rfl⟩ := List.mem_map.1 hx
                    obtain rfl : y = bytes (nextN l k).str := by simpa [pairV] using hy
                    exact hasK_no h4 z hz⟩ h
                  have q3 := q.size
                  have q1 := q.lo
                  have b1 := b.lo
                  have b3 := b.size
                  rw [sizeD_snoc] at q3
                  exact ⟨by omega, q.hi, by omega, q.short, q.check⟩
                · rw [dict_read h1 h2 h4 h3] at h; exact absurd h h3
            · rw [dict_form h1 (by omega)] at h; exact absurd h (by decide)
      · rw [dict_err h1] at h; exact absurd h h1

/-! The fuel isn't out. -/
theorem number_code (l : List UInt8) (t : Sg) : ¬ (numberP l t).code = -1 := by
  unfold numberP; repeat' split
  all_goals first | exact (by decide : ¬ (0 : Int) = -1) | exact (by decide : ¬ (3 : Int) = -1)
theorem word_code (t : Sg) : ¬ (wordP t).code = -1 := by
  unfold wordP; repeat' split
  all_goals first | exact (by decide : ¬ (0 : Int) = -1) | exact (by decide : ¬ (4 : Int) = -1)
theorem err_not {c : Int} (h : ¬ c = -1) : ¬ (Ps.err c).code = -1 := h
theorem reads_fuel (l : List UInt8) : ∀ f : Nat,
    (∀ k d, k ≤ l.length → (nextN l k).code = 0 → 2 * (l.length - k) + 1 ≤ f → ¬ (begunP l f (nextN l k) d).code = -1) ∧
    (∀ k d acc, k ≤ l.length → 2 * (l.length - k) + 2 ≤ f → d < 64 → ¬ (listP l f k (d + 1) acc).code = -1) ∧
    (∀ k d p, k ≤ l.length → 2 * (l.length - k) + 2 ≤ f → d < 64 → ¬ (dictP l f k (d + 1) p).code = -1)
  | 0 => ⟨fun k d _ _ h => by omega, fun k d acc _ h => by omega, fun k d acc _ h => by omega⟩
  | f + 1 => by
    obtain ⟨ihb, ihl, ihd⟩ := reads_fuel l f
    refine ⟨fun k d hk h1 hf => ?_, fun k d acc hk hf hd => ?_, fun k d p hk hf hd => ?_⟩
    · have ht := next_sound l k hk
      have hkd := ht.kind
      have hst := fun h0 => next_step hk h1 h0
      have hcs : (nextN l k).kind = 0 ∨ (nextN l k).kind = 1 ∨ (nextN l k).kind = 2 ∨ (nextN l k).kind = 3 ∨ (nextN l k).kind = 4 ∨ ((nextN l k).kind = 5 ∨ (nextN l k).kind = 7) ∨ (nextN l k).kind = 6 ∨ (nextN l k).kind = 8 := by omega
      rcases hcs with e | e | e | e | e | e | e | e
      · rw [begun_end e]; decide
      · rw [begun_num e]; exact number_code _ _
      · rw [begun_name e]; exact (by decide : ¬ (0 : Int) = -1)
      · rw [begun_text e]; exact (by decide : ¬ (0 : Int) = -1)
      · have hs := hst (by rw [e]; decide)
        by_cases hd : 64 ≤ d
        · rw [begun_deep (.inl e) hd]; decide
        · rw [begun_list e hd]; exact ihl _ _ _ hs.2 (by omega) (by omega)
      · rw [begun_form e]; decide
      · have hs := hst (by rw [e]; decide)
        by_cases hd : 64 ≤ d
        · rw [begun_deep (.inr e) hd]; decide
        · rw [begun_dict e hd]; exact ihd _ _ _ hs.2 (by omega) (by omega)
      · rw [begun_word e]; exact word_code _
    · by_cases h1 : (nextN l k).code = 0
      · by_cases h2 : (nextN l k).kind = 5
        · rw [list_end h1 h2]; exact (by decide : ¬ (0 : Int) = -1)
        · have hb := ihb k (d + 1) hk h1 (by omega)
          by_cases h3 : (begunP l f (nextN l k) (d + 1)).code = 0
          · rw [list_step h1 h2 h3]
            have b := (reads_fine l f).1 _ (d + 1) (next_sound l k hk) h3
            have h0 : ¬ (nextN l k).kind = 0 := fun e => by
              cases f with
              | zero => rw [begunP] at h3; exact absurd h3 (by decide)
              | succ f => rw [begun_end e] at h3; exact absurd h3 (by decide)
            have hs := next_step hk h1 h0
            have b1 := b.lo
            exact ihl _ _ _ b.hi (by omega) hd
          · rw [list_bad h1 h2 h3]; exact hb
      · rw [list_err h1]
        have := next_code l k hk
        exact err_not (by omega)
    · by_cases h1 : (nextN l k).code = 0
      · have ht := next_sound l k hk
        have hkd := ht.kind
        by_cases h7 : (nextN l k).kind = 7
        · rw [dict_end h1 h7]; exact (by decide : ¬ (0 : Int) = -1)
        · by_cases h0 : (nextN l k).kind = 0
          · rw [dict_short h1 h0]; decide
          · by_cases h2 : (nextN l k).kind = 2
            · cases h4 : hasK (bytes (nextN l k).str) p with
              | true => rw [dict_key h1 h2 h4]; decide
              | false =>
                have hs := next_step hk h1 h0
                by_cases hu : (nextN l (nextN l k).fin).code = 0
                · have hb := ihb (nextN l k).fin (d + 1) ht.fin hu (by omega)
                  rw [← pread_ok hu] at hb
                  by_cases h3 : (readP l f (nextN l k).fin (d + 1)).code = 0
                  · rw [dict_step h1 h2 h4 h3]
                    rw [pread_ok hu] at h3 ⊢
                    have b := (reads_fine l f).1 _ (d + 1) (next_sound l (nextN l k).fin ht.fin) h3
                    have hug := (next_good l (nextN l k).fin ht.fin).2 hu
                    have b1 := b.lo
                    exact ihd _ _ _ b.hi (by omega) hd
                  · rw [dict_read h1 h2 h4 h3]; exact hb
                · have hr := pread_err (f := f) (d := d + 1) hu
                  rw [dict_read h1 h2 h4 (by rw [hr]; exact hu), hr]
                  have := next_code l (nextN l k).fin ht.fin
                  exact err_not (by show ¬ (Ps.err _).code = -1; exact err_not (by omega))
            · rw [dict_form h1 (by omega)]; decide
      · rw [dict_err h1]
        have := next_code l k hk
        exact err_not (by omega)
theorem read_fuel (l : List UInt8) (k : Nat) (hk : k ≤ l.length) : ¬ (readP l (2 * l.length + 1) k 0).code = -1 := by
  by_cases h : (nextN l k).code = 0
  · rw [pread_ok h]; exact (reads_fuel l _).1 k 0 hk h (by omega)
  · rw [pread_err h]
    have := next_code l k hk
    exact err_not (by omega)
theorem read_fine {l : List UInt8} {f k d : Nat} (hk : k ≤ l.length) (h : (readP l f k d).code = 0) : (readP l f k d).fine l k d := by
  by_cases e : (nextN l k).code = 0
  · rw [pread_ok e] at h ⊢
    have b := (reads_fine l f).1 _ d (next_sound l k hk) h
    have g := (next_good l k hk).2 e
    have b1 := b.lo
    have b3 := b.size
    exact ⟨by omega, b.hi, by omega, b.short, b.check⟩
  · rw [pread_err e] at h; exact absurd h e
theorem value_ok {l : List UInt8} {k : Nat} (h : (readP l (2 * l.length + 1) k 0).code = 0) : valueP l k = ⟨plainV (readP l (2 * l.length + 1) k 0).v, (readP l (2 * l.length + 1) k 0).fin, 0⟩ := by
  unfold valueP; rw [if_neg (by simpa using h)]
theorem value_err {l : List UInt8} {k : Nat} (h : ¬ (readP l (2 * l.length + 1) k 0).code = 0) : valueP l k = .err (readP l (2 * l.length + 1) k 0).code := by
  unfold valueP; rw [if_pos h]
theorem read_fit {l : List UInt8} {f k d : Nat} (hk : k ≤ l.length) (h : (readP l f k d).code = 0) (hl : l.length ≤ 3000) : Fit (readP l f k d).v 4000 := by
  have b := read_fine hk h
  have b1 := b.hi
  have b3 := b.size
  exact ⟨by omega, b.short hl⟩
end
end Go.Proofs.YtejgcnmbngdkiaaGreatDoor
