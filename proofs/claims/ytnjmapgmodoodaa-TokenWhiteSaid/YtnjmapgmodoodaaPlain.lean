/-
  Plain functions on numbers and lists of bytes, and facts about them: no program in sight.
-/
import Derived.WalkKit
import Derived.Lib.Strings
import Derived.Lib.IndexBytes
namespace Go.Proofs.Ytnjmapgmodoodaa

theorem ret_int {k : IntKind} {a b : Int} (h : a = b) : Ending.returned (.int k a) = .returned (.int k b) := by rw [h]
theorem ret_bool {a b : Bool} (h : a = b) : Ending.returned (.bool a) = .returned (.bool b) := by rw [h]

/-- Which kind a byte is of. -/
def kindI (c : Int) : Int :=
  if c = 0 ∨ c = 9 ∨ c = 10 ∨ c = 12 ∨ c = 13 ∨ c = 32 then 0
  else if c = 40 ∨ c = 41 ∨ c = 60 ∨ c = 62 ∨ c = 91 ∨ c = 93 ∨ c = 123 ∨ c = 125 ∨ c = 47 ∨ c = 37 then 1 else 2

/-- A hexadecimal digit's number. -/
def hexI (c : Int) : Int :=
  if 48 ≤ c ∧ c ≤ 57 then c - 48 else if 65 ≤ c ∧ c ≤ 70 then c - 55 else if 97 ≤ c ∧ c ≤ 102 then c - 87 else -1

/-- A number's hexadecimal digit. -/
def digitI (n : Int) : Int :=
  if 0 ≤ n ∧ n ≤ 9 then n + 48 else if 10 ≤ n ∧ n ≤ 15 then n + 55 else 0

/-- Does a byte stand in a text? -/
def inB (l : List UInt8) (c : Int) : Bool := l.any fun x => decide ((x.toNat : Int) = c)

theorem inB_nil (c : Int) : inB [] c = false := rfl
theorem inB_cons (x : UInt8) (l : List UInt8) (c : Int) : inB (x :: l) c = (decide ((x.toNat : Int) = c) || inB l c) := rfl
theorem inB_snoc (x : UInt8) (l : List UInt8) (c : Int) : inB (l ++ [x]) c = (inB l c || decide ((x.toNat : Int) = c)) := by
  simp [inB]
theorem inB_mem {l : List UInt8} {c : Int} {x : UInt8} (hx : x ∈ l) (h : (x.toNat : Int) = c) : inB l c = true := by
  simp only [inB, List.any_eq_true, decide_eq_true_eq]; exact ⟨x, hx, h⟩

theorem take_snoc (s : ByteArray) (k : Nat) (h : k < s.size) : s.data.toList.take (k + 1) = s.data.toList.take k ++ [s[k]] := by
  rw [List.take_succ_eq_append_getElem (by simpa using h)]; rfl

theorem byte_mem (s : ByteArray) (k : Nat) (h : k < s.size) : s[k] ∈ s.data.toList := by
  have : s.data.toList[k]'(by simpa using h) = s[k] := rfl
  rw [← this]; exact List.getElem_mem _

/-- Does a text begin with another one? -/
def preB (s p : List UInt8) : Bool := decide (p <+: s)

/-- How long the end of a line is that stands at a place. -/
def endsN (l : List UInt8) (k : Nat) : Nat :=
  if [13, 10] <+: l.drop k then 2 else if l[k]? = some 13 ∨ l[k]? = some 10 then 1 else 0
def endsI (l : List UInt8) (at' : Int) : Int := if at' < 0 then 0 else endsN l at'.toNat

/-- Does a line begin at a place? -/
def beginsN (l : List UInt8) (k : Nat) : Bool :=
  decide (k < l.length ∧ (k = 0 ∨ l[k - 1]? = some 10 ∨ (l[k - 1]? = some 13 ∧ l[k]? ≠ some 10)))
def beginsI (l : List UInt8) (at' : Int) : Bool := !decide (at' < 0) && beginsN l at'.toNat

/-- Does a word stand at a place? -/
def standsI (l : List UInt8) (at' : Int) (w : List UInt8) : Bool := decide (0 ≤ at' ∧ at' ≤ l.length ∧ w <+: l.drop at'.toNat)

theorem pre_extract (s p : ByteArray) : ((s.extract 0 p.size).toList == p.toList) = preB s.data.toList p.data.toList := by
  rw [Lib.toList_data, Lib.toList_data, Lib.extract_data]
  simp only [List.drop_zero, Nat.sub_zero, preB]
  rw [Bool.eq_iff_iff]
  simp only [beq_iff_eq, decide_eq_true_eq]
  rw [List.prefix_iff_eq_take]
  simp only [Array.length_toList]
  exact eq_comm
theorem pre_long (s p : ByteArray) (h : ¬ p.size ≤ s.size) : preB s.data.toList p.data.toList = false := by
  simp only [preB, decide_eq_false_iff_not]
  intro hp; have := hp.length_le; simp at this; omega

theorem endsI_neg (l : List UInt8) (a : Int) (h : a < 0) : endsI l a = 0 := by simp [endsI, h]
theorem endsI_nat (l : List UInt8) (k : Nat) : endsI l (k : Int) = endsN l k := by simp [endsI]; omega
theorem endsN_far (l : List UInt8) (k : Nat) (h : l.length ≤ k) : endsN l k = 0 := by
  unfold endsN; rw [List.drop_eq_nil_of_le h, if_neg (by simp)]
  rw [if_neg]; rw [List.getElem?_eq_none h]; simp
theorem endsI_far (l : List UInt8) (a : Int) (h : (l.length : Int) ≤ a) : endsI l a = 0 := by
  obtain ⟨k, rfl⟩ := Int.eq_ofNat_of_zero_le (show 0 ≤ a by omega)
  rw [endsI_nat, endsN_far _ _ (by omega)]; rfl
theorem endsN_two (l : List UInt8) (k : Nat) (h : preB (l.drop k) [13, 10] = true) : endsN l k = 2 := by
  unfold endsN; rw [if_pos (by simpa [preB] using h)]
theorem byte_at (s : ByteArray) (k : Nat) (h : k < s.size) : s.data.toList[k]? = some s[k] := Lib.data_getElem? s k h
theorem byte_eq {c : UInt8} {n : Nat} (hn : n < 256) : ((c.toNat : Int) = n) ↔ c = UInt8.ofNat n := by
  constructor
  · intro h; apply UInt8.toNat_inj.1; rw [UInt8.toNat_ofNat']; simp; omega
  · intro h; subst h; simp; omega
theorem endsN_one (s : ByteArray) (k : Nat) (h : k < s.size) (hp : preB (s.data.toList.drop k) [13, 10] = false) (hc : (s[k].toNat : Int) = 13 ∨ (s[k].toNat : Int) = 10) : endsN s.data.toList k = 1 := by
  unfold endsN; rw [if_neg (by simpa [preB] using hp), if_pos]
  rw [byte_at s k h]
  rcases hc with hc | hc
  · left; rw [(byte_eq (n := 13) (by omega)).1 hc]; rfl
  · right; rw [(byte_eq (n := 10) (by omega)).1 hc]; rfl
theorem endsN_none (s : ByteArray) (k : Nat) (h : k < s.size) (hp : preB (s.data.toList.drop k) [13, 10] = false) (h13 : ¬ (s[k].toNat : Int) = 13) (h10 : ¬ (s[k].toNat : Int) = 10) : endsN s.data.toList k = 0 := by
  unfold endsN; rw [if_neg (by simpa [preB] using hp), if_neg]
  rw [byte_at s k h]
  rintro (hc | hc)
  · apply h13; rw [Option.some.inj hc]; rfl
  · apply h10; rw [Option.some.inj hc]; rfl

theorem crlf_eq (s : ByteArray) (k : Nat) : (((s.extract k s.size).extract 0 2).toList == [13, 10]) = preB (s.data.toList.drop k) [13, 10] := by
  have h := pre_extract (s.extract k s.size) ⟨#[13, 10]⟩
  rw [Lib.extract_to_end] at h
  rw [← h, Lib.toList_data ⟨#[13, 10]⟩]
  rfl
theorem pre_two (s : ByteArray) (k : Nat) (h : preB (s.data.toList.drop k) [13, 10] = true) : 1 < s.size - k := by
  have := (of_decide_eq_true h).length_le
  simp at this; omega
theorem ext_byte (s : ByteArray) (k : Nat) (h : k < s.size) (h' : 0 < (s.extract k s.size).size) : (s.extract k s.size)[0]'h' = s[k] := by
  have h1 := byte_at (s.extract k s.size) 0 h'
  rw [Lib.extract_to_end, List.getElem?_drop, Nat.add_zero, byte_at s k h] at h1
  exact (Option.some.inj h1).symm
theorem in_crlf (c : Int) : inB [13, 10] c = true ↔ c = 13 ∨ c = 10 := by
  simp [inB]; omega

theorem begins_zero (s : ByteArray) (h : 0 < s.size) : beginsI s.data.toList 0 = true := by
  simp [beginsI, beginsN]; exact h
theorem beginsI_nat (l : List UInt8) (k : Nat) : beginsI l (k : Int) = beginsN l k := by
  have : ¬ (k : Int) < 0 := by omega
  simp [beginsI, this]
theorem some_byte (s : ByteArray) (j : Nat) (h : j < s.size) (n : Nat) (hn : n < 256) : s.data.toList[j]? = some (UInt8.ofNat n) ↔ (s[j].toNat : Int) = n := by
  rw [byte_at s j h, byte_eq hn]; simp
theorem begins_succ (s : ByteArray) (j : Nat) (h : j + 1 < s.size) (b : Bool)
    (hb : b = true ↔ ((s[j].toNat : Int) = 10 ∨ ((s[j].toNat : Int) = 13 ∧ ¬ (s[j + 1].toNat : Int) = 10))) : beginsI s.data.toList ((j : Int) + 1) = b := by
  have e : ((j : Int) + 1) = ((j + 1 : Nat) : Int) := by omega
  rw [e, beginsI_nat, Bool.eq_iff_iff, hb]
  unfold beginsN
  have h10 := some_byte s j (by omega) 10 (by omega)
  have h13 := some_byte s j (by omega) 13 (by omega)
  have h10' := some_byte s (j + 1) h 10 (by omega)
  simp only [decide_eq_true_eq, Nat.add_sub_cancel, Array.length_toList]
  have hs : s.data.size = s.size := rfl
  have e10 : (UInt8.ofNat 10) = 10 := rfl
  have e13 : (UInt8.ofNat 13) = 13 := rfl
  rw [e10] at h10 h10'
  rw [e13] at h13
  rw [h10, h13, ne_eq, h10', hs]
  constructor
  · rintro ⟨_, h0 | h1 | h2⟩
    · omega
    · exact .inl h1
    · exact .inr h2
  · intro h1; exact ⟨h, .inr h1⟩

theorem stands_eq (s p : ByteArray) (k : Nat) (h : k + p.size ≤ s.size) : ((s.extract k (k + p.size)).toList == p.toList) = standsI s.data.toList (k : Int) p.data.toList := by
  rw [Lib.toList_data, Lib.toList_data, Lib.extract_data, Nat.add_sub_cancel_left, Bool.eq_iff_iff]
  simp only [beq_iff_eq, standsI, decide_eq_true_eq, Int.toNat_natCast]
  rw [List.prefix_iff_eq_take]
  simp only [Array.length_toList]
  have hs : s.data.size = s.size := rfl
  have hp : p.data.size = p.size := rfl
  rw [hs, hp]
  constructor
  · intro e; exact ⟨by omega, by omega, e.symm⟩
  · intro e; exact e.2.2.symm
theorem stands_far (s p : ByteArray) (k : Nat) (h : s.size < k + p.size) : standsI s.data.toList (k : Int) p.data.toList = false := by
  simp only [standsI, decide_eq_false_iff_not, Int.toNat_natCast]
  rintro ⟨_, h1, h2⟩
  have := h2.length_le
  simp at this h1
  have hs : s.data.size = s.size := rfl
  have hp : p.data.size = p.size := rfl
  rw [hs] at *; rw [hp] at *
  omega

/-- Is the byte at a place of one of the kinds? -/
def goodN (l : List UInt8) (zs : List Int) (j : Nat) : Bool :=
  match l[j]? with
  | some c => zs.contains (kindI (c.toNat : Int))
  | none => false
/-- How many bytes from a place on are of the kinds. -/
def spanN (l : List UInt8) (zs : List Int) (k : Nat) : Nat := ((l.drop k).takeWhile fun c => zs.contains (kindI (c.toNat : Int))).length
def spanI (l : List UInt8) (at' : Int) (zs : List Int) : Int := if at' < 0 then 0 else spanN l zs at'.toNat

theorem span_unique (l : List UInt8) (zs : List Int) : ∀ (n k : Nat), (∀ m, m < n → goodN l zs (k + m) = true) → goodN l zs (k + n) = false → spanN l zs k = n
  | 0, k, _, h2 => by
    unfold spanN
    unfold goodN at h2
    rw [Nat.add_zero] at h2
    cases hd : l.drop k with
    | nil => rfl
    | cons c t =>
      have hc : l[k]? = some c := by have := congrArg (fun x => x[0]?) hd; simpa using this
      rw [hc] at h2
      simp only at h2
      rw [List.takeWhile_cons_of_neg (by rw [h2]; decide)]
      rfl
  | n + 1, k, h1, h2 => by
    have h0 := h1 0 (by omega)
    unfold spanN
    unfold goodN at h0
    rw [Nat.add_zero] at h0
    cases hd : l.drop k with
    | nil =>
      have hc : l[k]? = none := by have := congrArg (fun x => x[0]?) hd; simpa using this
      rw [hc] at h0; cases h0
    | cons c t =>
      have hc : l[k]? = some c := by have := congrArg (fun x => x[0]?) hd; simpa using this
      rw [hc] at h0
      simp only at h0
      rw [List.takeWhile_cons_of_pos (p := fun c : UInt8 => zs.contains (kindI (c.toNat : Int))) h0, List.length_cons]
      have ht : t = l.drop (k + 1) := by rw [← List.drop_drop, hd]; rfl
      have := span_unique l zs n (k + 1) (fun m hm => by have := h1 (m + 1) (by omega); rwa [show k + (m + 1) = k + 1 + m from by omega] at this) (by rwa [show k + (n + 1) = k + 1 + n from by omega] at h2)
      unfold spanN at this
      rw [ht, this]
theorem good_far (l : List UInt8) (zs : List Int) (j : Nat) (h : l.length ≤ j) : goodN l zs j = false := by
  unfold goodN; rw [List.getElem?_eq_none h]
theorem good_at (s : ByteArray) (zs : List Int) (j : Nat) (h : j < s.size) : goodN s.data.toList zs j = zs.contains (kindI (s[j].toNat : Int)) := by
  unfold goodN; rw [byte_at s j h]
theorem spanI_nat (l : List UInt8) (zs : List Int) (k : Nat) : spanI l (k : Int) zs = spanN l zs k := by
  have : ¬ (k : Int) < 0 := by omega
  simp [spanI, this]
theorem spanI_neg (l : List UInt8) (zs : List Int) (a : Int) (h : a < 0) : spanI l a zs = 0 := by simp [spanI, h]
theorem spanN_far (l : List UInt8) (zs : List Int) (k : Nat) (h : l.length ≤ k) : spanN l zs k = 0 := by
  unfold spanN; rw [List.drop_eq_nil_of_le h]; rfl
theorem contains_at (zs : List Int) (j : Nat) (x : Int) (h : j < zs.length) (e : x = zs[j]?.getD 0) : zs.contains x = true := by
  rw [List.getElem?_eq_getElem h] at e
  simp only [List.contains_iff_mem]
  rw [e]; exact List.getElem_mem h
theorem contains_not (zs : List Int) (x : Int) (h : ∀ i, i < zs.length → ¬ x = zs[i]?.getD 0) : zs.contains x = false := by
  cases hc : zs.contains x
  · rfl
  · exfalso
    rw [List.contains_iff_mem] at hc
    obtain ⟨i, hi, e⟩ := List.getElem_of_mem hc
    exact h i hi (by rw [List.getElem?_eq_getElem hi]; exact e.symm)

end Go.Proofs.Ytnjmapgmodoodaa
