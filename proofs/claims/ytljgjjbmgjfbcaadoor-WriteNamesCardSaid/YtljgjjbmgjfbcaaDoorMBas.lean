/-
  Plain, DPlain, HPlain, BitPlain: texts merged.
-/
import Derived.WalkKit
import Derived.Lib.Strings
import Derived.Lib.IndexBytes
/-
  Plain functions on numbers and lists of bytes, and facts about them: no program in sight.
-/
namespace Go.Proofs.YtljgjjbmgjfbcaaDoor
section

theorem ret_int {k : IntKind} {a b : Int} (h : a = b) : Ending.returned (.int k a) = .returned (.int k b) := by rw [h]
theorem ret_bool {a b : Bool} (h : a = b) : Ending.returned (.bool a) = .returned (.bool b) := by rw [h]

/-- Which kind a byte is of. -/
def kindI (c : Int) : Int :=
  if c = 0 ∨ c = 9 ∨ c = 10 ∨ c = 12 ∨ c = 13 ∨ c = 32 then 0
  else if c = 40 ∨ c = 41 ∨ c = 60 ∨ c = 62 ∨ c = 91 ∨ c = 93 ∨ c = 123 ∨ c = 125 ∨ c = 47 ∨ c = 37 then 1 else 2

/-- A hexadecimal digit's number. -/
def hexI (c : Int) : Int :=
  if 48 ≤ c ∧ c ≤ 57 then c - 48 else if 65 ≤ c ∧ c ≤ 70 then c - 55 else if 97 ≤ c ∧ c ≤ 102 then c - 87 else -1

/-- A number's hexadecimal digit. -/
def digitI (n : Int) : Int :=
  if 0 ≤ n ∧ n ≤ 9 then n + 48 else if 10 ≤ n ∧ n ≤ 15 then n + 55 else 0

/-- Does a byte stand in a text? -/
def inB (l : List UInt8) (c : Int) : Bool := l.any fun x => decide ((x.toNat : Int) = c)

theorem inB_nil (c : Int) : inB [] c = false := rfl
theorem inB_cons (x : UInt8) (l : List UInt8) (c : Int) : inB (x :: l) c = (decide ((x.toNat : Int) = c) || inB l c) := rfl
theorem inB_snoc (x : UInt8) (l : List UInt8) (c : Int) : inB (l ++ [x]) c = (inB l c || decide ((x.toNat : Int) = c)) := by
  simp [inB]
theorem inB_mem {l : List UInt8} {c : Int} {x : UInt8} (hx : x ∈ l) (h : (x.toNat : Int) = c) : inB l c = true := by
  simp only [inB, List.any_eq_true, decide_eq_true_eq]; exact ⟨x, hx, h⟩

theorem take_snoc (s : ByteArray) (k : Nat) (h : k < s.size) : s.data.toList.take (k + 1) = s.data.toList.take k ++ [s[k]] := by
  rw [List.take_succ_eq_append_getElem (by simpa using h)]; rfl

theorem byte_mem (s : ByteArray) (k : Nat) (h : k < s.size) : s[k] ∈ s.data.toList := by
  have : s.data.toList[k]'(by simpa using h) = s[k] := rfl
  rw [← this]; exact List.getElem_mem _

/-- Does a text begin with another one? -/
def preB (s p : List UInt8) : Bool := decide (p <+: s)

/-- How long the end of a line is that stands at a place. -/
def endsN (l : List UInt8) (k : Nat) : Nat :=
  if [13, 10] <+: l.drop k then 2 else if l[k]? = some 13 ∨ l[k]? = some 10 then 1 else 0
def endsI (l : List UInt8) (at' : Int) : Int := if at' < 0 then 0 else endsN l at'.toNat

/-- Does a line begin at a place? -/
def beginsN (l : List UInt8) (k : Nat) : Bool :=
  decide (k < l.length ∧ (k = 0 ∨ l[k - 1]? = some 10 ∨ (l[k - 1]? = some 13 ∧ l[k]? ≠ some 10)))
def beginsI (l : List UInt8) (at' : Int) : Bool := !decide (at' < 0) && beginsN l at'.toNat

/-- Does a word stand at a place? -/
def standsI (l : List UInt8) (at' : Int) (w : List UInt8) : Bool := decide (0 ≤ at' ∧ at' ≤ l.length ∧ w <+: l.drop at'.toNat)

theorem pre_extract (s p : ByteArray) : ((s.extract 0 p.size).toList == p.toList) = preB s.data.toList p.data.toList := by
  rw [Lib.toList_data, Lib.toList_data, Lib.extract_data]
  simp only [List.drop_zero, Nat.sub_zero, preB]
  rw [Bool.eq_iff_iff]
  simp only [beq_iff_eq, decide_eq_true_eq]
  rw [List.prefix_iff_eq_take]
  simp only [Array.length_toList]
  exact eq_comm
theorem pre_long (s p : ByteArray) (h : ¬ p.size ≤ s.size) : preB s.data.toList p.data.toList = false := by
  simp only [preB, decide_eq_false_iff_not]
  intro hp; have := hp.length_le; simp at this; omega

theorem endsI_neg (l : List UInt8) (a : Int) (h : a < 0) : endsI l a = 0 := by simp [endsI, h]
theorem endsI_nat (l : List UInt8) (k : Nat) : endsI l (k : Int) = endsN l k := by simp [endsI]; omega
theorem endsN_far (l : List UInt8) (k : Nat) (h : l.length ≤ k) : endsN l k = 0 := by
  unfold endsN; rw [List.drop_eq_nil_of_le h, if_neg (by simp)]
  rw [if_neg]; rw [List.getElem?_eq_none h]; simp
theorem endsI_far (l : List UInt8) (a : Int) (h : (l.length : Int) ≤ a) : endsI l a = 0 := by
  obtain ⟨k, rfl⟩ := Int.eq_ofNat_of_zero_le (show 0 ≤ a by omega)
  rw [endsI_nat, endsN_far _ _ (by omega)]; rfl
theorem endsN_two (l : List UInt8) (k : Nat) (h : preB (l.drop k) [13, 10] = true) : endsN l k = 2 := by
  unfold endsN; rw [if_pos (by simpa [preB] using h)]
theorem byte_at (s : ByteArray) (k : Nat) (h : k < s.size) : s.data.toList[k]? = some s[k] := Lib.data_getElem? s k h
theorem byte_eq {c : UInt8} {n : Nat} (hn : n < 256) : ((c.toNat : Int) = n) ↔ c = UInt8.ofNat n := by
  constructor
  · intro h; apply UInt8.toNat_inj.1; rw [UInt8.toNat_ofNat']; simp; omega
  · intro h; subst h; simp; omega
theorem endsN_one (s : ByteArray) (k : Nat) (h : k < s.size) (hp : preB (s.data.toList.drop k) [13, 10] = false) (hc : (s[k].toNat : Int) = 13 ∨ (s[k].toNat : Int) = 10) : endsN s.data.toList k = 1 := by
  unfold endsN; rw [if_neg (by simpa [preB] using hp), if_pos]
  rw [byte_at s k h]
  rcases hc with hc | hc
  · left; rw [(byte_eq (n := 13) (by omega)).1 hc]; rfl
  · right; rw [(byte_eq (n := 10) (by omega)).1 hc]; rfl
theorem endsN_none (s : ByteArray) (k : Nat) (h : k < s.size) (hp : preB (s.data.toList.drop k) [13, 10] = false) (h13 : ¬ (s[k].toNat : Int) = 13) (h10 : ¬ (s[k].toNat : Int) = 10) : endsN s.data.toList k = 0 := by
  unfold endsN; rw [if_neg (by simpa [preB] using hp), if_neg]
  rw [byte_at s k h]
  rintro (hc | hc)
  · apply h13; rw [Option.some.inj hc]; rfl
  · apply h10; rw [Option.some.inj hc]; rfl

theorem crlf_eq (s : ByteArray) (k : Nat) : (((s.extract k s.size).extract 0 2).toList == [13, 10]) = preB (s.data.toList.drop k) [13, 10] := by
  have h := pre_extract (s.extract k s.size) ⟨#[13, 10]⟩
  rw [Lib.extract_to_end] at h
  rw [← h, Lib.toList_data ⟨#[13, 10]⟩]
  rfl
theorem pre_two (s : ByteArray) (k : Nat) (h : preB (s.data.toList.drop k) [13, 10] = true) : 1 < s.size - k := by
  have := (of_decide_eq_true h).length_le
  simp at this; omega
theorem ext_byte (s : ByteArray) (k : Nat) (h : k < s.size) (h' : 0 < (s.extract k s.size).size) : (s.extract k s.size)[0]'h' = s[k] := by
  have h1 := byte_at (s.extract k s.size) 0 h'
  rw [Lib.extract_to_end, List.getElem?_drop, Nat.add_zero, byte_at s k h] at h1
  exact (Option.some.inj h1).symm
theorem in_crlf (c : Int) : inB [13, 10] c = true ↔ c = 13 ∨ c = 10 := by
  simp [inB]; omega

theorem begins_zero (s : ByteArray) (h : 0 < s.size) : beginsI s.data.toList 0 = true := by
  simp [beginsI, beginsN]; exact h
theorem beginsI_nat (l : List UInt8) (k : Nat) : beginsI l (k : Int) = beginsN l k := by
  have : ¬ (k : Int) < 0 := by omega
  simp [beginsI, this]
theorem some_byte (s : ByteArray) (j : Nat) (h : j < s.size) (n : Nat) (hn : n < 256) : s.data.toList[j]? = some (UInt8.ofNat n) ↔ (s[j].toNat : Int) = n := by
  rw [byte_at s j h, byte_eq hn]; simp
theorem begins_succ (s : ByteArray) (j : Nat) (h : j + 1 < s.size) (b : Bool)
    (hb : b = true ↔ ((s[j].toNat : Int) = 10 ∨ ((s[j].toNat : Int) = 13 ∧ ¬ (s[j + 1].toNat : Int) = 10))) : beginsI s.data.toList ((j : Int) + 1) = b := by
  have e : ((j : Int) + 1) = ((j + 1 : Nat) : Int) := by omega
  rw [e, beginsI_nat, Bool.eq_iff_iff, hb]
  unfold beginsN
  have h10 := some_byte s j (by omega) 10 (by omega)
  have h13 := some_byte s j (by omega) 13 (by omega)
  have h10' := some_byte s (j + 1) h 10 (by omega)
  simp only [decide_eq_true_eq, Nat.add_sub_cancel, Array.length_toList]
  have hs : s.data.size = s.size := rfl
  have e10 : (UInt8.ofNat 10) = 10 := rfl
  have e13 : (UInt8.ofNat 13) = 13 := rfl
  rw [e10] at h10 h10'
  rw [e13] at h13
  rw [h10, h13, ne_eq, h10', hs]
  constructor
  · rintro ⟨_, h0 | h1 | h2⟩
    · omega
    · exact .inl h1
    · exact .inr h2
  · intro h1; exact ⟨h, .inr h1⟩

theorem stands_eq (s p : ByteArray) (k : Nat) (h : k + p.size ≤ s.size) : ((s.extract k (k + p.size)).toList == p.toList) = standsI s.data.toList (k : Int) p.data.toList := by
  rw [Lib.toList_data, Lib.toList_data, Lib.extract_data, Nat.add_sub_cancel_left, Bool.eq_iff_iff]
  simp only [beq_iff_eq, standsI, decide_eq_true_eq, Int.toNat_natCast]
  rw [List.prefix_iff_eq_take]
  simp only [Array.length_toList]
  have hs : s.data.size = s.size := rfl
  have hp : p.data.size = p.size := rfl
  rw [hs, hp]
  constructor
  · intro e; exact ⟨by omega, by omega, e.symm⟩
  · intro e; exact e.2.2.symm
theorem stands_far (s p : ByteArray) (k : Nat) (h : s.size < k + p.size) : standsI s.data.toList (k : Int) p.data.toList = false := by
  simp only [standsI, decide_eq_false_iff_not, Int.toNat_natCast]
  rintro ⟨_, h1, h2⟩
  have := h2.length_le
  simp at this h1
  have hs : s.data.size = s.size := rfl
  have hp : p.data.size = p.size := rfl
  rw [hs] at *; rw [hp] at *
  omega

/-- Is the byte at a place of one of the kinds? -/
def goodN (l : List UInt8) (zs : List Int) (j : Nat) : Bool :=
  match l[j]? with
  | some c => zs.contains (kindI (c.toNat : Int))
  | none => false
/-- How many bytes from a place on are of the kinds. -/
def spanN (l : List UInt8) (zs : List Int) (k : Nat) : Nat := ((l.drop k).takeWhile fun c => zs.contains (kindI (c.toNat : Int))).length
def spanI (l : List UInt8) (at' : Int) (zs : List Int) : Int := if at' < 0 then 0 else spanN l zs at'.toNat

theorem span_unique (l : List UInt8) (zs : List Int) : ∀ (n k : Nat), (∀ m, m < n → goodN l zs (k + m) = true) → goodN l zs (k + n) = false → spanN l zs k = n
  | 0, k, _, h2 => by
    unfold spanN
    unfold goodN at h2
    rw [Nat.add_zero] at h2
    cases hd : l.drop k with
    | nil => rfl
    | cons c t =>
      have hc : l[k]? = some c := by have := congrArg (fun x => x[0]?) hd; simpa using this
      rw [hc] at h2
      simp only at h2
      rw [List.takeWhile_cons_of_neg (by rw [h2]; decide)]
      rfl
  | n + 1, k, h1, h2 => by
    have h0 := h1 0 (by omega)
    unfold spanN
    unfold goodN at h0
    rw [Nat.add_zero] at h0
    cases hd : l.drop k with
    | nil =>
      have hc : l[k]? = none := by have := congrArg (fun x => x[0]?) hd; simpa using this
      rw [hc] at h0; cases h0
    | cons c t =>
      have hc : l[k]? = some c := by have := congrArg (fun x => x[0]?) hd; simpa using this
      rw [hc] at h0
      simp only at h0
      rw [List.takeWhile_cons_of_pos (p := fun c : UInt8 => zs.contains (kindI (c.toNat : Int))) h0, List.length_cons]
      have ht : t = l.drop (k + 1) := by rw [← List.drop_drop, hd]; rfl
      have := span_unique l zs n (k + 1) (fun m hm => by have := h1 (m + 1) (by omega); rwa [show k + (m + 1) = k + 1 + m from by omega] at this) (by rwa [show k + (n + 1) = k + 1 + n from by omega] at h2)
      unfold spanN at this
      rw [ht, this]
theorem good_far (l : List UInt8) (zs : List Int) (j : Nat) (h : l.length ≤ j) : goodN l zs j = false := by
  unfold goodN; rw [List.getElem?_eq_none h]
theorem good_at (s : ByteArray) (zs : List Int) (j : Nat) (h : j < s.size) : goodN s.data.toList zs j = zs.contains (kindI (s[j].toNat : Int)) := by
  unfold goodN; rw [byte_at s j h]
theorem spanI_nat (l : List UInt8) (zs : List Int) (k : Nat) : spanI l (k : Int) zs = spanN l zs k := by
  have : ¬ (k : Int) < 0 := by omega
  simp [spanI, this]
theorem spanI_neg (l : List UInt8) (zs : List Int) (a : Int) (h : a < 0) : spanI l a zs = 0 := by simp [spanI, h]
theorem spanN_far (l : List UInt8) (zs : List Int) (k : Nat) (h : l.length ≤ k) : spanN l zs k = 0 := by
  unfold spanN; rw [List.drop_eq_nil_of_le h]; rfl
theorem contains_at (zs : List Int) (j : Nat) (x : Int) (h : j < zs.length) (e : x = zs[j]?.getD 0) : zs.contains x = true := by
  rw [List.getElem?_eq_getElem h] at e
  simp only [List.contains_iff_mem]
  rw [e]; exact List.getElem_mem h
theorem contains_not (zs : List Int) (x : Int) (h : ∀ i, i < zs.length → ¬ x = zs[i]?.getD 0) : zs.contains x = false := by
  cases hc : zs.contains x
  · rfl
  · exfalso
    rw [List.contains_iff_mem] at hc
    obtain ⟨i, hi, e⟩ := List.getElem_of_mem hc
    exact h i hi (by rw [List.getElem?_eq_getElem hi]; exact e.symm)

end
end Go.Proofs.YtljgjjbmgjfbcaaDoor
/-
  Numbers as texts: plain facts.
-/
namespace Go.Proofs.YtljgjjbmgjfbcaaDoor
section

/-- A text out of its bytes. -/
def bytes (l : List UInt8) : ByteArray := ⟨l.toArray⟩
theorem bytes_data (l : List UInt8) : (bytes l).data.toList = l := by simp [bytes]
theorem bytes_size (l : List UInt8) : (bytes l).size = l.length := by simp [bytes, ByteArray.size]
theorem bytes_eq {u : ByteArray} {l : List UInt8} (h : u.data.toList = l) : u = bytes l := by subst h; simp [bytes]
theorem ret_str {u : ByteArray} {l : List UInt8} (h : u.data.toList = l) : Ending.returned (.string u) = .returned (.string (bytes l)) := by rw [bytes_eq h]
theorem bytes_of (u : ByteArray) : bytes u.data.toList = u := by simp [bytes]
theorem app_data (a b : ByteArray) : (a ++ b).data.toList = a.data.toList ++ b.data.toList := by simp

/-- A digit's byte. -/
def dig (n : Nat) : UInt8 := UInt8.ofNat (48 + n)
/-- A number in decimal. -/
def decN (n : Nat) : List UInt8 := if n < 10 then [dig n] else decN (n / 10) ++ [dig (n % 10)]
theorem decN_low {n : Nat} (h : n < 10) : decN n = [dig n] := by rw [decN, if_pos h]
theorem decN_high {n : Nat} (h : ¬ n < 10) : decN n = decN (n / 10) ++ [dig (n % 10)] := by rw [decN, if_neg h]
theorem decN_ne (n : Nat) : decN n ≠ [] := by
  rw [decN]; split <;> simp
def putL (n : Int) : List UInt8 := if n < 0 then 45 :: decN n.natAbs else decN n.natAbs

/-- What is written, where some digits of it stand already. -/
def restN (n : Nat) (l : List UInt8) : List UInt8 := if n = 0 ∧ l ≠ [] then l else decN n ++ l
theorem restN_done (l : List UInt8) (h : l ≠ []) : restN 0 l = l := by simp [restN, h]
theorem restN_step (n : Nat) (l : List UInt8) (h : 0 < n ∨ l = []) : restN (n / 10) (dig (n % 10) :: l) = restN n l := by
  have h1 : ¬ (n = 0 ∧ l ≠ []) := by rintro ⟨a, b⟩; rcases h with h | h; omega; exact b h
  unfold restN
  rw [if_neg h1]
  by_cases hn : n < 10
  · rw [if_pos ⟨by omega, by simp⟩, decN_low hn]
    have : n % 10 = n := by omega
    rw [this]; rfl
  · rw [if_neg (by rintro ⟨a, _⟩; omega), decN_high hn]
    simp

theorem decN_len : ∀ (k n : Nat), n < 10 ^ (k + 1) → (decN n).length ≤ k + 1
  | 0, n, h => by rw [decN_low (by simpa using h)]; simp
  | k + 1, n, h => by
    by_cases hn : n < 10
    · rw [decN_low hn]; simp
    · rw [decN_high hn, List.length_append]
      have := decN_len k (n / 10) (by rw [Nat.pow_succ] at h; omega)
      simp; omega
theorem decN_19 (n : Nat) (h : n ≤ 9223372036854775808) : (decN n).length ≤ 19 := decN_len 18 n (by omega)
theorem restN_len (n : Nat) (l : List UInt8) : l.length ≤ (restN n l).length := by
  unfold restN; split
  · exact Nat.le_refl _
  · simp
theorem size_data (t : ByteArray) : t.size = t.data.toList.length := by simp
theorem isEmpty_of {t : ByteArray} (h : t.data.toList = []) : t.toList.isEmpty = true := by rw [Lib.toList_data, h]; rfl
theorem isEmpty_not {t : ByteArray} (h : ¬ t.data.toList = []) : t.toList.isEmpty = false := by
  rw [Lib.toList_data]; cases hd : t.data.toList with
  | nil => exact absurd hd h
  | cons _ _ => rfl

theorem ten_digit (n : Nat) (h : n < 10) : (ByteArray.extract ⟨#[48, 49, 50, 51, 52, 53, 54, 55, 56, 57]⟩ n (n + 1)).data.toList = [dig n] := by
  have : ∀ k : Fin 10, (ByteArray.extract ⟨#[48, 49, 50, 51, 52, 53, 54, 55, 56, 57]⟩ k.1 (k.1 + 1)).data.toList = [dig k.1] := by decide
  exact this ⟨n, h⟩

/-- A number padded with noughts: the text, and the error. -/
def padL (n width : Int) : List UInt8 × Int :=
  if width < 1 ∨ 20 < width then ([], 2)
  else if n < 0 ∨ width < ((putL n).length : Int) then ([], 3)
  else (List.replicate (width.toNat - (putL n).length) 48 ++ putL n, 0)

/-- Is it a digit? -/
def isDig (c : UInt8) : Bool := decide (48 ≤ (c.toNat : Int) ∧ (c.toNat : Int) ≤ 57)
/-- How many digits a text begins with. -/
def countN (l : List UInt8) : Nat := (l.takeWhile isDig).length
def digAt (l : List UInt8) (j : Nat) : Bool :=
  match l[j]? with
  | some c => isDig c
  | none => false
theorem count_unique : ∀ (l : List UInt8) (n : Nat), (∀ m, m < n → digAt l m = true) → digAt l n = false → countN l = n
  | [], 0, _, _ => rfl
  | [], n + 1, h, _ => by have := h 0 (by omega); simp [digAt] at this
  | c :: l, 0, _, h => by
    simp [digAt] at h
    unfold countN; rw [List.takeWhile_cons_of_neg (by rw [h]; decide)]; rfl
  | c :: l, n + 1, h, h' => by
    have h0 := h 0 (by omega)
    simp [digAt] at h0
    have := count_unique l n (fun m hm => by have := h (m + 1) (by omega); simpa [digAt] using this) (by simpa [digAt] using h')
    unfold countN at this ⊢
    rw [List.takeWhile_cons_of_pos h0, List.length_cons, this]
theorem digAt_far (l : List UInt8) (j : Nat) (h : l.length ≤ j) : digAt l j = false := by unfold digAt; rw [List.getElem?_eq_none h]
theorem digAt_at (s : ByteArray) (j : Nat) (h : j < s.size) : digAt s.data.toList j = isDig s[j] := by unfold digAt; rw [byte_at s j h]
theorem isDig_yes {c : UInt8} (h : 48 ≤ (c.toNat : Int)) (h' : (c.toNat : Int) ≤ 57) : isDig c = true := decide_eq_true ⟨h, h'⟩
theorem isDig_no {c : UInt8} (h : (c.toNat : Int) < 48 ∨ 57 < (c.toNat : Int)) : isDig c = false := decide_eq_false (by omega)
theorem isDig_of {c : UInt8} (h : isDig c = true) : 48 ≤ (c.toNat : Int) ∧ (c.toNat : Int) ≤ 57 := of_decide_eq_true h
theorem countN_le (l : List UInt8) : countN l ≤ l.length := (List.takeWhile_prefix isDig (l := l)).length_le
theorem count_full : ∀ {l : List UInt8}, countN l = l.length → ∀ c ∈ l, isDig c = true
  | [], _, c, hc => by cases hc
  | x :: l, h, c, hc => by
    have hx : isDig x = true := by
      cases hd : isDig x
      · unfold countN at h
        rw [List.takeWhile_cons_of_neg (by rw [hd]; decide)] at h
        simp at h
      · rfl
    rcases List.mem_cons.1 hc with rfl | hc
    · exact hx
    · refine count_full (l := l) ?_ c hc
      unfold countN at h ⊢
      rw [List.takeWhile_cons_of_pos hx] at h
      simpa using h

/-- The number that digits are. -/
def valN (l : List UInt8) : Nat := l.foldl (fun a c => 10 * a + (c.toNat - 48)) 0
theorem valN_snoc (l : List UInt8) (c : UInt8) : valN (l ++ [c]) = 10 * valN l + (c.toNat - 48) := by simp [valN]
theorem valN_mono (a : List UInt8) : ∀ b : List UInt8, valN a ≤ valN (a ++ b) := by
  have h : ∀ (b : List UInt8) (x : Nat), x ≤ b.foldl (fun a c => 10 * a + (c.toNat - 48)) x := by
    intro b
    induction b with
    | nil => intro x; exact Nat.le_refl _
    | cons c b ih => intro x; exact Nat.le_trans (show x ≤ 10 * x + (c.toNat - 48) by omega) (ih _)
  intro b
  unfold valN
  rw [List.foldl_append]
  exact h b _
theorem valN_take (l : List UInt8) (k : Nat) : valN (l.take k) ≤ valN l := by
  have := valN_mono (l.take k) (l.drop k)
  rwa [List.take_append_drop] at this

/-- Digits alone: the number, and the error. -/
def fixL (l : List UInt8) : Int × Int :=
  if l = [] ∨ countN l ≠ l.length then (0, 4) else if 2147483647 < valN l then (0, 3) else ((valN l : Int), 0)
theorem fixL_empty : fixL [] = (0, 4) := by simp [fixL]
theorem fixL_form {l : List UInt8} (h : countN l ≠ l.length) : fixL l = (0, 4) := by unfold fixL; rw [if_pos (.inr h)]
theorem fixL_big {l : List UInt8} (h0 : l ≠ []) (h : countN l = l.length) (hb : 2147483647 < valN l) : fixL l = (0, 3) := by
  unfold fixL; rw [if_neg (by rintro (a | a); exact h0 a; exact a h), if_pos hb]
theorem fixL_ok {l : List UInt8} (h0 : l ≠ []) (h : countN l = l.length) (hb : valN l ≤ 2147483647) : fixL l = ((valN l : Int), 0) := by
  unfold fixL; rw [if_neg (by rintro (a | a); exact h0 a; exact a h), if_neg (by omega)]
theorem fixL_bound (l : List UInt8) : 0 ≤ (fixL l).1 ∧ (fixL l).1 ≤ 2147483647 := by
  unfold fixL; split
  · simp
  · split <;> simp; omega

/-- With a sign ahead, or none. -/
def looseL (l : List UInt8) : Int × Int :=
  match l with
  | c :: t => if (c.toNat : Int) = 45 then (-(fixL t).1, (fixL t).2) else if (c.toNat : Int) = 43 then fixL t else fixL l
  | [] => fixL []

/-- What stands behind a sign below 0. -/
def dropMinus (l : List UInt8) : List UInt8 :=
  match l with
  | c :: t => if (c.toNat : Int) = 45 then t else l
  | [] => []
def isMinus (l : List UInt8) : Bool :=
  match l with
  | c :: _ => decide ((c.toNat : Int) = 45)
  | [] => false
/-- Greater, as texts. -/
def gtB (a b : List UInt8) : Bool := !Op.bytesLess a b && !(a == b)
def topL (minus : Bool) : List UInt8 := [57, 50, 50, 51, 51, 55, 50, 48, 51, 54, 56, 53, 52, 55, 55, 53, 56, 48, if minus then 56 else 55]
def wholeL (l : List UInt8) : Int × Int :=
  if (dropMinus l).length = 19 ∧ gtB (dropMinus l) (topL (isMinus l)) = true then (0, 4) else looseL l
def readL (l : List UInt8) : Int × Int :=
  if dropMinus l = [] ∨ 19 < (dropMinus l).length ∨ countN (dropMinus l) ≠ (dropMinus l).length ∨ ((dropMinus l)[0]? = some 48 ∧ l ≠ [48]) then (0, 4) else wholeL l

end
end Go.Proofs.YtljgjjbmgjfbcaaDoor
/-
  Bytes as hexadecimal digits: plain facts, no program in sight.
-/
namespace Go.Proofs.YtljgjjbmgjfbcaaDoor
section

/-- A digit's byte. -/
def digB (n : Nat) : UInt8 := UInt8.ofNat (digitI (n : Int)).toNat
theorem digitI_range {n : Nat} (h : n < 16) : 48 ≤ digitI (n : Int) ∧ digitI (n : Int) ≤ 70 ∧ digitI (n : Int) ≠ 62 := by
  have : ∀ k : Fin 16, 48 ≤ digitI (k.1 : Int) ∧ digitI (k.1 : Int) ≤ 70 ∧ digitI (k.1 : Int) ≠ 62 := by decide
  exact this ⟨n, h⟩
theorem digB_nat {n : Nat} (h : n < 16) : ((digB n).toNat : Int) = digitI (n : Int) := by
  have := digitI_range h
  unfold digB
  rw [UInt8.toNat_ofNat']
  omega
theorem hex_digit {n : Nat} (h : n < 16) : hexI (digitI (n : Int)) = n := by
  have : ∀ k : Fin 16, hexI (digitI (k.1 : Int)) = k.1 := by decide
  exact this ⟨n, h⟩
theorem hexI_range (c : UInt8) : hexI (c.toNat : Int) = -1 ∨ (0 ≤ hexI (c.toNat : Int) ∧ hexI (c.toNat : Int) < 16) := by
  unfold hexI; split
  · omega
  · split
    · omega
    · split <;> omega

/-- The digits of bytes. -/
def encD (l : List UInt8) : List UInt8 := l.flatMap fun c => [digB (c.toNat / 16), digB (c.toNat % 16)]
theorem encD_nil : encD [] = [] := rfl
theorem encD_cons (c : UInt8) (l : List UInt8) : encD (c :: l) = digB (c.toNat / 16) :: digB (c.toNat % 16) :: encD l := rfl
theorem encD_snoc (l : List UInt8) (c : UInt8) : encD (l ++ [c]) = encD l ++ [digB (c.toNat / 16), digB (c.toNat % 16)] := by simp [encD]
theorem encD_length : ∀ l : List UInt8, (encD l).length = 2 * l.length
  | [] => rfl
  | c :: l => by rw [encD_cons, List.length_cons, List.length_cons, encD_length l, List.length_cons]; omega
def encH (l : List UInt8) : List UInt8 := encD l ++ [62]
theorem encH_length (l : List UInt8) : (encH l).length = 2 * l.length + 1 := by unfold encH; rw [List.length_append, encD_length]; rfl
/-- All that is encoded can be seen. -/
theorem encH_seen {l : List UInt8} {c : UInt8} (h : c ∈ encH l) : 48 ≤ c.toNat ∧ c.toNat ≤ 70 := by
  unfold encH at h
  rcases List.mem_append.1 h with h | h
  · unfold encD at h
    obtain ⟨x, _, hx⟩ := List.mem_flatMap.1 h
    have h1 := x.toNat_lt
    have key : ∀ n, n < 16 → 48 ≤ (digB n).toNat ∧ (digB n).toNat ≤ 70 := fun n hn => by
      have a := digitI_range hn
      have b := digB_nat hn
      omega
    simp only [List.mem_cons, List.not_mem_nil, or_false] at hx
    rcases hx with rfl | rfl
    · exact key _ (by omega)
    · exact key _ (by omega)
  · simp only [List.mem_cons, List.not_mem_nil, or_false] at h
    subst h; decide

/-- Digits, two by two. -/
def pairsH : List Nat → List UInt8
  | [] => []
  | [a] => [UInt8.ofNat (16 * a)]
  | a :: b :: r => UInt8.ofNat (16 * a + b) :: pairsH r
theorem pairsH_two (a b : Nat) (r : List Nat) : pairsH (a :: b :: r) = UInt8.ofNat (16 * a + b) :: pairsH r := rfl
/-- A digit that is left over is the high one of a byte whose low one is 0. -/
theorem pairsH_pad : ∀ (ds : List Nat), ds.length % 2 = 1 → pairsH (ds ++ [0]) = pairsH ds
  | [], h => by simp at h
  | [a], _ => rfl
  | a :: b :: r, h => by
    show UInt8.ofNat (16 * a + b) :: pairsH (r ++ [0]) = UInt8.ofNat (16 * a + b) :: pairsH r
    rw [pairsH_pad r (by simp at h; omega)]
theorem pairsH_drop {ds : List Nat} {k a b : Nat} (ha : ds[k]? = some a) (hb : ds[k + 1]? = some b) : pairsH (ds.drop k) = UInt8.ofNat (16 * a + b) :: pairsH (ds.drop (k + 2)) := by
  obtain ⟨h1, e1⟩ := List.getElem?_eq_some_iff.1 ha
  obtain ⟨h2, e2⟩ := List.getElem?_eq_some_iff.1 hb
  rw [List.drop_eq_getElem_cons h1, List.drop_eq_getElem_cons h2, e1, e2, pairsH_two]

def whiteB (c : UInt8) : Bool := decide (kindI (c.toNat : Int) = 0)
/-- What comes of digits that were met, and of what is ahead. -/
def decGo (ds : List Nat) : List UInt8 → List UInt8 × Int
  | [] => ([], 5)
  | c :: t =>
    if c.toNat = 62 then (if t.all whiteB then (pairsH ds, 0) else ([], 4))
    else if 0 ≤ hexI (c.toNat : Int) then decGo (ds ++ [(hexI (c.toNat : Int)).toNat]) t
    else if kindI (c.toNat : Int) = 0 then decGo ds t else ([], 4)
def decH (l : List UInt8) : List UInt8 × Int := decGo [] l
theorem decGo_end {ds : List Nat} {c : UInt8} {t : List UInt8} (h : c.toNat = 62) : decGo ds (c :: t) = if t.all whiteB then (pairsH ds, 0) else ([], 4) := by
  rw [decGo, if_pos h]
theorem decGo_digit {ds : List Nat} {c : UInt8} {t : List UInt8} (h : ¬ c.toNat = 62) (h2 : 0 ≤ hexI (c.toNat : Int)) : decGo ds (c :: t) = decGo (ds ++ [(hexI (c.toNat : Int)).toNat]) t := by
  rw [decGo, if_neg h, if_pos h2]
theorem decGo_white {ds : List Nat} {c : UInt8} {t : List UInt8} (h : ¬ c.toNat = 62) (h2 : ¬ 0 ≤ hexI (c.toNat : Int)) (h3 : kindI (c.toNat : Int) = 0) : decGo ds (c :: t) = decGo ds t := by
  rw [decGo, if_neg h, if_neg h2, if_pos h3]
theorem decGo_bad {ds : List Nat} {c : UInt8} {t : List UInt8} (h : ¬ c.toNat = 62) (h2 : ¬ 0 ≤ hexI (c.toNat : Int)) (h3 : ¬ kindI (c.toNat : Int) = 0) : decGo ds (c :: t) = ([], 4) := by
  rw [decGo, if_neg h, if_neg h2, if_neg h3]

/-- White bytes count for nothing. -/
theorem white_not {c : UInt8} (h : kindI (c.toNat : Int) = 0) : ¬ c.toNat = 62 ∧ ¬ 0 ≤ hexI (c.toNat : Int) := by
  unfold kindI at h
  have h' : c.toNat = 0 ∨ c.toNat = 9 ∨ c.toNat = 10 ∨ c.toNat = 12 ∨ c.toNat = 13 ∨ c.toNat = 32 := by
    by_cases e : (c.toNat : Int) = 0 ∨ (c.toNat : Int) = 9 ∨ (c.toNat : Int) = 10 ∨ (c.toNat : Int) = 12 ∨ (c.toNat : Int) = 13 ∨ (c.toNat : Int) = 32
    · omega
    · rw [if_neg e] at h
      split at h <;> simp at h
  refine ⟨by omega, ?_⟩
  unfold hexI
  rw [if_neg (by omega), if_neg (by omega), if_neg (by omega)]
  omega
theorem decGo_put {w : UInt8} (hw : kindI (w.toNat : Int) = 0) : ∀ (p t : List UInt8) (ds : List Nat), decGo ds (p ++ w :: t) = decGo ds (p ++ t)
  | [], t, ds => by
    have h := white_not hw
    exact decGo_white h.1 h.2 hw
  | c :: p, t, ds => by
    have ih := decGo_put hw p t
    show decGo ds (c :: (p ++ w :: t)) = decGo ds (c :: (p ++ t))
    by_cases h : c.toNat = 62
    · rw [decGo_end h, decGo_end h]
      have e : (p ++ w :: t).all whiteB = (p ++ t).all whiteB := by
        have : whiteB w = true := decide_eq_true hw
        simp [this]
      rw [e]
    · by_cases h2 : 0 ≤ hexI (c.toNat : Int)
      · rw [decGo_digit h h2, decGo_digit h h2, ih]
      · by_cases h3 : kindI (c.toNat : Int) = 0
        · rw [decGo_white h h2 h3, decGo_white h h2 h3, ih]
        · rw [decGo_bad h h2 h3, decGo_bad h h2 h3]

/-- There and back. -/
theorem decGo_digB {ds : List Nat} {n : Nat} {t : List UInt8} (h : n < 16) : decGo ds (digB n :: t) = decGo (ds ++ [n]) t := by
  have a := digitI_range h
  have b := digB_nat h
  have c := hex_digit h
  rw [decGo_digit (by omega) (by rw [b, c]; omega), b, c]
  rfl
theorem pairsH_snoc2 : ∀ (ds : List Nat) (a b : Nat), ds.length % 2 = 0 → pairsH (ds ++ [a] ++ [b]) = pairsH ds ++ [UInt8.ofNat (16 * a + b)]
  | [], a, b, _ => rfl
  | [x], a, b, h => by simp at h
  | x :: y :: r, a, b, h => by
    show UInt8.ofNat (16 * x + y) :: pairsH (r ++ [a] ++ [b]) = UInt8.ofNat (16 * x + y) :: (pairsH r ++ [UInt8.ofNat (16 * a + b)])
    rw [pairsH_snoc2 r a b (by simp at h; omega)]
theorem dec_enc : ∀ (l : List UInt8) (ds : List Nat), ds.length % 2 = 0 → decGo ds (encH l) = (pairsH ds ++ l, 0)
  | [], ds, h => by
    show decGo ds [62] = _
    rw [decGo_end rfl]; simp
  | c :: l, ds, h => by
    show decGo ds (digB (c.toNat / 16) :: digB (c.toNat % 16) :: encH l) = _
    have h1 := c.toNat_lt
    rw [decGo_digB (by omega), decGo_digB (by omega), dec_enc l _ (by simp; omega), pairsH_snoc2 ds _ _ h]
    have e : UInt8.ofNat (16 * (c.toNat / 16) + c.toNat % 16) = c := by
      have : 16 * (c.toNat / 16) + c.toNat % 16 = c.toNat := by omega
      rw [this]; exact UInt8.ofNat_toNat
    rw [e, List.append_assoc]; rfl

end
end Go.Proofs.YtljgjjbmgjfbcaaDoor
/-
  Rows of bits, the lowest of a byte ahead: plain facts, no program in sight.
-/
namespace Go.Proofs.YtljgjjbmgjfbcaaDoor
section

/-- So many bits of a number, the lowest ahead. -/
def bitsN : Nat → Nat → List Nat
  | 0, _ => []
  | k + 1, n => n % 2 :: bitsN k (n / 2)
/-- The number of bits, the lowest ahead. -/
def numB : List Nat → Nat
  | [] => 0
  | b :: r => b + 2 * numB r
theorem bitsN_length : ∀ (k n : Nat), (bitsN k n).length = k
  | 0, _ => rfl
  | k + 1, n => by rw [bitsN, List.length_cons, bitsN_length k]
theorem bitsN_two : ∀ (k n : Nat), ∀ b ∈ bitsN k n, b < 2
  | 0, _, b, h => by cases h
  | k + 1, n, b, h => by
    rcases List.mem_cons.1 h with rfl | h
    · omega
    · exact bitsN_two k _ b h
theorem numB_bitsN : ∀ (k n : Nat), n < 2 ^ k → numB (bitsN k n) = n
  | 0, n, h => by have : n = 0 := by simpa using h
                  subst this; rfl
  | k + 1, n, h => by
    rw [bitsN, numB, numB_bitsN k (n / 2) (by rw [Nat.pow_succ] at h; omega)]; omega
theorem bitsN_numB : ∀ (l : List Nat), (∀ b ∈ l, b < 2) → bitsN l.length (numB l) = l
  | [], _ => rfl
  | b :: r, h => by
    have hb := h b (by simp)
    rw [List.length_cons, bitsN, numB, show (b + 2 * numB r) % 2 = b by omega, show (b + 2 * numB r) / 2 = numB r by omega, bitsN_numB r fun x hx => h x (by simp [hx])]
theorem numB_lt : ∀ (l : List Nat), (∀ b ∈ l, b < 2) → numB l < 2 ^ l.length
  | [], _ => by decide
  | b :: r, h => by
    have hb := h b (by simp)
    have hr := numB_lt r fun x hx => h x (by simp [hx])
    rw [numB, List.length_cons, Nat.pow_succ]; omega
theorem numB_snoc : ∀ (l : List Nat) (b : Nat), numB (l ++ [b]) = numB l + 2 ^ l.length * b
  | [], b => by simp [numB]
  | x :: r, b => by
    rw [List.cons_append, numB, numB_snoc r b, numB, List.length_cons, Nat.pow_succ, Nat.mul_add, ← Nat.mul_assoc, Nat.mul_comm 2 (2 ^ r.length)]; omega
theorem numB_zeros : ∀ k, numB (List.replicate k 0) = 0
  | 0 => rfl
  | k + 1 => by rw [List.replicate_succ, numB, numB_zeros k]

/-- Put, Align. -/
def putB (row : List Nat) (n width : Int) : List Nat × Int :=
  if width < 0 ∨ 16 < width then (row, 2) else if n < 0 ∨ (2 : Int) ^ width.toNat ≤ n then (row, 3) else (row ++ bitsN width.toNat n.toNat, 0)
def padN (k : Nat) : Nat := (8 - k % 8) % 8
def alignB (row : List Nat) : List Nat := row ++ List.replicate (padN row.length) 0
theorem putB_arg {row : List Nat} {n width : Int} (h : width < 0 ∨ 16 < width) : putB row n width = (row, 2) := by unfold putB; rw [if_pos h]
theorem putB_range {row : List Nat} {n : Int} {v : Nat} (hv : v ≤ 16) (h : n < 0 ∨ (2 : Int) ^ v ≤ n) : putB row n (v : Int) = (row, 3) := by
  unfold putB; rw [if_neg (by omega), Int.toNat_natCast, if_pos h]
theorem putB_ok {row : List Nat} {n v : Nat} (hv : v ≤ 16) (h : n < 2 ^ v) : putB row (n : Int) (v : Int) = (row ++ bitsN v n, 0) := by
  unfold putB
  have : ((2 ^ v : Nat) : Int) = (2 : Int) ^ v := by simp
  rw [if_neg (by omega), Int.toNat_natCast, if_neg (by rw [← this]; omega), Int.toNat_natCast]
theorem padN_lt (k : Nat) : padN k < 8 := by unfold padN; omega
theorem padN_whole (k : Nat) : (k + padN k) % 8 = 0 := by unfold padN; omega
theorem alignB_length (row : List Nat) : (alignB row).length = row.length + padN row.length := by unfold alignB; rw [List.length_append, List.length_replicate]
theorem alignB_two {row : List Nat} (h : ∀ b ∈ row, b < 2) : ∀ b ∈ alignB row, b < 2 := by
  intro b hb
  rcases List.mem_append.1 hb with hb | hb
  · exact h b hb
  · rw [List.eq_of_mem_replicate hb]; omega
/-- A step of the loop that aligns. -/
theorem align_step {row : List Nat} {k : Nat} (h : ¬ (row.length + k) % 8 = 0) (hk : k ≤ padN row.length) : k + 1 ≤ padN row.length := by
  unfold padN at *; omega
theorem align_stop {row : List Nat} {k : Nat} (h : (row.length + k) % 8 = 0) (hk : k ≤ padN row.length) : k = padN row.length := by
  unfold padN at *; omega

/-- Eight bits are a byte. -/
def packB : List Nat → List UInt8
  | a :: b :: c :: d :: e :: f :: g :: h :: r => UInt8.ofNat (numB [a, b, c, d, e, f, g, h]) :: packB r
  | _ => []
def textB (row : List Nat) : List UInt8 := packB (alignB row)
theorem packB_take : ∀ (l : List Nat), 8 ≤ l.length → packB l = UInt8.ofNat (numB (l.take 8)) :: packB (l.drop 8)
  | a :: b :: c :: d :: e :: f :: g :: h :: r, _ => rfl
  | [], h => by simp at h
  | [_], h => by simp at h
  | [_, _], h => by simp at h
  | [_, _, _], h => by simp at h
  | [_, _, _, _], h => by simp at h
  | [_, _, _, _, _], h => by simp at h
  | [_, _, _, _, _, _], h => by simp at h
  | [_, _, _, _, _, _, _], h => by simp at h
theorem packB_nil : packB [] = [] := rfl
theorem packB_length : ∀ (n : Nat) (l : List Nat), l.length = 8 * n → (packB l).length = n
  | 0, l, h => by obtain rfl : l = [] := List.eq_nil_of_length_eq_zero (by omega)
                  rfl
  | n + 1, l, h => by rw [packB_take l (by omega), List.length_cons, packB_length n _ (by rw [List.length_drop]; omega)]
theorem textB_length (row : List Nat) : 8 * (textB row).length = row.length + padN row.length := by
  have h := padN_whole row.length
  obtain ⟨n, hn⟩ : ∃ n, row.length + padN row.length = 8 * n := ⟨(row.length + padN row.length) / 8, by omega⟩
  unfold textB
  rw [packB_length n _ (by rw [alignB_length]; exact hn), hn]

/-- All bits of bytes. -/
def bitsOf (l : List UInt8) : List Nat := l.flatMap fun c => bitsN 8 c.toNat
theorem bitsOf_cons (c : UInt8) (l : List UInt8) : bitsOf (c :: l) = bitsN 8 c.toNat ++ bitsOf l := rfl
theorem bitsOf_append (a b : List UInt8) : bitsOf (a ++ b) = bitsOf a ++ bitsOf b := by simp [bitsOf]
theorem bitsOf_length : ∀ (l : List UInt8), (bitsOf l).length = 8 * l.length
  | [] => rfl
  | c :: l => by rw [bitsOf_cons, List.length_append, bitsN_length, bitsOf_length l, List.length_cons]; omega
theorem bitsOf_two (l : List UInt8) : ∀ b ∈ bitsOf l, b < 2 := by
  intro b hb
  obtain ⟨c, _, hc⟩ := List.mem_flatMap.1 hb
  exact bitsN_two 8 _ b hc
theorem bitsOf_packB : ∀ (n : Nat) (l : List Nat), l.length = 8 * n → (∀ b ∈ l, b < 2) → bitsOf (packB l) = l
  | 0, l, h, _ => by obtain rfl : l = [] := List.eq_nil_of_length_eq_zero (by omega)
                     rfl
  | n + 1, l, h, h2 => by
    have ht : (l.take 8).length = 8 := by rw [List.length_take]; omega
    have h8 : ∀ b ∈ l.take 8, b < 2 := fun b hb => h2 b (List.mem_of_mem_take hb)
    have hlt := numB_lt _ h8
    rw [ht] at hlt
    have hb := bitsN_numB _ h8
    rw [ht] at hb
    rw [packB_take l (by omega), bitsOf_cons, bitsOf_packB n _ (by rw [List.length_drop]; omega) fun b hb => h2 b (List.mem_of_mem_drop hb), UInt8.toNat_ofNat', Nat.mod_eq_of_lt hlt, hb, List.take_append_drop]
/-- What is put is got. -/
theorem bitsOf_textB {row : List Nat} (h : ∀ b ∈ row, b < 2) : bitsOf (textB row) = alignB row := by
  have hw := padN_whole row.length
  unfold textB
  exact bitsOf_packB ((row.length + padN row.length) / 8) _ (by rw [alignB_length]; omega) (alignB_two h)

/-- Get, Bytes, Align of a reader: the number or the bytes, the place, the error. -/
def getB (l : List UInt8) (pos : Nat) (width : Int) : Int × Nat × Int :=
  if width < 0 ∨ 16 < width then (0, pos, 2)
  else if 8 * (l.length : Int) - (pos : Int) < width then (0, pos, 5)
  else ((numB (((bitsOf l).drop pos).take width.toNat) : Int), pos + width.toNat, 0)
def wholeN (pos : Nat) : Nat := (pos + 7) / 8 * 8
def bytesB (l : List UInt8) (pos : Nat) (n : Int) : List UInt8 × Nat × Int :=
  if n < 0 then ([], pos, 2)
  else if (l.length : Int) - ((wholeN pos / 8 : Nat) : Int) < n then ([], pos, 5)
  else ((l.drop (wholeN pos / 8)).take n.toNat, 8 * (wholeN pos / 8 + n.toNat), 0)
theorem getB_arg {l : List UInt8} {pos : Nat} {width : Int} (h : width < 0 ∨ 16 < width) : getB l pos width = (0, pos, 2) := by unfold getB; rw [if_pos h]
theorem getB_short {l : List UInt8} {pos v : Nat} (hv : v ≤ 16) (h : 8 * (l.length : Int) - (pos : Int) < (v : Int)) : getB l pos (v : Int) = (0, pos, 5) := by
  unfold getB; rw [if_neg (by omega), if_pos h]
theorem getB_ok {l : List UInt8} {pos v : Nat} (hv : v ≤ 16) (h : pos + v ≤ 8 * l.length) : getB l pos (v : Int) = ((numB (((bitsOf l).drop pos).take v) : Int), pos + v, 0) := by
  unfold getB; rw [if_neg (by omega), if_neg (by omega), Int.toNat_natCast]
/-- A bit, from the byte in which it stands. -/
theorem bitsN_get : ∀ (k n i : Nat), i < k → (bitsN k n)[i]? = some (n / 2 ^ i % 2)
  | 0, _, i, h => by omega
  | k + 1, n, 0, _ => by simp [bitsN]
  | k + 1, n, i + 1, h => by
    rw [bitsN, List.getElem?_cons_succ, bitsN_get k (n / 2) i (by omega), Nat.div_div_eq_div_mul, Nat.pow_succ, Nat.mul_comm 2]
theorem bitsOf_get : ∀ (l : List UInt8) (pos : Nat) (c : UInt8), l[pos / 8]? = some c → (bitsOf l)[pos]? = some (c.toNat / 2 ^ (pos % 8) % 2)
  | [], _, _, h => by simp at h
  | x :: l, pos, c, h => by
    rw [bitsOf_cons]
    by_cases h8 : pos < 8
    · rw [show pos / 8 = 0 by omega] at h
      simp at h
      subst h
      rw [List.getElem?_append_left (by rw [bitsN_length]; exact h8), bitsN_get _ _ _ h8, Nat.mod_eq_of_lt h8]
    · rw [show pos / 8 = (pos - 8) / 8 + 1 by omega, List.getElem?_cons_succ] at h
      rw [List.getElem?_append_right (by rw [bitsN_length]; omega), bitsN_length, bitsOf_get l (pos - 8) c h, show (pos - 8) % 8 = pos % 8 by omega]

theorem take_at {L : List Nat} {pos v g b : Nat} (hb : L[pos + g]? = some b) (hg : g < v) : ((L.drop pos).take v).drop g = b :: ((L.drop pos).take v).drop (g + 1) := by
  have h1 : ((L.drop pos).take v)[g]? = some b := by rw [List.getElem?_take, if_pos hg, List.getElem?_drop, hb]
  obtain ⟨h2, h3⟩ := List.getElem?_eq_some_iff.1 h1
  rw [List.drop_eq_getElem_cons h2, h3]
theorem part_lt {L : List Nat} {pos v g : Nat} (h : ∀ b ∈ L, b < 2) (hv : v ≤ 16) : numB (((L.drop pos).take v).drop g) < 65536 := by
  have h1 := numB_lt (((L.drop pos).take v).drop g) fun b hb => h b (List.mem_of_mem_drop (List.mem_of_mem_take (List.mem_of_mem_drop hb)))
  have h2 : (((L.drop pos).take v).drop g).length ≤ 16 := by rw [List.length_drop, List.length_take]; omega
  have h3 : 2 ^ (((L.drop pos).take v).drop g).length ≤ 2 ^ 16 := Nat.pow_le_pow_right (by omega) h2
  omega

end
end Go.Proofs.YtljgjjbmgjfbcaaDoor
