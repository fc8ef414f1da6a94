/-
  Plain, DPlain, HPlain, LinesPlain, TkPlain, TkPlain2, BitPlain: texts merged.
-/
import Derived.WalkKit
import Derived.Lib.Strings
import Derived.Lib.IndexBytes
/-
  Plain functions on numbers and lists of bytes, and facts about them: no program in sight.
-/
namespace Go.Proofs.YtejgcnmbngdkiaaGreatDoor
section

theorem ret_int {k : IntKind} {a b : Int} (h : a = b) : Ending.returned (.int k a) = .returned (.int k b) := by rw [h]
theorem ret_bool {a b : Bool} (h : a = b) : Ending.returned (.bool a) = .returned (.bool b) := by rw [h]

/-- Which kind a byte is of. -/
def kindI (c : Int) : Int :=
  if c = 0 ∨ c = 9 ∨ c = 10 ∨ c = 12 ∨ c = 13 ∨ c = 32 then 0
  else if c = 40 ∨ c = 41 ∨ c = 60 ∨ c = 62 ∨ c = 91 ∨ c = 93 ∨ c = 123 ∨ c = 125 ∨ c = 47 ∨ c = 37 then 1 else 2

/-- A hexadecimal digit's number. -/
def hexI (c : Int) : Int :=
  if 48 ≤ c ∧ c ≤ 57 then c - 48 else if 65 ≤ c ∧ c ≤ 70 then c - 55 else if 97 ≤ c ∧ c ≤ 102 then c - 87 else -1

/-- A number's hexadecimal digit. -/
def digitI (n : Int) : Int :=
  if 0 ≤ n ∧ n ≤ 9 then n + 48 else if 10 ≤ n ∧ n ≤ 15 then n + 55 else 0

/-- Does a byte stand in a text? -/
def inB (l : List UInt8) (c : Int) : Bool := l.any fun x => decide ((x.toNat : Int) = c)

theorem inB_nil (c : Int) : inB [] c = false := rfl
theorem inB_cons (x : UInt8) (l : List UInt8) (c : Int) : inB (x :: l) c = (decide ((x.toNat : Int) = c) || inB l c) := rfl
theorem inB_snoc (x : UInt8) (l : List UInt8) (c : Int) : inB (l ++ [x]) c = (inB l c || decide ((x.toNat : Int) = c)) := by
  simp [inB]
theorem inB_mem {l : List UInt8} {c : Int} {x : UInt8} (hx : x ∈ l) (h : (x.toNat : Int) = c) : inB l c = true := by
  simp only [inB, List.any_eq_true, decide_eq_true_eq]; exact ⟨x, hx, h⟩

theorem take_snoc (s : ByteArray) (k : Nat) (h : k < s.size) : s.data.toList.take (k + 1) = s.data.toList.take k ++ [s[k]] := by
  rw [List.take_succ_eq_append_getElem (by simpa using h)]; rfl

theorem byte_mem (s : ByteArray) (k : Nat) (h : k < s.size) : s[k] ∈ s.data.toList := by
  have : s.data.toList[k]'(by simpa using h) = s[k] := rfl
  rw [← this]; exact List.getElem_mem _

/-- Does a text begin with another one? -/
def preB (s p : List UInt8) : Bool := decide (p <+: s)

/-- How long the end of a line is that stands at a place. -/
def endsN (l : List UInt8) (k : Nat) : Nat :=
  if [13, 10] <+: l.drop k then 2 else if l[k]? = some 13 ∨ l[k]? = some 10 then 1 else 0
def endsI (l : List UInt8) (at' : Int) : Int := if at' < 0 then 0 else endsN l at'.toNat

/-- Does a line begin at a place? -/
def beginsN (l : List UInt8) (k : Nat) : Bool :=
  decide (k < l.length ∧ (k = 0 ∨ l[k - 1]? = some 10 ∨ (l[k - 1]? = some 13 ∧ l[k]? ≠ some 10)))
def beginsI (l : List UInt8) (at' : Int) : Bool := !decide (at' < 0) && beginsN l at'.toNat

/-- Does a word stand at a place? -/
def standsI (l : List UInt8) (at' : Int) (w : List UInt8) : Bool := decide (0 ≤ at' ∧ at' ≤ l.length ∧ w <+: l.drop at'.toNat)

theorem pre_extract (s p : ByteArray) : ((s.extract 0 p.size).toList == p.toList) = preB s.data.toList p.data.toList := by
  rw [Lib.toList_data, Lib.toList_data, Lib.extract_data]
  simp only [List.drop_zero, Nat.sub_zero, preB]
  rw [Bool.eq_iff_iff]
  simp only [beq_iff_eq, decide_eq_true_eq]
  rw [List.prefix_iff_eq_take]
  simp only [Array.length_toList]
  exact eq_comm
theorem pre_long (s p : ByteArray) (h : ¬ p.size ≤ s.size) : preB s.data.toList p.data.toList = false := by
  simp only [preB, decide_eq_false_iff_not]
  intro hp; have := hp.length_le; simp at this; omega

theorem endsI_neg (l : List UInt8) (a : Int) (h : a < 0) : endsI l a = 0 := by simp [endsI, h]
theorem endsI_nat (l : List UInt8) (k : Nat) : endsI l (k : Int) = endsN l k := by simp [endsI]; omega
theorem endsN_far (l : List UInt8) (k : Nat) (h : l.length ≤ k) : endsN l k = 0 := by
  unfold endsN; rw [List.drop_eq_nil_of_le h, if_neg (by simp)]
  rw [if_neg]; rw [List.getElem?_eq_none h]; simp
theorem endsI_far (l : List UInt8) (a : Int) (h : (l.length : Int) ≤ a) : endsI l a = 0 := by
  obtain ⟨k, rfl⟩ := Int.eq_ofNat_of_zero_le (show 0 ≤ a by omega)
  rw [endsI_nat, endsN_far _ _ (by omega)]; rfl
theorem endsN_two (l : List UInt8) (k : Nat) (h : preB (l.drop k) [13, 10] = true) : endsN l k = 2 := by
  unfold endsN; rw [if_pos (by simpa [preB] using h)]
theorem byte_at (s : ByteArray) (k : Nat) (h : k < s.size) : s.data.toList[k]? = some s[k] := Lib.data_getElem? s k h
theorem byte_eq {c : UInt8} {n : Nat} (hn : n < 256) : ((c.toNat : Int) = n) ↔ c = UInt8.ofNat n := by
  constructor
  · intro h; apply UInt8.toNat_inj.1; rw [UInt8.toNat_ofNat']; simp; omega
  · intro h; subst h; simp; omega
theorem endsN_one (s : ByteArray) (k : Nat) (h : k < s.size) (hp : preB (s.data.toList.drop k) [13, 10] = false) (hc : (s[k].toNat : Int) = 13 ∨ (s[k].toNat : Int) = 10) : endsN s.data.toList k = 1 := by
  unfold endsN; rw [if_neg (by simpa [preB] using hp), if_pos]
  rw [byte_at s k h]
  rcases hc with hc | hc
  · left; rw [(byte_eq (n := 13) (by omega)).1 hc]; rfl
  · right; rw [(byte_eq (n := 10) (by omega)).1 hc]; rfl
theorem endsN_none (s : ByteArray) (k : Nat) (h : k < s.size) (hp : preB (s.data.toList.drop k) [13, 10] = false) (h13 : ¬ (s[k].toNat : Int) = 13) (h10 : ¬ (s[k].toNat : Int) = 10) : endsN s.data.toList k = 0 := by
  unfold endsN; rw [if_neg (by simpa [preB] using hp), if_neg]
  rw [byte_at s k h]
  rintro (hc | hc)
  · apply h13; rw [Option.some.inj hc]; rfl
  · apply h10; rw [Option.some.inj hc]; rfl

theorem crlf_eq (s : ByteArray) (k : Nat) : (((s.extract k s.size).extract 0 2).toList == [13, 10]) = preB (s.data.toList.drop k) [13, 10] := by
  have h := pre_extract (s.extract k s.size) ⟨#[13, 10]⟩
  rw [Lib.extract_to_end] at h
  rw [← h, Lib.toList_data ⟨#[13, 10]⟩]
  rfl
theorem pre_two (s : ByteArray) (k : Nat) (h : preB (s.data.toList.drop k) [13, 10] = true) : 1 < s.size - k := by
  have := (of_decide_eq_true h).length_le
  simp at this; omega
theorem ext_byte (s : ByteArray) (k : Nat) (h : k < s.size) (h' : 0 < (s.extract k s.size).size) : (s.extract k s.size)[0]'h' = s[k] := by
  have h1 := byte_at (s.extract k s.size) 0 h'
  rw [Lib.extract_to_end, List.getElem?_drop, Nat.add_zero, byte_at s k h] at h1
  exact (Option.some.inj h1).symm
theorem in_crlf (c : Int) : inB [13, 10] c = true ↔ c = 13 ∨ c = 10 := by
  simp [inB]; omega

theorem begins_zero (s : ByteArray) (h : 0 < s.size) : beginsI s.data.toList 0 = true := by
  simp [beginsI, beginsN]; exact h
theorem beginsI_nat (l : List UInt8) (k : Nat) : beginsI l (k : Int) = beginsN l k := by
  have : ¬ (k : Int) < 0 := by omega
  simp [beginsI, this]
theorem some_byte (s : ByteArray) (j : Nat) (h : j < s.size) (n : Nat) (hn : n < 256) : s.data.toList[j]? = some (UInt8.ofNat n) ↔ (s[j].toNat : Int) = n := by
  rw [byte_at s j h, byte_eq hn]; simp
theorem begins_succ (s : ByteArray) (j : Nat) (h : j + 1 < s.size) (b : Bool)
    (hb : b = true ↔ ((s[j].toNat : Int) = 10 ∨ ((s[j].toNat : Int) = 13 ∧ ¬ (s[j + 1].toNat : Int) = 10))) : beginsI s.data.toList ((j : Int) + 1) = b := by
  have e : ((j : Int) + 1) = ((j + 1 : Nat) : Int) := by omega
  rw [e, beginsI_nat, Bool.eq_iff_iff, hb]
  unfold beginsN
  have h10 := some_byte s j (by omega) 10 (by omega)
  have h13 := some_byte s j (by omega) 13 (by omega)
  have h10' := some_byte s (j + 1) h 10 (by omega)
  simp only [decide_eq_true_eq, Nat.add_sub_cancel, Array.length_toList]
  have hs : s.data.size = s.size := rfl
  have e10 : (UInt8.ofNat 10) = 10 := rfl
  have e13 : (UInt8.ofNat 13) = 13 := rfl
  rw [e10] at h10 h10'
  rw [e13] at h13
  rw [h10, h13, ne_eq, h10', hs]
  constructor
  · rintro ⟨_, h0 | h1 | h2⟩
    · omega
    · exact .inl h1
    · exact .inr h2
  · intro h1; exact ⟨h, .inr h1⟩

theorem stands_eq (s p : ByteArray) (k : Nat) (h : k + p.size ≤ s.size) : ((s.extract k (k + p.size)).toList == p.toList) = standsI s.data.toList (k : Int) p.data.toList := by
  rw [Lib.toList_data, Lib.toList_data, Lib.extract_data, Nat.add_sub_cancel_left, Bool.eq_iff_iff]
  simp only [beq_iff_eq, standsI, decide_eq_true_eq, Int.toNat_natCast]
  rw [List.prefix_iff_eq_take]
  simp only [Array.length_toList]
  have hs : s.data.size = s.size := rfl
  have hp : p.data.size = p.size := rfl
  rw [hs, hp]
  constructor
  · intro e; exact ⟨by omega, by omega, e.symm⟩
  · intro e; exact e.2.2.symm
theorem stands_far (s p : ByteArray) (k : Nat) (h : s.size < k + p.size) : standsI s.data.toList (k : Int) p.data.toList = false := by
  simp only [standsI, decide_eq_false_iff_not, Int.toNat_natCast]
  rintro ⟨_, h1, h2⟩
  have := h2.length_le
  simp at this h1
  have hs : s.data.size = s.size := rfl
  have hp : p.data.size = p.size := rfl
  rw [hs] at *; rw [hp] at *
  omega

/-- Is the byte at a place of one of the kinds? -/
def goodN (l : List UInt8) (zs : List Int) (j : Nat) : Bool :=
  match l[j]? with
  | some c => zs.contains (kindI (c.toNat : Int))
  | none => false
/-- How many bytes from a place on are of the kinds. -/
def spanN (l : List UInt8) (zs : List Int) (k : Nat) : Nat := ((l.drop k).takeWhile fun c => zs.contains (kindI (c.toNat : Int))).length
def spanI (l : List UInt8) (at' : Int) (zs : List Int) : Int := if at' < 0 then 0 else spanN l zs at'.toNat

theorem span_unique (l : List UInt8) (zs : List Int) : ∀ (n k : Nat), (∀ m, m < n → goodN l zs (k + m) = true) → goodN l zs (k + n) = false → spanN l zs k = n
  | 0, k, _, h2 => by
    unfold spanN
    unfold goodN at h2
    rw [Nat.add_zero] at h2
    cases hd : l.drop k with
    | nil => rfl
    | cons c t =>
      have hc : l[k]? = some c := by have := congrArg (fun x => x[0]?) hd; simpa using this
      rw [hc] at h2
      simp only at h2
      rw [List.takeWhile_cons_of_neg (by rw [h2]; decide)]
      rfl
  | n + 1, k, h1, h2 => by
    have h0 := h1 0 (by omega)
    unfold spanN
    unfold goodN at h0
    rw [Nat.add_zero] at h0
    cases hd : l.drop k with
    | nil =>
      have hc : l[k]? = none := by have := congrArg (fun x => x[0]?) hd; simpa using this
      rw [hc] at h0; cases h0
    | cons c t =>
      have hc : l[k]? = some c := by have := congrArg (fun x => x[0]?) hd; simpa using this
      rw [hc] at h0
      simp only at h0
      rw [List.takeWhile_cons_of_pos (p := fun c : UInt8 => zs.contains (kindI (c.toNat : Int))) h0, List.length_cons]
      have ht : t = l.drop (k + 1) := by rw [← List.drop_drop, hd]; rfl
      have := span_unique l zs n (k + 1) (fun m hm => by have := h1 (m + 1) (by omega); rwa [show k + (m + 1) = k + 1 + m from by omega] at this) (by rwa [show k + (n + 1) = k + 1 + n from by omega] at h2)
      unfold spanN at this
      rw [ht, this]
theorem good_far (l : List UInt8) (zs : List Int) (j : Nat) (h : l.length ≤ j) : goodN l zs j = false := by
  unfold goodN; rw [List.getElem?_eq_none h]
theorem good_at (s : ByteArray) (zs : List Int) (j : Nat) (h : j < s.size) : goodN s.data.toList zs j = zs.contains (kindI (s[j].toNat : Int)) := by
  unfold goodN; rw [byte_at s j h]
theorem spanI_nat (l : List UInt8) (zs : List Int) (k : Nat) : spanI l (k : Int) zs = spanN l zs k := by
  have : ¬ (k : Int) < 0 := by omega
  simp [spanI, this]
theorem spanI_neg (l : List UInt8) (zs : List Int) (a : Int) (h : a < 0) : spanI l a zs = 0 := by simp [spanI, h]
theorem spanN_far (l : List UInt8) (zs : List Int) (k : Nat) (h : l.length ≤ k) : spanN l zs k = 0 := by
  unfold spanN; rw [List.drop_eq_nil_of_le h]; rfl
theorem contains_at (zs : List Int) (j : Nat) (x : Int) (h : j < zs.length) (e : x = zs[j]?.getD 0) : zs.contains x = true := by
  rw [List.getElem?_eq_getElem h] at e
  simp only [List.contains_iff_mem]
  rw [e]; exact List.getElem_mem h
theorem contains_not (zs : List Int) (x : Int) (h : ∀ i, i < zs.length → ¬ x = zs[i]?.getD 0) : zs.contains x = false := by
  cases hc : zs.contains x
  · rfl
  · exfalso
    rw [List.contains_iff_mem] at hc
    obtain ⟨i, hi, e⟩ := List.getElem_of_mem hc
    exact h i hi (by rw [List.getElem?_eq_getElem hi]; exact e.symm)

end
end Go.Proofs.YtejgcnmbngdkiaaGreatDoor
/-
  Numbers as texts: plain facts.
-/
namespace Go.Proofs.YtejgcnmbngdkiaaGreatDoor
section

/-- A text out of its bytes. -/
def bytes (l : List UInt8) : ByteArray := ⟨l.toArray⟩
theorem bytes_data (l : List UInt8) : (bytes l).data.toList = l := by simp [bytes]
theorem bytes_size (l : List UInt8) : (bytes l).size = l.length := by simp [bytes, ByteArray.size]
theorem bytes_eq {u : ByteArray} {l : List UInt8} (h : u.data.toList = l) : u = bytes l := by subst h; simp [bytes]
theorem ret_str {u : ByteArray} {l : List UInt8} (h : u.data.toList = l) : Ending.returned (.string u) = .returned (.string (bytes l)) := by rw [bytes_eq h]
theorem bytes_of (u : ByteArray) : bytes u.data.toList = u := by simp [bytes]
theorem app_data (a b : ByteArray) : (a ++ b).data.toList = a.data.toList ++ b.data.toList := by simp

/-- A digit's byte. -/
def dig (n : Nat) : UInt8 := UInt8.ofNat (48 + n)
/-- A number in decimal. -/
def decN (n : Nat) : List UInt8 := if n < 10 then [dig n] else decN (n / 10) ++ [dig (n % 10)]
theorem decN_low {n : Nat} (h : n < 10) : decN n = [dig n] := by rw [decN, if_pos h]
theorem decN_high {n : Nat} (h : ¬ n < 10) : decN n = decN (n / 10) ++ [dig (n % 10)] := by rw [decN, if_neg h]
theorem decN_ne (n : Nat) : decN n ≠ [] := by
  rw [decN]; split <;> simp
def putL (n : Int) : List UInt8 := if n < 0 then 45 :: decN n.natAbs else decN n.natAbs

/-- What is written, where some digits of it stand already. -/
def restN (n : Nat) (l : List UInt8) : List UInt8 := if n = 0 ∧ l ≠ [] then l else decN n ++ l
theorem restN_done (l : List UInt8) (h : l ≠ []) : restN 0 l = l := by simp [restN, h]
theorem restN_step (n : Nat) (l : List UInt8) (h : 0 < n ∨ l = []) : restN (n / 10) (dig (n % 10) :: l) = restN n l := by
  have h1 : ¬ (n = 0 ∧ l ≠ []) := by rintro ⟨a, b⟩; rcases h with h | h; omega; exact b h
  unfold restN
  rw [if_neg h1]
  by_cases hn : n < 10
  · rw [if_pos ⟨by omega, by simp⟩, decN_low hn]
    have : n % 10 = n := by omega
    rw [this]; rfl
  · rw [if_neg (by rintro ⟨a, _⟩; omega), decN_high hn]
    simp

theorem decN_len : ∀ (k n : Nat), n < 10 ^ (k + 1) → (decN n).length ≤ k + 1
  | 0, n, h => by rw [decN_low (by simpa using h)]; simp
  | k + 1, n, h => by
    by_cases hn : n < 10
    · rw [decN_low hn]; simp
    · rw [decN_high hn, List.length_append]
      have := decN_len k (n / 10) (by rw [Nat.pow_succ] at h; omega)
      simp; omega
theorem decN_19 (n : Nat) (h : n ≤ 9223372036854775808) : (decN n).length ≤ 19 := decN_len 18 n (by omega)
theorem restN_len (n : Nat) (l : List UInt8) : l.length ≤ (restN n l).length := by
  unfold restN; split
  · exact Nat.le_refl _
  · simp
theorem size_data (t : ByteArray) : t.size = t.data.toList.length := by simp
theorem isEmpty_of {t : ByteArray} (h : t.data.toList = []) : t.toList.isEmpty = true := by rw [Lib.toList_data, h]; rfl
theorem isEmpty_not {t : ByteArray} (h : ¬ t.data.toList = []) : t.toList.isEmpty = false := by
  rw [Lib.toList_data]; cases hd : t.data.toList with
  | nil => exact absurd hd h
  | cons _ _ => rfl

theorem ten_digit (n : Nat) (h : n < 10) : (ByteArray.extract ⟨#[48, 49, 50, 51, 52, 53, 54, 55, 56, 57]⟩ n (n + 1)).data.toList = [dig n] := by
  have : ∀ k : Fin 10, (ByteArray.extract ⟨#[48, 49, 50, 51, 52, 53, 54, 55, 56, 57]⟩ k.1 (k.1 + 1)).data.toList = [dig k.1] := by decide
  exact this ⟨n, h⟩

/-- A number padded with noughts: the text, and the error. -/
def padL (n width : Int) : List UInt8 × Int :=
  if width < 1 ∨ 20 < width then ([], 2)
  else if n < 0 ∨ width < ((putL n).length : Int) then ([], 3)
  else (List.replicate (width.toNat - (putL n).length) 48 ++ putL n, 0)

/-- Is it a digit? -/
def isDig (c : UInt8) : Bool := decide (48 ≤ (c.toNat : Int) ∧ (c.toNat : Int) ≤ 57)
/-- How many digits a text begins with. -/
def countN (l : List UInt8) : Nat := (l.takeWhile isDig).length
def digAt (l : List UInt8) (j : Nat) : Bool :=
  match l[j]? with
  | some c => isDig c
  | none => false
theorem count_unique : ∀ (l : List UInt8) (n : Nat), (∀ m, m < n → digAt l m = true) → digAt l n = false → countN l = n
  | [], 0, _, _ => rfl
  | [], n + 1, h, _ => by have := h 0 (by omega); simp [digAt] at this
  | c :: l, 0, _, h => by
    simp [digAt] at h
    unfold countN; rw [List.takeWhile_cons_of_neg (by rw [h]; decide)]; rfl
  | c :: l, n + 1, h, h' => by
    have h0 := h 0 (by omega)
    simp [digAt] at h0
    have := count_unique l n (fun m hm => by have := h (m + 1) (by omega); simpa [digAt] using this) (by simpa [digAt] using h')
    unfold countN at this ⊢
    rw [List.takeWhile_cons_of_pos h0, List.length_cons, this]
theorem digAt_far (l : List UInt8) (j : Nat) (h : l.length ≤ j) : digAt l j = false := by unfold digAt; rw [List.getElem?_eq_none h]
theorem digAt_at (s : ByteArray) (j : Nat) (h : j < s.size) : digAt s.data.toList j = isDig s[j] := by unfold digAt; rw [byte_at s j h]
theorem isDig_yes {c : UInt8} (h : 48 ≤ (c.toNat : Int)) (h' : (c.toNat : Int) ≤ 57) : isDig c = true := decide_eq_true ⟨h, h'⟩
theorem isDig_no {c : UInt8} (h : (c.toNat : Int) < 48 ∨ 57 < (c.toNat : Int)) : isDig c = false := decide_eq_false (by omega)
theorem isDig_of {c : UInt8} (h : isDig c = true) : 48 ≤ (c.toNat : Int) ∧ (c.toNat : Int) ≤ 57 := of_decide_eq_true h
theorem countN_le (l : List UInt8) : countN l ≤ l.length := (List.takeWhile_prefix isDig (l := l)).length_le
theorem count_full : ∀ {l : List UInt8}, countN l = l.length → ∀ c ∈ l, isDig c = true
  | [], _, c, hc => by cases hc
  | x :: l, h, c, hc => by
    have hx : isDig x = true := by
      cases hd : isDig x
      · unfold countN at h
        rw [List.takeWhile_cons_of_neg (by rw [hd]; decide)] at h
        simp at h
      · rfl
    rcases List.mem_cons.1 hc with rfl | hc
    · exact hx
    · refine count_full (l := l) ?_ c hc
      unfold countN at h ⊢
      rw [List.takeWhile_cons_of_pos hx] at h
      simpa using h

/-- The number that digits are. -/
def valN (l : List UInt8) : Nat := l.foldl (fun a c => 10 * a + (c.toNat - 48)) 0
theorem valN_snoc (l : List UInt8) (c : UInt8) : valN (l ++ [c]) = 10 * valN l + (c.toNat - 48) := by simp [valN]
theorem valN_mono (a : List UInt8) : ∀ b : List UInt8, valN a ≤ valN (a ++ b) := by
  have h : ∀ (b : List UInt8) (x : Nat), x ≤ b.foldl (fun a c => 10 * a + (c.toNat - 48)) x := by
    intro b
    induction b with
    | nil => intro x; exact Nat.le_refl _
    | cons c b ih => intro x; exact Nat.le_trans (show x ≤ 10 * x + (c.toNat - 48) by omega) (ih _)
  intro b
  unfold valN
  rw [List.foldl_append]
  exact h b _
theorem valN_take (l : List UInt8) (k : Nat) : valN (l.take k) ≤ valN l := by
  have := valN_mono (l.take k) (l.drop k)
  rwa [List.take_append_drop] at this

/-- Digits alone: the number, and the error. -/
def fixL (l : List UInt8) : Int × Int :=
  if l = [] ∨ countN l ≠ l.length then (0, 4) else if 2147483647 < valN l then (0, 3) else ((valN l : Int), 0)
theorem fixL_empty : fixL [] = (0, 4) := by simp [fixL]
theorem fixL_form {l : List UInt8} (h : countN l ≠ l.length) : fixL l = (0, 4) := by unfold fixL; rw [if_pos (.inr h)]
theorem fixL_big {l : List UInt8} (h0 : l ≠ []) (h : countN l = l.length) (hb : 2147483647 < valN l) : fixL l = (0, 3) := by
  unfold fixL; rw [if_neg (by rintro (a | a); exact h0 a; exact a h), if_pos hb]
theorem fixL_ok {l : List UInt8} (h0 : l ≠ []) (h : countN l = l.length) (hb : valN l ≤ 2147483647) : fixL l = ((valN l : Int), 0) := by
  unfold fixL; rw [if_neg (by rintro (a | a); exact h0 a; exact a h), if_neg (by omega)]
theorem fixL_bound (l : List UInt8) : 0 ≤ (fixL l).1 ∧ (fixL l).1 ≤ 2147483647 := by
  unfold fixL; split
  · simp
  · split <;> simp; omega

/-- With a sign ahead, or none. -/
def looseL (l : List UInt8) : Int × Int :=
  match l with
  | c :: t => if (c.toNat : Int) = 45 then (-(fixL t).1, (fixL t).2) else if (c.toNat : Int) = 43 then fixL t else fixL l
  | [] => fixL []

/-- What stands behind a sign below 0. -/
def dropMinus (l : List UInt8) : List UInt8 :=
  match l with
  | c :: t => if (c.toNat : Int) = 45 then t else l
  | [] => []
def isMinus (l : List UInt8) : Bool :=
  match l with
  | c :: _ => decide ((c.toNat : Int) = 45)
  | [] => false
/-- Greater, as texts. -/
def gtB (a b : List UInt8) : Bool := !Op.bytesLess a b && !(a == b)
def topL (minus : Bool) : List UInt8 := [57, 50, 50, 51, 51, 55, 50, 48, 51, 54, 56, 53, 52, 55, 55, 53, 56, 48, if minus then 56 else 55]
def wholeL (l : List UInt8) : Int × Int :=
  if (dropMinus l).length = 19 ∧ gtB (dropMinus l) (topL (isMinus l)) = true then (0, 4) else looseL l
def readL (l : List UInt8) : Int × Int :=
  if dropMinus l = [] ∨ 19 < (dropMinus l).length ∨ countN (dropMinus l) ≠ (dropMinus l).length ∨ ((dropMinus l)[0]? = some 48 ∧ l ≠ [48]) then (0, 4) else wholeL l

end
end Go.Proofs.YtejgcnmbngdkiaaGreatDoor
/-
  Bytes as hexadecimal digits: plain facts, no program in sight.
-/
namespace Go.Proofs.YtejgcnmbngdkiaaGreatDoor
section

/-- A digit's byte. -/
def digB (n : Nat) : UInt8 := UInt8.ofNat (digitI (n : Int)).toNat
theorem digitI_range {n : Nat} (h : n < 16) : 48 ≤ digitI (n : Int) ∧ digitI (n : Int) ≤ 70 ∧ digitI (n : Int) ≠ 62 := by
  have : ∀ k : Fin 16, 48 ≤ digitI (k.1 : Int) ∧ digitI (k.1 : Int) ≤ 70 ∧ digitI (k.1 : Int) ≠ 62 := by decide
  exact this ⟨n, h⟩
theorem digB_nat {n : Nat} (h : n < 16) : ((digB n).toNat : Int) = digitI (n : Int) := by
  have := digitI_range h
  unfold digB
  rw [UInt8.toNat_ofNat']
  omega
theorem hex_digit {n : Nat} (h : n < 16) : hexI (digitI (n : Int)) = n := by
  have : ∀ k : Fin 16, hexI (digitI (k.1 : Int)) = k.1 := by decide
  exact this ⟨n, h⟩
theorem hexI_range (c : UInt8) : hexI (c.toNat : Int) = -1 ∨ (0 ≤ hexI (c.toNat : Int) ∧ hexI (c.toNat : Int) < 16) := by
  unfold hexI; split
  · omega
  · split
    · omega
    · split <;> omega

/-- The digits of bytes. -/
def encD (l : List UInt8) : List UInt8 := l.flatMap fun c => [digB (c.toNat / 16), digB (c.toNat % 16)]
theorem encD_nil : encD [] = [] := rfl
theorem encD_cons (c : UInt8) (l : List UInt8) : encD (c :: l) = digB (c.toNat / 16) :: digB (c.toNat % 16) :: encD l := rfl
theorem encD_snoc (l : List UInt8) (c : UInt8) : encD (l ++ [c]) = encD l ++ [digB (c.toNat / 16), digB (c.toNat % 16)] := by simp [encD]
theorem encD_length : ∀ l : List UInt8, (encD l).length = 2 * l.length
  | [] => rfl
  | c :: l => by rw [encD_cons, List.length_cons, List.length_cons, encD_length l, List.length_cons]; omega
def encH (l : List UInt8) : List UInt8 := encD l ++ [62]
theorem encH_length (l : List UInt8) : (encH l).length = 2 * l.length + 1 := by unfold encH; rw [List.length_append, encD_length]; rfl
/-- All that is encoded can be seen. -/
theorem encH_seen {l : List UInt8} {c : UInt8} (h : c ∈ encH l) : 48 ≤ c.toNat ∧ c.toNat ≤ 70 := by
  unfold encH at h
  rcases List.mem_append.1 h with h | h
  · unfold encD at h
    obtain ⟨x, _, hx⟩ := List.mem_flatMap.1 h
    have h1 := x.toNat_lt
    have key : ∀ n, n < 16 → 48 ≤ (digB n).toNat ∧ (digB n).toNat ≤ 70 := fun n hn => by
      have a := digitI_range hn
      have b := digB_nat hn
      omega
    simp only [List.mem_cons, List.not_mem_nil, or_false] at hx
    rcases hx with rfl | rfl
    · exact key _ (by omega)
    · exact key _ (by omega)
  · simp only [List.mem_cons, List.not_mem_nil, or_false] at h
    subst h; decide

/-- Digits, two by two. -/
def pairsH : List Nat → List UInt8
  | [] => []
  | [a] => [UInt8.ofNat (16 * a)]
  | a :: b :: r => UInt8.ofNat (16 * a + b) :: pairsH r
theorem pairsH_two (a b : Nat) (r : List Nat) : pairsH (a :: b :: r) = UInt8.ofNat (16 * a + b) :: pairsH r := rfl
/-- A digit that is left over is the high one of a byte whose low one is 0. -/
theorem pairsH_pad : ∀ (ds : List Nat), ds.length % 2 = 1 → pairsH (ds ++ [0]) = pairsH ds
  | [], h => by simp at h
  | [a], _ => rfl
  | a :: b :: r, h => by
    show UInt8.ofNat (16 * a + b) :: pairsH (r ++ [0]) = UInt8.ofNat (16 * a + b) :: pairsH r
    rw [pairsH_pad r (by simp at h; omega)]
theorem pairsH_drop {ds : List Nat} {k a b : Nat} (ha : ds[k]? = some a) (hb : ds[k + 1]? = some b) : pairsH (ds.drop k) = UInt8.ofNat (16 * a + b) :: pairsH (ds.drop (k + 2)) := by
  obtain ⟨h1, e1⟩ := List.getElem?_eq_some_iff.1 ha
  obtain ⟨h2, e2⟩ := List.getElem?_eq_some_iff.1 hb
  rw [List.drop_eq_getElem_cons h1, List.drop_eq_getElem_cons h2, e1, e2, pairsH_two]

def whiteB (c : UInt8) : Bool := decide (kindI (c.toNat : Int) = 0)
/-- What comes of digits that were met, and of what is ahead. -/
def decGo (ds : List Nat) : List UInt8 → List UInt8 × Int
  | [] => ([], 5)
  | c :: t =>
    if c.toNat = 62 then (if t.all whiteB then (pairsH ds, 0) else ([], 4))
    else if 0 ≤ hexI (c.toNat : Int) then decGo (ds ++ [(hexI (c.toNat : Int)).toNat]) t
    else if kindI (c.toNat : Int) = 0 then decGo ds t else ([], 4)
def decH (l : List UInt8) : List UInt8 × Int := decGo [] l
theorem decGo_end {ds : List Nat} {c : UInt8} {t : List UInt8} (h : c.toNat = 62) : decGo ds (c :: t) = if t.all whiteB then (pairsH ds, 0) else ([], 4) := by
  rw [decGo, if_pos h]
theorem decGo_digit {ds : List Nat} {c : UInt8} {t : List UInt8} (h : ¬ c.toNat = 62) (h2 : 0 ≤ hexI (c.toNat : Int)) : decGo ds (c :: t) = decGo (ds ++ [(hexI (c.toNat : Int)).toNat]) t := by
  rw [decGo, if_neg h, if_pos h2]
theorem decGo_white {ds : List Nat} {c : UInt8} {t : List UInt8} (h : ¬ c.toNat = 62) (h2 : ¬ 0 ≤ hexI (c.toNat : Int)) (h3 : kindI (c.toNat : Int) = 0) : decGo ds (c :: t) = decGo ds t := by
  rw [decGo, if_neg h, if_neg h2, if_pos h3]
theorem decGo_bad {ds : List Nat} {c : UInt8} {t : List UInt8} (h : ¬ c.toNat = 62) (h2 : ¬ 0 ≤ hexI (c.toNat : Int)) (h3 : ¬ kindI (c.toNat : Int) = 0) : decGo ds (c :: t) = ([], 4) := by
  rw [decGo, if_neg h, if_neg h2, if_neg h3]

/-- White bytes count for nothing. -/
theorem white_not {c : UInt8} (h : kindI (c.toNat : Int) = 0) : ¬ c.toNat = 62 ∧ ¬ 0 ≤ hexI (c.toNat : Int) := by
  unfold kindI at h
  have h' : c.toNat = 0 ∨ c.toNat = 9 ∨ c.toNat = 10 ∨ c.toNat = 12 ∨ c.toNat = 13 ∨ c.toNat = 32 := by
    by_cases e : (c.toNat : Int) = 0 ∨ (c.toNat : Int) = 9 ∨ (c.toNat : Int) = 10 ∨ (c.toNat : Int) = 12 ∨ (c.toNat : Int) = 13 ∨ (c.toNat : Int) = 32
    · omega
    · rw [if_neg e] at h
      split at h <;> simp at h
  refine ⟨by omega, ?_⟩
  unfold hexI
  rw [if_neg (by omega), if_neg (by omega), if_neg (by omega)]
  omega
theorem decGo_put {w : UInt8} (hw : kindI (w.toNat : Int) = 0) : ∀ (p t : List UInt8) (ds : List Nat), decGo ds (p ++ w :: t) = decGo ds (p ++ t)
  | [], t, ds => by
    have h := white_not hw
    exact decGo_white h.1 h.2 hw
  | c :: p, t, ds => by
    have ih := decGo_put hw p t
    show decGo ds (c :: (p ++ w :: t)) = decGo ds (c :: (p ++ t))
    by_cases h : c.toNat = 62
    · rw [decGo_end h, decGo_end h]
      have e : (p ++ w :: t).all whiteB = (p ++ t).all whiteB := by
        have : whiteB w = true := decide_eq_true hw
        simp [this]
      rw [e]
    · by_cases h2 : 0 ≤ hexI (c.toNat : Int)
      · rw [decGo_digit h h2, decGo_digit h h2, ih]
      · by_cases h3 : kindI (c.toNat : Int) = 0
        · rw [decGo_white h h2 h3, decGo_white h h2 h3, ih]
        · rw [decGo_bad h h2 h3, decGo_bad h h2 h3]

/-- There and back. -/
theorem decGo_digB {ds : List Nat} {n : Nat} {t : List UInt8} (h : n < 16) : decGo ds (digB n :: t) = decGo (ds ++ [n]) t := by
  have a := digitI_range h
  have b := digB_nat h
  have c := hex_digit h
  rw [decGo_digit (by omega) (by rw [b, c]; omega), b, c]
  rfl
theorem pairsH_snoc2 : ∀ (ds : List Nat) (a b : Nat), ds.length % 2 = 0 → pairsH (ds ++ [a] ++ [b]) = pairsH ds ++ [UInt8.ofNat (16 * a + b)]
  | [], a, b, _ => rfl
  | [x], a, b, h => by simp at h
  | x :: y :: r, a, b, h => by
    show UInt8.ofNat (16 * x + y) :: pairsH (r ++ [a] ++ [b]) = UInt8.ofNat (16 * x + y) :: (pairsH r ++ [UInt8.ofNat (16 * a + b)])
    rw [pairsH_snoc2 r a b (by simp at h; omega)]
theorem dec_enc : ∀ (l : List UInt8) (ds : List Nat), ds.length % 2 = 0 → decGo ds (encH l) = (pairsH ds ++ l, 0)
  | [], ds, h => by
    show decGo ds [62] = _
    rw [decGo_end rfl]; simp
  | c :: l, ds, h => by
    show decGo ds (digB (c.toNat / 16) :: digB (c.toNat % 16) :: encH l) = _
    have h1 := c.toNat_lt
    rw [decGo_digB (by omega), decGo_digB (by omega), dec_enc l _ (by simp; omega), pairsH_snoc2 ds _ _ h]
    have e : UInt8.ofNat (16 * (c.toNat / 16) + c.toNat % 16) = c := by
      have : 16 * (c.toNat / 16) + c.toNat % 16 = c.toNat := by omega
      rw [this]; exact UInt8.ofNat_toNat
    rw [e, List.append_assoc]; rfl

end
end Go.Proofs.YtejgcnmbngdkiaaGreatDoor
/-
  Where lines begin, and the first one that has a word: plain facts about lists of bytes.
-/
namespace Go.Proofs.YtejgcnmbngdkiaaGreatDoor
section

/-- Where the line behind a place begins, or the text's end: the first end of a line from there on, and what stands behind it. -/
def IsBehind (l : List UInt8) (k b : Nat) : Prop :=
  (b = l.length ∧ ∀ j, k ≤ j → j < l.length → endsN l j = 0) ∨
  (∃ m, k ≤ m ∧ m < l.length ∧ (∀ j, k ≤ j → j < m → endsN l j = 0) ∧ 0 < endsN l m ∧ b = m + endsN l m)

theorem endsN_le (l : List UInt8) (k : Nat) (h : k < l.length) : k + endsN l k ≤ l.length := by
  unfold endsN
  split
  · rename_i hp; have := hp.length_le; simp at this; omega
  · split <;> omega

/-- The lines that begin ahead of a place. -/
def upto (l : List UInt8) (m : Nat) : List Nat := (List.range m).filter (beginsN l)
/-- Where the lines of a text begin. -/
def linesN (l : List UInt8) : List Nat := upto l l.length

theorem upto_zero (l : List UInt8) : upto l 0 = [] := rfl
theorem upto_succ (l : List UInt8) (m : Nat) : upto l (m + 1) = upto l m ++ if beginsN l m then [m] else [] := by
  unfold upto
  rw [List.range_succ, List.filter_append]
  congr 1
  cases h : beginsN l m <;> simp [h]
theorem upto_le (l : List UInt8) (m : Nat) : (upto l m).length ≤ m := by
  unfold upto
  have := List.length_filter_le (beginsN l) (List.range m)
  simpa using this

theorem upto_prefix (l : List UInt8) {a : Nat} : ∀ {b : Nat}, a ≤ b → upto l a <+: upto l b
  | 0, h => by obtain rfl : a = 0 := by omega
               exact List.prefix_refl _
  | b + 1, h => by
    by_cases e : a = b + 1
    · subst e; exact List.prefix_refl _
    · rw [upto_succ]; exact (upto_prefix l (show a ≤ b by omega)).trans (List.prefix_append _ _)
theorem upto_snoc {l : List UInt8} {k : Nat} (hb : beginsN l k = true) (hk : k < l.length) : upto l k ++ [k] <+: linesN l := by
  have : upto l k ++ [k] = upto l (k + 1) := by rw [upto_succ, hb]; rfl
  rw [this]; exact upto_prefix l hk

theorem ends_no (l : List UInt8) (j : Nat) (h : endsN l j = 0) : ¬ l[j]? = some 13 ∧ ¬ l[j]? = some 10 := by
  unfold endsN at h
  split at h
  · cases h
  · split at h
    · cases h
    · rename_i h2; exact ⟨fun e => h2 (.inl e), fun e => h2 (.inr e)⟩
theorem crlf_at (l : List UInt8) (m : Nat) : [13, 10] <+: l.drop m ↔ l[m]? = some 13 ∧ l[m + 1]? = some 10 := by
  constructor
  · intro h
    obtain ⟨t, ht⟩ := h
    have h0 : (l.drop m)[0]? = some 13 := by rw [← ht]; rfl
    have h1 : (l.drop m)[1]? = some 10 := by rw [← ht]; rfl
    rw [List.getElem?_drop] at h0 h1
    exact ⟨h0, h1⟩
  · rintro ⟨h0, h1⟩
    have e0 : l.drop m = 13 :: l.drop (m + 1) := by
      obtain ⟨hm, e⟩ := List.getElem?_eq_some_iff.1 h0
      rw [List.drop_eq_getElem_cons hm, e]
    have e1 : l.drop (m + 1) = 10 :: l.drop (m + 1 + 1) := by
      obtain ⟨hm, e⟩ := List.getElem?_eq_some_iff.1 h1
      rw [List.drop_eq_getElem_cons hm, e]
    rw [e0, e1]
    exact ⟨_, rfl⟩
theorem begins_of_succ (l : List UInt8) (j : Nat) : beginsN l (j + 1) = true ↔ j + 1 < l.length ∧ (l[j]? = some 10 ∨ (l[j]? = some 13 ∧ ¬ l[j + 1]? = some 10)) := by
  unfold beginsN
  simp only [decide_eq_true_eq, Nat.add_sub_cancel]
  constructor
  · rintro ⟨a, b | c⟩
    · omega
    · exact ⟨a, c⟩
  · rintro ⟨a, c⟩; exact ⟨a, .inr c⟩

theorem upto_gap (l : List UInt8) (k : Nat) (hb : beginsN l k = true) : ∀ d, (∀ j, k < j → j < k + 1 + d → beginsN l j = false) → upto l (k + 1 + d) = upto l k ++ [k]
  | 0, _ => by rw [Nat.add_zero, upto_succ, hb]; rfl
  | d + 1, h => by
    rw [show k + 1 + (d + 1) = (k + 1 + d) + 1 from rfl, upto_succ, h (k + 1 + d) (by omega) (by omega), upto_gap l k hb d (fun j h1 h2 => h j h1 (by omega))]
    simp

theorem behind_step {l : List UInt8} {k b : Nat} (hk : k < l.length) (hb : beginsN l k = true) (h : IsBehind l k b) :
    upto l b = upto l k ++ [k] ∧ k < b ∧ b ≤ l.length ∧ (b < l.length → beginsN l b = true) := by
  have main : k < b ∧ b ≤ l.length ∧ (b < l.length → beginsN l b = true) ∧ ∀ j, k < j → j < b → beginsN l j = false := by
    have no : ∀ j, endsN l j = 0 → beginsN l (j + 1) = false := by
      intro j h0
      obtain ⟨h13, h10⟩ := ends_no l j h0
      cases hc : beginsN l (j + 1)
      · rfl
      · exfalso
        rcases ((begins_of_succ l j).1 hc).2 with e | ⟨e, _⟩
        · exact h10 e
        · exact h13 e
    rcases h with ⟨rfl, h0⟩ | ⟨m, hkm, hml, h0, hpos, rfl⟩
    · refine ⟨hk, Nat.le_refl _, fun h => absurd h (by omega), fun j h1 h2 => ?_⟩
      obtain ⟨i, rfl⟩ : ∃ i, j = i + 1 := ⟨j - 1, by omega⟩
      exact no i (h0 i (by omega) (by omega))
    · have hle := endsN_le l m hml
      have hcase : (endsN l m = 2 ∧ l[m]? = some 13 ∧ l[m + 1]? = some 10) ∨ (endsN l m = 1 ∧ (l[m]? = some 10 ∨ (l[m]? = some 13 ∧ ¬ l[m + 1]? = some 10))) := by
        unfold endsN at hpos ⊢
        by_cases hp : [13, 10] <+: l.drop m
        · rw [if_pos hp]; exact .inl ⟨rfl, (crlf_at l m).1 hp⟩
        · rw [if_neg hp] at hpos ⊢
          by_cases h2 : l[m]? = some 13 ∨ l[m]? = some 10
          · rw [if_pos h2]
            refine .inr ⟨rfl, ?_⟩
            rcases h2 with e | e
            · exact .inr ⟨e, fun e' => hp ((crlf_at l m).2 ⟨e, e'⟩)⟩
            · exact .inl e
          · rw [if_neg h2] at hpos; omega
      refine ⟨by omega, hle, ?_, ?_⟩
      · intro hlt
        rcases hcase with ⟨e, h1, h2⟩ | ⟨e, h1⟩
        · rw [e] at hlt ⊢
          exact (begins_of_succ l (m + 1)).2 ⟨hlt, .inl h2⟩
        · rw [e] at hlt ⊢
          exact (begins_of_succ l m).2 ⟨hlt, h1⟩
      · intro j h1 h2
        obtain ⟨i, rfl⟩ : ∃ i, j = i + 1 := ⟨j - 1, by omega⟩
        by_cases hi : i < m
        · exact no i (h0 i (by omega) hi)
        · rcases hcase with ⟨e, e13, e10⟩ | ⟨e, _⟩
          · obtain rfl : i = m := by omega
            cases hc : beginsN l (i + 1)
            · rfl
            · exfalso
              rcases ((begins_of_succ l i).1 hc).2 with e' | ⟨_, e'⟩
              · rw [e13] at e'; cases e'
              · exact e' e10
          · omega
  obtain ⟨h1, h2, h3, h4⟩ := main
  refine ⟨?_, h1, h2, h3⟩
  obtain ⟨d, rfl⟩ : ∃ d, b = k + 1 + d := ⟨b - (k + 1), by omega⟩
  exact upto_gap l k hb d h4

theorem begins_first (l : List UInt8) (h : 0 < l.length) : beginsN l 0 = true := by simp [beginsN]; omega

/-- Is that the line that is looked for? -/
def hitB (l : List UInt8) (from' : Int) (p : List UInt8) (k : Nat) : Bool := decide (from' ≤ (k : Int)) && (beginsN l k && preB (l.drop k) p)
/-- The first line, from a place on, that has a word. -/
def lineI (l : List UInt8) (from' : Int) (p : List UInt8) : Int :=
  match (List.range l.length).find? (hitB l from' p) with
  | some k => k
  | none => -1

theorem lineI_hit {l : List UInt8} {from' : Int} {p : List UInt8} {k : Nat} (hk : k < l.length) (h : hitB l from' p k = true) (hno : ∀ i, i < k → hitB l from' p i = false) : lineI l from' p = k := by
  unfold lineI
  rw [List.find?_range_eq_some.2 ⟨h, by simpa using hk, fun j hj => by rw [hno j hj]; rfl⟩]
theorem lineI_none {l : List UInt8} {from' : Int} {p : List UInt8} (hno : ∀ i, i < l.length → hitB l from' p i = false) : lineI l from' p = -1 := by
  unfold lineI
  rw [List.find?_eq_none.2 (fun x hx => by rw [hno x (by simpa using hx)]; decide)]

/-- The same over what stands from the byte ahead of the place on. -/
def hitA (l : List UInt8) (from' : Int) (p : List UInt8) (a k : Nat) : Bool := decide (from' ≤ (a : Int) + (k : Int)) && preB (l.drop (a + k)) p

theorem begins_drop (l : List UInt8) (a j : Nat) : beginsN (l.drop a) (j + 1) = beginsN l (a + (j + 1)) := by
  rw [Bool.eq_iff_iff, begins_of_succ, show a + (j + 1) = (a + j) + 1 from rfl, begins_of_succ]
  simp only [List.getElem?_drop, List.length_drop]
  rw [show a + (j + 1) = a + j + 1 from rfl]
  constructor
  · rintro ⟨h, h'⟩; exact ⟨by omega, h'⟩
  · rintro ⟨h, h'⟩; exact ⟨by omega, h'⟩

theorem hit_drop (l : List UInt8) (from' : Int) (p : List UInt8) (a : Nat) (ha : a = 0 ∨ (a : Int) < from') (k : Nat) :
    (beginsN (l.drop a) k && hitA l from' p a k) = hitB l from' p (a + k) ∨ (a ≠ 0 ∧ k = 0) := by
  rcases ha with rfl | ha
  · left
    simp only [hitA, hitB, List.drop_zero, Nat.zero_add, Int.natCast_zero, Int.zero_add]
    cases beginsN l k <;> cases decide (from' ≤ (k : Int)) <;> simp
  · by_cases ha0 : a = 0
    · subst ha0; left
      simp only [hitA, hitB, List.drop_zero, Nat.zero_add, Int.natCast_zero, Int.zero_add]
      cases beginsN l k <;> cases decide (from' ≤ (k : Int)) <;> simp
    · cases k with
      | zero => right; exact ⟨ha0, rfl⟩
      | succ j =>
        left
        rw [begins_drop]
        simp only [hitA, hitB, Int.natCast_add]
        cases beginsN l (a + (j + 1)) <;> cases decide (from' ≤ (a : Int) + ((j + 1 : Nat) : Int)) <;> simp_all
theorem hitA_zero (l : List UInt8) (from' : Int) (p : List UInt8) (a : Nat) (ha : (a : Int) < from') : hitA l from' p a 0 = false := by
  simp [hitA]; omega
theorem hitB_low (l : List UInt8) (from' : Int) (p : List UInt8) (k : Nat) (hk : (k : Int) < from') : hitB l from' p k = false := by
  simp [hitB]; omega

/-- A line of the rest is one of the whole, where it counts. -/
theorem hit_of_rest {l : List UInt8} {from' : Int} {p : List UInt8} {a : Nat} (ha : a = 0 ∨ (a : Int) < from') {k : Nat} (hb : beginsN (l.drop a) k = true) (h : hitA l from' p a k = true) : hitB l from' p (a + k) = true := by
  rcases hit_drop l from' p a ha k with e | ⟨h0, rfl⟩
  · rw [← e, hb, h]; rfl
  · rcases ha with rfl | ha
    · exact absurd rfl h0
    · rw [hitA_zero l from' p a ha] at h; cases h
theorem miss_of_rest {l : List UInt8} {from' : Int} {p : List UInt8} {a : Nat} (ha : a = 0 ∨ (a : Int) < from') {k : Nat} (h : beginsN (l.drop a) k = true → hitA l from' p a k = false) : hitB l from' p (a + k) = false := by
  rcases hit_drop l from' p a ha k with e | ⟨h0, rfl⟩
  · rw [← e]
    cases hb : beginsN (l.drop a) k
    · rfl
    · rw [h hb]; rfl
  · rcases ha with rfl | ha
    · exact absurd rfl h0
    · exact hitB_low _ _ _ _ (by simpa using ha)
theorem mem_upto {l : List UInt8} {m k : Nat} : k ∈ upto l m ↔ k < m ∧ beginsN l k = true := by
  unfold upto; rw [List.mem_filter, List.mem_range]

theorem line_rest_none {l : List UInt8} {from' : Int} {p : List UInt8} {a : Nat} (ha : a = 0 ∨ (a : Int) < from') (hle : a ≤ l.length) (h : ∀ k, k ∈ linesN (l.drop a) → hitA l from' p a k = false) : lineI l from' p = -1 := by
  refine lineI_none fun i hi => ?_
  by_cases hia : i < a
  · rcases ha with rfl | ha
    · omega
    · exact hitB_low _ _ _ _ (by omega)
  · obtain ⟨k, rfl⟩ : ∃ k, i = a + k := ⟨i - a, by omega⟩
    exact miss_of_rest ha fun hb => h k (mem_upto.2 ⟨by rw [List.length_drop]; omega, hb⟩)

/-- The lines that came rise: those ahead of one are all that begin ahead of it. -/
theorem prefix_upto (l : List UInt8) : ∀ (m : Nat) (q : List Nat) (k : Nat), q ++ [k] <+: upto l m → k < m ∧ beginsN l k = true ∧ ∀ i, i < k → beginsN l i = true → i ∈ q
  | 0, q, k, h => by
    have := h.length_le
    simp [upto_zero] at this
  | m + 1, q, k, h => by
    rw [upto_succ] at h
    cases hb : beginsN l m
    · rw [hb] at h
      simp only [Bool.false_eq_true, if_false, List.append_nil] at h
      obtain ⟨h1, h2, h3⟩ := prefix_upto l m q k h
      exact ⟨by omega, h2, h3⟩
    · rw [hb] at h
      simp only [if_true] at h
      by_cases hl : (q ++ [k]).length ≤ (upto l m).length
      · have hp : q ++ [k] <+: upto l m := List.prefix_of_prefix_length_le h (List.prefix_append _ _) hl
        obtain ⟨h1, h2, h3⟩ := prefix_upto l m q k hp
        exact ⟨by omega, h2, h3⟩
      · have he : q ++ [k] = upto l m ++ [m] := h.eq_of_length (by have := h.length_le; simp at *; omega)
        have h1 : q = upto l m ∧ [k] = [m] := List.append_inj' he rfl
        obtain ⟨rfl, h2⟩ := h1
        obtain rfl : k = m := by simpa using h2
        exact ⟨by omega, hb, fun i hi hbi => mem_upto.2 ⟨hi, hbi⟩⟩

theorem line_rest_hit {l : List UInt8} {from' : Int} {p : List UInt8} {a : Nat} (ha : a = 0 ∨ (a : Int) < from') {q : List Nat} {k : Nat} (hp : q ++ [k] <+: linesN (l.drop a)) (hq : ∀ i, i ∈ q → hitA l from' p a i = false) (hk : hitA l from' p a k = true) : lineI l from' p = ((a + k : Nat) : Int) := by
  obtain ⟨h1, h2, h3⟩ := prefix_upto _ _ _ _ hp
  rw [List.length_drop] at h1
  refine lineI_hit (by omega) (hit_of_rest ha h2 hk) fun i hi => ?_
  by_cases hia : i < a
  · rcases ha with rfl | ha
    · omega
    · exact hitB_low _ _ _ _ (by omega)
  · obtain ⟨j, rfl⟩ : ∃ j, i = a + j := ⟨i - a, by omega⟩
    exact miss_of_rest ha fun hb => hq j (h3 j (by omega) hb)

end
end Go.Proofs.YtejgcnmbngdkiaaGreatDoor
/-
  The signs of the format, plainly: no program in sight.
-/
namespace Go.Proofs.YtejgcnmbngdkiaaGreatDoor
section

/-- A sign: its kind, its number, its bytes, where it begins, where it ends, and the error, if there is none. -/
structure Sg where
  kind : Int
  num : Int
  str : List UInt8
  beg : Nat
  fin : Nat
  code : Int
def Sg.err (c : Int) : Sg := ⟨0, 0, [], 0, 0, c⟩
def Sg.bare (k : Int) (e : Nat) : Sg := ⟨k, 0, [], 0, e, 0⟩

/-- How many bytes are passed: white ones, and notes. -/
def skipGo : Bool → List UInt8 → Nat
  | _, [] => 0
  | note, c :: t =>
    if c.toNat = 10 ∨ c.toNat = 13 then skipGo false t + 1
    else if note = true ∨ c.toNat = 37 then skipGo true t + 1
    else if kindI (c.toNat : Int) = 0 then skipGo false t + 1 else 0
theorem skip_eol {n : Bool} {c : UInt8} {t : List UInt8} (h : c.toNat = 10 ∨ c.toNat = 13) : skipGo n (c :: t) = skipGo false t + 1 := by rw [skipGo, if_pos h]
theorem skip_in {c : UInt8} {t : List UInt8} (h : ¬ (c.toNat = 10 ∨ c.toNat = 13)) : skipGo true (c :: t) = skipGo true t + 1 := by rw [skipGo, if_neg h, if_pos (Or.inl rfl)]
theorem skip_note {n : Bool} {c : UInt8} {t : List UInt8} (h : c.toNat = 37) : skipGo n (c :: t) = skipGo true t + 1 := by rw [skipGo, if_neg (by omega), if_pos (Or.inr h)]
theorem kind_zero {c : UInt8} : kindI (c.toNat : Int) = 0 ↔ c.toNat = 0 ∨ c.toNat = 9 ∨ c.toNat = 10 ∨ c.toNat = 12 ∨ c.toNat = 13 ∨ c.toNat = 32 := by
  unfold kindI
  constructor
  · intro h
    by_cases e : (c.toNat : Int) = 0 ∨ (c.toNat : Int) = 9 ∨ (c.toNat : Int) = 10 ∨ (c.toNat : Int) = 12 ∨ (c.toNat : Int) = 13 ∨ (c.toNat : Int) = 32
    · omega
    · rw [if_neg e] at h
      split at h <;> simp at h
  · intro h; rw [if_pos (by omega)]
theorem skip_white {c : UInt8} {t : List UInt8} (h : kindI (c.toNat : Int) = 0) : skipGo false (c :: t) = skipGo false t + 1 := by
  have h' := kind_zero.1 h
  rw [skipGo]
  by_cases e : c.toNat = 10 ∨ c.toNat = 13
  · rw [if_pos e]
  · rw [if_neg e, if_neg (by rintro (x | x); cases x; omega), if_pos h]
theorem skip_stop {c : UInt8} {t : List UInt8} (h : ¬ kindI (c.toNat : Int) = 0) (h2 : ¬ c.toNat = 37) : skipGo false (c :: t) = 0 := by
  have h' : ¬ (c.toNat = 10 ∨ c.toNat = 13) := fun e => h (kind_zero.2 (by omega))
  rw [skipGo, if_neg h', if_neg (by rintro (x | x); cases x; exact h2 x), if_neg h]
theorem skip_le : ∀ (l : List UInt8) (n : Bool), skipGo n l ≤ l.length
  | [], n => by cases n <;> exact Nat.le_refl _
  | c :: t, n => by
    have h1 := skip_le t false
    have h2 := skip_le t true
    rw [skipGo, List.length_cons]
    split
    · omega
    · split
      · omega
      · split <;> omega
/-- What stands where that ends. -/
theorem skip_head : ∀ (l : List UInt8) (n : Bool), ∀ c t, l.drop (skipGo n l) = c :: t → ¬ kindI (c.toNat : Int) = 0 ∧ ¬ c.toNat = 37
  | [], n, c, t, h => by simp at h
  | a :: r, n, c, t, h => by
    have h1 := skip_head r false c t
    have h2 := skip_head r true c t
    rw [skipGo] at h
    split at h
    · exact h1 h
    · split at h
      · exact h2 h
      · rename_i e1 e2
        split at h
        · exact h1 h
        · rename_i e3
          rw [List.drop_zero] at h
          injection h with ha _
          subst ha
          exact ⟨e3, fun e => e2 (Or.inr e)⟩
theorem skip_span (l : List UInt8) : ∀ k, (∀ m, m < k → goodN l [0] m = true) → skipGo false l = k + skipGo false (l.drop k)
  | 0, _ => by simp
  | k + 1, h => by
    rw [skip_span l k (fun m hm => h m (by omega))]
    have hk := h k (by omega)
    unfold goodN at hk
    cases hd : l.drop k with
    | nil =>
      have : l[k]? = none := by have := congrArg (fun x => x[0]?) hd; simpa using this
      rw [this] at hk; cases hk
    | cons c t =>
      have hc : l[k]? = some c := by have := congrArg (fun x => x[0]?) hd; simpa using this
      rw [hc] at hk
      have hz : kindI (c.toNat : Int) = 0 := by simpa using hk
      have ht : l.drop (k + 1) = t := by rw [← List.drop_drop, hd]; rfl
      rw [skip_white hz, ht]; omega

/-- The byte that a # and two digits are. -/
def hidL : List UInt8 → Option UInt8
  | _ :: a :: b :: _ => if hexI (a.toNat : Int) < 0 ∨ hexI (b.toNat : Int) < 0 ∨ hexI (a.toNat : Int) + hexI (b.toNat : Int) = 0 then none else some (UInt8.ofNat (16 * (hexI (a.toNat : Int)).toNat + (hexI (b.toNat : Int)).toNat))
  | _ => none
/-- A name's bytes, from the first one behind the / on. -/
def nameGo (out : List UInt8) (n : Nat) (l : List UInt8) : Sg :=
  match l with
  | [] => ⟨2, 0, out, 0, n, 0⟩
  | c :: t =>
    if ¬ kindI (c.toNat : Int) = 2 then ⟨2, 0, out, 0, n, 0⟩
    else if c.toNat = 35 then
      match hidL (c :: t) with
      | none => Sg.err 4
      | some b => if 127 ≤ out.length then Sg.err 8 else nameGo (out ++ [b]) (n + 3) (t.drop 2)
    else if 127 ≤ out.length then Sg.err 8 else nameGo (out ++ [c]) (n + 1) t
termination_by l.length
decreasing_by
  · simp only [List.length_drop, List.length_cons]; omega
  · simp only [List.length_cons]; omega
theorem name_nil {out : List UInt8} {n : Nat} : nameGo out n [] = ⟨2, 0, out, 0, n, 0⟩ := by rw [nameGo]
theorem name_end {out : List UInt8} {n : Nat} {c : UInt8} {t : List UInt8} (h : ¬ kindI (c.toNat : Int) = 2) : nameGo out n (c :: t) = ⟨2, 0, out, 0, n, 0⟩ := by rw [nameGo, if_pos h]
theorem name_form {out : List UInt8} {n : Nat} {c : UInt8} {t : List UInt8} (h : kindI (c.toNat : Int) = 2) (h2 : c.toNat = 35) (h3 : hidL (c :: t) = none) : nameGo out n (c :: t) = Sg.err 4 := by
  rw [nameGo, if_neg (by simpa using h), if_pos h2, h3]
theorem name_hid {out : List UInt8} {n : Nat} {c b : UInt8} {t : List UInt8} (h : kindI (c.toNat : Int) = 2) (h2 : c.toNat = 35) (h3 : hidL (c :: t) = some b) : nameGo out n (c :: t) = if 127 ≤ out.length then Sg.err 8 else nameGo (out ++ [b]) (n + 3) (t.drop 2) := by
  rw [nameGo, if_neg (by simpa using h), if_pos h2, h3]
theorem name_plain {out : List UInt8} {n : Nat} {c : UInt8} {t : List UInt8} (h : kindI (c.toNat : Int) = 2) (h2 : ¬ c.toNat = 35) : nameGo out n (c :: t) = if 127 ≤ out.length then Sg.err 8 else nameGo (out ++ [c]) (n + 1) t := by
  rw [nameGo, if_neg (by simpa using h), if_neg h2]

/-- How many digits to the base 8 stand first, of those that tell a byte; and the byte. -/
def octB (c : UInt8) : Bool := decide (48 ≤ c.toNat ∧ c.toNat ≤ 55)
def octN (l : List UInt8) : Nat := ((l.take 3).takeWhile octB).length
def octV (l : List UInt8) : Nat := l.foldl (fun n c => (8 * n + (c.toNat - 48)) % 256) 0
/-- What a letter behind a backslash means. -/
def escC (c : UInt8) : UInt8 := if c.toNat = 110 then 10 else if c.toNat = 114 then 13 else if c.toNat = 116 then 9 else if c.toNat = 98 then 8 else if c.toNat = 102 then 12 else c
/-- What stands behind a backslash, and how long it is. -/
def escL (l : List UInt8) : List UInt8 × Nat :=
  match l with
  | [] => ([], 0)
  | c :: _ =>
    if 0 < endsN l 0 then ([], endsN l 0)
    else if 0 < octN l then ([UInt8.ofNat (octV (l.take (octN l)))], octN l)
    else ([escC c], 1)
/-- What the bytes of a text with which it begins stand for, and how many they are. -/
def withinL (l : List UInt8) : List UInt8 × Nat :=
  match l with
  | [] => ([], 0)
  | c :: t =>
    if 0 < endsN l 0 then ([10], endsN l 0)
    else if c.toNat = 92 then ((escL t).1, 1 + (escL t).2)
    else ([c], 1)
theorem within_pos (c : UInt8) (t : List UInt8) : 0 < (withinL (c :: t)).2 := by
  unfold withinL
  by_cases h : 0 < endsN (c :: t) 0
  · simp only [if_pos h]; exact h
  · simp only [if_neg h]
    by_cases h2 : c.toNat = 92
    · simp only [if_pos h2]; omega
    · simp only [if_neg h2]; omega
def depthT (d : Nat) (c : UInt8) : Nat := if c.toNat = 40 then d + 1 else if c.toNat = 41 then d - 1 else d
/-- A text's bytes, from the first one behind the ( on, within so many brackets. -/
def textGo (d : Nat) (out : List UInt8) (n : Nat) (l : List UInt8) : Sg :=
  match l with
  | [] => Sg.err 5
  | c :: t =>
    if c.toNat = 41 ∧ d = 1 then ⟨3, 0, out, 0, n + 1, 0⟩
    else if 65535 < (out ++ (withinL (c :: t)).1).length then Sg.err 8
    else textGo (depthT d c) (out ++ (withinL (c :: t)).1) (n + (withinL (c :: t)).2) ((c :: t).drop (withinL (c :: t)).2)
termination_by l.length
decreasing_by
  have := within_pos c t
  simp only [List.length_drop, List.length_cons]; omega
theorem text_nil {d : Nat} {out : List UInt8} {n : Nat} : textGo d out n [] = Sg.err 5 := by rw [textGo]
theorem text_end {d : Nat} {out : List UInt8} {n : Nat} {c : UInt8} {t : List UInt8} (h : c.toNat = 41) (hd : d = 1) : textGo d out n (c :: t) = ⟨3, 0, out, 0, n + 1, 0⟩ := by rw [textGo, if_pos ⟨h, hd⟩]
theorem text_long {d : Nat} {out p : List UInt8} {n k : Nat} {c : UInt8} {t : List UInt8} (h : ¬ (c.toNat = 41 ∧ d = 1)) (hw : withinL (c :: t) = (p, k)) (hp : 65535 < out.length + p.length) : textGo d out n (c :: t) = Sg.err 8 := by
  rw [textGo, if_neg h, hw, if_pos (by rw [List.length_append]; exact hp)]
theorem text_step {d : Nat} {out p : List UInt8} {n k : Nat} {c : UInt8} {t : List UInt8} (h : ¬ (c.toNat = 41 ∧ d = 1)) (hw : withinL (c :: t) = (p, k)) (hp : ¬ 65535 < out.length + p.length) : textGo d out n (c :: t) = textGo (depthT d c) (out ++ p) (n + k) ((c :: t).drop k) := by
  rw [textGo, if_neg h, hw, if_neg (by rw [List.length_append]; exact hp)]

/-- A text of digits, from the first byte behind the < on. -/
def hexGo (ds : List Nat) (n : Nat) : List UInt8 → Sg
  | [] => Sg.err 5
  | c :: t =>
    if c.toNat = 62 then (if 65535 < (ds.length + 1) / 2 then Sg.err 8 else ⟨3, 0, pairsH ds, 0, n + 1, 0⟩)
    else if 0 ≤ hexI (c.toNat : Int) then (if 65535 < (ds.length + 1) / 2 then Sg.err 8 else hexGo (ds ++ [(hexI (c.toNat : Int)).toNat]) (n + 1) t)
    else if kindI (c.toNat : Int) = 0 then hexGo ds (n + 1) t else Sg.err 4
theorem hex_end {ds : List Nat} {n : Nat} {c : UInt8} {t : List UInt8} (h : c.toNat = 62) : hexGo ds n (c :: t) = if 65535 < (ds.length + 1) / 2 then Sg.err 8 else ⟨3, 0, pairsH ds, 0, n + 1, 0⟩ := by rw [hexGo, if_pos h]
theorem hex_put {ds : List Nat} {n : Nat} {c : UInt8} {t : List UInt8} (h : ¬ c.toNat = 62) (h2 : 0 ≤ hexI (c.toNat : Int)) : hexGo ds n (c :: t) = if 65535 < (ds.length + 1) / 2 then Sg.err 8 else hexGo (ds ++ [(hexI (c.toNat : Int)).toNat]) (n + 1) t := by rw [hexGo, if_neg h, if_pos h2]
theorem hex_white {ds : List Nat} {n : Nat} {c : UInt8} {t : List UInt8} (h : kindI (c.toNat : Int) = 0) : hexGo ds n (c :: t) = hexGo ds (n + 1) t := by
  have h' := white_not h
  rw [hexGo, if_neg h'.1, if_neg h'.2, if_pos h]
theorem hex_bad {ds : List Nat} {n : Nat} {c : UInt8} {t : List UInt8} (h : ¬ c.toNat = 62) (h2 : ¬ 0 ≤ hexI (c.toNat : Int)) (h3 : ¬ kindI (c.toNat : Int) = 0) : hexGo ds n (c :: t) = Sg.err 4 := by rw [hexGo, if_neg h, if_neg h2, if_neg h3]

/-- A number, or a word. -/
def wordOf (w : List UInt8) : Sg :=
  if (looseL w).2 = 0 then ⟨1, (looseL w).1, [], 0, w.length, 0⟩
  else if (looseL w).2 = 3 then Sg.err 3
  else if 127 < w.length then Sg.err 8 else ⟨8, 0, w, 0, w.length, 0⟩
def wordL (l : List UInt8) : Sg := wordOf (l.take (spanN l [2] 0))

/-- The sign with which a text begins. -/
def firstL (l : List UInt8) : Sg :=
  match l with
  | [] => Sg.bare 0 0
  | c :: t =>
    if c.toNat = 91 then Sg.bare 4 1
    else if c.toNat = 93 then Sg.bare 5 1
    else if c.toNat = 47 then nameGo [] 1 t
    else if c.toNat = 40 then textGo 1 [] 1 t
    else if c.toNat = 60 then (if preB l [60, 60] = true then Sg.bare 6 2 else hexGo [] 1 t)
    else if c.toNat = 62 then (if preB l [62, 62] = true then Sg.bare 7 2 else Sg.err 4)
    else if c.toNat = 41 ∨ c.toNat = 123 ∨ c.toNat = 125 then Sg.err 4
    else wordL l
/-- The same, where it stands. -/
def Sg.put (k : Nat) (a : Sg) : Sg := if a.code = 0 then ⟨a.kind, a.num, a.str, k, a.fin + k, 0⟩ else Sg.err a.code
/-- The same, so much farther on. -/
def Sg.off (k : Nat) (a : Sg) : Sg := if a.code = 0 then ⟨a.kind, a.num, a.str, a.beg + k, a.fin + k, 0⟩ else Sg.err a.code
def skipN (l : List UInt8) (k : Nat) : Nat := k + skipGo false (l.drop k)
def placeN (l : List UInt8) (a : Int) : Nat := (min (max a 0) (l.length : Int)).toNat
def skipI (l : List UInt8) (a : Int) : Nat := skipN l (placeN l a)
def nextN (l : List UInt8) (k : Nat) : Sg := (firstL (l.drop (skipN l k))).put (skipN l k)
def nextI (l : List UInt8) (a : Int) : Sg := nextN l (placeN l a)

theorem skipN_le {l : List UInt8} {k : Nat} (h : k ≤ l.length) : k ≤ skipN l k ∧ skipN l k ≤ l.length := by
  have := skip_le (l.drop k) false
  rw [List.length_drop] at this
  unfold skipN; omega
theorem placeN_le (l : List UInt8) (a : Int) : placeN l a ≤ l.length := by unfold placeN; omega
theorem placeN_nat {l : List UInt8} {k : Nat} (h : k ≤ l.length) : placeN l (k : Int) = k := by unfold placeN; omega
theorem nextI_nat {l : List UInt8} {k : Nat} (h : k ≤ l.length) : nextI l (k : Int) = nextN l k := by unfold nextI; rw [placeN_nat h]
theorem Sg.put_err {k : Nat} {a : Sg} (h : ¬ a.code = 0) : a.put k = Sg.err a.code := if_neg h
theorem Sg.put_ok {k : Nat} {a : Sg} (h : a.code = 0) : a.put k = ⟨a.kind, a.num, a.str, k, a.fin + k, 0⟩ := if_pos h

/-- A sign is none, or an error is told alone. -/
def Sg.good (a : Sg) (m : Nat) : Prop := (¬ a.code = 0 → a = Sg.err a.code) ∧ a.fin ≤ m ∧ a.str.length ≤ m ∧ (-2147483648 ≤ a.num ∧ a.num ≤ 2147483647) ∧ (0 ≤ a.kind ∧ a.kind ≤ 8) ∧ (a.code = 0 ∨ a.code = 3 ∨ a.code = 4 ∨ a.code = 5 ∨ a.code = 8)
theorem Sg.good_err {c : Int} (m : Nat) (h : c = 3 ∨ c = 4 ∨ c = 5 ∨ c = 8) : (Sg.err c).good m := ⟨fun _ => rfl, Nat.zero_le _, Nat.zero_le _, (by decide : (-2147483648 : Int) ≤ 0 ∧ (0 : Int) ≤ 2147483647), (by decide : (0 : Int) ≤ 0 ∧ (0 : Int) ≤ 8), .inr h⟩
theorem Sg.good_mk {k n : Int} {s : List UInt8} {b f m : Nat} (hf : f ≤ m) (hs : s.length ≤ m) (hn : -2147483648 ≤ n ∧ n ≤ 2147483647) (hk : 0 ≤ k ∧ k ≤ 8) : (Sg.mk k n s b f 0).good m := ⟨fun h => absurd rfl h, hf, hs, hn, hk, .inl rfl⟩
theorem Sg.good_bare {k : Int} {e m : Nat} (h : 0 ≤ k ∧ k ≤ 8) (he : e ≤ m) : (Sg.bare k e).good m := Sg.good_mk he (Nat.zero_le _) (by decide) h
theorem hidL_length {l : List UInt8} {b : UInt8} (h : hidL l = some b) : 3 ≤ l.length := by
  match l, h with
  | _ :: _ :: _ :: _, _ => simp only [List.length_cons]; omega
theorem name_good : ∀ (k : Nat) (l out : List UInt8) (n : Nat), l.length ≤ k → out.length ≤ n → (nameGo out n l).good (n + l.length) ∧ ((nameGo out n l).code = 0 → n ≤ (nameGo out n l).fin ∧ (nameGo out n l).kind = 2)
  | k, [], out, n, _, ho => by
    rw [name_nil]
    exact ⟨Sg.good_mk (by omega) (by omega) (by decide) (by decide), fun _ => ⟨Nat.le_refl _, rfl⟩⟩
  | 0, c :: t, out, n, hk, ho => by simp at hk
  | k + 1, c :: t, out, n, hk, ho => by
    rw [List.length_cons] at hk ⊢
    have herr : ∀ e : Int, e = 4 ∨ e = 8 → (Sg.err e).good (n + (t.length + 1)) ∧ ((Sg.err e).code = 0 → n ≤ (Sg.err e).fin ∧ (Sg.err e).kind = 2) := fun e he =>
      ⟨Sg.good_err _ (by omega), fun h => by have : e = 0 := h; omega⟩
    by_cases h : kindI (c.toNat : Int) = 2
    · by_cases h2 : c.toNat = 35
      · cases h3 : hidL (c :: t) with
        | none => rw [name_form h h2 h3]; exact herr 4 (by omega)
        | some b =>
          rw [name_hid h h2 h3]
          split
          · exact herr 8 (by omega)
          · have hl := hidL_length h3
            rw [List.length_cons] at hl
            have ih := name_good k (t.drop 2) (out ++ [b]) (n + 3) (by rw [List.length_drop]; omega) (by simp; omega)
            have e : n + 3 + (t.drop 2).length = n + (t.length + 1) := by rw [List.length_drop]; omega
            rw [e] at ih
            exact ⟨ih.1, fun h => ⟨by have := (ih.2 h).1; omega, (ih.2 h).2⟩⟩
      · rw [name_plain h h2]
        split
        · exact herr 8 (by omega)
        · have ih := name_good k t (out ++ [c]) (n + 1) (by omega) (by simp; omega)
          have e : n + 1 + t.length = n + (t.length + 1) := by omega
          rw [e] at ih
          exact ⟨ih.1, fun h => ⟨by have := (ih.2 h).1; omega, (ih.2 h).2⟩⟩
    · rw [name_end h]
      exact ⟨Sg.good_mk (by omega) (by omega) (by decide) (by decide), fun _ => ⟨Nat.le_refl _, rfl⟩⟩
theorem octN_le (l : List UInt8) : octN l ≤ l.length ∧ octN l ≤ 3 := by
  have h := (List.takeWhile_prefix octB (l := l.take 3)).length_le
  rw [List.length_take] at h
  unfold octN
  omega
theorem endsN_zero (l : List UInt8) : endsN l 0 ≤ l.length ∧ endsN l 0 ≤ 2 := by
  unfold endsN
  rw [List.drop_zero]
  split
  · rename_i h
    have := h.length_le
    simp at this; omega
  · split
    · rename_i h
      have : l ≠ [] := by rintro rfl; simp at h
      have := List.length_pos_iff.2 this
      omega
    · omega
theorem esc_len (l : List UInt8) : (escL l).2 ≤ l.length ∧ (escL l).1.length ≤ (escL l).2 := by
  have h1 := endsN_zero l
  have h2 := octN_le l
  cases l with
  | nil => exact ⟨Nat.le_refl _, Nat.le_refl _⟩
  | cons c t =>
    unfold escL
    by_cases h : 0 < endsN (c :: t) 0
    · simp only [if_pos h]; exact ⟨h1.1, Nat.zero_le _⟩
    · simp only [if_neg h]
      by_cases h' : 0 < octN (c :: t)
      · simp only [if_pos h', List.length_cons, List.length_nil]; exact ⟨h2.1, h'⟩
      · simp only [if_neg h', List.length_cons, List.length_nil]; omega
theorem within_len (l : List UInt8) : (withinL l).2 ≤ l.length ∧ (withinL l).1.length ≤ (withinL l).2 := by
  have h1 := endsN_zero l
  cases l with
  | nil => exact ⟨Nat.le_refl _, Nat.le_refl _⟩
  | cons c t =>
    have h3 := esc_len t
    unfold withinL
    by_cases h : 0 < endsN (c :: t) 0
    · simp only [if_pos h, List.length_cons, List.length_nil]; rw [List.length_cons] at h1; omega
    · simp only [if_neg h]
      by_cases h' : c.toNat = 92
      · simp only [if_pos h', List.length_cons]; omega
      · simp only [if_neg h', List.length_cons, List.length_nil]; omega
theorem text_good : ∀ (k : Nat) (l : List UInt8) (d : Nat) (out : List UInt8) (n : Nat), l.length ≤ k → out.length ≤ n → (textGo d out n l).good (n + l.length) ∧ ((textGo d out n l).code = 0 → n ≤ (textGo d out n l).fin ∧ (textGo d out n l).kind = 3)
  | k, [], d, out, n, _, ho => by
    rw [text_nil]
    exact ⟨Sg.good_err _ (by omega), fun h => by have : (5 : Int) = 0 := h; omega⟩
  | 0, c :: t, d, out, n, hk, ho => by simp at hk
  | k + 1, c :: t, d, out, n, hk, ho => by
    obtain ⟨p, j, hw⟩ : ∃ p j, withinL (c :: t) = (p, j) := ⟨_, _, rfl⟩
    have hl := within_len (c :: t)
    have hp := within_pos c t
    rw [hw] at hl hp
    rw [List.length_cons] at hk hl
    by_cases h : c.toNat = 41 ∧ d = 1
    · rw [text_end h.1 h.2]
      exact ⟨Sg.good_mk (by simp only [List.length_cons]; omega) (by simp only [List.length_cons]; omega) (by decide) (by decide), fun _ => ⟨Nat.le_succ _, rfl⟩⟩
    · by_cases hb : 65535 < out.length + p.length
      · rw [text_long h hw hb]
        exact ⟨Sg.good_err _ (by omega), fun h => by have : (8 : Int) = 0 := h; omega⟩
      · rw [text_step h hw hb]
        simp only at hl hp
        have ih := text_good k ((c :: t).drop j) (depthT d c) (out ++ p) (n + j) (by simp only [List.length_drop, List.length_cons]; omega) (by rw [List.length_append]; omega)
        have e : n + j + ((c :: t).drop j).length = n + (c :: t).length := by simp only [List.length_drop, List.length_cons]; omega
        rw [e] at ih
        exact ⟨ih.1, fun h => ⟨by have := (ih.2 h).1; omega, (ih.2 h).2⟩⟩
theorem pairsH_le : ∀ ds : List Nat, (pairsH ds).length ≤ ds.length
  | [] => Nat.le_refl _
  | [_] => Nat.le_refl _
  | a :: b :: r => by
    show (pairsH r).length + 1 ≤ r.length + 1 + 1
    have := pairsH_le r
    omega
theorem hex_good : ∀ (l : List UInt8) (ds : List Nat) (n : Nat), ds.length ≤ n → (hexGo ds n l).good (n + l.length) ∧ ((hexGo ds n l).code = 0 → n ≤ (hexGo ds n l).fin ∧ (hexGo ds n l).kind = 3)
  | [], ds, n, _ => ⟨Sg.good_err _ (by omega), fun h => by have : (5 : Int) = 0 := h; omega⟩
  | c :: t, ds, n, hn => by
    have herr : ∀ e : Int, e = 4 ∨ e = 8 → (Sg.err e).good (n + (c :: t).length) ∧ ((Sg.err e).code = 0 → n ≤ (Sg.err e).fin ∧ (Sg.err e).kind = 3) := fun e he =>
      ⟨Sg.good_err _ (by omega), fun h => by have : e = 0 := h; omega⟩
    have e : n + (c :: t).length = n + 1 + t.length := by rw [List.length_cons]; omega
    by_cases h : c.toNat = 62
    · rw [hex_end h]
      split
      · exact herr 8 (by omega)
      · have := pairsH_le ds
        exact ⟨Sg.good_mk (by simp only [List.length_cons]; omega) (by simp only [List.length_cons]; omega) (by decide) (by decide), fun _ => ⟨Nat.le_succ _, rfl⟩⟩
    · by_cases h2 : 0 ≤ hexI (c.toNat : Int)
      · rw [hex_put h h2]
        split
        · exact herr 8 (by omega)
        · have ih := hex_good t (ds ++ [(hexI (c.toNat : Int)).toNat]) (n + 1) (by simp; omega)
          rw [e]
          exact ⟨ih.1, fun h => ⟨by have := (ih.2 h).1; omega, (ih.2 h).2⟩⟩
      · by_cases h3 : kindI (c.toNat : Int) = 0
        · rw [hex_white h3]
          have ih := hex_good t ds (n + 1) (by omega)
          rw [e]
          exact ⟨ih.1, fun h => ⟨by have := (ih.2 h).1; omega, (ih.2 h).2⟩⟩
        · rw [hex_bad h h2 h3]
          exact herr 4 (by omega)
theorem looseL_code (l : List UInt8) : ((looseL l).2 = 0 ∨ (looseL l).2 = 3 ∨ (looseL l).2 = 4) ∧ -2147483648 ≤ (looseL l).1 ∧ (looseL l).1 ≤ 2147483647 := by
  have key : ∀ t, ((fixL t).2 = 0 ∨ (fixL t).2 = 3 ∨ (fixL t).2 = 4) ∧ 0 ≤ (fixL t).1 ∧ (fixL t).1 ≤ 2147483647 := fun t => by
    refine ⟨?_, fixL_bound t⟩
    unfold fixL
    split
    · exact .inr (.inr rfl)
    · split
      · exact .inr (.inl rfl)
      · exact .inl rfl
  unfold looseL
  split
  · split
    · rename_i t _
      have := key t
      exact ⟨this.1, by omega, by omega⟩
    · split
      · rename_i t _ _
        have := key t
        exact ⟨this.1, by omega, by omega⟩
      · rename_i c t _ _
        have := key (c :: t)
        exact ⟨this.1, by omega, by omega⟩
  · have := key []
    exact ⟨this.1, by omega, by omega⟩
theorem wordOf_good (w : List UInt8) : (wordOf w).good w.length ∧ ((wordOf w).code = 0 → (wordOf w).fin = w.length ∧ ((wordOf w).kind = 1 ∨ (wordOf w).kind = 8)) := by
  have hc := looseL_code w
  unfold wordOf
  split
  · exact ⟨Sg.good_mk (Nat.le_refl _) (Nat.zero_le _) hc.2 (by decide), fun _ => ⟨rfl, .inl rfl⟩⟩
  · split
    · exact ⟨Sg.good_err _ (by omega), fun h => by have : (3 : Int) = 0 := h; omega⟩
    · split
      · exact ⟨Sg.good_err _ (by omega), fun h => by have : (8 : Int) = 0 := h; omega⟩
      · exact ⟨Sg.good_mk (Nat.le_refl _) (Nat.le_refl _) (by decide) (by decide), fun _ => ⟨rfl, .inr rfl⟩⟩
theorem spanN_le (l : List UInt8) (zs : List Int) (k : Nat) : spanN l zs k ≤ l.length - k := by
  have := (List.takeWhile_prefix (fun c : UInt8 => zs.contains (kindI (c.toNat : Int))) (l := l.drop k)).length_le
  rw [List.length_drop] at this
  exact this
theorem span_regular {c : UInt8} {t : List UInt8} (h : kindI (c.toNat : Int) = 2) : 0 < spanN (c :: t) [2] 0 := by
  unfold spanN
  rw [List.drop_zero, List.takeWhile_cons_of_pos (by simp [h]), List.length_cons]; omega
theorem kind_regs {c : UInt8} (h : ¬ kindI (c.toNat : Int) = 0) (h0 : ¬ (c.toNat = 40 ∨ c.toNat = 41 ∨ c.toNat = 60 ∨ c.toNat = 62 ∨ c.toNat = 91 ∨ c.toNat = 93 ∨ c.toNat = 123 ∨ c.toNat = 125 ∨ c.toNat = 47 ∨ c.toNat = 37)) : kindI (c.toNat : Int) = 2 := by
  unfold kindI at *
  split at h
  · exact absurd rfl h
  · rename_i e
    rw [if_neg e, if_neg (by omega)]
theorem first_good (l : List UInt8) (h : ∀ c t, l = c :: t → ¬ kindI (c.toNat : Int) = 0 ∧ ¬ c.toNat = 37) :
    (firstL l).good l.length ∧ ((firstL l).code = 0 → ((firstL l).kind = 0 ∧ (firstL l).fin = 0 ∧ l = [] ∨ ¬ (firstL l).kind = 0 ∧ 0 < (firstL l).fin)) := by
  cases l with
  | nil => exact ⟨Sg.good_bare (by decide) (Nat.le_refl _), fun _ => .inl ⟨rfl, rfl, rfl⟩⟩
  | cons c t =>
    obtain ⟨hw, hn⟩ := h c t rfl
    have hl : (c :: t).length = 1 + t.length := by rw [List.length_cons]; omega
    have key : ∀ {a : Sg} {n : Nat}, 0 < n → a.good (c :: t).length ∧ (a.code = 0 → n ≤ a.fin ∧ ¬ a.kind = 0) → a.good (c :: t).length ∧ (a.code = 0 → (a.kind = 0 ∧ a.fin = 0 ∧ c :: t = [] ∨ ¬ a.kind = 0 ∧ 0 < a.fin)) := fun hn ⟨h1, h2⟩ =>
      ⟨h1, fun h => .inr ⟨(h2 h).2, Nat.lt_of_lt_of_le hn (h2 h).1⟩⟩
    have herr : (Sg.err 4).good (c :: t).length ∧ ((Sg.err 4).code = 0 → 1 ≤ (Sg.err 4).fin ∧ ¬ (Sg.err 4).kind = 0) := ⟨Sg.good_err _ (by omega), fun h => absurd (show (4 : Int) = 0 from h) (by decide)⟩
    have htwo : ∀ q, preB (c :: t) [q, q] = true → 2 ≤ (c :: t).length := fun q hq => (of_decide_eq_true hq).length_le
    unfold firstL
    simp only
    split
    · exact key (n := 1) (by omega) ⟨Sg.good_bare (by decide) (by omega), fun _ => ⟨Nat.le_refl _, by decide⟩⟩
    split
    · exact key (n := 1) (by omega) ⟨Sg.good_bare (by decide) (by omega), fun _ => ⟨Nat.le_refl _, by decide⟩⟩
    split
    · have g := name_good t.length t [] 1 (Nat.le_refl _) (by decide)
      rw [hl]
      exact hl ▸ key (n := 1) (by omega) ⟨by rw [hl]; exact g.1, fun h => ⟨(g.2 h).1, by rw [(g.2 h).2]; decide⟩⟩
    split
    · have g := text_good t.length t 1 [] 1 (Nat.le_refl _) (by decide)
      exact key (n := 1) (by omega) ⟨by rw [hl]; exact g.1, fun h => ⟨(g.2 h).1, by rw [(g.2 h).2]; decide⟩⟩
    split
    · split
      · rename_i hp
        exact key (n := 2) (by omega) ⟨Sg.good_bare (by decide) (htwo _ hp), fun _ => ⟨Nat.le_refl _, by decide⟩⟩
      · have g := hex_good t [] 1 (by decide)
        exact key (n := 1) (by omega) ⟨by rw [hl]; exact g.1, fun h => ⟨(g.2 h).1, by rw [(g.2 h).2]; decide⟩⟩
    split
    · split
      · rename_i hp
        exact key (n := 2) (by omega) ⟨Sg.good_bare (by decide) (htwo _ hp), fun _ => ⟨Nat.le_refl _, by decide⟩⟩
      · exact key (n := 1) (by omega) herr
    split
    · exact key (n := 1) (by omega) herr
    · have hr : kindI (c.toNat : Int) = 2 := kind_regs hw (by omega)
      have hs := span_regular (t := t) hr
      have hs2 := spanN_le (c :: t) [2] 0
      have g := wordOf_good ((c :: t).take (spanN (c :: t) [2] 0))
      have e : ((c :: t).take (spanN (c :: t) [2] 0)).length = spanN (c :: t) [2] 0 := by rw [List.length_take]; omega
      rw [e] at g
      have g1 := g.1
      refine key (n := 1) (by omega) ⟨⟨g1.1, by have := g1.2.1; show _ ≤ _; unfold wordL; omega, by have := g1.2.2.1; unfold wordL; omega, g1.2.2.2⟩, fun h => ⟨by have := (g.2 h).1; unfold wordL; omega, ?_⟩⟩
      rcases (g.2 h).2 with hk | hk <;> (unfold wordL; rw [hk]; decide)
theorem next_good (l : List UInt8) (k : Nat) (hk : k ≤ l.length) :
    (nextN l k).good l.length ∧ ((nextN l k).code = 0 → k ≤ (nextN l k).beg ∧ (nextN l k).beg ≤ (nextN l k).fin ∧ ((nextN l k).kind = 0 ↔ (nextN l k).fin = (nextN l k).beg)) := by
  have hs := skipN_le hk
  have g := first_good (l.drop (skipN l k)) (fun c t h => by
    unfold skipN at h
    rw [← List.drop_drop] at h
    exact skip_head (l.drop k) false c t h)
  unfold nextN Sg.put
  obtain ⟨⟨g1, g2, g3, g4, g5, g6⟩, g7⟩ := g
  rw [List.length_drop] at g2 g3
  by_cases h : (firstL (l.drop (skipN l k))).code = 0
  · rw [if_pos h]
    refine ⟨Sg.good_mk (by omega) (by omega) g4 g5, fun _ => ⟨?_, ?_, ?_⟩⟩
    · simp only; omega
    · simp only; omega
    · simp only
      rcases g7 h with ⟨a, b, _⟩ | ⟨a, b⟩
      · constructor <;> intro _ <;> omega
      · constructor <;> intro _ <;> omega
  · rw [if_neg h]
    exact ⟨Sg.good_err _ (by omega), fun e => absurd e h⟩

end
end Go.Proofs.YtejgcnmbngdkiaaGreatDoor
/-
  All signs of a text, plainly; and that what stands ahead turns nothing but places.
-/
namespace Go.Proofs.YtejgcnmbngdkiaaGreatDoor
section

/-- The signs, one behind the other, from a place on; and the error that ends them. -/
def allGo (l : List UInt8) : Nat → Nat → List Sg × Int
  | 0, _ => ([], 0)
  | f + 1, k =>
    if ¬ (nextN l k).code = 0 then ([], (nextN l k).code)
    else if (nextN l k).kind = 0 then ([nextN l k], 0)
    else (nextN l k :: (allGo l f (nextN l k).fin).1, (allGo l f (nextN l k).fin).2)
def allL (l : List UInt8) : List Sg × Int := allGo l (l.length + 1) 0
theorem all_err {l : List UInt8} {f k : Nat} (h : ¬ (nextN l k).code = 0) : allGo l (f + 1) k = ([], (nextN l k).code) := by rw [allGo, if_pos h]
theorem all_end {l : List UInt8} {f k : Nat} (h : (nextN l k).code = 0) (h2 : (nextN l k).kind = 0) : allGo l (f + 1) k = ([nextN l k], 0) := by rw [allGo, if_neg (by simpa using h), if_pos h2]
theorem all_step {l : List UInt8} {f k : Nat} (h : (nextN l k).code = 0) (h2 : ¬ (nextN l k).kind = 0) : allGo l (f + 1) k = (nextN l k :: (allGo l f (nextN l k).fin).1, (allGo l f (nextN l k).fin).2) := by
  rw [allGo, if_neg (by simpa using h), if_neg h2]
/-- A sign that is none of the end is longer than nothing. -/
theorem next_step {l : List UInt8} {k : Nat} (hk : k ≤ l.length) (h : (nextN l k).code = 0) (h2 : ¬ (nextN l k).kind = 0) : k < (nextN l k).fin ∧ (nextN l k).fin ≤ l.length := by
  have g := next_good l k hk
  have g2 := g.2 h
  have g3 := g.1.2.1
  have : ¬ (nextN l k).fin = (nextN l k).beg := fun e => h2 (g2.2.2.2 e)
  omega
theorem all_good (l : List UInt8) : ∀ (f k : Nat), l.length < f + k → k ≤ l.length → (allGo l f k).1.length ≤ f ∧ (∀ x ∈ (allGo l f k).1, x.code = 0 ∧ x.str.length ≤ l.length ∧ x.fin ≤ l.length) ∧
    ((allGo l f k).2 = 0 → ∃ q x, (allGo l f k).1 = q ++ [x] ∧ x.kind = 0 ∧ ∀ y ∈ q, ¬ y.kind = 0) ∧ (¬ (allGo l f k).2 = 0 → ∀ y ∈ (allGo l f k).1, ¬ y.kind = 0)
  | 0, k, h, hk => by omega
  | f + 1, k, h, hk => by
    have g := (next_good l k hk).1
    by_cases h1 : (nextN l k).code = 0
    · by_cases h2 : (nextN l k).kind = 0
      · rw [all_end h1 h2]
        refine ⟨by simp, fun x hx => ?_, fun _ => ⟨[], _, rfl, h2, fun y hy => by cases hy⟩, fun h => absurd rfl h⟩
        obtain rfl := List.mem_singleton.1 hx
        exact ⟨h1, g.2.2.1, g.2.1⟩
      · rw [all_step h1 h2]
        have hs := next_step hk h1 h2
        obtain ⟨i1, i2, i3, i4⟩ := all_good l f (nextN l k).fin (by omega) hs.2
        refine ⟨by simp only [List.length_cons]; omega, fun x hx => ?_, fun e => ?_, fun e y hy => ?_⟩
        · rcases List.mem_cons.1 hx with rfl | hx
          · exact ⟨h1, g.2.2.1, g.2.1⟩
          · exact i2 x hx
        · obtain ⟨q, x, e1, e2, e3⟩ := i3 e
          refine ⟨nextN l k :: q, x, by simp only [e1]; rfl, e2, fun y hy => ?_⟩
          rcases List.mem_cons.1 hy with rfl | hy
          · exact h2
          · exact e3 y hy
        · rcases List.mem_cons.1 hy with rfl | hy
          · exact h2
          · exact i4 e y hy
    · rw [all_err h1]
      exact ⟨Nat.zero_le _, fun x hx => (by cases hx), fun e => absurd e h1, fun _ y hy => by cases hy⟩
/-- What is told: the signs, and the error, if there is one. -/
def yields (l : List UInt8) : List Sg := (allL l).1 ++ (if (allL l).2 = 0 then [] else [Sg.err (allL l).2])
/-- How many there are ahead of the end, or of the error. -/
def countS (xs : List Sg) : Nat := (xs.filter fun x => !decide (x.kind = 0)).length
theorem countS_snoc (xs : List Sg) (x : Sg) : countS (xs ++ [x]) = if x.kind = 0 then countS xs else countS xs + 1 := by
  unfold countS
  rw [List.filter_append, List.length_append]
  by_cases h : x.kind = 0
  · rw [if_pos h]; simp [h]
  · rw [if_neg h]; simp [h]
theorem countS_none {xs : List Sg} (h : ∀ y ∈ xs, ¬ y.kind = 0) : countS xs = xs.length := by
  unfold countS
  rw [List.filter_eq_self.2 (fun y hy => by simp [h y hy])]
theorem countS_le (xs : List Sg) : countS xs ≤ xs.length := List.length_filter_le _ _
theorem tcount_all (l : List UInt8) : ((allL l).2 = 0 → countS (allL l).1 + 1 = (allL l).1.length) ∧ (¬ (allL l).2 = 0 → countS (allL l).1 = (allL l).1.length) := by
  obtain ⟨_, _, h3, h4⟩ := all_good l (l.length + 1) 0 (by omega) (Nat.zero_le _)
  constructor
  · intro h
    obtain ⟨q, x, e1, e2, e3⟩ := h3 h
    show countS (allGo l (l.length + 1) 0).1 + 1 = (allGo l (l.length + 1) 0).1.length
    rw [e1, countS_snoc, if_pos e2, countS_none e3, List.length_append]; rfl
  · intro h
    exact countS_none (h4 h)

/-- Behind other bytes a sign is the same, so much farther on. -/
theorem skipN_behind (a s : List UInt8) (k : Nat) : skipN (a ++ s) (a.length + k) = skipN s k + a.length := by
  unfold skipN
  rw [← List.drop_drop, List.drop_left]; omega
theorem next_behind (a s : List UInt8) (k : Nat) : nextN (a ++ s) (a.length + k) = (nextN s k).off a.length := by
  unfold nextN
  rw [skipN_behind]
  have e : (a ++ s).drop (skipN s k + a.length) = s.drop (skipN s k) := by rw [Nat.add_comm, ← List.drop_drop, List.drop_left]
  rw [e]
  generalize firstL (s.drop (skipN s k)) = r
  by_cases h : r.code = 0
  · rw [Sg.put_ok h, Sg.put_ok h]
    unfold Sg.off
    rw [if_pos rfl]
    simp only [Nat.add_assoc]
  · rw [Sg.put_err h, Sg.put_err h]
    unfold Sg.off
    rw [if_neg (show ¬ (Sg.err r.code).code = 0 from h)]
    rfl
/-- A note is passed to its end. -/
theorem skip_noted : ∀ (q t : List UInt8), (∀ c ∈ q, ¬ (c.toNat = 10 ∨ c.toNat = 13)) → skipGo true (q ++ t) = q.length + skipGo true t
  | [], t, _ => by simp
  | c :: q, t, h => by
    rw [List.cons_append, skip_in (h c (List.mem_cons_self ..)), skip_noted q t (fun d hd => h d (List.mem_cons_of_mem _ hd)), List.length_cons]; omega
theorem skip_over (w : UInt8) (q s : List UInt8) (hw : kindI (w.toNat : Int) = 0) (hq : ∀ c ∈ q, ¬ (c.toNat = 10 ∨ c.toNat = 13)) :
    skipGo false ([w, 37] ++ q ++ [10, w] ++ s) = ([w, 37] ++ q ++ [10, w]).length + skipGo false s := by
  have e : [w, 37] ++ q ++ [10, w] ++ s = w :: 37 :: (q ++ 10 :: w :: s) := by simp
  rw [e, skip_white hw, skip_note rfl, skip_noted q _ hq, skip_eol (.inl rfl), skip_white hw]
  simp only [List.length_append, List.length_cons, List.length_nil]; omega
theorem next_over (w : UInt8) (q s : List UInt8) (hw : kindI (w.toNat : Int) = 0) (hq : ∀ c ∈ q, ¬ (c.toNat = 10 ∨ c.toNat = 13)) :
    nextN ([w, 37] ++ q ++ [10, w] ++ s) 0 = (nextN s 0).off ([w, 37] ++ q ++ [10, w]).length := by
  have e : skipN ([w, 37] ++ q ++ [10, w] ++ s) 0 = skipN ([w, 37] ++ q ++ [10, w] ++ s) (([w, 37] ++ q ++ [10, w]).length + 0) := by
    rw [skipN_behind]
    unfold skipN
    rw [List.drop_zero, List.drop_zero, skip_over w q s hw hq]; omega
  rw [← next_behind]
  unfold nextN
  rw [e]
end
end Go.Proofs.YtejgcnmbngdkiaaGreatDoor
/-
  Rows of bits, the lowest of a byte ahead: plain facts, no program in sight.
-/
namespace Go.Proofs.YtejgcnmbngdkiaaGreatDoor
section

/-- So many bits of a number, the lowest ahead. -/
def bitsN : Nat → Nat → List Nat
  | 0, _ => []
  | k + 1, n => n % 2 :: bitsN k (n / 2)
/-- The number of bits, the lowest ahead. -/
def numB : List Nat → Nat
  | [] => 0
  | b :: r => b + 2 * numB r
theorem bitsN_length : ∀ (k n : Nat), (bitsN k n).length = k
  | 0, _ => rfl
  | k + 1, n => by rw [bitsN, List.length_cons, bitsN_length k]
theorem bitsN_two : ∀ (k n : Nat), ∀ b ∈ bitsN k n, b < 2
  | 0, _, b, h => by cases h
  | k + 1, n, b, h => by
    rcases List.mem_cons.1 h with rfl | h
    · omega
    · exact bitsN_two k _ b h
theorem numB_bitsN : ∀ (k n : Nat), n < 2 ^ k → numB (bitsN k n) = n
  | 0, n, h => by have : n = 0 := by simpa using h
                  subst this; rfl
  | k + 1, n, h => by
    rw [bitsN, numB, numB_bitsN k (n / 2) (by rw [Nat.pow_succ] at h; omega)]; omega
theorem bitsN_numB : ∀ (l : List Nat), (∀ b ∈ l, b < 2) → bitsN l.length (numB l) = l
  | [], _ => rfl
  | b :: r, h => by
    have hb := h b (by simp)
    rw [List.length_cons, bitsN, numB, show (b + 2 * numB r) % 2 = b by omega, show (b + 2 * numB r) / 2 = numB r by omega, bitsN_numB r fun x hx => h x (by simp [hx])]
theorem numB_lt : ∀ (l : List Nat), (∀ b ∈ l, b < 2) → numB l < 2 ^ l.length
  | [], _ => by decide
  | b :: r, h => by
    have hb := h b (by simp)
    have hr := numB_lt r fun x hx => h x (by simp [hx])
    rw [numB, List.length_cons, Nat.pow_succ]; omega
theorem numB_snoc : ∀ (l : List Nat) (b : Nat), numB (l ++ [b]) = numB l + 2 ^ l.length * b
  | [], b => by simp [numB]
  | x :: r, b => by
    rw [List.cons_append, numB, numB_snoc r b, numB, List.length_cons, Nat.pow_succ, Nat.mul_add, ← Nat.mul_assoc, Nat.mul_comm 2 (2 ^ r.length)]; omega
theorem numB_zeros : ∀ k, numB (List.replicate k 0) = 0
  | 0 => rfl
  | k + 1 => by rw [List.replicate_succ, numB, numB_zeros k]

/-- Put, Align. -/
def putB (row : List Nat) (n width : Int) : List Nat × Int :=
  if width < 0 ∨ 16 < width then (row, 2) else if n < 0 ∨ (2 : Int) ^ width.toNat ≤ n then (row, 3) else (row ++ bitsN width.toNat n.toNat, 0)
def padN (k : Nat) : Nat := (8 - k % 8) % 8
def alignB (row : List Nat) : List Nat := row ++ List.replicate (padN row.length) 0
theorem putB_arg {row : List Nat} {n width : Int} (h : width < 0 ∨ 16 < width) : putB row n width = (row, 2) := by unfold putB; rw [if_pos h]
theorem putB_range {row : List Nat} {n : Int} {v : Nat} (hv : v ≤ 16) (h : n < 0 ∨ (2 : Int) ^ v ≤ n) : putB row n (v : Int) = (row, 3) := by
  unfold putB; rw [if_neg (by omega), Int.toNat_natCast, if_pos h]
theorem putB_ok {row : List Nat} {n v : Nat} (hv : v ≤ 16) (h : n < 2 ^ v) : putB row (n : Int) (v : Int) = (row ++ bitsN v n, 0) := by
  unfold putB
  have : ((2 ^ v : Nat) : Int) = (2 : Int) ^ v := by simp
  rw [if_neg (by omega), Int.toNat_natCast, if_neg (by rw [← this]; omega), Int.toNat_natCast]
theorem padN_lt (k : Nat) : padN k < 8 := by unfold padN; omega
theorem padN_whole (k : Nat) : (k + padN k) % 8 = 0 := by unfold padN; omega
theorem alignB_length (row : List Nat) : (alignB row).length = row.length + padN row.length := by unfold alignB; rw [List.length_append, List.length_replicate]
theorem alignB_two {row : List Nat} (h : ∀ b ∈ row, b < 2) : ∀ b ∈ alignB row, b < 2 := by
  intro b hb
  rcases List.mem_append.1 hb with hb | hb
  · exact h b hb
  · rw [List.eq_of_mem_replicate hb]; omega
/-- A step of the loop that aligns. -/
theorem align_step {row : List Nat} {k : Nat} (h : ¬ (row.length + k) % 8 = 0) (hk : k ≤ padN row.length) : k + 1 ≤ padN row.length := by
  unfold padN at *; omega
theorem align_stop {row : List Nat} {k : Nat} (h : (row.length + k) % 8 = 0) (hk : k ≤ padN row.length) : k = padN row.length := by
  unfold padN at *; omega

/-- Eight bits are a byte. -/
def packB : List Nat → List UInt8
  | a :: b :: c :: d :: e :: f :: g :: h :: r => UInt8.ofNat (numB [a, b, c, d, e, f, g, h]) :: packB r
  | _ => []
def textB (row : List Nat) : List UInt8 := packB (alignB row)
theorem packB_take : ∀ (l : List Nat), 8 ≤ l.length → packB l = UInt8.ofNat (numB (l.take 8)) :: packB (l.drop 8)
  | a :: b :: c :: d :: e :: f :: g :: h :: r, _ => rfl
  | [], h => by simp at h
  | [_], h => by simp at h
  | [_, _], h => by simp at h
  | [_, _, _], h => by simp at h
  | [_, _, _, _], h => by simp at h
  | [_, _, _, _, _], h => by simp at h
  | [_, _, _, _, _, _], h => by simp at h
  | [_, _, _, _, _, _, _], h => by simp at h
theorem packB_nil : packB [] = [] := rfl
theorem packB_length : ∀ (n : Nat) (l : List Nat), l.length = 8 * n → (packB l).length = n
  | 0, l, h => by obtain rfl : l = [] := List.eq_nil_of_length_eq_zero (by omega)
                  rfl
  | n + 1, l, h => by rw [packB_take l (by omega), List.length_cons, packB_length n _ (by rw [List.length_drop]; omega)]
theorem textB_length (row : List Nat) : 8 * (textB row).length = row.length + padN row.length := by
  have h := padN_whole row.length
  obtain ⟨n, hn⟩ : ∃ n, row.length + padN row.length = 8 * n := ⟨(row.length + padN row.length) / 8, by omega⟩
  unfold textB
  rw [packB_length n _ (by rw [alignB_length]; exact hn), hn]

/-- All bits of bytes. -/
def bitsOf (l : List UInt8) : List Nat := l.flatMap fun c => bitsN 8 c.toNat
theorem bitsOf_cons (c : UInt8) (l : List UInt8) : bitsOf (c :: l) = bitsN 8 c.toNat ++ bitsOf l := rfl
theorem bitsOf_append (a b : List UInt8) : bitsOf (a ++ b) = bitsOf a ++ bitsOf b := by simp [bitsOf]
theorem bitsOf_length : ∀ (l : List UInt8), (bitsOf l).length = 8 * l.length
  | [] => rfl
  | c :: l => by rw [bitsOf_cons, List.length_append, bitsN_length, bitsOf_length l, List.length_cons]; omega
theorem bitsOf_two (l : List UInt8) : ∀ b ∈ bitsOf l, b < 2 := by
  intro b hb
  obtain ⟨c, _, hc⟩ := List.mem_flatMap.1 hb
  exact bitsN_two 8 _ b hc
theorem bitsOf_packB : ∀ (n : Nat) (l : List Nat), l.length = 8 * n → (∀ b ∈ l, b < 2) → bitsOf (packB l) = l
  | 0, l, h, _ => by obtain rfl : l = [] := List.eq_nil_of_length_eq_zero (by omega)
                     rfl
  | n + 1, l, h, h2 => by
    have ht : (l.take 8).length = 8 := by rw [List.length_take]; omega
    have h8 : ∀ b ∈ l.take 8, b < 2 := fun b hb => h2 b (List.mem_of_mem_take hb)
    have hlt := numB_lt _ h8
    rw [ht] at hlt
    have hb := bitsN_numB _ h8
    rw [ht] at hb
    rw [packB_take l (by omega), bitsOf_cons, bitsOf_packB n _ (by rw [List.length_drop]; omega) fun b hb => h2 b (List.mem_of_mem_drop hb), UInt8.toNat_ofNat', Nat.mod_eq_of_lt hlt, hb, List.take_append_drop]
/-- What is put is got. -/
theorem bitsOf_textB {row : List Nat} (h : ∀ b ∈ row, b < 2) : bitsOf (textB row) = alignB row := by
  have hw := padN_whole row.length
  unfold textB
  exact bitsOf_packB ((row.length + padN row.length) / 8) _ (by rw [alignB_length]; omega) (alignB_two h)

/-- Get, Bytes, Align of a reader: the number or the bytes, the place, the error. -/
def getB (l : List UInt8) (pos : Nat) (width : Int) : Int × Nat × Int :=
  if width < 0 ∨ 16 < width then (0, pos, 2)
  else if 8 * (l.length : Int) - (pos : Int) < width then (0, pos, 5)
  else ((numB (((bitsOf l).drop pos).take width.toNat) : Int), pos + width.toNat, 0)
def wholeN (pos : Nat) : Nat := (pos + 7) / 8 * 8
def bytesB (l : List UInt8) (pos : Nat) (n : Int) : List UInt8 × Nat × Int :=
  if n < 0 then ([], pos, 2)
  else if (l.length : Int) - ((wholeN pos / 8 : Nat) : Int) < n then ([], pos, 5)
  else ((l.drop (wholeN pos / 8)).take n.toNat, 8 * (wholeN pos / 8 + n.toNat), 0)
theorem getB_arg {l : List UInt8} {pos : Nat} {width : Int} (h : width < 0 ∨ 16 < width) : getB l pos width = (0, pos, 2) := by unfold getB; rw [if_pos h]
theorem getB_short {l : List UInt8} {pos v : Nat} (hv : v ≤ 16) (h : 8 * (l.length : Int) - (pos : Int) < (v : Int)) : getB l pos (v : Int) = (0, pos, 5) := by
  unfold getB; rw [if_neg (by omega), if_pos h]
theorem getB_ok {l : List UInt8} {pos v : Nat} (hv : v ≤ 16) (h : pos + v ≤ 8 * l.length) : getB l pos (v : Int) = ((numB (((bitsOf l).drop pos).take v) : Int), pos + v, 0) := by
  unfold getB; rw [if_neg (by omega), if_neg (by omega), Int.toNat_natCast]
/-- A bit, from the byte in which it stands. -/
theorem bitsN_get : ∀ (k n i : Nat), i < k → (bitsN k n)[i]? = some (n / 2 ^ i % 2)
  | 0, _, i, h => by omega
  | k + 1, n, 0, _ => by simp [bitsN]
  | k + 1, n, i + 1, h => by
    rw [bitsN, List.getElem?_cons_succ, bitsN_get k (n / 2) i (by omega), Nat.div_div_eq_div_mul, Nat.pow_succ, Nat.mul_comm 2]
theorem bitsOf_get : ∀ (l : List UInt8) (pos : Nat) (c : UInt8), l[pos / 8]? = some c → (bitsOf l)[pos]? = some (c.toNat / 2 ^ (pos % 8) % 2)
  | [], _, _, h => by simp at h
  | x :: l, pos, c, h => by
    rw [bitsOf_cons]
    by_cases h8 : pos < 8
    · rw [show pos / 8 = 0 by omega] at h
      simp at h
      subst h
      rw [List.getElem?_append_left (by rw [bitsN_length]; exact h8), bitsN_get _ _ _ h8, Nat.mod_eq_of_lt h8]
    · rw [show pos / 8 = (pos - 8) / 8 + 1 by omega, List.getElem?_cons_succ] at h
      rw [List.getElem?_append_right (by rw [bitsN_length]; omega), bitsN_length, bitsOf_get l (pos - 8) c h, show (pos - 8) % 8 = pos % 8 by omega]

theorem take_at {L : List Nat} {pos v g b : Nat} (hb : L[pos + g]? = some b) (hg : g < v) : ((L.drop pos).take v).drop g = b :: ((L.drop pos).take v).drop (g + 1) := by
  have h1 : ((L.drop pos).take v)[g]? = some b := by rw [List.getElem?_take, if_pos hg, List.getElem?_drop, hb]
  obtain ⟨h2, h3⟩ := List.getElem?_eq_some_iff.1 h1
  rw [List.drop_eq_getElem_cons h2, h3]
theorem part_lt {L : List Nat} {pos v g : Nat} (h : ∀ b ∈ L, b < 2) (hv : v ≤ 16) : numB (((L.drop pos).take v).drop g) < 65536 := by
  have h1 := numB_lt (((L.drop pos).take v).drop g) fun b hb => h b (List.mem_of_mem_drop (List.mem_of_mem_take (List.mem_of_mem_drop hb)))
  have h2 : (((L.drop pos).take v).drop g).length ≤ 16 := by rw [List.length_drop, List.length_take]; omega
  have h3 : 2 ^ (((L.drop pos).take v).drop g).length ≤ 2 ^ 16 := Nat.pow_le_pow_right (by omega) h2
  omega

end
end Go.Proofs.YtejgcnmbngdkiaaGreatDoor
