/-
  Plain, DPlain, HPlain, RunPlain, BitPlain, CodePlain, CodePlain2, CodePlain3, BitHeld, CodePlain4, InfPlain, InfPlain2, SqPlain, SqPlain2, SqShort, InfState, InfState2, InfEx, APlain, FPlain, FBack, PrPlain, PrPlain2, PrPlain3: texts merged.
-/
import Derived.WalkKit
import Derived.Lib.Strings
import Derived.Lib.IndexBytes
import Derived.WalkSpells
import Derived.WalkLawsBesides
import Derived.Lib.Hide
import Derived.Laws.BitsAllLaws
import Derived.Laws.BitsLemmas
/-
  Plain functions on numbers and lists of bytes, and facts about them: no program in sight.
-/
namespace Go.Proofs.YtiiiokikmjgliaaGreatDoor
section
theorem ret_int {k : IntKind} {a b : Int} (h : a = b) : Ending.returned (.int k a) = .returned (.int k b) := by rw [h]
theorem ret_bool {a b : Bool} (h : a = b) : Ending.returned (.bool a) = .returned (.bool b) := by rw [h]
def kindI (c : Int) : Int :=
  if c = 0 ∨ c = 9 ∨ c = 10 ∨ c = 12 ∨ c = 13 ∨ c = 32 then 0
  else if c = 40 ∨ c = 41 ∨ c = 60 ∨ c = 62 ∨ c = 91 ∨ c = 93 ∨ c = 123 ∨ c = 125 ∨ c = 47 ∨ c = 37 then 1 else 2
def hexI (c : Int) : Int :=
  if 48 ≤ c ∧ c ≤ 57 then c - 48 else if 65 ≤ c ∧ c ≤ 70 then c - 55 else if 97 ≤ c ∧ c ≤ 102 then c - 87 else -1
def digitI (n : Int) : Int :=
  if 0 ≤ n ∧ n ≤ 9 then n + 48 else if 10 ≤ n ∧ n ≤ 15 then n + 55 else 0
theorem take_snoc (s : ByteArray) (k : Nat) (h : k < s.size) : s.data.toList.take (k + 1) = s.data.toList.take k ++ [s[k]] := by
  rw [List.take_succ_eq_append_getElem (by simpa using h)]; rfl
def preB (s p : List UInt8) : Bool := decide (p <+: s)
def standsI (l : List UInt8) (at' : Int) (w : List UInt8) : Bool := decide (0 ≤ at' ∧ at' ≤ l.length ∧ w <+: l.drop at'.toNat)
theorem pre_extract (s p : ByteArray) : ((s.extract 0 p.size).toList == p.toList) = preB s.data.toList p.data.toList := by
  rw [Lib.toList_data, Lib.toList_data, Lib.extract_data]
  simp only [List.drop_zero, Nat.sub_zero, preB]
  rw [Bool.eq_iff_iff]
  simp only [beq_iff_eq, decide_eq_true_eq]
  rw [List.prefix_iff_eq_take]
  simp only [Array.length_toList]
  exact eq_comm
theorem pre_long (s p : ByteArray) (h : ¬ p.size ≤ s.size) : preB s.data.toList p.data.toList = false := by
  simp only [preB, decide_eq_false_iff_not]
  intro hp; have := hp.length_le; simp at this; omega
theorem stands_eq (s p : ByteArray) (k : Nat) (h : k + p.size ≤ s.size) : ((s.extract k (k + p.size)).toList == p.toList) = standsI s.data.toList (k : Int) p.data.toList := by
  rw [Lib.toList_data, Lib.toList_data, Lib.extract_data, Nat.add_sub_cancel_left, Bool.eq_iff_iff]
  simp only [beq_iff_eq, standsI, decide_eq_true_eq, Int.toNat_natCast]
  rw [List.prefix_iff_eq_take]
  simp only [Array.length_toList]
  have hs : s.data.size = s.size := rfl
  have hp : p.data.size = p.size := rfl
  rw [hs, hp]
  constructor
  · intro e; exact ⟨by omega, by omega, e.symm⟩
  · intro e; exact e.2.2.symm
theorem stands_far (s p : ByteArray) (k : Nat) (h : s.size < k + p.size) : standsI s.data.toList (k : Int) p.data.toList = false := by
  simp only [standsI, decide_eq_false_iff_not, Int.toNat_natCast]
  rintro ⟨_, h1, h2⟩
  have := h2.length_le
  simp at this h1
  have hs : s.data.size = s.size := rfl
  have hp : p.data.size = p.size := rfl
  rw [hs] at *; rw [hp] at *
  omega
end
end Go.Proofs.YtiiiokikmjgliaaGreatDoor
/-
  Numbers as texts: plain facts.
-/
namespace Go.Proofs.YtiiiokikmjgliaaGreatDoor
section
def bytes (l : List UInt8) : ByteArray := ⟨l.toArray⟩
theorem bytes_data (l : List UInt8) : (bytes l).data.toList = l := by simp [bytes]
theorem bytes_size (l : List UInt8) : (bytes l).size = l.length := by simp [bytes, ByteArray.size]
theorem bytes_eq {u : ByteArray} {l : List UInt8} (h : u.data.toList = l) : u = bytes l := by subst h; simp [bytes]
theorem bytes_of (u : ByteArray) : bytes u.data.toList = u := by simp [bytes]
theorem app_data (a b : ByteArray) : (a ++ b).data.toList = a.data.toList ++ b.data.toList := by simp
theorem size_data (t : ByteArray) : t.size = t.data.toList.length := by simp
theorem isEmpty_not {t : ByteArray} (h : ¬ t.data.toList = []) : t.toList.isEmpty = false := by
  rw [Lib.toList_data]; cases hd : t.data.toList with
  | nil => exact absurd hd h
  | cons _ _ => rfl
end
end Go.Proofs.YtiiiokikmjgliaaGreatDoor
/-
  Bytes as hexadecimal digits: plain facts, no program in sight.
-/
namespace Go.Proofs.YtiiiokikmjgliaaGreatDoor
section
def digB (n : Nat) : UInt8 := UInt8.ofNat (digitI (n : Int)).toNat
theorem digitI_range {n : Nat} (h : n < 16) : 48 ≤ digitI (n : Int) ∧ digitI (n : Int) ≤ 70 ∧ digitI (n : Int) ≠ 62 := by
  have : ∀ k : Fin 16, 48 ≤ digitI (k.1 : Int) ∧ digitI (k.1 : Int) ≤ 70 ∧ digitI (k.1 : Int) ≠ 62 := by decide
  exact this ⟨n, h⟩
theorem digB_nat {n : Nat} (h : n < 16) : ((digB n).toNat : Int) = digitI (n : Int) := by
  have := digitI_range h
  unfold digB
  rw [UInt8.toNat_ofNat']
  omega
theorem hex_digit {n : Nat} (h : n < 16) : hexI (digitI (n : Int)) = n := by
  have : ∀ k : Fin 16, hexI (digitI (k.1 : Int)) = k.1 := by decide
  exact this ⟨n, h⟩
theorem hexI_range (c : UInt8) : hexI (c.toNat : Int) = -1 ∨ (0 ≤ hexI (c.toNat : Int) ∧ hexI (c.toNat : Int) < 16) := by
  unfold hexI; split
  · omega
  · split
    · omega
    · split <;> omega
def encD (l : List UInt8) : List UInt8 := l.flatMap fun c => [digB (c.toNat / 16), digB (c.toNat % 16)]
theorem encD_cons (c : UInt8) (l : List UInt8) : encD (c :: l) = digB (c.toNat / 16) :: digB (c.toNat % 16) :: encD l := rfl
theorem encD_snoc (l : List UInt8) (c : UInt8) : encD (l ++ [c]) = encD l ++ [digB (c.toNat / 16), digB (c.toNat % 16)] := by simp [encD]
theorem encD_length : ∀ l : List UInt8, (encD l).length = 2 * l.length
  | [] => rfl
  | c :: l => by rw [encD_cons, List.length_cons, List.length_cons, encD_length l, List.length_cons]; omega
def encH (l : List UInt8) : List UInt8 := encD l ++ [62]
theorem encH_length (l : List UInt8) : (encH l).length = 2 * l.length + 1 := by unfold encH; rw [List.length_append, encD_length]; rfl
theorem encH_seen {l : List UInt8} {c : UInt8} (h : c ∈ encH l) : 48 ≤ c.toNat ∧ c.toNat ≤ 70 := by
  unfold encH at h
  rcases List.mem_append.1 h with h | h
  · unfold encD at h
    obtain ⟨x, _, hx⟩ := List.mem_flatMap.1 h
    have h1 := x.toNat_lt
    have key : ∀ n, n < 16 → 48 ≤ (digB n).toNat ∧ (digB n).toNat ≤ 70 := fun n hn => by
      have a := digitI_range hn
      have b := digB_nat hn
      omega
    simp only [List.mem_cons, List.not_mem_nil, or_false] at hx
    rcases hx with rfl | rfl
    · exact key _ (by omega)
    · exact key _ (by omega)
  · simp only [List.mem_cons, List.not_mem_nil, or_false] at h
    subst h; decide
def pairsH : List Nat → List UInt8
  | [] => []
  | [a] => [UInt8.ofNat (16 * a)]
  | a :: b :: r => UInt8.ofNat (16 * a + b) :: pairsH r
theorem pairsH_pad : ∀ (ds : List Nat), ds.length % 2 = 1 → pairsH (ds ++ [0]) = pairsH ds
  | [], h => by simp at h
  | [a], _ => rfl
  | a :: b :: r, h => by
    show UInt8.ofNat (16 * a + b) :: pairsH (r ++ [0]) = UInt8.ofNat (16 * a + b) :: pairsH r
    rw [pairsH_pad r (by simp at h; omega)]
def whiteB (c : UInt8) : Bool := decide (kindI (c.toNat : Int) = 0)
def decGo (ds : List Nat) : List UInt8 → List UInt8 × Int
  | [] => ([], 5)
  | c :: t =>
    if c.toNat = 62 then (if t.all whiteB then (pairsH ds, 0) else ([], 4))
    else if 0 ≤ hexI (c.toNat : Int) then decGo (ds ++ [(hexI (c.toNat : Int)).toNat]) t
    else if kindI (c.toNat : Int) = 0 then decGo ds t else ([], 4)
def decH (l : List UInt8) : List UInt8 × Int := decGo [] l
theorem decGo_end {ds : List Nat} {c : UInt8} {t : List UInt8} (h : c.toNat = 62) : decGo ds (c :: t) = if t.all whiteB then (pairsH ds, 0) else ([], 4) := by
  rw [decGo, if_pos h]
theorem decGo_digit {ds : List Nat} {c : UInt8} {t : List UInt8} (h : ¬ c.toNat = 62) (h2 : 0 ≤ hexI (c.toNat : Int)) : decGo ds (c :: t) = decGo (ds ++ [(hexI (c.toNat : Int)).toNat]) t := by
  rw [decGo, if_neg h, if_pos h2]
theorem decGo_white {ds : List Nat} {c : UInt8} {t : List UInt8} (h : ¬ c.toNat = 62) (h2 : ¬ 0 ≤ hexI (c.toNat : Int)) (h3 : kindI (c.toNat : Int) = 0) : decGo ds (c :: t) = decGo ds t := by
  rw [decGo, if_neg h, if_neg h2, if_pos h3]
theorem decGo_bad {ds : List Nat} {c : UInt8} {t : List UInt8} (h : ¬ c.toNat = 62) (h2 : ¬ 0 ≤ hexI (c.toNat : Int)) (h3 : ¬ kindI (c.toNat : Int) = 0) : decGo ds (c :: t) = ([], 4) := by
  rw [decGo, if_neg h, if_neg h2, if_neg h3]
theorem white_not {c : UInt8} (h : kindI (c.toNat : Int) = 0) : ¬ c.toNat = 62 ∧ ¬ 0 ≤ hexI (c.toNat : Int) := by
  unfold kindI at h
  have h' : c.toNat = 0 ∨ c.toNat = 9 ∨ c.toNat = 10 ∨ c.toNat = 12 ∨ c.toNat = 13 ∨ c.toNat = 32 := by
    by_cases e : (c.toNat : Int) = 0 ∨ (c.toNat : Int) = 9 ∨ (c.toNat : Int) = 10 ∨ (c.toNat : Int) = 12 ∨ (c.toNat : Int) = 13 ∨ (c.toNat : Int) = 32
    · omega
    · rw [if_neg e] at h
      split at h <;> simp at h
  refine ⟨by omega, ?_⟩
  unfold hexI
  rw [if_neg (by omega), if_neg (by omega), if_neg (by omega)]
  omega
theorem decGo_digB {ds : List Nat} {n : Nat} {t : List UInt8} (h : n < 16) : decGo ds (digB n :: t) = decGo (ds ++ [n]) t := by
  have a := digitI_range h
  have b := digB_nat h
  have c := hex_digit h
  rw [decGo_digit (by omega) (by rw [b, c]; omega), b, c]
  rfl
theorem pairsH_snoc2 : ∀ (ds : List Nat) (a b : Nat), ds.length % 2 = 0 → pairsH (ds ++ [a] ++ [b]) = pairsH ds ++ [UInt8.ofNat (16 * a + b)]
  | [], a, b, _ => rfl
  | [x], a, b, h => by simp at h
  | x :: y :: r, a, b, h => by
    show UInt8.ofNat (16 * x + y) :: pairsH (r ++ [a] ++ [b]) = UInt8.ofNat (16 * x + y) :: (pairsH r ++ [UInt8.ofNat (16 * a + b)])
    rw [pairsH_snoc2 r a b (by simp at h; omega)]
theorem dec_enc : ∀ (l : List UInt8) (ds : List Nat), ds.length % 2 = 0 → decGo ds (encH l) = (pairsH ds ++ l, 0)
  | [], ds, h => by
    show decGo ds [62] = _
    rw [decGo_end rfl]; simp
  | c :: l, ds, h => by
    show decGo ds (digB (c.toNat / 16) :: digB (c.toNat % 16) :: encH l) = _
    have h1 := c.toNat_lt
    rw [decGo_digB (by omega), decGo_digB (by omega), dec_enc l _ (by simp; omega), pairsH_snoc2 ds _ _ h]
    have e : UInt8.ofNat (16 * (c.toNat / 16) + c.toNat % 16) = c := by
      have : 16 * (c.toNat / 16) + c.toNat % 16 = c.toNat := by omega
      rw [this]; exact UInt8.ofNat_toNat
    rw [e, List.append_assoc]; rfl
end
end Go.Proofs.YtiiiokikmjgliaaGreatDoor
/-
  Bytes with runs of alike ones told shortly: plain facts, no program in sight.
-/
namespace Go.Proofs.YtiiiokikmjgliaaGreatDoor
section
def alikeB : List UInt8 → Bool
  | a :: b :: c :: _ => a == b && a == c
  | _ => false
def runLen (c : UInt8) : Nat → List UInt8 → Nat
  | 0, _ => 0
  | _ + 1, [] => 0
  | k + 1, x :: t => if x = c then runLen c k t + 1 else 0
def rawLen : Nat → List UInt8 → Nat
  | 0, _ => 0
  | _ + 1, [] => 0
  | k + 1, x :: t => if alikeB (x :: t) then 0 else rawLen k t + 1
def encR : Nat → List UInt8 → List UInt8
  | 0, _ => [128]
  | _ + 1, [] => [128]
  | f + 1, x :: t =>
    if alikeB (x :: t) then UInt8.ofNat (257 - runLen x 128 (x :: t)) :: x :: encR f ((x :: t).drop (runLen x 128 (x :: t)))
    else UInt8.ofNat (rawLen 128 (x :: t) - 1) :: ((x :: t).take (rawLen 128 (x :: t)) ++ encR f ((x :: t).drop (rawLen 128 (x :: t))))
def encAll (l : List UInt8) : List UInt8 := encR l.length l
theorem runLen_le (c : UInt8) : ∀ (k : Nat) (l : List UInt8), runLen c k l ≤ k ∧ runLen c k l ≤ l.length
  | 0, _ => ⟨Nat.le_refl _, Nat.zero_le _⟩
  | _ + 1, [] => ⟨Nat.zero_le _, Nat.zero_le _⟩
  | k + 1, x :: t => by
    have := runLen_le c k t
    unfold runLen
    split
    · simp only [List.length_cons]; omega
    · omega
theorem rawLen_le : ∀ (k : Nat) (l : List UInt8), rawLen k l ≤ k ∧ rawLen k l ≤ l.length
  | 0, _ => ⟨Nat.le_refl _, Nat.zero_le _⟩
  | _ + 1, [] => ⟨Nat.zero_le _, Nat.zero_le _⟩
  | k + 1, x :: t => by
    have := rawLen_le k t
    unfold rawLen
    split
    · omega
    · simp only [List.length_cons]; omega
theorem runLen_alike {x : UInt8} {t : List UInt8} (h : alikeB (x :: t) = true) : 3 ≤ runLen x 128 (x :: t) := by
  match t, h with
  | b :: c :: r, h =>
    simp only [alikeB, Bool.and_eq_true, beq_iff_eq] at h
    obtain ⟨rfl, rfl⟩ := h
    simp only [runLen, if_pos]
    omega
theorem rawLen_pos {x : UInt8} {t : List UInt8} (h : alikeB (x :: t) = false) : 1 ≤ rawLen 128 (x :: t) := by
  unfold rawLen; rw [h]; simp
theorem runLen_take (c : UInt8) : ∀ (k : Nat) (l : List UInt8), l.take (runLen c k l) = List.replicate (runLen c k l) c
  | 0, _ => rfl
  | _ + 1, [] => rfl
  | k + 1, x :: t => by
    unfold runLen
    split
    · rename_i h; subst h
      rw [List.take_succ_cons, runLen_take x k t]; rfl
    · rfl
theorem rawLen_end : ∀ (k : Nat) (l : List UInt8), rawLen k l = k ∨ l.drop (rawLen k l) = [] ∨ alikeB (l.drop (rawLen k l)) = true
  | 0, _ => .inl rfl
  | _ + 1, [] => .inr (.inl rfl)
  | k + 1, x :: t => by
    unfold rawLen
    split
    · rename_i h; exact .inr (.inr h)
    · rcases rawLen_end k t with h | h | h
      · left; rw [h]
      · right; left; rw [List.drop_succ_cons]; exact h
      · right; right; rw [List.drop_succ_cons]; exact h
theorem encR_nil : ∀ f, encR f [] = [128]
  | 0 => rfl
  | _ + 1 => rfl
theorem encR_run {f : Nat} {x : UInt8} {t : List UInt8} (h : alikeB (x :: t) = true) : encR (f + 1) (x :: t) = UInt8.ofNat (257 - runLen x 128 (x :: t)) :: x :: encR f ((x :: t).drop (runLen x 128 (x :: t))) := by
  rw [encR, if_pos h]
theorem encR_raw {f : Nat} {x : UInt8} {t : List UInt8} (h : alikeB (x :: t) = false) : encR (f + 1) (x :: t) = UInt8.ofNat (rawLen 128 (x :: t) - 1) :: ((x :: t).take (rawLen 128 (x :: t)) ++ encR f ((x :: t).drop (rawLen 128 (x :: t)))) := by
  rw [encR, if_neg (by rw [h]; decide)]
theorem encR_more : ∀ (f g : Nat) (l : List UInt8), l.length ≤ f → l.length ≤ g → encR f l = encR g l
  | _, _, [], _, _ => by rw [encR_nil, encR_nil]
  | 0, _, _ :: _, h, _ => by simp at h
  | _, 0, _ :: _, _, h => by simp at h
  | f + 1, g + 1, x :: t, hf, hg => by
    simp only [List.length_cons] at hf hg
    cases ha : alikeB (x :: t)
    · have := rawLen_pos ha
      rw [encR_raw ha, encR_raw ha, encR_more f g _ (by simp only [List.length_drop, List.length_cons]; omega) (by simp only [List.length_drop, List.length_cons]; omega)]
    · have := runLen_alike ha
      rw [encR_run ha, encR_run ha, encR_more f g _ (by simp only [List.length_drop, List.length_cons]; omega) (by simp only [List.length_drop, List.length_cons]; omega)]
theorem encAll_run {x : UInt8} {t : List UInt8} (h : alikeB (x :: t) = true) : encAll (x :: t) = UInt8.ofNat (257 - runLen x 128 (x :: t)) :: x :: encAll ((x :: t).drop (runLen x 128 (x :: t))) := by
  have := runLen_alike h
  unfold encAll
  rw [List.length_cons, encR_run h]
  congr 2
  exact encR_more _ _ _ (by simp only [List.length_drop, List.length_cons]; omega) (Nat.le_refl _)
theorem encAll_raw {x : UInt8} {t : List UInt8} (h : alikeB (x :: t) = false) : encAll (x :: t) = UInt8.ofNat (rawLen 128 (x :: t) - 1) :: ((x :: t).take (rawLen 128 (x :: t)) ++ encAll ((x :: t).drop (rawLen 128 (x :: t)))) := by
  have := rawLen_pos h
  unfold encAll
  rw [List.length_cons, encR_raw h]
  congr 2
  exact encR_more _ _ _ (by simp only [List.length_drop, List.length_cons]; omega) (Nat.le_refl _)
theorem encAll_nil : encAll [] = [128] := rfl
theorem run_induct {P : List UInt8 → Prop} (h0 : P []) (h1 : ∀ x t, alikeB (x :: t) = true → P ((x :: t).drop (runLen x 128 (x :: t))) → P (x :: t))
    (h2 : ∀ x t, alikeB (x :: t) = false → P ((x :: t).drop (rawLen 128 (x :: t))) → P (x :: t)) : ∀ (n : Nat) (l : List UInt8), l.length ≤ n → P l
  | _, [], _ => h0
  | 0, _ :: _, h => by simp at h
  | n + 1, x :: t, h => by
    simp only [List.length_cons] at h
    cases ha : alikeB (x :: t)
    · have := rawLen_pos ha
      exact h2 x t ha (run_induct h0 h1 h2 n _ (by simp only [List.length_drop, List.length_cons]; omega))
    · have := runLen_alike ha
      exact h1 x t ha (run_induct h0 h1 h2 n _ (by simp only [List.length_drop, List.length_cons]; omega))
theorem encAll_short (l : List UInt8) : (encAll l).length + (if alikeB l then 1 else 0) ≤ l.length + (l.length + 127) / 128 + 1 := by
  refine run_induct (P := fun l => (encAll l).length + (if alikeB l then 1 else 0) ≤ l.length + (l.length + 127) / 128 + 1) (by decide) ?_ ?_ l.length l (Nat.le_refl _)
  · intro x t ha ih
    have h3 := runLen_alike ha
    have h4 := runLen_le x 128 (x :: t)
    rw [encAll_run ha, if_pos ha]
    have ih' : (encAll ((x :: t).drop (runLen x 128 (x :: t)))).length ≤ ((x :: t).drop (runLen x 128 (x :: t))).length + (((x :: t).drop (runLen x 128 (x :: t))).length + 127) / 128 + 1 := by
      have := ih; omega
    rw [List.length_drop] at ih'
    simp only [List.length_cons] at ih' h4 ⊢
    omega
  · intro x t ha ih
    have h3 := rawLen_pos ha
    have h4 := rawLen_le 128 (x :: t)
    have h5 := rawLen_end 128 (x :: t)
    rw [encAll_raw ha, if_neg (by rw [ha]; decide)]
    generalize hn : rawLen 128 (x :: t) = n at *
    have hd : ((x :: t).drop n).length = (x :: t).length - n := List.length_drop
    have ht : ((x :: t).take n).length = n := by rw [List.length_take]; omega
    rw [List.length_cons, List.length_append, ht]
    rw [hd] at ih
    rcases h5 with h | h | h
    · generalize (x :: t).length = m at *
      have : (encAll ((x :: t).drop n)).length ≤ m - n + (m - n + 127) / 128 + 1 := by omega
      omega
    · rw [h, encAll_nil]
      have : (x :: t).length - n = 0 := by rw [← hd, h]; rfl
      generalize (x :: t).length = m at *
      simp only [List.length_singleton]
      omega
    · rw [if_pos h] at ih
      generalize (x :: t).length = m at *
      omega
def decR (most : Int) : Nat → List UInt8 → List UInt8 → List UInt8 × Int
  | 0, _, _ => ([], 5)
  | _ + 1, _, [] => ([], 5)
  | f + 1, out, c :: t =>
    if c.toNat = 128 then (if t = [] then (out, 0) else ([], 4))
    else if t.length < (if c.toNat < 128 then c.toNat + 1 else 1) then ([], 5)
    else if most < ((out ++ (if c.toNat < 128 then t.take (c.toNat + 1) else List.replicate (257 - c.toNat) (t.headD 0))).length : Int) then ([], 7)
    else decR most f (out ++ (if c.toNat < 128 then t.take (c.toNat + 1) else List.replicate (257 - c.toNat) (t.headD 0))) (t.drop (if c.toNat < 128 then c.toNat + 1 else 1))
def decAll (l : List UInt8) (most : Int) : List UInt8 × Int := if most < 0 then ([], 2) else decR most (l.length + 1) [] l
theorem decR_nil {most : Int} : ∀ {f : Nat} {out : List UInt8}, decR most f out [] = ([], 5)
  | 0, _ => rfl
  | _ + 1, _ => rfl
theorem decR_end {most : Int} {f : Nat} {out t : List UInt8} {c : UInt8} (h : c.toNat = 128) : decR most (f + 1) out (c :: t) = if t = [] then (out, 0) else ([], 4) := by
  rw [decR, if_pos h]
theorem decR_raw_short {most : Int} {f : Nat} {out t : List UInt8} {c : UInt8} (h : c.toNat < 128) (hl : t.length < c.toNat + 1) : decR most (f + 1) out (c :: t) = ([], 5) := by
  rw [decR, if_neg (by omega), if_pos (by rw [if_pos h]; exact hl)]
theorem decR_raw_big {most : Int} {f : Nat} {out t : List UInt8} {c : UInt8} (h : c.toNat < 128) (hl : ¬ t.length < c.toNat + 1) (hb : most < ((out ++ t.take (c.toNat + 1)).length : Int)) : decR most (f + 1) out (c :: t) = ([], 7) := by
  rw [decR, if_neg (by omega), if_neg (by rw [if_pos h]; exact hl)]
  simp only [if_pos h]
  rw [if_pos hb]
theorem decR_raw {most : Int} {f : Nat} {out t : List UInt8} {c : UInt8} (h : c.toNat < 128) (hl : ¬ t.length < c.toNat + 1) (hb : ¬ most < ((out ++ t.take (c.toNat + 1)).length : Int)) :
    decR most (f + 1) out (c :: t) = decR most f (out ++ t.take (c.toNat + 1)) (t.drop (c.toNat + 1)) := by
  rw [decR, if_neg (by omega), if_neg (by rw [if_pos h]; exact hl)]
  simp only [if_pos h]
  rw [if_neg hb]
theorem decR_run_short {most : Int} {f : Nat} {out : List UInt8} {c : UInt8} (h : 128 < c.toNat) : decR most (f + 1) out [c] = ([], 5) := by
  rw [decR, if_neg (by omega), if_pos (by rw [if_neg (by omega)]; simp)]
theorem decR_run_big {most : Int} {f : Nat} {out t : List UInt8} {c x : UInt8} (h : 128 < c.toNat) (hb : most < ((out ++ List.replicate (257 - c.toNat) x).length : Int)) : decR most (f + 1) out (c :: x :: t) = ([], 7) := by
  rw [decR, if_neg (by omega), if_neg (by rw [if_neg (by omega)]; simp)]
  have h' : ¬ c.toNat < 128 := by omega
  simp only [if_neg h', List.headD_cons]
  rw [if_pos hb]
theorem decR_run {most : Int} {f : Nat} {out t : List UInt8} {c x : UInt8} (h : 128 < c.toNat) (hb : ¬ most < ((out ++ List.replicate (257 - c.toNat) x).length : Int)) :
    decR most (f + 1) out (c :: x :: t) = decR most f (out ++ List.replicate (257 - c.toNat) x) t := by
  rw [decR, if_neg (by omega), if_neg (by rw [if_neg (by omega)]; simp)]
  have h' : ¬ c.toNat < 128 := by omega
  simp only [if_neg h', List.headD_cons]
  rw [if_neg hb]; rfl
theorem byte_nat {n : Nat} (h : n < 256) : (UInt8.ofNat n).toNat = n := by rw [UInt8.toNat_ofNat']; omega
theorem dec_encAll (most : Int) (l : List UInt8) : ∀ (f : Nat) (out : List UInt8), (encAll l).length ≤ f → (out.length : Int) ≤ most →
    decR most f out (encAll l) = if most < ((out ++ l).length : Int) then ([], 7) else (out ++ l, 0) := by
  refine run_induct (P := fun l => ∀ (f : Nat) (out : List UInt8), (encAll l).length ≤ f → (out.length : Int) ≤ most →
    decR most f out (encAll l) = if most < ((out ++ l).length : Int) then ([], 7) else (out ++ l, 0)) ?_ ?_ ?_ l.length l (Nat.le_refl _)
  · intro f out hf hm
    obtain ⟨g, rfl⟩ : ∃ g, f = g + 1 := ⟨f - 1, by rw [encAll_nil] at hf; simp at hf; omega⟩
    rw [encAll_nil, decR_end rfl, if_pos rfl, List.append_nil, if_neg (by omega)]
  · intro x t ha ih f out hf hm
    have h3 := runLen_alike ha
    have h4 := runLen_le x 128 (x :: t)
    have h5 := runLen_take x 128 (x :: t)
    rw [encAll_run ha] at hf ⊢
    simp only [List.length_cons] at hf
    obtain ⟨g, rfl⟩ : ∃ g, f = g + 1 := ⟨f - 1, by omega⟩
    generalize hn : runLen x 128 (x :: t) = n at *
    have hc : (UInt8.ofNat (257 - n)).toNat = 257 - n := byte_nat (by omega)
    have e : 257 - (257 - n) = n := by omega
    have hsplit : out ++ List.replicate n x ++ (x :: t).drop n = out ++ (x :: t) := by rw [← h5, List.append_assoc, List.take_append_drop]
    have hlen : (out ++ (x :: t)).length = (out ++ List.replicate n x).length + ((x :: t).drop n).length := by rw [← hsplit, List.length_append]
    by_cases hb : most < ((out ++ List.replicate n x).length : Int)
    · rw [decR_run_big (by omega) (by rw [hc, e]; exact hb), if_pos (by omega)]
    · rw [decR_run (by omega) (by rw [hc, e]; exact hb), hc, e, ih g _ (by omega) (by omega), hsplit]
  · intro x t ha ih f out hf hm
    have h3 := rawLen_pos ha
    have h4 := rawLen_le 128 (x :: t)
    rw [encAll_raw ha] at hf ⊢
    simp only [List.length_cons, List.length_append] at hf
    obtain ⟨g, rfl⟩ : ∃ g, f = g + 1 := ⟨f - 1, by omega⟩
    generalize hn : rawLen 128 (x :: t) = n at *
    have hc : (UInt8.ofNat (n - 1)).toNat = n - 1 := byte_nat (by omega)
    have e : n - 1 + 1 = n := by omega
    have ht : ((x :: t).take n).length = n := by rw [List.length_take]; omega
    have etake : ((x :: t).take n ++ encAll ((x :: t).drop n)).take n = (x :: t).take n := List.take_left' ht
    have edrop : ((x :: t).take n ++ encAll ((x :: t).drop n)).drop n = encAll ((x :: t).drop n) := List.drop_left' ht
    have hsplit : out ++ (x :: t).take n ++ (x :: t).drop n = out ++ (x :: t) := by rw [List.append_assoc, List.take_append_drop]
    have hlen : (out ++ (x :: t)).length = (out ++ (x :: t).take n).length + ((x :: t).drop n).length := by rw [← hsplit, List.length_append]
    have hlong : ¬ ((x :: t).take n ++ encAll ((x :: t).drop n)).length < n := by rw [List.length_append, ht]; omega
    by_cases hb : most < ((out ++ (x :: t).take n).length : Int)
    · rw [decR_raw_big (by omega) (by rw [hc, e]; exact hlong) (by rw [hc, e, etake]; exact hb), if_pos (by omega)]
    · rw [decR_raw (by omega) (by rw [hc, e]; exact hlong) (by rw [hc, e, etake]; exact hb), hc, e, etake, edrop, ih g _ (by rw [ht] at hf; omega) (by omega), hsplit]
end
end Go.Proofs.YtiiiokikmjgliaaGreatDoor
/-
  Rows of bits, the lowest of a byte ahead: plain facts, no program in sight.
-/
namespace Go.Proofs.YtiiiokikmjgliaaGreatDoor
section
def bitsN : Nat → Nat → List Nat
  | 0, _ => []
  | k + 1, n => n % 2 :: bitsN k (n / 2)
def numB : List Nat → Nat
  | [] => 0
  | b :: r => b + 2 * numB r
theorem bitsN_length : ∀ (k n : Nat), (bitsN k n).length = k
  | 0, _ => rfl
  | k + 1, n => by rw [bitsN, List.length_cons, bitsN_length k]
theorem bitsN_two : ∀ (k n : Nat), ∀ b ∈ bitsN k n, b < 2
  | 0, _, b, h => by cases h
  | k + 1, n, b, h => by
    rcases List.mem_cons.1 h with rfl | h
    · omega
    · exact bitsN_two k _ b h
theorem numB_bitsN : ∀ (k n : Nat), n < 2 ^ k → numB (bitsN k n) = n
  | 0, n, h => by have : n = 0 := by simpa using h
                  subst this; rfl
  | k + 1, n, h => by
    rw [bitsN, numB, numB_bitsN k (n / 2) (by rw [Nat.pow_succ] at h; omega)]; omega
theorem bitsN_numB : ∀ (l : List Nat), (∀ b ∈ l, b < 2) → bitsN l.length (numB l) = l
  | [], _ => rfl
  | b :: r, h => by
    have hb := h b (by simp)
    rw [List.length_cons, bitsN, numB, show (b + 2 * numB r) % 2 = b by omega, show (b + 2 * numB r) / 2 = numB r by omega, bitsN_numB r fun x hx => h x (by simp [hx])]
theorem numB_lt : ∀ (l : List Nat), (∀ b ∈ l, b < 2) → numB l < 2 ^ l.length
  | [], _ => by decide
  | b :: r, h => by
    have hb := h b (by simp)
    have hr := numB_lt r fun x hx => h x (by simp [hx])
    rw [numB, List.length_cons, Nat.pow_succ]; omega
theorem numB_zeros : ∀ k, numB (List.replicate k 0) = 0
  | 0 => rfl
  | k + 1 => by rw [List.replicate_succ, numB, numB_zeros k]
def putB (row : List Nat) (n width : Int) : List Nat × Int :=
  if width < 0 ∨ 16 < width then (row, 2) else if n < 0 ∨ (2 : Int) ^ width.toNat ≤ n then (row, 3) else (row ++ bitsN width.toNat n.toNat, 0)
def padN (k : Nat) : Nat := (8 - k % 8) % 8
def alignB (row : List Nat) : List Nat := row ++ List.replicate (padN row.length) 0
theorem putB_arg {row : List Nat} {n width : Int} (h : width < 0 ∨ 16 < width) : putB row n width = (row, 2) := by unfold putB; rw [if_pos h]
theorem putB_range {row : List Nat} {n : Int} {v : Nat} (hv : v ≤ 16) (h : n < 0 ∨ (2 : Int) ^ v ≤ n) : putB row n (v : Int) = (row, 3) := by
  unfold putB; rw [if_neg (by omega), Int.toNat_natCast, if_pos h]
theorem putB_ok {row : List Nat} {n v : Nat} (hv : v ≤ 16) (h : n < 2 ^ v) : putB row (n : Int) (v : Int) = (row ++ bitsN v n, 0) := by
  unfold putB
  have : ((2 ^ v : Nat) : Int) = (2 : Int) ^ v := by simp
  rw [if_neg (by omega), Int.toNat_natCast, if_neg (by rw [← this]; omega), Int.toNat_natCast]
theorem padN_lt (k : Nat) : padN k < 8 := by unfold padN; omega
theorem padN_whole (k : Nat) : (k + padN k) % 8 = 0 := by unfold padN; omega
theorem alignB_length (row : List Nat) : (alignB row).length = row.length + padN row.length := by unfold alignB; rw [List.length_append, List.length_replicate]
theorem alignB_two {row : List Nat} (h : ∀ b ∈ row, b < 2) : ∀ b ∈ alignB row, b < 2 := by
  intro b hb
  rcases List.mem_append.1 hb with hb | hb
  · exact h b hb
  · rw [List.eq_of_mem_replicate hb]; omega
theorem align_step {row : List Nat} {k : Nat} (h : ¬ (row.length + k) % 8 = 0) (hk : k ≤ padN row.length) : k + 1 ≤ padN row.length := by
  unfold padN at *; omega
theorem align_stop {row : List Nat} {k : Nat} (h : (row.length + k) % 8 = 0) (hk : k ≤ padN row.length) : k = padN row.length := by
  unfold padN at *; omega
def packB : List Nat → List UInt8
  | a :: b :: c :: d :: e :: f :: g :: h :: r => UInt8.ofNat (numB [a, b, c, d, e, f, g, h]) :: packB r
  | _ => []
def textB (row : List Nat) : List UInt8 := packB (alignB row)
theorem packB_take : ∀ (l : List Nat), 8 ≤ l.length → packB l = UInt8.ofNat (numB (l.take 8)) :: packB (l.drop 8)
  | a :: b :: c :: d :: e :: f :: g :: h :: r, _ => rfl
  | [], h => by simp at h
  | [_], h => by simp at h
  | [_, _], h => by simp at h
  | [_, _, _], h => by simp at h
  | [_, _, _, _], h => by simp at h
  | [_, _, _, _, _], h => by simp at h
  | [_, _, _, _, _, _], h => by simp at h
  | [_, _, _, _, _, _, _], h => by simp at h
theorem packB_nil : packB [] = [] := rfl
theorem packB_length : ∀ (n : Nat) (l : List Nat), l.length = 8 * n → (packB l).length = n
  | 0, l, h => by obtain rfl : l = [] := List.eq_nil_of_length_eq_zero (by omega)
                  rfl
  | n + 1, l, h => by rw [packB_take l (by omega), List.length_cons, packB_length n _ (by rw [List.length_drop]; omega)]
theorem textB_length (row : List Nat) : 8 * (textB row).length = row.length + padN row.length := by
  have h := padN_whole row.length
  obtain ⟨n, hn⟩ : ∃ n, row.length + padN row.length = 8 * n := ⟨(row.length + padN row.length) / 8, by omega⟩
  unfold textB
  rw [packB_length n _ (by rw [alignB_length]; exact hn), hn]
def bitsOf (l : List UInt8) : List Nat := l.flatMap fun c => bitsN 8 c.toNat
theorem bitsOf_cons (c : UInt8) (l : List UInt8) : bitsOf (c :: l) = bitsN 8 c.toNat ++ bitsOf l := rfl
theorem bitsOf_append (a b : List UInt8) : bitsOf (a ++ b) = bitsOf a ++ bitsOf b := by simp [bitsOf]
theorem bitsOf_length : ∀ (l : List UInt8), (bitsOf l).length = 8 * l.length
  | [] => rfl
  | c :: l => by rw [bitsOf_cons, List.length_append, bitsN_length, bitsOf_length l, List.length_cons]; omega
theorem bitsOf_two (l : List UInt8) : ∀ b ∈ bitsOf l, b < 2 := by
  intro b hb
  obtain ⟨c, _, hc⟩ := List.mem_flatMap.1 hb
  exact bitsN_two 8 _ b hc
theorem bitsOf_packB : ∀ (n : Nat) (l : List Nat), l.length = 8 * n → (∀ b ∈ l, b < 2) → bitsOf (packB l) = l
  | 0, l, h, _ => by obtain rfl : l = [] := List.eq_nil_of_length_eq_zero (by omega)
                     rfl
  | n + 1, l, h, h2 => by
    have ht : (l.take 8).length = 8 := by rw [List.length_take]; omega
    have h8 : ∀ b ∈ l.take 8, b < 2 := fun b hb => h2 b (List.mem_of_mem_take hb)
    have hlt := numB_lt _ h8
    rw [ht] at hlt
    have hb := bitsN_numB _ h8
    rw [ht] at hb
    rw [packB_take l (by omega), bitsOf_cons, bitsOf_packB n _ (by rw [List.length_drop]; omega) fun b hb => h2 b (List.mem_of_mem_drop hb), UInt8.toNat_ofNat', Nat.mod_eq_of_lt hlt, hb, List.take_append_drop]
theorem bitsOf_textB {row : List Nat} (h : ∀ b ∈ row, b < 2) : bitsOf (textB row) = alignB row := by
  have hw := padN_whole row.length
  unfold textB
  exact bitsOf_packB ((row.length + padN row.length) / 8) _ (by rw [alignB_length]; omega) (alignB_two h)
def getB (l : List UInt8) (pos : Nat) (width : Int) : Int × Nat × Int :=
  if width < 0 ∨ 16 < width then (0, pos, 2)
  else if 8 * (l.length : Int) - (pos : Int) < width then (0, pos, 5)
  else ((numB (((bitsOf l).drop pos).take width.toNat) : Int), pos + width.toNat, 0)
def wholeN (pos : Nat) : Nat := (pos + 7) / 8 * 8
theorem getB_arg {l : List UInt8} {pos : Nat} {width : Int} (h : width < 0 ∨ 16 < width) : getB l pos width = (0, pos, 2) := by unfold getB; rw [if_pos h]
theorem getB_short {l : List UInt8} {pos v : Nat} (hv : v ≤ 16) (h : 8 * (l.length : Int) - (pos : Int) < (v : Int)) : getB l pos (v : Int) = (0, pos, 5) := by
  unfold getB; rw [if_neg (by omega), if_pos h]
theorem getB_ok {l : List UInt8} {pos v : Nat} (hv : v ≤ 16) (h : pos + v ≤ 8 * l.length) : getB l pos (v : Int) = ((numB (((bitsOf l).drop pos).take v) : Int), pos + v, 0) := by
  unfold getB; rw [if_neg (by omega), if_neg (by omega), Int.toNat_natCast]
theorem bitsN_get : ∀ (k n i : Nat), i < k → (bitsN k n)[i]? = some (n / 2 ^ i % 2)
  | 0, _, i, h => by omega
  | k + 1, n, 0, _ => by simp [bitsN]
  | k + 1, n, i + 1, h => by
    rw [bitsN, List.getElem?_cons_succ, bitsN_get k (n / 2) i (by omega), Nat.div_div_eq_div_mul, Nat.pow_succ, Nat.mul_comm 2]
theorem take_at {L : List Nat} {pos v g b : Nat} (hb : L[pos + g]? = some b) (hg : g < v) : ((L.drop pos).take v).drop g = b :: ((L.drop pos).take v).drop (g + 1) := by
  have h1 : ((L.drop pos).take v)[g]? = some b := by rw [List.getElem?_take, if_pos hg, List.getElem?_drop, hb]
  obtain ⟨h2, h3⟩ := List.getElem?_eq_some_iff.1 h1
  rw [List.drop_eq_getElem_cons h2, h3]
theorem part_lt {L : List Nat} {pos v g : Nat} (h : ∀ b ∈ L, b < 2) (hv : v ≤ 16) : numB (((L.drop pos).take v).drop g) < 65536 := by
  have h1 := numB_lt (((L.drop pos).take v).drop g) fun b hb => h b (List.mem_of_mem_drop (List.mem_of_mem_take (List.mem_of_mem_drop hb)))
  have h2 : (((L.drop pos).take v).drop g).length ≤ 16 := by rw [List.length_drop, List.length_take]; omega
  have h3 : 2 ^ (((L.drop pos).take v).drop g).length ≤ 2 ^ 16 := Nat.pow_le_pow_right (by omega) h2
  omega
end
end Go.Proofs.YtiiiokikmjgliaaGreatDoor
/-
  Codes by their lengths alone: plain facts, no program in sight.
-/
namespace Go.Proofs.YtiiiokikmjgliaaGreatDoor
section
def partK (l : Int) : Nat := if l ≤ 0 then 0 else 2 ^ (15 - l.toNat)
def kraft (ls : List Int) : Nat := (ls.map partK).sum
theorem kraft_snoc (ls : List Int) (l : Int) : kraft (ls ++ [l]) = kraft ls + partK l := by simp [kraft]
theorem kraft_cons (ls : List Int) (l : Int) : kraft (l :: ls) = partK l + kraft ls := by simp [kraft]
def okL (l : Int) : Bool := decide (0 ≤ l ∧ l ≤ 15)
def checkZ (ls : List Int) : Int :=
  if 320 < ls.length then 2 else if ls.all okL then (if kraft ls = 0 then 12 else if 32768 < kraft ls then 7 else if kraft ls < 32768 then 5 else 0) else 3
def refusedZ (ls : List Int) : Int := if checkZ ls = 12 ∨ checkZ ls = 5 then 0 else checkZ ls
theorem refusedZ_zero {ls : List Int} (h : refusedZ ls = 0) : ls.length ≤ 320 ∧ (∀ l ∈ ls, 0 ≤ l ∧ l ≤ 15) ∧ kraft ls ≤ 32768 := by
  unfold refusedZ checkZ at h
  by_cases h1 : 320 < ls.length
  · simp [h1] at h
  · by_cases h2 : ls.all okL = true
    · refine ⟨by omega, fun l hl => by have := List.all_eq_true.1 h2 l hl; unfold okL at this; simpa using this, ?_⟩
      rw [if_neg h1, if_pos h2] at h
      by_cases h3 : kraft ls = 0
      · omega
      · by_cases h4 : 32768 < kraft ls
        · simp [h3, h4] at h
        · omega
    · simp [h1, h2] at h
def endC (ns : List Nat) : Nat → Nat
  | 0 => 0
  | n + 1 => 2 * endC ns n + ns.count (n + 1)
def codeAt (ns : List Nat) (i : Nat) : Nat :=
  match ns[i]? with
  | some (n + 1) => 2 * endC ns n + (ns.take i).count (n + 1)
  | _ => 0
def codesN (ns : List Nat) : List Nat := (List.range ns.length).map (codeAt ns)
theorem codesN_length (ns : List Nat) : (codesN ns).length = ns.length := by simp [codesN]
theorem codesN_at {ns : List Nat} {i : Nat} (h : i < ns.length) : (codesN ns)[i]? = some (codeAt ns i) := by simp [codesN, h]
theorem codeAt_some {ns : List Nat} {i n : Nat} (h : ns[i]? = some (n + 1)) : codeAt ns i = 2 * endC ns n + (ns.take i).count (n + 1) := by unfold codeAt; rw [h]
def upTo (ns : List Nat) (n : Nat) : Nat := (ns.map fun l => if 1 ≤ l ∧ l ≤ n then 2 ^ (15 - l) else 0).sum
theorem upTo_zero (ns : List Nat) : upTo ns 0 = 0 := by
  unfold upTo
  induction ns with
  | nil => rfl
  | cons l ls ih => simp at ih ⊢; omega
theorem upTo_succ (ns : List Nat) (n : Nat) : upTo ns (n + 1) = upTo ns n + ns.count (n + 1) * 2 ^ (15 - (n + 1)) := by
  induction ns with
  | nil => simp [upTo]
  | cons l ls ih =>
    unfold upTo at ih ⊢
    rw [List.map_cons, List.sum_cons, List.map_cons, List.sum_cons, ih, List.count_cons]
    by_cases h : l = n + 1
    · subst h
      rw [if_pos (by omega), if_neg (by omega)]
      simp only [beq_self_eq_true, if_true, Nat.add_mul, Nat.one_mul]
      omega
    · have e : (l == n + 1) = false := by simpa using h
      rw [e]
      by_cases h1 : 1 ≤ l ∧ l ≤ n
      · rw [if_pos (by omega), if_pos h1]; simp only [Bool.false_eq_true, if_false, Nat.add_zero]; omega
      · rw [if_neg (by omega), if_neg h1]; simp only [Bool.false_eq_true, if_false, Nat.add_zero]; omega
theorem endC_upTo (ns : List Nat) : ∀ n, n ≤ 15 → endC ns n * 2 ^ (15 - n) = upTo ns n
  | 0, _ => by rw [upTo_zero]; simp [endC]
  | n + 1, h => by
    rw [upTo_succ, ← endC_upTo ns n (by omega), endC, Nat.add_mul]
    congr 1
    rw [show 15 - n = (15 - (n + 1)) + 1 by omega, Nat.pow_succ, Nat.mul_comm 2 (endC ns n), Nat.mul_assoc, Nat.mul_comm 2]
theorem upTo_kraft : ∀ (ls : List Int) (n : Nat), (∀ l ∈ ls, 0 ≤ l ∧ l ≤ 15) → upTo (ls.map Int.toNat) n ≤ kraft ls
  | [], n, _ => by simp [upTo, kraft]
  | l :: ls, n, h => by
    have ih := upTo_kraft ls n fun x hx => h x (by simp [hx])
    have hl := h l (by simp)
    unfold upTo at ih ⊢
    rw [List.map_cons, List.map_cons, List.sum_cons, kraft_cons]
    have h1 : (if 1 ≤ l.toNat ∧ l.toNat ≤ n then 2 ^ (15 - l.toNat) else 0) ≤ partK l := by
      unfold partK
      by_cases h0 : l ≤ 0
      · rw [if_neg (by omega)]; exact Nat.zero_le _
      · rw [if_neg h0]
        split
        · exact Nat.le_refl _
        · exact Nat.zero_le _
    omega
theorem endC_le {ls : List Int} (h : ∀ l ∈ ls, 0 ≤ l ∧ l ≤ 15) (hk : kraft ls ≤ 32768) {n : Nat} (hn : n ≤ 15) : endC (ls.map Int.toNat) n ≤ 2 ^ n := by
  have h1 := endC_upTo (ls.map Int.toNat) n hn
  have h2 := upTo_kraft ls n h
  have h3 : (2 : Nat) ^ n * 2 ^ (15 - n) = 32768 := by rw [← Nat.pow_add, show n + (15 - n) = 15 by omega]
  have h4 : 0 < 2 ^ (15 - n) := Nat.pow_pos (by omega)
  refine Nat.le_of_mul_le_mul_right (c := 2 ^ (15 - n)) ?_ h4
  rw [h1, h3]; omega
theorem count_take_lt {ns : List Nat} {i n : Nat} (h : ns[i]? = some n) : (ns.take i).count n + 1 ≤ ns.count n := by
  obtain ⟨h1, h2⟩ := List.getElem?_eq_some_iff.1 h
  have e : ns = ns.take i ++ ns[i] :: ns.drop (i + 1) := by
    conv => lhs; rw [← List.take_append_drop i ns]
    rw [List.drop_eq_getElem_cons h1]
  conv => rhs; rw [e]
  rw [List.count_append, h2, List.count_cons_self]; omega
theorem count_take_less {ns : List Nat} {i k n : Nat} (hik : i < k) (h : ns[i]? = some n) : (ns.take i).count n + 1 ≤ (ns.take k).count n := by
  have h2 : (ns.take k)[i]? = some n := by rw [List.getElem?_take, if_pos hik]; exact h
  have h3 := count_take_lt h2
  rwa [List.take_take, Nat.min_eq_left (by omega)] at h3
theorem codeAt_range {ns : List Nat} {i n : Nat} (h : ns[i]? = some (n + 1)) : 2 * endC ns n ≤ codeAt ns i ∧ codeAt ns i < endC ns (n + 1) := by
  have := count_take_lt h
  rw [codeAt_some h, endC]; omega
theorem codeAt_lt {ls : List Int} (h : ∀ l ∈ ls, 0 ≤ l ∧ l ≤ 15) (hk : kraft ls ≤ 32768) {i n : Nat} (hi : (ls.map Int.toNat)[i]? = some (n + 1)) : n + 1 ≤ 15 ∧ codeAt (ls.map Int.toNat) i < 2 ^ (n + 1) := by
  have hn : n + 1 ≤ 15 := by
    rw [List.getElem?_map] at hi
    obtain ⟨l, hl, he⟩ := Option.map_eq_some_iff.1 hi
    have := h l (List.mem_of_getElem? hl)
    omega
  have h1 := (codeAt_range hi).2
  have h2 := endC_le h hk hn
  exact ⟨hn, by omega⟩
theorem endC_shift (ns : List Nat) (n : Nat) : ∀ d, endC ns n * 2 ^ d ≤ endC ns (n + d)
  | 0 => by simp
  | d + 1 => by
    have := endC_shift ns n d
    rw [show n + (d + 1) = (n + d) + 1 by omega, endC, Nat.pow_succ, ← Nat.mul_assoc]; omega
theorem no_prefix {ns : List Nat} {i k n m : Nat} (hi : ns[i]? = some (n + 1)) (hk : ns[k]? = some (m + 1)) (hne : i ≠ k) (hnm : n ≤ m) : codeAt ns k / 2 ^ (m - n) ≠ codeAt ns i := by
  obtain ⟨d, rfl⟩ : ∃ d, m = n + d := ⟨m - n, by omega⟩
  rw [show n + d - n = d by omega]
  cases d with
  | zero =>
    rw [Nat.pow_zero, Nat.div_one]
    rw [Nat.add_zero] at hk
    rw [codeAt_some hi, codeAt_some hk]
    rcases Nat.lt_or_gt_of_ne hne with h | h
    · have := count_take_less h hi; omega
    · have := count_take_less h hk; omega
  | succ d =>
    have h1 := (codeAt_range hi).2
    have h2 := (codeAt_range hk).1
    have h3 := endC_shift ns (n + 1) d
    rw [show n + 1 + d = n + (d + 1) by omega] at h3
    have h4 : endC ns (n + 1) * 2 ^ (d + 1) ≤ codeAt ns k := by rw [Nat.pow_succ, ← Nat.mul_assoc]; omega
    have h5 : endC ns (n + 1) ≤ codeAt ns k / 2 ^ (d + 1) := (Nat.le_div_iff_mul_le (Nat.pow_pos (by omega))).2 h4
    omega
end
end Go.Proofs.YtiiiokikmjgliaaGreatDoor
/-
  Codes that are read: plain facts, no program in sight.
-/
namespace Go.Proofs.YtiiiokikmjgliaaGreatDoor
section
def findC : List Int → List Nat → Nat → Nat → Nat → Int
  | l :: ls, c :: cs, w, x, i => if l = (w : Int) ∧ c = x ∧ 0 < w then (i : Int) else findC ls cs w x (i + 1)
  | _, _, _, _, _ => -1
theorem findC_none {ls : List Int} {cs : List Nat} {w x : Nat} : ∀ (i : Nat), (∀ (k : Nat) (l : Int) (c : Nat), ls[k]? = some l → cs[k]? = some c → ¬ (l = (w : Int) ∧ c = x ∧ 0 < w)) → findC ls cs w x i = -1 := by
  induction ls generalizing cs with
  | nil => intro i _; rfl
  | cons l ls ih =>
    intro i h
    cases cs with
    | nil => rfl
    | cons c cs =>
      unfold findC
      rw [if_neg (h 0 l c rfl rfl)]
      exact ih (i + 1) fun k a b ha hb => h (k + 1) a b (by simpa using ha) (by simpa using hb)
theorem findC_first {ls : List Int} {cs : List Nat} {w x : Nat} : ∀ (j i : Nat), (∀ (k : Nat) (l : Int) (c : Nat), k < j → ls[k]? = some l → cs[k]? = some c → ¬ (l = (w : Int) ∧ c = x ∧ 0 < w)) → ls[j]? = some (w : Int) → cs[j]? = some x → 0 < w →
    findC ls cs w x i = ((i + j : Nat) : Int) := by
  induction ls generalizing cs with
  | nil => intro j i _ h; simp at h
  | cons l ls ih =>
    intro j i h hl hc hw
    cases cs with
    | nil => simp at hc
    | cons c cs =>
      cases j with
      | zero =>
        simp at hl hc
        unfold findC
        rw [if_pos ⟨hl, hc, hw⟩]; rfl
      | succ j =>
        unfold findC
        rw [if_neg (h 0 l c (by omega) rfl rfl), ih j (i + 1) (fun k a b hk ha hb => h (k + 1) a b (by omega) (by simpa using ha) (by simpa using hb)) (by simpa using hl) (by simpa using hc) hw]
        congr 1; omega
def readC (ls : List Int) (cs : List Nat) : Nat → Nat → Nat → List Nat → Int × Nat × Int
  | 0, _, _, _ => (0, 0, 4)
  | _ + 1, _, _, [] => (0, 0, 5)
  | k + 1, n, code, b :: r =>
    if 0 ≤ findC ls cs (n + 1) (2 * code + b) 0 then (findC ls cs (n + 1) (2 * code + b) 0, 1, 0)
    else ((readC ls cs k (n + 1) (2 * code + b) r).1, (readC ls cs k (n + 1) (2 * code + b) r).2.1 + 1, (readC ls cs k (n + 1) (2 * code + b) r).2.2)
def codeBits (w x : Nat) : List Nat := (bitsN w x).reverse
theorem codeBits_length (w x : Nat) : (codeBits w x).length = w := by unfold codeBits; rw [List.length_reverse, bitsN_length]
theorem codeBits_get {w x j : Nat} (h : j < w) : (codeBits w x)[j]? = some (x / 2 ^ (w - 1 - j) % 2) := by
  unfold codeBits
  rw [List.getElem?_reverse (by rw [bitsN_length]; exact h), bitsN_length, bitsN_get _ _ _ (by omega)]
theorem len_of {ls : List Int} {k : Nat} {l : Int} {w : Nat} (h : ls[k]? = some l) (hl : l = (w : Int)) : (ls.map Int.toNat)[k]? = some w := by
  rw [List.getElem?_map, h, hl]; simp
theorem read_back {ls : List Int} {i n : Nat} (hi : ls[i]? = some ((n + 1 : Nat) : Int)) (rest : List Nat) :
    ∀ (d j L : Nat), j + d = n + 1 → d ≤ L → 0 < d →
      readC ls (codesN (ls.map Int.toNat)) L j (codeAt (ls.map Int.toNat) i / 2 ^ d) ((codeBits (n + 1) (codeAt (ls.map Int.toNat) i)).drop j ++ rest) = ((i : Int), d, 0) := by
  have hni := len_of hi rfl
  generalize hc : codeAt (ls.map Int.toNat) i = c
  intro d
  induction d with
  | zero => intro j L _ _ h0; omega
  | succ d ih =>
    intro j L hjd hL _
    obtain ⟨K, rfl⟩ : ∃ K, L = K + 1 := ⟨L - 1, by omega⟩
    have hj : j < n + 1 := by omega
    have hb := codeBits_get (x := c) hj
    rw [show n + 1 - 1 - j = d by omega] at hb
    obtain ⟨hb1, hb2⟩ := List.getElem?_eq_some_iff.1 hb
    rw [List.drop_eq_getElem_cons hb1, hb2, List.cons_append]
    have hcode : 2 * (c / 2 ^ (d + 1)) + c / 2 ^ d % 2 = c / 2 ^ d := by
      rw [Nat.pow_succ, ← Nat.div_div_eq_div_mul]; omega
    rw [readC, hcode]
    have hno : ∀ (k : Nat) (l : Int) (x : Nat), k ≠ i → ls[k]? = some l → (codesN (ls.map Int.toNat))[k]? = some x → ¬ (l = ((j + 1 : Nat) : Int) ∧ x = c / 2 ^ d ∧ 0 < j + 1) := by
      intro k l x hki hlk hxk ⟨h1, h2, _⟩
      have hnk := len_of hlk h1
      have hkl : k < (ls.map Int.toNat).length := (List.getElem?_eq_some_iff.1 hnk).1
      rw [codesN_at hkl] at hxk
      have := no_prefix hnk hni hki (by omega)
      rw [hc, show n - j = d by omega] at this
      exact this ((Option.some.inj hxk).trans h2).symm
    by_cases hd : d = 0
    · subst hd
      have hjn : j = n := by omega
      subst hjn
      have hil : i < (ls.map Int.toNat).length := (List.getElem?_eq_some_iff.1 hni).1
      have hf := findC_first (ls := ls) (cs := codesN (ls.map Int.toNat)) (w := j + 1) (x := c / 2 ^ 0) i 0 (fun k l x hk => hno k l x (by omega)) hi (by rw [codesN_at hil, hc, Nat.pow_zero, Nat.div_one]) (by omega)
      rw [hf, if_pos (by omega)]
      simp
    · have hf : findC ls (codesN (ls.map Int.toNat)) (j + 1) (c / 2 ^ d) 0 = -1 := findC_none 0 fun k l x hl hx => by
        by_cases hki : k = i
        · subst hki
          intro ⟨h1, _, _⟩
          rw [hi] at hl
          have := Option.some.inj hl
          omega
        · exact hno k l x hki hl hx
      rw [hf, if_neg (by omega), ih (j + 1) K (by omega) (by omega) (by omega)]
theorem read_whole {ls : List Int} (h : ∀ l ∈ ls, 0 ≤ l ∧ l ≤ 15) (hk : kraft ls ≤ 32768) {i n L : Nat} (hi : ls[i]? = some ((n + 1 : Nat) : Int)) (hL : n + 1 ≤ L) (rest : List Nat) :
    readC ls (codesN (ls.map Int.toNat)) L 0 0 (codeBits (n + 1) (codeAt (ls.map Int.toNat) i) ++ rest) = ((i : Int), n + 1, 0) := by
  have h0 := read_back hi rest (n + 1) 0 L (by omega) hL (by omega)
  rw [List.drop_zero] at h0
  have hlt := (codeAt_lt h hk (len_of hi rfl)).2
  rw [Nat.div_eq_of_lt hlt] at h0
  exact h0
end
end Go.Proofs.YtiiiokikmjgliaaGreatDoor
/-
  Codes told length by length, symbol by symbol: plain facts, no program in sight.
-/
namespace Go.Proofs.YtiiiokikmjgliaaGreatDoor
section
def nextC (ns : List Nat) (n j : Nat) : Nat := 2 * endC ns n + (ns.take j).count (n + 1)
def toldC (n j l i : Nat) : Bool := decide (1 ≤ l ∧ (l ≤ n ∨ (l = n + 1 ∧ i < j)))
def partAt (ns : List Nat) (n j i : Nat) : Nat := if toldC n j (ns[i]?.getD 0) i then codeAt ns i else 0
def partC (ns : List Nat) (n j : Nat) : List Nat := (List.range ns.length).map (partAt ns n j)
theorem partC_length (ns : List Nat) (n j : Nat) : (partC ns n j).length = ns.length := by simp [partC]
theorem partC_get {ns : List Nat} {n j i : Nat} (h : i < ns.length) : (partC ns n j)[i]? = some (partAt ns n j i) := by simp [partC, h]
theorem partC_ext {ns : List Nat} {l : List Nat} {n j : Nat} (hl : l.length = ns.length) (h : ∀ i, i < ns.length → l[i]? = some (partAt ns n j i)) : l = partC ns n j := by
  refine List.ext_getElem? fun i => ?_
  rcases Nat.lt_or_ge i ns.length with hi | hi
  · rw [h i hi, partC_get hi]
  · rw [List.getElem?_eq_none (by omega), List.getElem?_eq_none (by rw [partC_length]; omega)]
theorem partC_none (ns : List Nat) : List.replicate ns.length 0 = partC ns 0 0 := by
  refine partC_ext (by simp) fun i hi => ?_
  rw [List.getElem?_replicate, if_pos hi]
  congr 1
  unfold partAt toldC
  rw [if_neg (by simp; omega)]
theorem partC_next (ns : List Nat) (n : Nat) : partC ns n ns.length = partC ns (n + 1) 0 := by
  refine partC_ext (partC_length _ _ _) fun i hi => ?_
  rw [partC_get hi]
  congr 1
  unfold partAt
  congr 1
  unfold toldC
  simp only [decide_eq_true_eq]
  apply propext
  omega
theorem partC_all {ns : List Nat} {n : Nat} (h : ∀ l ∈ ns, l ≤ n) : partC ns n 0 = codesN ns := by
  refine (partC_ext (codesN_length ns) fun i hi => ?_).symm
  rw [codesN_at hi]
  congr 1
  unfold partAt toldC codeAt
  have hm := h _ (List.getElem_mem hi)
  rw [List.getElem?_eq_getElem hi]
  cases hns : ns[i] with
  | zero => simp
  | succ m =>
    rw [hns] at hm
    simp only [Option.getD_some]
    rw [if_pos (by simp; omega)]
theorem partC_miss {ns : List Nat} {n j : Nat} (h : ns[j]?.getD 0 ≠ n + 1) : partC ns n j = partC ns n (j + 1) := by
  refine partC_ext (partC_length _ _ _) fun i hi => ?_
  rw [partC_get hi]
  congr 1
  unfold partAt
  congr 1
  unfold toldC
  simp only [decide_eq_true_eq]
  apply propext
  by_cases hij : i = j
  · subst hij; omega
  · omega
theorem partC_hit {ns : List Nat} {n j : Nat} (hj : j < ns.length) (h : ns[j]?.getD 0 = n + 1) : (partC ns n j).set j (nextC ns n j) = partC ns n (j + 1) := by
  refine partC_ext (by rw [List.length_set, partC_length]) fun i hi => ?_
  rw [List.getElem?_set]
  by_cases hij : j = i
  · subst hij
    rw [if_pos rfl, if_pos (by rw [partC_length]; exact hj)]
    congr 1
    have hs : ns[j]? = some (n + 1) := by rw [List.getElem?_eq_getElem hj] at h ⊢; simpa using h
    unfold partAt toldC
    rw [h, if_pos (by simp), codeAt_some hs]; rfl
  · rw [if_neg hij, partC_get hi]
    congr 1
    unfold partAt
    congr 1
    unfold toldC
    simp only [decide_eq_true_eq]
    apply propext
    omega
theorem nextC_zero (ns : List Nat) (n : Nat) : nextC ns n 0 = 2 * endC ns n := by simp [nextC]
theorem nextC_end (ns : List Nat) (n : Nat) : nextC ns n ns.length = endC ns (n + 1) := by unfold nextC; rw [List.take_length]; rfl
theorem nextC_miss {ns : List Nat} {n j : Nat} (h : ns[j]?.getD 0 ≠ n + 1) (hj : j < ns.length) : nextC ns n (j + 1) = nextC ns n j := by
  unfold nextC
  rw [List.getElem?_eq_getElem hj] at h
  have e : [ns[j]].count (n + 1) = 0 := List.count_eq_zero.2 (by simpa using Ne.symm h)
  rw [List.take_succ_eq_append_getElem hj, List.count_append, e]; rfl
theorem nextC_hit {ns : List Nat} {n j : Nat} (h : ns[j]?.getD 0 = n + 1) (hj : j < ns.length) : nextC ns n (j + 1) = nextC ns n j + 1 := by
  unfold nextC
  rw [List.getElem?_eq_getElem hj] at h
  simp only [Option.getD_some] at h
  rw [List.take_succ_eq_append_getElem hj, List.count_append, h, List.count_singleton_self]; rfl
theorem nextC_le (ns : List Nat) (n j : Nat) : nextC ns n j ≤ endC ns (n + 1) := by
  have h : (ns.take j).count (n + 1) ≤ ns.count (n + 1) := (List.take_sublist j ns).count_le (n + 1)
  unfold nextC
  rw [endC]; omega
def natsOf (ls : List Int) : List Nat := ls.map Int.toNat
theorem natsOf_length (ls : List Int) : (natsOf ls).length = ls.length := by simp [natsOf]
theorem natsOf_at {ls : List Int} {j : Nat} (h : j < ls.length) : (natsOf ls)[j]?.getD 0 = (ls[j]?.getD 0).toNat := by
  unfold natsOf
  rw [List.getElem?_map, List.getElem?_eq_getElem h]; rfl
theorem natsOf_le {ls : List Int} (h : ∀ l ∈ ls, 0 ≤ l ∧ l ≤ 15) : ∀ l ∈ natsOf ls, l ≤ 15 := by
  intro l hl
  unfold natsOf at hl
  obtain ⟨x, hx, rfl⟩ := List.mem_map.1 hl
  have := h x hx
  omega
theorem endC_small {ls : List Int} (h : ∀ l ∈ ls, 0 ≤ l ∧ l ≤ 15) (hk : kraft ls ≤ 32768) {n : Nat} (hn : n ≤ 15) : endC (natsOf ls) n ≤ 32768 := by
  have h1 := endC_le h hk hn
  have h2 : (2 : Nat) ^ n ≤ 2 ^ 15 := Nat.pow_le_pow_right (by omega) hn
  unfold natsOf
  omega
end
end Go.Proofs.YtiiiokikmjgliaaGreatDoor
/-
  Bits that stand between numbers and bytes: plain facts, no program in sight.
-/
namespace Go.Proofs.YtiiiokikmjgliaaGreatDoor
section
theorem numB_append : ∀ (L M : List Nat), numB (L ++ M) = numB L + 2 ^ L.length * numB M
  | [], M => by simp [numB]
  | x :: r, M => by
    rw [List.cons_append, numB, numB_append r M, numB, List.length_cons, Nat.pow_succ, Nat.mul_add, ← Nat.mul_assoc, Nat.mul_comm 2 (2 ^ r.length)]; omega
theorem numB_parts (k : Nat) (L : List Nat) (h2 : ∀ b ∈ L, b < 2) (hk : k ≤ L.length) : numB (L.take k) = numB L % 2 ^ k ∧ numB (L.drop k) = numB L / 2 ^ k := by
  have hl : (L.take k).length = k := by rw [List.length_take]; omega
  have h := numB_append (L.take k) (L.drop k)
  rw [List.take_append_drop, hl] at h
  have hlt := numB_lt (L.take k) fun b hb => h2 b (List.mem_of_mem_take hb)
  rw [hl] at hlt
  have hp : 0 < 2 ^ k := Nat.pow_pos (by omega)
  constructor
  · rw [h, Nat.add_mul_mod_self_left, Nat.mod_eq_of_lt hlt]
  · rw [h, Nat.add_mul_div_left _ _ hp, Nat.div_eq_of_lt hlt, Nat.zero_add]
theorem bitsN_zero : ∀ k, bitsN k 0 = List.replicate k 0
  | 0 => rfl
  | k + 1 => by rw [bitsN, show (0 : Nat) / 2 = 0 by omega, bitsN_zero k, List.replicate_succ]
theorem packB_snoc : ∀ (n : Nat) (l m : List Nat), l.length = 8 * n → m.length = 8 → packB (l ++ m) = packB l ++ [UInt8.ofNat (numB m)]
  | 0, l, m, h, hm => by
    obtain rfl : l = [] := List.eq_nil_of_length_eq_zero (by omega)
    rw [List.nil_append, packB_take m (by omega), List.take_of_length_le (by omega), List.drop_of_length_le (by omega), packB_nil]
    rfl
  | n + 1, l, m, h, hm => by
    rw [packB_take (l ++ m) (by rw [List.length_append]; omega), packB_take l (by omega), List.take_append_of_le_length (by omega), List.drop_append_of_le_length (by omega), packB_snoc n _ m (by rw [List.length_drop]; omega) hm, List.cons_append]
theorem textB_none {D : List Nat} (h : D.length % 8 = 0) : textB D = packB D := by
  unfold textB alignB
  rw [show padN D.length = 0 by unfold padN; omega, List.replicate_zero, List.append_nil]
theorem textB_some {D L : List Nat} (h : D.length % 8 = 0) (h0 : 0 < L.length) (h8 : L.length < 8) : textB (D ++ L) = packB D ++ [UInt8.ofNat (numB L)] := by
  unfold textB alignB
  have hp : padN (D ++ L).length = 8 - L.length := by unfold padN; rw [List.length_append]; omega
  rw [hp, List.append_assoc, packB_snoc (D.length / 8) D _ (by omega) (by rw [List.length_append, List.length_replicate]; omega), numB_append, numB_zeros, Nat.mul_zero, Nat.add_zero]
theorem packB_len {D : List Nat} (h : D.length % 8 = 0) : 8 * (packB D).length = D.length := by
  rw [packB_length (D.length / 8) D (by omega)]; omega
theorem bitsOf_byte : ∀ (l : List UInt8) (k : Nat) (c : UInt8), l[k]? = some c → ((bitsOf l).drop (8 * k)).take 8 = bitsN 8 c.toNat
  | [], k, c, h => by simp at h
  | x :: l, 0, c, h => by
    simp at h
    subst h
    rw [Nat.mul_zero, List.drop_zero, bitsOf_cons, List.take_append_of_le_length (by rw [bitsN_length]; omega), List.take_of_length_le (by rw [bitsN_length]; omega)]
  | x :: l, k + 1, c, h => by
    rw [List.getElem?_cons_succ] at h
    rw [bitsOf_cons, List.drop_append, List.drop_of_length_le (by rw [bitsN_length]; omega), bitsN_length, List.nil_append, show 8 * (k + 1) - 8 = 8 * k by omega, bitsOf_byte l k c h]
theorem held_more {l : List UInt8} {pos k : Nat} {L : List Nat} {c : UInt8} (hL : L = ((bitsOf l).drop pos).take L.length) (hk : 8 * k = pos + L.length) (hc : l[k]? = some c) : L ++ bitsN 8 c.toNat = ((bitsOf l).drop pos).take (L.length + 8) := by
  rw [List.take_add, List.drop_drop, ← hk, bitsOf_byte l k c hc, ← hL]
theorem held_less {l : List UInt8} {pos v : Nat} {L : List Nat} (hL : L = ((bitsOf l).drop pos).take L.length) : L.drop v = ((bitsOf l).drop (pos + v)).take (L.drop v).length := by
  have h : L.drop v = (((bitsOf l).drop pos).take L.length).drop v := by rw [← hL]
  rw [List.length_drop, ← List.drop_drop]
  rw [h, List.drop_take]
def HeldR (l : List UInt8) (pos next : Nat) (L : List Nat) : Prop := L = ((bitsOf l).drop pos).take L.length ∧ 8 * next = pos + L.length ∧ next ≤ l.length
theorem HeldR.two {l : List UInt8} {pos next : Nat} {L : List Nat} (h : HeldR l pos next L) : ∀ b ∈ L, b < 2 := fun b hb => by
  rw [h.1] at hb
  exact bitsOf_two l b (List.mem_of_mem_drop (List.mem_of_mem_take hb))
theorem HeldR.more {l : List UInt8} {pos next : Nat} {L : List Nat} (h : HeldR l pos next L) {c : UInt8} (hc : l[next]? = some c) : HeldR l pos (next + 1) (L ++ bitsN 8 c.toNat) := by
  have hlt : next < l.length := (List.getElem?_eq_some_iff.1 hc).1
  refine ⟨?_, by rw [List.length_append, bitsN_length]; have := h.2.1; omega, hlt⟩
  rw [List.length_append, bitsN_length]
  exact held_more h.1 h.2.1 hc
theorem HeldR.less {l : List UInt8} {pos next : Nat} {L : List Nat} (h : HeldR l pos next L) {v : Nat} (hv : v ≤ L.length) : HeldR l (pos + v) next (L.drop v) :=
  ⟨held_less h.1, by rw [List.length_drop]; have := h.2.1; omega, h.2.2⟩
theorem HeldR.take {l : List UInt8} {pos next : Nat} {L : List Nat} (h : HeldR l pos next L) {v : Nat} (hv : v ≤ L.length) : L.take v = ((bitsOf l).drop pos).take v := by
  rw [h.1, List.take_take, Nat.min_eq_left hv]
end
end Go.Proofs.YtiiiokikmjgliaaGreatDoor
/-
  Codes that are counted, dealt, ordered, turned: plain facts, no program in sight.
-/
namespace Go.Proofs.YtiiiokikmjgliaaGreatDoor
section
theorem upTo_all : ∀ (ls : List Int), (∀ l ∈ ls, 0 ≤ l ∧ l ≤ 15) → upTo (natsOf ls) 15 = kraft ls
  | [], _ => by simp [upTo, kraft, natsOf]
  | l :: ls, h => by
    have ih := upTo_all ls fun x hx => h x (by simp [hx])
    have hl := h l (by simp)
    unfold upTo natsOf at ih ⊢
    rw [List.map_cons, List.map_cons, List.sum_cons, kraft_cons, ih]
    congr 1
    unfold partK
    by_cases h0 : l ≤ 0
    · rw [if_pos h0, if_neg (by omega)]
    · rw [if_neg h0, if_pos (by omega)]
theorem endC_kraft {ls : List Int} (h : ∀ l ∈ ls, 0 ≤ l ∧ l ≤ 15) : endC (natsOf ls) 15 = kraft ls := by
  have h1 := endC_upTo (natsOf ls) 15 (by omega)
  rw [upTo_all ls h] at h1
  simpa using h1
theorem endC_rough (ns : List Nat) (hn : ns.length ≤ 320) : ∀ k, endC ns k + 320 ≤ 320 * 2 ^ k
  | 0 => by simp [endC]
  | k + 1 => by
    have ih := endC_rough ns hn k
    have := List.count_le_length (a := k + 1) (l := ns)
    rw [endC, Nat.pow_succ]; omega
theorem endC_bound {ns : List Nat} (hn : ns.length ≤ 320) {k : Nat} (hk : k ≤ 15) : endC ns k ≤ 10485760 := by
  have h1 := endC_rough ns hn k
  have h2 : (2 : Nat) ^ k ≤ 2 ^ 15 := Nat.pow_le_pow_right (by omega) hk
  omega
theorem kraft_zero {ls : List Int} (h : ∀ l ∈ ls, 0 ≤ l ∧ l ≤ 15) : kraft ls = 0 ↔ ∀ v, 0 < v → (natsOf ls).count v = 0 := by
  constructor
  · intro hk v hv
    rw [List.count_eq_zero]
    intro hm
    unfold natsOf at hm
    obtain ⟨l, hl, rfl⟩ := List.mem_map.1 hm
    have : partK l ≤ kraft ls := by
      obtain ⟨a, b, rfl⟩ := List.append_of_mem hl
      unfold kraft; simp; omega
    unfold partK at this
    rw [if_neg (by omega)] at this
    have : 0 < 2 ^ (15 - l.toNat) := Nat.pow_pos (by omega)
    omega
  · intro hc
    rw [← endC_kraft h]
    have : ∀ k, endC (natsOf ls) k = 0 := by
      intro k
      induction k with
      | zero => rfl
      | succ k ih => rw [endC, ih, hc (k + 1) (by omega)]
    exact this 15
def startN (ns : List Nat) (m : Nat) : Nat → Nat
  | 0 => 0
  | 1 => 0
  | n + 2 => m * (startN ns m (n + 1) + ns.count (n + 1))
theorem startN_two (ns : List Nat) : ∀ n, startN ns 2 (n + 1) = 2 * endC ns n
  | 0 => rfl
  | n + 1 => by rw [startN, startN_two ns n, endC]
theorem startN_more (ns : List Nat) (n : Nat) : startN ns 1 (n + 2) = startN ns 1 (n + 1) + ns.count (n + 1) := by rw [startN]; omega
theorem startN_up (ns : List Nat) (n : Nat) : ∀ d, startN ns 1 (n + 1) ≤ startN ns 1 (n + 1 + d)
  | 0 => Nat.le_refl _
  | d + 1 => by
    have := startN_up ns n d
    rw [show n + 1 + (d + 1) = (n + d) + 2 by omega, startN_more, show n + d + 1 = n + 1 + d by omega]; omega
theorem countP_more (ns : List Nat) (n : Nat) : ns.countP (fun l => decide (1 ≤ l ∧ l ≤ n + 1)) = ns.countP (fun l => decide (1 ≤ l ∧ l ≤ n)) + ns.count (n + 1) := by
  induction ns with
  | nil => rfl
  | cons l ls ih =>
    rw [List.countP_cons, List.countP_cons, List.count_cons, ih]
    by_cases h : l = n + 1
    · subst h
      rw [if_pos (by simp), if_neg (by simp), if_pos (by simp)]
      omega
    · have e : (l == n + 1) = false := by simpa using h
      have e2 : decide (1 ≤ l ∧ l ≤ n + 1) = decide (1 ≤ l ∧ l ≤ n) := by
        rw [decide_eq_decide]; omega
      rw [e, e2]; simp only [Bool.false_eq_true, if_false, Nat.add_zero]; omega
theorem startN_count (ns : List Nat) : ∀ n, startN ns 1 (n + 1) = ns.countP (fun l => decide (1 ≤ l ∧ l ≤ n))
  | 0 => by
    have : ns.countP (fun l => decide (1 ≤ l ∧ l ≤ 0)) = 0 := by
      rw [List.countP_eq_zero]; intro l _; simp; omega
    rw [this]; rfl
  | n + 1 => by rw [startN_more, startN_count ns n, countP_more]
theorem startN_le (ns : List Nat) (n : Nat) : startN ns 1 n ≤ ns.length := by
  cases n with
  | zero => exact Nat.zero_le _
  | succ n => rw [startN_count]; exact List.countP_le_length
theorem startN_bound {ns : List Nat} (hn : ns.length ≤ 320) {m : Nat} (hm : m = 1 ∨ m = 2) {k : Nat} (hk : k ≤ 15) : startN ns m k ≤ 20971520 := by
  rcases hm with rfl | rfl
  · have := startN_le ns k; omega
  · cases k with
    | zero => exact Nat.zero_le _
    | succ k =>
      have := endC_bound hn (k := k) (by omega)
      rw [startN_two]; omega
def dealAt (ns : List Nat) (g : Nat → Nat) (i : Nat) : Nat :=
  match ns[i]? with
  | some (n + 1) => g (n + 1) + (ns.take i).count (n + 1)
  | _ => 0
def dealN (ns : List Nat) (g : Nat → Nat) : List Nat := (List.range ns.length).map (dealAt ns g)
theorem dealAt_some {ns : List Nat} {g : Nat → Nat} {i n : Nat} (h : ns[i]? = some (n + 1)) : dealAt ns g i = g (n + 1) + (ns.take i).count (n + 1) := by unfold dealAt; rw [h]
theorem dealAt_two (ns : List Nat) (i : Nat) : dealAt ns (startN ns 2) i = codeAt ns i := by
  rcases h : ns[i]? with _ | n
  · unfold dealAt codeAt; rw [h]
  · cases n with
    | zero => unfold dealAt codeAt; rw [h]
    | succ n => rw [dealAt_some h, codeAt_some h, startN_two]
theorem dealN_two (ns : List Nat) : dealN ns (startN ns 2) = codesN ns := by
  unfold dealN codesN
  congr 1
  funext i
  exact dealAt_two ns i
def dealtN (ns : List Nat) (g : Nat → Nat) (j : Nat) : List Nat := (List.range ns.length).map fun i => if i < j then dealAt ns g i else 0
theorem dealtN_length (ns : List Nat) (g : Nat → Nat) (j : Nat) : (dealtN ns g j).length = ns.length := by simp [dealtN]
theorem dealtN_none (ns : List Nat) (g : Nat → Nat) : dealtN ns g 0 = List.replicate ns.length 0 := by
  apply List.ext_getElem (by simp [dealtN])
  intro i h1 h2
  simp [dealtN]
theorem dealtN_all (ns : List Nat) (g : Nat → Nat) : dealtN ns g ns.length = dealN ns g := by
  unfold dealtN dealN
  apply List.map_congr_left
  intro i hi
  rw [if_pos (List.mem_range.1 hi)]
theorem dealtN_set {ns : List Nat} {g : Nat → Nat} {j : Nat} : (dealtN ns g j).set j (dealAt ns g j) = dealtN ns g (j + 1) := by
  apply List.ext_getElem (by simp [dealtN])
  intro i h1 h2
  rw [List.getElem_set]
  by_cases e : j = i
  · subst e; simp [dealtN]
  · rw [if_neg e]
    have : (i < j + 1) = (i < j) := by apply propext; omega
    simp [dealtN, this]
theorem dealtN_skip {ns : List Nat} {g : Nat → Nat} {j : Nat} (h : ns[j]?.getD 0 = 0) : dealtN ns g j = dealtN ns g (j + 1) := by
  apply List.ext_getElem (by simp [dealtN])
  intro i h1 h2
  by_cases e : i = j
  · subst e
    have : dealAt ns g i = 0 := by
      unfold dealAt
      split
      · rename_i n hn; rw [hn] at h; simp at h
      · rfl
    simp [dealtN, this]
  · have : (i < j + 1) = (i < j) := by apply propext; omega
    simp [dealtN, this]
def nextG (ns : List Nat) (g : Nat → Nat) (j l : Nat) : Nat := g l + if l = 0 then 0 else (ns.take j).count l
theorem nextG_zero (ns : List Nat) (g : Nat → Nat) : nextG ns g 0 = g := by
  funext l; unfold nextG; simp
theorem nextG_at {ns : List Nat} {g : Nat → Nat} {j n : Nat} (h : ns[j]? = some (n + 1)) : nextG ns g j (n + 1) = dealAt ns g j := by
  rw [dealAt_some h]; unfold nextG; simp
theorem take_count {ns : List Nat} {j v : Nat} (h : ns[j]? = some v) (l : Nat) : (ns.take (j + 1)).count l = (ns.take j).count l + if v = l then 1 else 0 := by
  obtain ⟨hj, hv⟩ := List.getElem?_eq_some_iff.1 h
  rw [List.take_succ_eq_append_getElem hj, hv, List.count_append, List.count_cons, List.count_nil]
  by_cases e : v = l
  · subst e; simp
  · have : (v == l) = false := by simpa using e
    rw [this, if_neg e]; simp
theorem nextG_skip {ns : List Nat} {g : Nat → Nat} {j : Nat} (h : ns[j]? = some 0) : nextG ns g (j + 1) = nextG ns g j := by
  funext l
  unfold nextG
  by_cases e : l = 0
  · rw [if_pos e, if_pos e]
  · rw [if_neg e, if_neg e, take_count h, if_neg (by omega)]; rfl
theorem nextG_more {ns : List Nat} {g : Nat → Nat} {j n : Nat} (h : ns[j]? = some (n + 1)) : nextG ns g (j + 1) = fun k => if k = n + 1 then nextG ns g j (n + 1) + 1 else nextG ns g j k := by
  funext l
  unfold nextG
  by_cases e0 : l = 0
  · subst e0; simp
  · rw [if_neg e0, take_count h]
    by_cases e : l = n + 1
    · subst e; simp; omega
    · rw [if_neg e, if_neg e0, if_neg (by omega)]; rfl
def placeAt (ns : List Nat) (i : Nat) : Nat := dealAt ns (startN ns 1) i
theorem placeAt_range {ns : List Nat} {i n : Nat} (h : ns[i]? = some (n + 1)) : startN ns 1 (n + 1) ≤ placeAt ns i ∧ placeAt ns i < startN ns 1 (n + 2) := by
  have := count_take_lt h
  unfold placeAt
  rw [dealAt_some h, startN_more]; omega
theorem placeAt_lt {ns : List Nat} {i n : Nat} (h : ns[i]? = some (n + 1)) : placeAt ns i < ns.length := by
  have h1 := (placeAt_range h).2
  have h2 := startN_le ns (n + 2)
  omega
theorem placeAt_ne {ns : List Nat} {i k n m : Nat} (hi : ns[i]? = some (n + 1)) (hk : ns[k]? = some (m + 1)) (hik : i < k) : placeAt ns i ≠ placeAt ns k := by
  rcases Nat.lt_trichotomy n m with h | h | h
  · have h1 := (placeAt_range hi).2
    have h2 := (placeAt_range hk).1
    have h3 := startN_up ns (n + 1) (m - n - 1)
    rw [show n + 1 + 1 + (m - n - 1) = m + 1 by omega, show n + 1 + 1 = n + 2 by omega] at h3
    omega
  · subst h
    have := count_take_less hik hi
    unfold placeAt
    rw [dealAt_some hi, dealAt_some hk]; omega
  · have h1 := (placeAt_range hk).2
    have h2 := (placeAt_range hi).1
    have h3 := startN_up ns (m + 1) (n - m - 1)
    rw [show m + 1 + 1 + (n - m - 1) = n + 1 by omega, show m + 1 + 1 = m + 2 by omega] at h3
    omega
def Ordered (ns : List Nat) (j : Nat) (l : List Nat) : Prop := l.length = ns.length ∧ ∀ i n, i < j → ns[i]? = some (n + 1) → l[placeAt ns i]? = some i
theorem ordered_none (ns : List Nat) : Ordered ns 0 (List.replicate ns.length 0) := ⟨by simp, fun i n h => by omega⟩
theorem Ordered.skip {ns : List Nat} {j : Nat} {l : List Nat} (h : Ordered ns j l) (h0 : ns[j]? = some 0) : Ordered ns (j + 1) l :=
  ⟨h.1, fun i n hi hn => by
    rcases Nat.lt_or_ge i j with hij | hij
    · exact h.2 i n hij hn
    · obtain rfl : i = j := by omega
      rw [h0] at hn; cases hn⟩
theorem Ordered.more {ns : List Nat} {j n : Nat} {l : List Nat} (h : Ordered ns j l) (hn : ns[j]? = some (n + 1)) : Ordered ns (j + 1) (l.set (placeAt ns j) j) :=
  ⟨by rw [List.length_set]; exact h.1, fun i m hi hm => by
    rw [List.getElem?_set]
    rcases Nat.lt_or_ge i j with hij | hij
    · rw [if_neg (Ne.symm (placeAt_ne hm hn hij))]
      exact h.2 i m hij hm
    · obtain rfl : i = j := by omega
      rw [if_pos rfl, if_pos (by rw [h.1]; exact placeAt_lt hn)]⟩
theorem symbol_of {v : Nat} : ∀ (ns : List Nat) (k : Nat), k < ns.count v → ∃ i, ns[i]? = some v ∧ (ns.take i).count v = k
  | [], k, h => by simp at h
  | l :: ls, k, h => by
    by_cases e : l = v
    · subst e
      cases k with
      | zero => exact ⟨0, rfl, rfl⟩
      | succ k =>
        rw [List.count_cons_self] at h
        obtain ⟨i, h1, h2⟩ := symbol_of (v := l) ls k (by omega)
        exact ⟨i + 1, by simpa using h1, by rw [List.take_succ_cons, List.count_cons_self, h2]⟩
    · rw [List.count_cons_of_ne (by simpa using e)] at h
      obtain ⟨i, h1, h2⟩ := symbol_of ls k h
      exact ⟨i + 1, by simpa using h1, by rw [List.take_succ_cons, List.count_cons_of_ne (by simpa using e), h2]⟩
theorem ls_of {ls : List Int} (h : ∀ l ∈ ls, 0 ≤ l ∧ l ≤ 15) {i w : Nat} (hi : (natsOf ls)[i]? = some w) : ls[i]? = some (w : Int) := by
  unfold natsOf at hi
  rw [List.getElem?_map] at hi
  obtain ⟨l, hl, he⟩ := Option.map_eq_some_iff.1 hi
  have := h l (List.mem_of_getElem? hl)
  rw [hl]; congr 1; omega
theorem nats_of {ls : List Int} {i : Nat} {w : Nat} {l : Int} (hi : ls[i]? = some l) (hl : l = (w : Int)) : (natsOf ls)[i]? = some w := len_of hi hl
theorem read_hit {ls : List Int} (h : ∀ l ∈ ls, 0 ≤ l ∧ l ≤ 15) {n num x : Nat} (hx : x = 2 * endC (natsOf ls) n + num) (hnum : num < (natsOf ls).count (n + 1)) {l : List Nat} (ho : Ordered (natsOf ls) ls.length l) :
    ∃ i : Nat, findC ls (codesN (natsOf ls)) (n + 1) x 0 = (i : Int) ∧ l[startN (natsOf ls) 1 (n + 1) + num]? = some i := by
  obtain ⟨i, h1, h2⟩ := symbol_of (natsOf ls) num hnum
  have hc : codeAt (natsOf ls) i = x := by rw [codeAt_some h1, h2, hx]
  have hil : i < (natsOf ls).length := (List.getElem?_eq_some_iff.1 h1).1
  refine ⟨i, ?_, ?_⟩
  · have := findC_first (ls := ls) (cs := codesN (natsOf ls)) (w := n + 1) (x := x) i 0 (fun k l c hk hl hcc hh => by
      obtain ⟨e1, e2, _⟩ := hh
      have hnk := nats_of hl e1
      have hkl : k < (natsOf ls).length := (List.getElem?_eq_some_iff.1 hnk).1
      rw [codesN_at hkl] at hcc
      have hcc2 := Option.some.inj hcc
      have := count_take_less hk hnk
      rw [codeAt_some hnk] at hcc2
      rw [codeAt_some h1] at hc
      omega) (ls_of h h1) (by rw [codesN_at hil, hc]) (by omega)
    rw [this]; congr 1; omega
  · have hp := ho.2 i n (by rw [natsOf_length] at hil; exact hil) h1
    unfold placeAt at hp
    rwa [dealAt_some h1, h2] at hp
theorem read_miss {ls : List Int} {n num x : Nat} (hx : x = 2 * endC (natsOf ls) n + num) (hnum : (natsOf ls).count (n + 1) ≤ num) : findC ls (codesN (natsOf ls)) (n + 1) x 0 = -1 :=
  findC_none 0 fun k l c hl hc hh => by
    obtain ⟨e1, e2, _⟩ := hh
    have hnk := nats_of hl e1
    have hkl : k < (natsOf ls).length := (List.getElem?_eq_some_iff.1 hnk).1
    rw [codesN_at hkl] at hc
    have h1 := (codeAt_range hnk).2
    have h2 := Option.some.inj hc
    rw [endC] at h1
    omega
def revN (w x : Nat) : Nat := numB (codeBits w x)
theorem codeBits_lt2 (w x : Nat) : ∀ b ∈ codeBits w x, b < 2 := fun b hb => bitsN_two _ _ b (List.mem_reverse.1 hb)
theorem revN_lt (w x : Nat) : revN w x < 2 ^ w := by
  have := numB_lt (codeBits w x) (codeBits_lt2 w x)
  rwa [codeBits_length] at this
theorem bits_revN (w x : Nat) : bitsN w (revN w x) = codeBits w x := by
  have := bitsN_numB (codeBits w x) (codeBits_lt2 w x)
  rwa [codeBits_length] at this
theorem bitsN_add : ∀ (a b x : Nat), bitsN (a + b) x = bitsN a x ++ bitsN b (x / 2 ^ a)
  | 0, b, x => by simp [bitsN]
  | a + 1, b, x => by
    rw [show a + 1 + b = (a + b) + 1 by omega, bitsN, bitsN_add a b, bitsN, List.cons_append, Nat.div_div_eq_div_mul, Nat.pow_succ, Nat.mul_comm 2]
theorem revN_halves (x : Nat) : revN 16 x = revN 8 (x / 256) + 256 * revN 8 x := by
  unfold revN codeBits
  rw [show (16 : Nat) = 8 + 8 from rfl, bitsN_add, List.reverse_append, numB_append, List.length_reverse, bitsN_length]
theorem bitsN_mod : ∀ (k x : Nat), bitsN k (x % 2 ^ k) = bitsN k x
  | 0, _ => rfl
  | k + 1, x => by
    rw [bitsN, bitsN, show x % 2 ^ (k + 1) % 2 = x % 2 by rw [Nat.pow_succ, Nat.mul_comm, Nat.mod_mul_right_mod], show x % 2 ^ (k + 1) / 2 = x / 2 % 2 ^ k by rw [Nat.pow_succ, Nat.mul_comm, Nat.mod_mul_right_div_self], bitsN_mod k]
theorem revN_mod (x : Nat) : revN 8 (x % 256) = revN 8 x := by
  unfold revN codeBits
  rw [show (256 : Nat) = 2 ^ 8 from rfl, bitsN_mod]
theorem revN_cut {w x : Nat} (hw : w ≤ 16) (hx : x < 2 ^ w) : revN 16 x / 2 ^ (16 - w) = revN w x := by
  have e : codeBits 16 x = List.replicate (16 - w) 0 ++ codeBits w x := by
    unfold codeBits
    rw [show (16 : Nat) = w + (16 - w) by omega, bitsN_add, Nat.div_eq_of_lt hx, bitsN_zero, List.reverse_append, List.reverse_replicate]
    congr 2
    omega
  unfold revN
  rw [e, numB_append, numB_zeros, List.length_replicate, Nat.zero_add, Nat.mul_div_cancel_left _ (Nat.pow_pos (by omega))]
def turnAt (ns : List Nat) (j i : Nat) : Nat := if i < j then revN (ns[i]?.getD 0) (codeAt ns i) else codeAt ns i
def turnN (ns : List Nat) (j : Nat) : List Nat := (List.range ns.length).map (turnAt ns j)
theorem turnN_none (ns : List Nat) : turnN ns 0 = codesN ns := by
  unfold turnN codesN turnAt; simp
theorem turnN_at {ns : List Nat} {j i : Nat} (h : i < ns.length) : (turnN ns j)[i]? = some (turnAt ns j i) := by simp [turnN, h]
theorem turnN_set {ns : List Nat} {j n : Nat} (h : ns[j]? = some n) : (turnN ns j).set j (revN n (codeAt ns j)) = turnN ns (j + 1) := by
  apply List.ext_getElem (by simp [turnN])
  intro i h1 h2
  rw [List.getElem_set]
  by_cases e : j = i
  · subst e
    simp [turnN, turnAt, h]
  · rw [if_neg e]
    have : (i < j + 1) = (i < j) := by apply propext; omega
    simp [turnN, turnAt, this]
theorem codeAt_none {ns : List Nat} {j : Nat} (h : ns[j]? = some 0) : codeAt ns j = 0 := by unfold codeAt; rw [h]
theorem turnN_skip {ns : List Nat} {j : Nat} (h : ns[j]? = some 0) : turnN ns (j + 1) = turnN ns j := by
  apply List.ext_getElem (by simp [turnN])
  intro i h1 h2
  by_cases e : i = j
  · subst e
    simp [turnN, turnAt, h, codeAt_none h, revN, codeBits, bitsN, numB]
  · have : (i < j + 1) = (i < j) := by apply propext; omega
    simp [turnN, turnAt, this]
end
end Go.Proofs.YtiiiokikmjgliaaGreatDoor
/-
  Deflated bytes, read from the left: plain facts, no program in sight.
-/
namespace Go.Proofs.YtiiiokikmjgliaaGreatDoor
section
def Prs (α : Type) : Type := List UInt8 → Nat → Except Int (α × Nat)
def pret {α : Type} (a : α) : Prs α := fun _ pos => .ok (a, pos)
def pbind {α β : Type} (p : Prs α) (f : α → Prs β) : Prs β := fun l pos => match p l pos with
  | .error e => .error e
  | .ok (a, tq) => f a l tq
def pfail (c : Bool) (e : Int) : Prs Unit := fun _ pos => if c = true then .error e else .ok ((), pos)
theorem pbind_ok {α β : Type} {p : Prs α} {f : α → Prs β} {l : List UInt8} {pos : Nat} {b : β} {tq : Nat} (h : pbind p f l pos = .ok (b, tq)) : ∃ a mid, p l pos = .ok (a, mid) ∧ f a l mid = .ok (b, tq) := by
  unfold pbind at h
  cases hp : p l pos with
  | error e => rw [hp] at h; cases h
  | ok r => rw [hp] at h; exact ⟨r.1, r.2, rfl, h⟩
theorem pbind_of {α β : Type} {p : Prs α} {f : α → Prs β} {l : List UInt8} {pos mid : Nat} {a : α} (h : p l pos = .ok (a, mid)) : pbind p f l pos = f a l mid := by
  unfold pbind; rw [h]
theorem pbind_err {α β : Type} {p : Prs α} {f : α → Prs β} {l : List UInt8} {pos : Nat} {e : Int} (h : p l pos = .error e) : pbind p f l pos = .error e := by
  unfold pbind; rw [h]
structure Lefty {α : Type} (p : Prs α) : Prop where
  le : ∀ {l : List UInt8} {pos : Nat} {a : α} {tq : Nat}, p l pos = .ok (a, tq) → pos ≤ 8 * l.length → pos ≤ tq ∧ tq ≤ 8 * l.length
  same : ∀ {l l' : List UInt8} {pos : Nat} {a : α} {tq : Nat}, p l pos = .ok (a, tq) → pos ≤ 8 * l.length → tq ≤ 8 * l'.length → (bitsOf l').take tq = (bitsOf l).take tq → p l' pos = .ok (a, tq)
  cut : ∀ {l : List UInt8} {pos k : Nat} {a : α} {tq : Nat}, p l pos = .ok (a, tq) → pos ≤ 8 * k → 8 * k < tq → k ≤ l.length → p (l.take k) pos = .error 5
theorem take_less {bs bs' : List Nat} {m n : Nat} (h : bs'.take n = bs.take n) (hm : m ≤ n) : bs'.take m = bs.take m := by
  have := congrArg (List.take m) h
  rwa [List.take_take, List.take_take, Nat.min_eq_left hm] at this
theorem bitsOf_cut (l : List UInt8) : ∀ k, bitsOf (l.take k) = (bitsOf l).take (8 * k) := by
  induction l with
  | nil => intro k; simp [bitsOf]
  | cons c l ih =>
    intro k
    cases k with
    | zero => simp [bitsOf]
    | succ k =>
      rw [List.take_succ_cons, bitsOf_cons, bitsOf_cons, ih, List.take_append, bitsN_length, List.take_of_length_le (l := bitsN 8 c.toNat) (by rw [bitsN_length]; omega), show 8 * (k + 1) - 8 = 8 * k by omega]
theorem Lefty.bind {α β : Type} {p : Prs α} {f : α → Prs β} (hp : Lefty p) (hf : ∀ a, Lefty (f a)) : Lefty (pbind p f) where
  le h h0 := by
    obtain ⟨a, mid, h1, h2⟩ := pbind_ok h
    obtain ⟨a1, a2⟩ := hp.le h1 h0
    obtain ⟨b1, b2⟩ := (hf a).le h2 a2
    exact ⟨by omega, b2⟩
  same h h0 hl ht := by
    obtain ⟨a, mid, h1, h2⟩ := pbind_ok h
    obtain ⟨a1, a2⟩ := hp.le h1 h0
    obtain ⟨b1, b2⟩ := (hf a).le h2 a2
    rw [pbind_of (hp.same h1 h0 (by omega) (take_less ht b1))]
    exact (hf a).same h2 a2 hl ht
  cut {l pos k b tq} h h0 hk hl := by
    obtain ⟨a, mid, h1, h2⟩ := pbind_ok h
    obtain ⟨a1, a2⟩ := hp.le h1 (by omega)
    by_cases hm : 8 * k < mid
    · exact pbind_err (hp.cut h1 h0 hm hl)
    · have hlen : (l.take k).length = k := by rw [List.length_take]; omega
      have h3 := hp.same (l' := l.take k) h1 (by omega) (by rw [hlen]; omega) (by rw [bitsOf_cut, List.take_take, Nat.min_eq_left (by omega)])
      rw [pbind_of h3]
      exact (hf a).cut h2 (by omega) hk hl
theorem Lefty.ret {α : Type} (a : α) : Lefty (pret a) where
  le h h0 := by
    unfold pret at h
    obtain ⟨rfl, rfl⟩ := Prod.mk.inj (Except.ok.inj h)
    exact ⟨Nat.le_refl _, h0⟩
  same h _ _ _ := h
  cut h h0 hk _ := by
    unfold pret at h
    obtain ⟨_, rfl⟩ := Prod.mk.inj (Except.ok.inj h)
    omega
theorem pfail_ok {c : Bool} {e : Int} {l : List UInt8} {pos : Nat} {u : Unit} {tq : Nat} (h : pfail c e l pos = .ok (u, tq)) : c = false ∧ tq = pos := by
  unfold pfail at h
  cases c
  · simp at h; exact ⟨rfl, h.symm⟩
  · simp at h
theorem Lefty.fail (c : Bool) (e : Int) : Lefty (pfail c e) where
  le h h0 := by
    obtain ⟨_, rfl⟩ := pfail_ok h
    exact ⟨Nat.le_refl _, h0⟩
  same h _ _ _ := h
  cut h h0 hk _ := by
    obtain ⟨_, rfl⟩ := pfail_ok h
    omega
theorem Lefty.never {α : Type} (e : Int) : Lefty (fun _ _ => .error e : Prs α) where
  le h _ := by cases h
  same h _ _ _ := by cases h
  cut h _ _ _ := by cases h
def bitsP (w : Nat) : Prs Nat := fun l pos => if pos + w ≤ 8 * l.length then .ok (numB (((bitsOf l).drop pos).take w), pos + w) else .error 5
theorem bitsP_ok {w : Nat} {l : List UInt8} {pos n tq : Nat} (h : bitsP w l pos = .ok (n, tq)) : pos + w ≤ 8 * l.length ∧ n = numB (((bitsOf l).drop pos).take w) ∧ tq = pos + w := by
  unfold bitsP at h
  split at h
  · rename_i hle
    obtain ⟨rfl, rfl⟩ := Prod.mk.inj (Except.ok.inj h)
    exact ⟨hle, rfl, rfl⟩
  · cases h
theorem piece_same {bs bs' : List Nat} {pos w tq : Nat} (h : bs'.take tq = bs.take tq) (hw : pos + w ≤ tq) : (bs'.drop pos).take w = (bs.drop pos).take w := by
  have h2 := take_less h hw
  have := congrArg (List.drop pos) h2
  rw [List.drop_take, List.drop_take, show pos + w - pos = w by omega] at this
  exact this
theorem Lefty.bits (w : Nat) : Lefty (bitsP w) where
  le h _ := by
    obtain ⟨h1, _, rfl⟩ := bitsP_ok h
    omega
  same h _ hl ht := by
    obtain ⟨h1, rfl, rfl⟩ := bitsP_ok h
    unfold bitsP
    rw [if_pos hl, piece_same ht (Nat.le_refl _)]
  cut h h0 hk hl := by
    obtain ⟨h1, rfl, rfl⟩ := bitsP_ok h
    unfold bitsP
    rw [if_neg (by rw [List.length_take]; omega)]
def alignP : Prs Unit := fun _ pos => .ok ((), wholeN pos)
theorem Lefty.align : Lefty alignP where
  le h h0 := by
    unfold alignP at h
    obtain ⟨_, rfl⟩ := Prod.mk.inj (Except.ok.inj h)
    unfold wholeN; omega
  same h _ _ _ := h
  cut h h0 hk _ := by
    unfold alignP at h
    obtain ⟨_, rfl⟩ := Prod.mk.inj (Except.ok.inj h)
    unfold wholeN at hk; omega
def bytesP (n : Nat) : Prs (List UInt8) := fun l pos => if pos + 8 * n ≤ 8 * l.length then .ok (packB (((bitsOf l).drop pos).take (8 * n)), pos + 8 * n) else .error 5
theorem bytesP_ok {n : Nat} {l : List UInt8} {pos tq : Nat} {t : List UInt8} (h : bytesP n l pos = .ok (t, tq)) : pos + 8 * n ≤ 8 * l.length ∧ t = packB (((bitsOf l).drop pos).take (8 * n)) ∧ tq = pos + 8 * n := by
  unfold bytesP at h
  split at h
  · rename_i hle
    obtain ⟨rfl, rfl⟩ := Prod.mk.inj (Except.ok.inj h)
    exact ⟨hle, rfl, rfl⟩
  · cases h
theorem Lefty.bytes (n : Nat) : Lefty (bytesP n) where
  le h _ := by
    obtain ⟨h1, _, rfl⟩ := bytesP_ok h
    omega
  same h _ hl ht := by
    obtain ⟨h1, rfl, rfl⟩ := bytesP_ok h
    unfold bytesP
    rw [if_pos hl, piece_same ht (Nat.le_refl _)]
  cut h h0 hk hl := by
    obtain ⟨h1, rfl, rfl⟩ := bytesP_ok h
    unfold bytesP
    rw [if_neg (by rw [List.length_take]; omega)]
theorem packB_bitsOf : ∀ l : List UInt8, packB (bitsOf l) = l
  | [] => rfl
  | c :: l => by
    have h8 : ((bitsOf (c :: l)).take 8) = bitsN 8 c.toNat := by rw [bitsOf_cons, List.take_left' (bitsN_length _ _)]
    have hd : ((bitsOf (c :: l)).drop 8) = bitsOf l := by rw [bitsOf_cons, List.drop_left' (bitsN_length _ _)]
    rw [packB_take _ (by rw [bitsOf_length, List.length_cons]; omega), h8, hd, numB_bitsN 8 _ (by have := c.toNat_lt; omega), packB_bitsOf l]
    simp
theorem bitsOf_drop (l : List UInt8) : ∀ k, bitsOf (l.drop k) = (bitsOf l).drop (8 * k) := by
  induction l with
  | nil => intro k; simp [bitsOf]
  | cons c l ih =>
    intro k
    cases k with
    | zero => rfl
    | succ k =>
      rw [List.drop_succ_cons, ih, bitsOf_cons, show 8 * (k + 1) = (bitsN 8 c.toNat).length + 8 * k by rw [bitsN_length]; omega, List.drop_append]
      simp
theorem bytesP_whole (l : List UInt8) (q n : Nat) : packB (((bitsOf l).drop (8 * q)).take (8 * n)) = (l.drop q).take n := by
  rw [← bitsOf_drop, ← bitsOf_cut, packB_bitsOf]
theorem readC_lefty (ls : List Int) (cs : List Nat) : ∀ (k n code : Nat) (r : List Nat) (sy : Int) (m : Nat), readC ls cs k n code r = (sy, m, 0) →
    m ≤ r.length ∧ (∀ r', r'.take m = r.take m → m ≤ r'.length → readC ls cs k n code r' = (sy, m, 0)) ∧ (∀ j, j < m → ∃ a b, readC ls cs k n code (r.take j) = (a, b, 5))
  | 0, n, code, r, sy, m, h => by
    have : readC ls cs 0 n code r = (0, 0, 4) := by cases r <;> rfl
    rw [this] at h; cases h
  | k + 1, n, code, [], sy, m, h => by cases h
  | k + 1, n, code, b :: r, sy, m, h => by
    rw [readC] at h
    by_cases hf : 0 ≤ findC ls cs (n + 1) (2 * code + b) 0
    · rw [if_pos hf] at h
      obtain ⟨rfl, h2⟩ := Prod.mk.inj h
      obtain ⟨rfl, _⟩ := Prod.mk.inj h2
      refine ⟨by simp, fun r' h1 h2 => ?_, fun j hj => ?_⟩
      · cases r' with
        | nil => simp at h2
        | cons b' r' =>
          simp at h1
          subst h1
          rw [readC, if_pos hf]
      · obtain rfl : j = 0 := by omega
        exact ⟨0, 0, rfl⟩
    · rw [if_neg hf] at h
      obtain ⟨e1, h2⟩ := Prod.mk.inj h
      obtain ⟨e2, e3⟩ := Prod.mk.inj h2
      obtain ⟨m', hm'⟩ : ∃ m', (readC ls cs k (n + 1) (2 * code + b) r).2.1 = m' := ⟨_, rfl⟩
      have ih := readC_lefty ls cs k (n + 1) (2 * code + b) r sy m' (by rw [← e1, ← hm', ← e3])
      rw [hm'] at e2
      subst e2
      obtain ⟨i1, i2, i3⟩ := ih
      refine ⟨by simpa using i1, fun r' g1 g2 => ?_, fun j hj => ?_⟩
      · cases r' with
        | nil => simp at g2
        | cons b' r' =>
          rw [List.take_succ_cons, List.take_succ_cons] at g1
          obtain ⟨g3, g4⟩ := List.cons.inj g1
          subst g3
          rw [readC, if_neg hf, i2 r' g4 (by simpa using g2)]
      · cases j with
        | zero => exact ⟨0, 0, rfl⟩
        | succ j =>
          obtain ⟨a, c, hac⟩ := i3 j (by omega)
          refine ⟨a, c + 1, ?_⟩
          rw [List.take_succ_cons, readC, if_neg hf, hac]
theorem readC_pos (ls : List Int) (cs : List Nat) : ∀ (k n code : Nat) (r : List Nat) (sy : Int) (m : Nat), readC ls cs k n code r = (sy, m, 0) → 0 < m
  | 0, n, code, r, sy, m, h => by
    have : readC ls cs 0 n code r = (0, 0, 4) := by cases r <;> rfl
    rw [this] at h; cases h
  | k + 1, n, code, [], sy, m, h => by cases h
  | k + 1, n, code, b :: r, sy, m, h => by
    rw [readC] at h
    by_cases hf : 0 ≤ findC ls cs (n + 1) (2 * code + b) 0
    · rw [if_pos hf] at h
      obtain ⟨_, h2⟩ := Prod.mk.inj h
      obtain ⟨rfl, _⟩ := Prod.mk.inj h2
      omega
    · rw [if_neg hf] at h
      obtain ⟨_, h2⟩ := Prod.mk.inj h
      obtain ⟨rfl, _⟩ := Prod.mk.inj h2
      omega
def longN (ns : List Nat) : Nat := ns.foldl max 0
def intsOf (ns : List Nat) : List Int := ns.map fun n : Nat => (n : Int)
def symP (ns : List Nat) : Prs Nat := fun l pos => match readC (intsOf ns) (codesN ns) (longN ns) 0 0 ((bitsOf l).drop pos) with
  | (sy, m, e) => if e = 0 then .ok (sy.toNat, pos + m) else .error e
theorem symP_ok {ns : List Nat} {l : List UInt8} {pos n tq : Nat} (h : symP ns l pos = .ok (n, tq)) : ∃ sy m, readC (intsOf ns) (codesN ns) (longN ns) 0 0 ((bitsOf l).drop pos) = (sy, m, 0) ∧ n = sy.toNat ∧ tq = pos + m := by
  unfold symP at h
  obtain ⟨sy, m, e, hr⟩ : ∃ sy m e, readC (intsOf ns) (codesN ns) (longN ns) 0 0 ((bitsOf l).drop pos) = (sy, m, e) := ⟨_, _, _, rfl⟩
  rw [hr] at h
  simp only at h
  split at h
  · rename_i he
    obtain ⟨rfl, rfl⟩ := Prod.mk.inj (Except.ok.inj h)
    exact ⟨sy, m, by rw [hr, he], rfl, rfl⟩
  · cases h
theorem symP_of {ns : List Nat} {l : List UInt8} {pos m : Nat} {sy e : Int} (h : readC (intsOf ns) (codesN ns) (longN ns) 0 0 ((bitsOf l).drop pos) = (sy, m, e)) : symP ns l pos = if e = 0 then .ok (sy.toNat, pos + m) else .error e := by
  unfold symP; rw [h]
theorem Lefty.sym (ns : List Nat) : Lefty (symP ns) where
  le h h0 := by
    obtain ⟨sy, m, hr, _, rfl⟩ := symP_ok h
    have := (readC_lefty _ _ _ _ _ _ _ _ hr).1
    rw [List.length_drop, bitsOf_length] at this
    omega
  same {l l' pos a tq} h h0 hl ht := by
    obtain ⟨sy, m, hr, rfl, rfl⟩ := symP_ok h
    obtain ⟨_, h2, _⟩ := readC_lefty _ _ _ _ _ _ _ _ hr
    have := h2 ((bitsOf l').drop pos) (piece_same ht (Nat.le_refl _)) (by rw [List.length_drop, bitsOf_length]; omega)
    rw [symP_of this, if_pos rfl]
  cut {l pos k a tq} h h0 hk hl := by
    obtain ⟨sy, m, hr, rfl, rfl⟩ := symP_ok h
    obtain ⟨_, _, h3⟩ := readC_lefty _ _ _ _ _ _ _ _ hr
    obtain ⟨x, y, hxy⟩ := h3 (8 * k - pos) (by omega)
    have e : (bitsOf (l.take k)).drop pos = ((bitsOf l).drop pos).take (8 * k - pos) := by rw [bitsOf_cut, List.drop_take]
    rw [← e] at hxy
    rw [symP_of hxy]; rfl
end
end Go.Proofs.YtiiiokikmjgliaaGreatDoor
/-
  What deflated bytes tell, part by part; it reads from the left; it needs so much room: plain facts, no program in sight.
-/
namespace Go.Proofs.YtiiiokikmjgliaaGreatDoor
section
def FUEL : Nat := 10000000
def copyB (far : Nat) : Nat → List UInt8 → List UInt8
  | 0, o => o
  | n + 1, o => copyB far n (o ++ [o[o.length - far]?.getD 0])
theorem copyB_length (far : Nat) : ∀ (n : Nat) (o : List UInt8), (copyB far n o).length = o.length + n
  | 0, _ => rfl
  | n + 1, o => by rw [copyB, copyB_length far n]; simp; omega
def extraN (n free group : Nat) : Nat := if n < free then 0 else (n - free) / group + 1
def sumL : Nat → Nat
  | 0 => 3
  | k + 1 => sumL k + 2 ^ extraN k 8 4
def lengthN (k : Nat) : Nat := if k = 28 then 258 else sumL k
def distN : Nat → Nat
  | 0 => 1
  | k + 1 => distN k + 2 ^ extraN k 4 2
def copiedP (dist : List Nat) (M k : Nat) (o : List UInt8) : Prs (List UInt8) :=
  pbind (bitsP (if k = 28 then 0 else extraN k 8 4)) fun more =>
  pbind (symP dist) fun d =>
  pbind (pfail (decide (29 < d)) 4) fun _ =>
  pbind (bitsP (extraN d 4 2)) fun more2 =>
  pbind (pfail (decide (o.length < distN d + more2)) 3) fun _ =>
  pbind (pfail (decide (M < o.length + (lengthN k + more))) 7) fun _ =>
  pret (copyB (distN d + more2) (lengthN k + more) o)
def codedP (lit dist : List Nat) (M : Nat) : Nat → List UInt8 → Prs (List UInt8)
  | 0, _ => fun _ _ => .error (-1)
  | f + 1, o => pbind (symP lit) fun n =>
    pbind (pfail (decide (285 < n)) 4) fun _ =>
    if n = 256 then pret o
    else if n < 256 then pbind (pfail (decide (M < o.length + 1)) 7) fun _ => codedP lit dist M f (o ++ [UInt8.ofNat n])
    else pbind (copiedP dist M (n - 257) o) fun o' => codedP lit dist M f o'
def storedP (M : Nat) (o : List UInt8) : Prs (List UInt8) :=
  pbind alignP fun _ =>
  pbind (bitsP 16) fun n =>
  pbind (bitsP 16) fun m =>
  pbind (pfail (decide (n + m ≠ 65535)) 4) fun _ =>
  pbind (bytesP n) fun t =>
  pbind (pfail (decide (M < o.length + t.length)) 7) fun _ =>
  pret (o ++ t)
def fixedLit : List Nat := List.replicate 144 8 ++ (List.replicate 112 9 ++ (List.replicate 24 7 ++ List.replicate 8 8))
def fixedDist : List Nat := List.replicate 32 5
def orderL : List Nat := [16, 17, 18, 0, 8, 7, 9, 6, 10, 5, 11, 4, 12, 3, 13, 2, 14, 1, 15]
def headsP : Nat → Nat → List Nat → Prs (List Nat)
  | 0, _, l => pret l
  | c + 1, i, l => pbind (bitsP 3) fun n => headsP c (i + 1) (l.set (orderL[i]?.getD 0) n)
def timesP (out : List Nat) (n : Nat) : Prs (Nat × Nat) :=
  if n = 16 then pbind (pfail (decide (out.length = 0)) 4) fun _ => pbind (bitsP 2) fun t => pret (t + 3, out[out.length - 1]?.getD 0)
  else if n = 17 then pbind (bitsP 3) fun t => pret (t + 3, 0)
  else if n = 18 then pbind (bitsP 7) fun t => pret (t + 11, 0)
  else pret (1, n)
def rowP (ls : List Nat) (many : Nat) : Nat → List Nat → Prs (List Nat)
  | 0, _ => fun _ _ => .error (-1)
  | f + 1, out => if many ≤ out.length then pret out else
    pbind (symP ls) fun n =>
    pbind (timesP out n) fun tw =>
    pbind (pfail (decide (many < out.length + tw.1)) 4) fun _ =>
    rowP ls many f (out ++ List.replicate tw.1 tw.2)
def farB (ns : List Nat) : Bool := checkZ (intsOf ns) == 0 || checkZ (intsOf ns) == 12 || (checkZ (intsOf ns) == 5 && ns.sum == 1)
def ownP (M : Nat) (o : List UInt8) : Prs (List UInt8) :=
  pbind (bitsP 5) fun a =>
  pbind (bitsP 5) fun b =>
  pbind (bitsP 4) fun c =>
  pbind (pfail (decide (29 < a) || decide (29 < b)) 4) fun _ =>
  pbind (headsP (c + 4) 0 (List.replicate 19 0)) fun l =>
  pbind (pfail (checkZ (intsOf l) != 0) 4) fun _ =>
  pbind (rowP l (a + b + 258) FUEL []) fun all =>
  pbind (pfail (checkZ (intsOf (all.take (a + 257))) != 0 || (all.take (a + 257))[256]?.getD 0 == 0 || !farB (all.drop (a + 257))) 4) fun _ =>
  codedP (all.take (a + 257)) (all.drop (a + 257)) M FUEL o
def blockP (M kind : Nat) (o : List UInt8) : Prs (List UInt8) :=
  if kind = 0 then storedP M o else if kind = 1 then codedP fixedLit fixedDist M FUEL o else ownP M o
def inflP (M : Nat) : Nat → List UInt8 → Prs (List UInt8)
  | 0, _ => fun _ _ => .error (-1)
  | f + 1, o => pbind (bitsP 1) fun last =>
    pbind (bitsP 2) fun kind =>
    pbind (pfail (decide (kind = 3)) 4) fun _ =>
    pbind (blockP M kind o) fun o' =>
    if last = 0 then inflP M f o' else pret o'
def inflZ (l : List UInt8) (most : Int) : List UInt8 × Nat × Int :=
  if most < 0 then ([], 0, 2) else
  match inflP most.toNat FUEL [] l 0 with
  | .error e => ([], 0, e)
  | .ok (o, tq) => (o, wholeN tq / 8, 0)
theorem Lefty.copied (dist : List Nat) (M k : Nat) (o : List UInt8) : Lefty (copiedP dist M k o) :=
  (Lefty.bits _).bind fun _ => (Lefty.sym _).bind fun _ => (Lefty.fail _ _).bind fun _ => (Lefty.bits _).bind fun _ => (Lefty.fail _ _).bind fun _ => (Lefty.fail _ _).bind fun _ => Lefty.ret _
theorem Lefty.coded (lit dist : List Nat) (M : Nat) : ∀ (f : Nat) (o : List UInt8), Lefty (codedP lit dist M f o)
  | 0, _ => Lefty.never _
  | f + 1, o => (Lefty.sym _).bind fun n => (Lefty.fail _ _).bind fun _ => by
    split
    · exact Lefty.ret _
    · split
      · exact (Lefty.fail _ _).bind fun _ => Lefty.coded lit dist M f _
      · exact (Lefty.copied _ _ _ _).bind fun o' => Lefty.coded lit dist M f o'
theorem Lefty.stored (M : Nat) (o : List UInt8) : Lefty (storedP M o) :=
  Lefty.align.bind fun _ => (Lefty.bits _).bind fun _ => (Lefty.bits _).bind fun _ => (Lefty.fail _ _).bind fun _ => (Lefty.bytes _).bind fun _ => (Lefty.fail _ _).bind fun _ => Lefty.ret _
theorem Lefty.heads : ∀ (c i : Nat) (l : List Nat), Lefty (headsP c i l)
  | 0, _, _ => Lefty.ret _
  | c + 1, i, _ => (Lefty.bits _).bind fun _ => Lefty.heads c (i + 1) _
theorem Lefty.times (out : List Nat) (n : Nat) : Lefty (timesP out n) := by
  unfold timesP
  split
  · exact (Lefty.fail _ _).bind fun _ => (Lefty.bits _).bind fun _ => Lefty.ret _
  · split
    · exact (Lefty.bits _).bind fun _ => Lefty.ret _
    · split
      · exact (Lefty.bits _).bind fun _ => Lefty.ret _
      · exact Lefty.ret _
theorem Lefty.row (ls : List Nat) (many : Nat) : ∀ (f : Nat) (out : List Nat), Lefty (rowP ls many f out)
  | 0, _ => Lefty.never _
  | f + 1, out => by
    unfold rowP
    split
    · exact Lefty.ret _
    · exact (Lefty.sym _).bind fun n => (Lefty.times _ _).bind fun tw => (Lefty.fail _ _).bind fun _ => Lefty.row ls many f _
theorem Lefty.own (M : Nat) (o : List UInt8) : Lefty (ownP M o) :=
  (Lefty.bits _).bind fun _ => (Lefty.bits _).bind fun _ => (Lefty.bits _).bind fun _ => (Lefty.fail _ _).bind fun _ => (Lefty.heads _ _ _).bind fun _ => (Lefty.fail _ _).bind fun _ => (Lefty.row _ _ _ _).bind fun _ => (Lefty.fail _ _).bind fun _ => Lefty.coded _ _ _ _ _
theorem Lefty.block (M kind : Nat) (o : List UInt8) : Lefty (blockP M kind o) := by
  unfold blockP
  split
  · exact Lefty.stored _ _
  · split
    · exact Lefty.coded _ _ _ _ _
    · exact Lefty.own _ _
theorem Lefty.infl (M : Nat) : ∀ (f : Nat) (o : List UInt8), Lefty (inflP M f o)
  | 0, _ => Lefty.never _
  | f + 1, o => (Lefty.bits _).bind fun last => (Lefty.bits _).bind fun _ => (Lefty.fail _ _).bind fun _ => (Lefty.block _ _ _).bind fun o' => by
    split
    · exact Lefty.infl M f o'
    · exact Lefty.ret _
def Roomy (p : Nat → Prs (List UInt8)) (o : List UInt8) : Prop :=
  ∀ (M : Nat) (l : List UInt8) (pos : Nat) (o' : List UInt8) (tq : Nat), p M l pos = .ok (o', tq) → o.length ≤ o'.length ∧ (∀ M', o'.length ≤ M' → p M' l pos = .ok (o', tq)) ∧ ∀ M', o.length ≤ M' → M' < o'.length → p M' l pos = .error 7
theorem Roomy.read {α : Type} {q : Prs α} {f : Nat → α → Prs (List UInt8)} {o : List UInt8} (hf : ∀ a, Roomy (fun M => f M a) o) : Roomy (fun M => pbind q (f M)) o := fun M l pos o' tq h => by
  obtain ⟨a, mid, h1, h2⟩ := pbind_ok h
  obtain ⟨g1, g2, g3⟩ := hf a M l mid o' tq h2
  exact ⟨g1, fun M' hM => (pbind_of h1).trans (g2 M' hM), fun M' hM hM2 => (pbind_of h1).trans (g3 M' hM hM2)⟩
theorem Roomy.done (o : List UInt8) : Roomy (fun _ => pret o) o := fun M l pos o' tq h => by
  unfold pret at h
  obtain ⟨rfl, rfl⟩ := Prod.mk.inj (Except.ok.inj h)
  exact ⟨Nat.le_refl _, fun _ _ => rfl, fun M' h1 h2 => by omega⟩
theorem Roomy.more {p : Nat → Prs (List UInt8)} {f : Nat → List UInt8 → Prs (List UInt8)} {o : List UInt8} (hp : Roomy p o) (hf : ∀ o', Roomy (fun M => f M o') o') : Roomy (fun M => pbind (p M) (f M)) o := fun M l pos o' tq h => by
  obtain ⟨a, mid, h1, h2⟩ := pbind_ok h
  obtain ⟨p1, p2, p3⟩ := hp M l pos a mid h1
  obtain ⟨g1, g2, g3⟩ := hf a M l mid o' tq h2
  refine ⟨by omega, fun M' hM => (pbind_of (p2 M' (by omega))).trans (g2 M' hM), fun M' hM hM2 => ?_⟩
  by_cases hc : a.length ≤ M'
  · exact (pbind_of (p2 M' hc)).trans (g3 M' hc hM2)
  · exact pbind_err (p3 M' hM (by omega))
theorem Roomy.ask {f : Nat → Prs (List UInt8)} {o o1 : List UInt8} {n : Nat} (hn : o1.length = n) (ho : o.length ≤ n) (hf : Roomy f o1) : Roomy (fun M => pbind (pfail (decide (M < n)) 7) fun _ => f M) o := fun M l pos o' tq h => by
  obtain ⟨a, mid, h1, h2⟩ := pbind_ok h
  obtain ⟨h3, rfl⟩ := pfail_ok h1
  obtain ⟨g1, g2, g3⟩ := hf M l mid o' tq h2
  have yes : ∀ M', n ≤ M' → pbind (pfail (decide (M' < n)) 7) (fun _ => f M') l mid = f M' l mid := fun M' hM => by
    have : decide (M' < n) = false := by simpa using hM
    rw [this]; rfl
  refine ⟨by omega, fun M' hM => (yes M' (by omega)).trans (g2 M' hM), fun M' hM hM2 => ?_⟩
  by_cases hc : M' < n
  · have : decide (M' < n) = true := by simpa using hc
    show pbind (pfail (decide (M' < n)) 7) (fun _ => f M') l mid = .error 7
    rw [this]; rfl
  · exact (yes M' (by omega)).trans (g3 M' (by omega) hM2)
theorem Roomy.copied (dist : List Nat) (k : Nat) (o : List UInt8) : Roomy (fun M => copiedP dist M k o) o := by
  unfold copiedP
  exact .read fun more => .read fun d => .read fun _ => .read fun more2 => .read fun _ => .ask (o1 := copyB (distN d + more2) (lengthN k + more) o) (copyB_length _ _ _) (by omega) (.done _)
theorem Roomy.coded (lit dist : List Nat) : ∀ (f : Nat) (o : List UInt8), Roomy (fun M => codedP lit dist M f o) o
  | 0, _ => fun M l pos o' tq h => by cases h
  | f + 1, o => by
    unfold codedP
    refine .read fun n => .read fun _ => ?_
    by_cases h1 : n = 256
    · simp only [h1, if_true]
      exact .done o
    · simp only [h1, if_false]
      by_cases h2 : n < 256
      · simp only [h2, if_true]
        exact .ask (o1 := o ++ [UInt8.ofNat n]) (by simp) (by omega) (Roomy.coded lit dist f _)
      · simp only [h2, if_false]
        exact .more (Roomy.copied dist _ o) fun o' => Roomy.coded lit dist f o'
theorem Roomy.stored (o : List UInt8) : Roomy (fun M => storedP M o) o := by
  unfold storedP
  exact .read fun _ => .read fun n => .read fun m => .read fun _ => .read fun t => .ask (o1 := o ++ t) (by simp) (by omega) (.done _)
theorem Roomy.own (o : List UInt8) : Roomy (fun M => ownP M o) o := by
  unfold ownP
  exact .read fun a => .read fun b => .read fun c => .read fun _ => .read fun l => .read fun _ => .read fun all => .read fun _ => Roomy.coded _ _ _ _
theorem Roomy.block (kind : Nat) (o : List UInt8) : Roomy (fun M => blockP M kind o) o := by
  unfold blockP
  by_cases h1 : kind = 0
  · simp only [h1, if_true]; exact Roomy.stored o
  · simp only [h1, if_false]
    by_cases h2 : kind = 1
    · simp only [h2, if_true]; exact Roomy.coded _ _ _ _
    · simp only [h2, if_false]; exact Roomy.own o
theorem Roomy.infl : ∀ (f : Nat) (o : List UInt8), Roomy (fun M => inflP M f o) o
  | 0, _ => fun M l pos o' tq h => by cases h
  | f + 1, o => by
    unfold inflP
    refine .read fun last => .read fun kind => .read fun _ => .more (Roomy.block kind o) fun o' => ?_
    by_cases h1 : last = 0
    · simp only [h1, if_true]; exact Roomy.infl f o'
    · simp only [h1, if_false]; exact .done o'
theorem infl_three {M f : Nat} {o : List UInt8} {l : List UInt8} {pos : Nat} {o' : List UInt8} {tq : Nat} (h : inflP M f o l pos = .ok (o', tq)) (_ : pos ≤ 8 * l.length) : pos + 3 ≤ tq ∧ tq ≤ 8 * l.length := by
  cases f with
  | zero => cases h
  | succ f =>
    unfold inflP at h
    obtain ⟨last, m1, h1, h2⟩ := pbind_ok h
    obtain ⟨kind, m2, h3, h4⟩ := pbind_ok h2
    obtain ⟨_, m3, h5, h6⟩ := pbind_ok h4
    obtain ⟨a1, _, rfl⟩ := bitsP_ok h1
    obtain ⟨a2, _, rfl⟩ := bitsP_ok h3
    obtain ⟨_, rfl⟩ := pfail_ok h5
    have hl : Lefty (pbind (blockP M kind o) fun o' => if last = 0 then inflP M f o' else pret o') := (Lefty.block _ _ _).bind fun o' => by
      split
      · exact Lefty.infl M f o'
      · exact Lefty.ret _
    have := hl.le h6 (by omega)
    omega
def Sure {α : Type} (p : Prs α) : Prop := ∀ l pos e, p l pos = .error e → e ≠ 0
theorem Sure.bind {α β : Type} {p : Prs α} {f : α → Prs β} (hp : Sure p) (hf : ∀ a, Sure (f a)) : Sure (pbind p f) := fun l pos e h => by
  cases hp' : p l pos with
  | error e' =>
    rw [pbind_err hp'] at h
    cases h
    exact hp l pos e hp'
  | ok r =>
    obtain ⟨a, mid⟩ := r
    rw [pbind_of hp'] at h
    exact hf a l mid e h
theorem Sure.ret {α : Type} (a : α) : Sure (pret a) := fun l pos e h => by cases h
theorem Sure.fail (c : Bool) {e : Int} (he : e ≠ 0) : Sure (pfail c e) := fun l pos e' h => by
  unfold pfail at h
  split at h
  · cases h; exact he
  · cases h
theorem Sure.never {α : Type} {e : Int} (he : e ≠ 0) : Sure (fun _ _ => .error e : Prs α) := fun l pos e' h => by
  cases h; exact he
theorem Sure.bits (w : Nat) : Sure (bitsP w) := fun l pos e h => by
  unfold bitsP at h
  split at h
  · cases h
  · cases h; decide
theorem Sure.bytes (w : Nat) : Sure (bytesP w) := fun l pos e h => by
  unfold bytesP at h
  split at h
  · cases h
  · cases h; decide
theorem Sure.align : Sure alignP := fun l pos e h => by cases h
theorem Sure.sym (ns : List Nat) : Sure (symP ns) := fun l pos e h => by
  unfold symP at h
  split at h
  split at h
  · cases h
  · rename_i he; cases h; exact he
theorem Sure.copied (dist : List Nat) (M k : Nat) (o : List UInt8) : Sure (copiedP dist M k o) :=
  (Sure.bits _).bind fun _ => (Sure.sym _).bind fun _ => (Sure.fail _ (by decide)).bind fun _ => (Sure.bits _).bind fun _ => (Sure.fail _ (by decide)).bind fun _ => (Sure.fail _ (by decide)).bind fun _ => Sure.ret _
theorem Sure.coded (lit dist : List Nat) (M : Nat) : ∀ (f : Nat) (o : List UInt8), Sure (codedP lit dist M f o)
  | 0, _ => Sure.never (by decide)
  | f + 1, o => (Sure.sym _).bind fun n => (Sure.fail _ (by decide)).bind fun _ => by
    split
    · exact Sure.ret _
    · split
      · exact (Sure.fail _ (by decide)).bind fun _ => Sure.coded lit dist M f _
      · exact (Sure.copied _ _ _ _).bind fun o' => Sure.coded lit dist M f o'
theorem Sure.stored (M : Nat) (o : List UInt8) : Sure (storedP M o) :=
  Sure.align.bind fun _ => (Sure.bits _).bind fun _ => (Sure.bits _).bind fun _ => (Sure.fail _ (by decide)).bind fun _ => (Sure.bytes _).bind fun _ => (Sure.fail _ (by decide)).bind fun _ => Sure.ret _
theorem Sure.heads : ∀ (c i : Nat) (l : List Nat), Sure (headsP c i l)
  | 0, _, _ => Sure.ret _
  | c + 1, i, _ => (Sure.bits _).bind fun _ => Sure.heads c (i + 1) _
theorem Sure.times (out : List Nat) (n : Nat) : Sure (timesP out n) := by
  unfold timesP
  split
  · exact (Sure.fail _ (by decide)).bind fun _ => (Sure.bits _).bind fun _ => Sure.ret _
  · split
    · exact (Sure.bits _).bind fun _ => Sure.ret _
    · split
      · exact (Sure.bits _).bind fun _ => Sure.ret _
      · exact Sure.ret _
theorem Sure.row (ls : List Nat) (many : Nat) : ∀ (f : Nat) (out : List Nat), Sure (rowP ls many f out)
  | 0, _ => Sure.never (by decide)
  | f + 1, out => by
    unfold rowP
    split
    · exact Sure.ret _
    · exact (Sure.sym _).bind fun n => (Sure.times _ _).bind fun tw => (Sure.fail _ (by decide)).bind fun _ => Sure.row ls many f _
theorem Sure.own (M : Nat) (o : List UInt8) : Sure (ownP M o) :=
  (Sure.bits _).bind fun _ => (Sure.bits _).bind fun _ => (Sure.bits _).bind fun _ => (Sure.fail _ (by decide)).bind fun _ => (Sure.heads _ _ _).bind fun _ => (Sure.fail _ (by decide)).bind fun _ => (Sure.row _ _ _ _).bind fun _ => (Sure.fail _ (by decide)).bind fun _ => Sure.coded _ _ _ _ _
theorem Sure.block (M kind : Nat) (o : List UInt8) : Sure (blockP M kind o) := by
  unfold blockP
  split
  · exact Sure.stored _ _
  · split
    · exact Sure.coded _ _ _ _ _
    · exact Sure.own _ _
theorem Sure.infl (M : Nat) : ∀ (f : Nat) (o : List UInt8), Sure (inflP M f o)
  | 0, _ => Sure.never (by decide)
  | f + 1, o => (Sure.bits _).bind fun last => (Sure.bits _).bind fun _ => (Sure.fail _ (by decide)).bind fun _ => (Sure.block _ _ _).bind fun o' => by
    split
    · exact Sure.infl M f o'
    · exact Sure.ret _
theorem inflZ_ok {l : List UInt8} {most : Int} {o : List UInt8} {n : Nat} (h : inflZ l most = (o, n, 0)) : 0 ≤ most ∧ ∃ tq, inflP most.toNat FUEL [] l 0 = .ok (o, tq) ∧ n = wholeN tq / 8 := by
  unfold inflZ at h
  split at h
  · cases h
  · rename_i hm
    refine ⟨by omega, ?_⟩
    cases hp : inflP most.toNat FUEL [] l 0 with
    | error e =>
      rw [hp] at h
      have := (Prod.mk.inj (Prod.mk.inj h).2).2
      exact absurd this (Sure.infl _ _ _ _ _ _ hp)
    | ok r =>
      rw [hp] at h
      obtain ⟨rfl, h2⟩ := Prod.mk.inj h
      exact ⟨r.2, rfl, (Prod.mk.inj h2).1.symm⟩
theorem inflZ_err {l : List UInt8} {M : Nat} {e : Int} (h : inflP M FUEL [] l 0 = .error e) : inflZ l (M : Int) = ([], 0, e) := by
  unfold inflZ
  rw [if_neg (by omega), Int.toNat_natCast, h]
theorem inflZ_of {l : List UInt8} {M tq : Nat} {o : List UInt8} (h : inflP M FUEL [] l 0 = .ok (o, tq)) : inflZ l (M : Int) = (o, wholeN tq / 8, 0) := by
  unfold inflZ
  rw [if_neg (by omega), Int.toNat_natCast, h]
theorem inflZ_cut {l : List UInt8} {M n : Nat} {o : List UInt8} (h : inflZ l (M : Int) = (o, n, 0)) :
    1 ≤ n ∧ n ≤ l.length ∧ (∀ k, k < n → inflZ (l.take k) (M : Int) = ([], 0, 5)) ∧ ∀ more, inflZ (l.take n ++ more) (M : Int) = (o, n, 0) := by
  obtain ⟨_, tq, h1, rfl⟩ := inflZ_ok h
  rw [Int.toNat_natCast] at h1
  obtain ⟨t1, t2⟩ := infl_three h1 (by omega)
  have hn : wholeN tq / 8 ≤ l.length := by unfold wholeN; omega
  refine ⟨by unfold wholeN; omega, hn, fun k hk => ?_, fun more => ?_⟩
  · exact inflZ_err ((Lefty.infl M FUEL []).cut h1 (by omega) (by unfold wholeN at hk; omega) (by omega))
  · refine inflZ_of ((Lefty.infl M FUEL []).same h1 (by omega) ?_ ?_)
    · rw [List.length_append, List.length_take]
      unfold wholeN at hn ⊢; omega
    · rw [bitsOf_append, bitsOf_cut, List.take_append_of_le_length, List.take_take, Nat.min_eq_left]
      · unfold wholeN; omega
      · rw [List.length_take, bitsOf_length]
        unfold wholeN at hn ⊢; omega
theorem inflZ_room {l : List UInt8} {M n : Nat} {o : List UInt8} (h : inflZ l (M : Int) = (o, n, 0)) :
    (∀ M' : Nat, o.length ≤ M' → inflZ l (M' : Int) = (o, n, 0)) ∧ ∀ M' : Nat, M' < o.length → inflZ l (M' : Int) = ([], 0, 7) := by
  obtain ⟨_, tq, h1, rfl⟩ := inflZ_ok h
  rw [Int.toNat_natCast] at h1
  obtain ⟨_, g2, g3⟩ := Roomy.infl FUEL [] M l 0 o tq h1
  exact ⟨fun M' hM => inflZ_of (g2 M' hM), fun M' hM => inflZ_err (g3 M' (by simp) hM)⟩
end
end Go.Proofs.YtiiiokikmjgliaaGreatDoor
/-
  Bytes deflated: plain facts, no program in sight.
-/
namespace Go.Proofs.YtiiiokikmjgliaaGreatDoor
section
def runN (l : List UInt8) : Nat → Nat → Nat → Nat
  | _, _, 0 => 0
  | p, q, m + 1 => if l[p]? = l[q]? then runN l (p + 1) (q + 1) m + 1 else 0
theorem runN_le (l : List UInt8) : ∀ (m p q : Nat), runN l p q m ≤ m
  | 0, _, _ => Nat.le_refl _
  | m + 1, p, q => by
    unfold runN
    have := runN_le l m (p + 1) (q + 1)
    split <;> omega
theorem runN_like (l : List UInt8) : ∀ (m p q i : Nat), i < runN l p q m → l[p + i]? = l[q + i]?
  | 0, _, _, i, h => by simp [runN] at h
  | m + 1, p, q, i, h => by
    unfold runN at h
    split at h
    · rename_i h0
      cases i with
      | zero => exact h0
      | succ i =>
        have := runN_like l m (p + 1) (q + 1) i (by omega)
        rw [show p + (i + 1) = p + 1 + i by omega, show q + (i + 1) = q + 1 + i by omega]
        exact this
    · omega
theorem runN_stop (l : List UInt8) : ∀ (m p q : Nat), runN l p q m < m → l[p + runN l p q m]? ≠ l[q + runN l p q m]?
  | 0, _, _, h => by omega
  | m + 1, p, q, h => by
    unfold runN at h ⊢
    split
    · rename_i h0
      rw [if_pos h0] at h
      have := runN_stop l m (p + 1) (q + 1) (by omega)
      rw [show p + (runN l (p + 1) (q + 1) m + 1) = p + 1 + runN l (p + 1) (q + 1) m by omega, show q + (runN l (p + 1) (q + 1) m + 1) = q + 1 + runN l (p + 1) (q + 1) m by omega]
      exact this
    · assumption
def mostN (l : List UInt8) (at' : Nat) : Nat := min 258 (l.length - at')
def likeN (l : List UInt8) (at' p : Nat) : Nat := runN l p at' (mostN l at')
theorem likeN_le (l : List UInt8) (at' p : Nat) : likeN l at' p ≤ mostN l at' := runN_le _ _ _ _
def pieceN (l : List UInt8) (at' : Nat) : Nat → Nat × Nat
  | 0 => (0, 0)
  | d + 1 => if (pieceN l at' d).1 < likeN l at' (at' - (d + 1)) then (likeN l at' (at' - (d + 1)), d + 1) else pieceN l at' d
def pieceT (l : List UInt8) (at' : Nat) : Nat → Nat × Nat
  | 0 => (0, 0)
  | d + 1 => if (pieceT l at' d).1 < likeN l at' (at' - (d + 1)) ∧ 3 ≤ likeN l at' (at' - (d + 1)) then (likeN l at' (at' - (d + 1)), d + 1) else pieceT l at' d
theorem pieceT_of (l : List UInt8) (at' : Nat) : ∀ d, pieceT l at' d = if (pieceN l at' d).1 < 3 then (0, 0) else pieceN l at' d
  | 0 => rfl
  | d + 1 => by
    have ih := pieceT_of l at' d
    unfold pieceT pieceN
    rw [ih]
    by_cases h1 : (pieceN l at' d).1 < 3
    · simp only [h1, if_true]
      by_cases h2 : 3 ≤ likeN l at' (at' - (d + 1))
      · have h3 : (pieceN l at' d).1 < likeN l at' (at' - (d + 1)) := by omega
        have h4 : ¬ likeN l at' (at' - (d + 1)) < 3 := by omega
        simp only [h3, h2, if_true, h4, if_false]
        rw [if_pos ⟨by omega, trivial⟩]
      · rw [if_neg (by omega)]
        split
        · simp only
          rw [if_pos (by omega)]
        · rfl
    · simp only [h1, if_false]
      by_cases h2 : (pieceN l at' d).1 < likeN l at' (at' - (d + 1))
      · simp only [h2, if_true, true_and]
        rw [if_pos (by omega), if_neg (by omega)]
      · simp only [h2, if_false, false_and]
        rw [if_neg h1]
theorem pieceT_skip {l : List UInt8} {at' d : Nat} : ∀ e, d ≤ e → (∀ j, d < j → j ≤ e → likeN l at' (at' - j) < 3) → pieceT l at' e = pieceT l at' d
  | 0, h, _ => by rw [show d = 0 by omega]
  | e + 1, h, hj => by
    by_cases he : d = e + 1
    · rw [he]
    · have := hj (e + 1) (by omega) (by omega)
      rw [pieceT, if_neg (by omega)]
      exact pieceT_skip e (by omega) fun j h1 h2 => hj j h1 (by omega)
theorem pieceT_full {l : List UInt8} {at' d : Nat} (hm : mostN l at' ≤ (pieceT l at' d).1) : ∀ e, d ≤ e → pieceT l at' e = pieceT l at' d
  | 0, h => by rw [show d = 0 by omega]
  | e + 1, h => by
    by_cases he : d = e + 1
    · rw [he]
    · have ih := pieceT_full hm e (by omega)
      have := likeN_le l at' (at' - (e + 1))
      rw [pieceT, if_neg (by rw [ih]; omega), ih]
theorem pieceT_facts (l : List UInt8) (at' : Nat) : ∀ d, pieceT l at' d = (0, 0) ∨ ∃ n j, pieceT l at' d = (n, j) ∧ 3 ≤ n ∧ 1 ≤ j ∧ j ≤ d ∧ n = likeN l at' (at' - j)
  | 0 => .inl rfl
  | d + 1 => by
    unfold pieceT
    split
    · rename_i h
      exact .inr ⟨_, _, rfl, h.2, by omega, by omega, rfl⟩
    · rcases pieceT_facts l at' d with h | ⟨n, j, h, h1, h2, h3, h4⟩
      · exact .inl h
      · exact .inr ⟨n, j, h, h1, h2, by omega, h4⟩
def farN (at' : Nat) : Nat := min at' 32768
def nextN (l : List UInt8) (at' : Nat) : Nat × Nat := pieceT l at' (farN at')
theorem nextN_facts (l : List UInt8) (at' : Nat) : nextN l at' = (0, 0) ∨ ∃ n d, nextN l at' = (n, d) ∧ 3 ≤ n ∧ n ≤ 258 ∧ at' + n ≤ l.length ∧ 1 ≤ d ∧ d ≤ 32768 ∧ d ≤ at' ∧ ∀ i, i < n → l[at' - d + i]? = l[at' + i]? := by
  rcases pieceT_facts l at' (farN at') with h | ⟨n, j, h, h1, h2, h3, h4⟩
  · exact .inl h
  · have hl := likeN_le l at' (at' - j)
    unfold mostN at hl
    unfold farN at h3
    refine .inr ⟨n, j, h, h1, by omega, by omega, h2, by omega, by omega, fun i hi => ?_⟩
    rw [h4] at hi
    exact runN_like _ _ _ _ _ hi
def topK (f : Nat → Nat) (n : Nat) : Nat → Nat
  | 0 => 0
  | k + 1 => if f (k + 1) ≤ n then k + 1 else topK f n k
theorem topK_le (f : Nat → Nat) (n : Nat) : ∀ m, topK f n m ≤ m
  | 0 => Nat.le_refl _
  | m + 1 => by
    unfold topK
    have := topK_le f n m
    split <;> omega
theorem topK_at {f : Nat → Nat} {n : Nat} (h0 : f 0 ≤ n) : ∀ m, f (topK f n m) ≤ n
  | 0 => h0
  | m + 1 => by
    unfold topK
    split
    · assumption
    · exact topK_at h0 m
theorem topK_next {f : Nat → Nat} {n : Nat} : ∀ m, topK f n m < m → n < f (topK f n m + 1)
  | 0, h => by omega
  | m + 1, h => by
    unfold topK at h ⊢
    split
    · rename_i h1
      rw [if_pos h1] at h
      omega
    · rename_i h1
      rw [if_neg h1] at h
      by_cases h2 : topK f n m < m
      · exact topK_next m h2
      · have := topK_le f n m
        rw [show topK f n m + 1 = m + 1 by omega]
        omega
def lenK (n : Nat) : Nat := topK lengthN n 28
def farK (d : Nat) : Nat := topK distN d 29
def moreL (k : Nat) : Nat := if k = 28 then 0 else extraN k 8 4
def moreD (k : Nat) : Nat := extraN k 4 2
theorem lenK_all : ∀ n : Fin 259, 3 ≤ n.val → lenK n.val ≤ 28 ∧ lengthN (lenK n.val) ≤ n.val ∧ n.val - lengthN (lenK n.val) < 2 ^ moreL (lenK n.val) := by decide +kernel
theorem lenK_facts {n : Nat} (h : 3 ≤ n) (h2 : n ≤ 258) : lenK n ≤ 28 ∧ lengthN (lenK n) ≤ n ∧ n - lengthN (lenK n) < 2 ^ moreL (lenK n) := lenK_all ⟨n, by omega⟩ h
theorem moreL_le : ∀ k : Fin 29, moreL k.val ≤ 5 := by decide +kernel
theorem moreD_le : ∀ k : Fin 30, moreD k.val ≤ 13 := by decide +kernel
theorem farK_facts {d : Nat} (h : 1 ≤ d) (h2 : d ≤ 32768) : farK d ≤ 29 ∧ distN (farK d) ≤ d ∧ d - distN (farK d) < 2 ^ moreD (farK d) := by
  have h3 := topK_le distN d 29
  have h4 : distN (topK distN d 29) ≤ d := topK_at (by exact h) 29
  refine ⟨h3, h4, ?_⟩
  have h5 : d < distN (farK d + 1) := by
    unfold farK
    by_cases hk : topK distN d 29 < 29
    · exact topK_next 29 hk
    · rw [show topK distN d 29 = 29 by omega]
      have : distN (29 + 1) = 32769 := by decide +kernel
      omega
  rw [distN] at h5
  unfold moreD
  unfold farK at h5 ⊢
  omega
def symB (k : Nat) : List Nat := codeBits (fixedLit[k]?.getD 0) (codeAt fixedLit k)
def pieceB (n d : Nat) : List Nat := symB (257 + lenK n) ++ (bitsN (moreL (lenK n)) (n - lengthN (lenK n)) ++ (codeBits 5 (farK d) ++ bitsN (moreD (farK d)) (d - distN (farK d))))
def codedN (l : List UInt8) : Nat → Nat → List Nat
  | 0, _ => []
  | f + 1, at' => if l.length ≤ at' then [] else
    if (nextN l at').1 = 0 then symB (l[at']?.getD 0).toNat ++ codedN l f (at' + 1)
    else pieceB (nextN l at').1 (nextN l at').2 ++ codedN l f (at' + (nextN l at').1)
def headB : List Nat := bitsN 1 1 ++ bitsN 2 1
def fixedR (l : List UInt8) : List Nat := (headB ++ codedN l l.length 0) ++ symB 256
def fixedZ (l : List UInt8) : List UInt8 := textB (fixedR l)
theorem litL_le : ∀ k : Fin 288, fixedLit[k.val]?.getD 0 ≤ 9 ∧ 7 ≤ fixedLit[k.val]?.getD 0 := by decide +kernel
theorem symB_length {k : Nat} (h : k < 288) : (symB k).length ≤ 9 := by
  unfold symB
  rw [codeBits_length]
  exact (litL_le ⟨k, h⟩).1
theorem codeBits_two (w x : Nat) : ∀ b ∈ codeBits w x, b < 2 := fun b hb => by
  unfold codeBits at hb
  exact bitsN_two _ _ b (List.mem_reverse.1 hb)
theorem symB_two (k : Nat) : ∀ b ∈ symB k, b < 2 := codeBits_two _ _
theorem pieceB_two (n d : Nat) : ∀ b ∈ pieceB n d, b < 2 := by
  intro b hb
  unfold pieceB at hb
  simp only [List.mem_append] at hb
  rcases hb with h | h | h | h
  · exact symB_two _ b h
  · exact bitsN_two _ _ b h
  · exact codeBits_two _ _ b h
  · exact bitsN_two _ _ b h
theorem codedN_two (l : List UInt8) : ∀ f at', ∀ b ∈ codedN l f at', b < 2
  | 0, _ => by simp [codedN]
  | f + 1, at' => by
    intro b hb
    unfold codedN at hb
    split at hb
    · cases hb
    · split at hb
      · rcases List.mem_append.1 hb with h | h
        · exact symB_two _ b h
        · exact codedN_two l f _ b h
      · rcases List.mem_append.1 hb with h | h
        · exact pieceB_two _ _ b h
        · exact codedN_two l f _ b h
theorem headB_two : ∀ b ∈ headB, b < 2 := by decide
theorem fixedR_two (l : List UInt8) : ∀ b ∈ fixedR l, b < 2 := fun b hb => by
  unfold fixedR at hb
  simp only [List.mem_append] at hb
  rcases hb with (h | h) | h
  · exact headB_two b h
  · exact codedN_two _ _ _ b h
  · exact symB_two _ b h
theorem pieceB_length {n d : Nat} (h1 : 3 ≤ n) (h2 : n ≤ 258) (h3 : 1 ≤ d) (h4 : d ≤ 32768) : (pieceB n d).length ≤ 32 := by
  have a := lenK_facts h1 h2
  have b := farK_facts h3 h4
  have c := moreL_le ⟨lenK n, by omega⟩
  have e := moreD_le ⟨farK d, by omega⟩
  have g := symB_length (k := 257 + lenK n) (by omega)
  unfold pieceB
  simp only [List.length_append, bitsN_length, codeBits_length]
  simp only at c e
  omega
theorem byte_sym (c : UInt8) : c.toNat < 256 := c.toNat_lt
theorem codedN_length (l : List UInt8) : ∀ f at', (codedN l f at').length ≤ 11 * (l.length - at')
  | 0, _ => by simp [codedN]
  | f + 1, at' => by
    unfold codedN
    split
    · simp
    · rename_i h0
      rcases nextN_facts l at' with h | ⟨n, d, h, h1, h2, h3, h4, h5, h6, _⟩
      · rw [h]
        simp only [if_true, List.length_append]
        have := codedN_length l f (at' + 1)
        have := symB_length (k := (l[at']?.getD 0).toNat) (by have := byte_sym (l[at']?.getD 0); omega)
        omega
      · rw [h]
        simp only
        rw [if_neg (by omega), List.length_append]
        have := codedN_length l f (at' + n)
        have := pieceB_length h1 h2 h4 h5
        omega
theorem fixedR_length (l : List UInt8) : (fixedR l).length ≤ 11 * l.length + 12 := by
  have h1 := codedN_length l l.length 0
  have h2 := symB_length (k := 256) (by omega)
  have h3 : headB.length = 3 := rfl
  unfold fixedR
  simp only [List.length_append]
  omega
def blockZ (last : Nat) (l : List UInt8) : List UInt8 := UInt8.ofNat last :: UInt8.ofNat (l.length % 256) :: UInt8.ofNat (l.length / 256) :: UInt8.ofNat ((65535 - l.length) % 256) :: UInt8.ofNat ((65535 - l.length) / 256) :: l
def storedN : Nat → List UInt8 → List UInt8
  | 0, l => blockZ 1 l
  | f + 1, l => if 65535 < l.length then blockZ 0 (l.take 65535) ++ storedN f (l.drop 65535) else blockZ 1 l
def storedZ (l : List UInt8) : List UInt8 := storedN l.length l
theorem blockZ_length (n : Nat) (l : List UInt8) : (blockZ n l).length = l.length + 5 := rfl
theorem storedN_length : ∀ (f : Nat) (l : List UInt8), l.length ≤ f + 65535 → (storedN f l).length = l.length + 5 * max 1 ((l.length + 65534) / 65535)
  | 0, l, h => by rw [storedN, blockZ_length]; omega
  | f + 1, l, h => by
    unfold storedN
    split
    · rw [List.length_append, blockZ_length, storedN_length f _ (by rw [List.length_drop]; omega), List.length_take, List.length_drop]; omega
    · rw [blockZ_length]; omega
theorem storedZ_length (l : List UInt8) : (storedZ l).length = l.length + 5 * max 1 ((l.length + 65534) / 65535) := storedN_length _ _ (by omega)
def bestZ (l : List UInt8) : List UInt8 := if (fixedZ l).length < (storedZ l).length then fixedZ l else storedZ l
end
end Go.Proofs.YtiiiokikmjgliaaGreatDoor
/-
  What stands where in a text: three bytes, where they stood last: plain facts, no program in sight.
-/
namespace Go.Proofs.YtiiiokikmjgliaaGreatDoor
section
abbrev T3 : Type := UInt8 × UInt8 × UInt8
def threeAt (l : List UInt8) (p : Nat) : Option T3 := match l[p]?, l[p + 1]?, l[p + 2]? with
  | some a, some b, some c => some (a, b, c)
  | _, _, _ => none
theorem threeAt_lt {l : List UInt8} {p : Nat} {t : T3} (h : threeAt l p = some t) : p + 3 ≤ l.length := by
  unfold threeAt at h
  split at h
  · rename_i a b c h1 h2 h3
    have := (List.getElem?_eq_some_iff.1 h3).1
    omega
  · cases h
theorem threeAt_eq {l : List UInt8} {p q : Nat} (h0 : l[p]? = l[q]?) (h1 : l[p + 1]? = l[q + 1]?) (h2 : l[p + 2]? = l[q + 2]?) : threeAt l p = threeAt l q := by
  unfold threeAt; rw [h0, h1, h2]
theorem threeAt_inj {l : List UInt8} {p q : Nat} {t : T3} (h : threeAt l p = some t) (h' : threeAt l q = some t) : ∀ i, i < 3 → l[p + i]? = l[q + i]? := by
  unfold threeAt at h h'
  split at h
  · rename_i a b c h1 h2 h3
    split at h'
    · rename_i a' b' c' k1 k2 k3
      rw [← h'] at h
      simp only [Option.some.injEq, Prod.mk.injEq] at h
      obtain ⟨rfl, rfl, rfl⟩ := h
      intro i hi
      match i, hi with
      | 0, _ => simp only [Nat.add_zero]; rw [h1, k1]
      | 1, _ => rw [h2, k2]
      | 2, _ => rw [h3, k3]
    · cases h'
  · cases h
theorem like_three {l : List UInt8} {at' q : Nat} {t : T3} (ht : threeAt l at' = some t) : 3 ≤ likeN l at' q ↔ threeAt l q = some t := by
  have h3 := threeAt_lt ht
  have hm : 3 ≤ mostN l at' := by unfold mostN; omega
  constructor
  · intro h
    rw [← ht]
    have hl : ∀ i, i < 3 → l[q + i]? = l[at' + i]? := fun i hi => runN_like l (mostN l at') q at' i (by unfold likeN at h; omega)
    exact threeAt_eq (hl 0 (by omega)) (hl 1 (by omega)) (hl 2 (by omega))
  · intro h
    have hi := threeAt_inj h ht
    rcases Nat.lt_or_ge (likeN l at' q) 3 with hc | hc
    · exact absurd (hi _ hc) (runN_stop l (mostN l at') q at' (by unfold likeN at hc; omega))
    · exact hc
def LastIs (l : List UInt8) (at' : Nat) (f : T3 → Option Nat) : Prop :=
  ∀ t p, f t = some p ↔ (p < at' ∧ at' ≤ p + 32768 ∧ threeAt l p = some t ∧ ∀ q, p < q → q < at' → threeAt l q ≠ some t)
theorem last_none (l : List UInt8) : LastIs l 0 fun _ => none := fun t p => by simp
theorem last_any {l : List UInt8} {t : T3} : ∀ at', (∃ p, p < at' ∧ threeAt l p = some t) → ∃ p, p < at' ∧ threeAt l p = some t ∧ ∀ q, p < q → q < at' → threeAt l q ≠ some t
  | 0, ⟨p, h, _⟩ => by omega
  | a + 1, ⟨p, h, h2⟩ => by
    by_cases ha : threeAt l a = some t
    · exact ⟨a, by omega, ha, fun q h3 h4 => by omega⟩
    · have hp : p < a := by
        rcases Nat.lt_or_ge p a with h' | h'
        · exact h'
        · exact absurd (show threeAt l a = some t by rw [show a = p by omega]; exact h2) ha
      obtain ⟨p', g1, g2, g3⟩ := last_any a ⟨p, hp, h2⟩
      refine ⟨p', by omega, g2, fun q h3 h4 => ?_⟩
      by_cases hq : q = a
      · rw [hq]; exact ha
      · exact g3 q h3 (by omega)
theorem LastIs.found {l : List UInt8} {at' : Nat} {f : T3 → Option Nat} (h : LastIs l at' f) {t : T3} {p : Nat} (h1 : p < at') (h2 : at' ≤ p + 32768) (h3 : threeAt l p = some t) : ∃ q, f t = some q ∧ p ≤ q := by
  obtain ⟨q, g1, g2, g3⟩ := last_any at' ⟨p, h1, h3⟩
  have hpq : p ≤ q := by
    rcases Nat.lt_or_ge q p with h' | h'
    · exact absurd h3 (g3 p h' h1)
    · exact h'
  exact ⟨q, (h t q).2 ⟨g1, by omega, g2, g3⟩, hpq⟩
def forgetF (l : List UInt8) (at' : Nat) (f : T3 → Option Nat) : T3 → Option Nat := fun t =>
  if 32768 ≤ at' ∧ threeAt l (at' - 32768) = some t ∧ f t = some (at' - 32768) then none else f t
def LastNear (l : List UInt8) (at' : Nat) (f : T3 → Option Nat) : Prop :=
  ∀ t p, f t = some p ↔ (p < at' ∧ at' ≤ p + 32767 ∧ threeAt l p = some t ∧ ∀ q, p < q → q < at' → threeAt l q ≠ some t)
theorem LastIs.forget {l : List UInt8} {at' : Nat} {f : T3 → Option Nat} (h : LastIs l at' f) : LastNear l at' (forgetF l at' f) := by
  intro t p
  unfold forgetF
  split
  · rename_i hc
    obtain ⟨h1, h2, h3⟩ := hc
    constructor
    · intro e; cases e
    · rintro ⟨g1, g2, g3, g4⟩
      have := ((h t _).1 h3).2.2.2 p (by omega) g1
      exact absurd g3 this
  · rename_i hc
    rw [h t p]
    constructor
    · rintro ⟨g1, g2, g3, g4⟩
      refine ⟨g1, ?_, g3, g4⟩
      rcases Nat.lt_or_ge (p + 32767) at' with h' | h'
      · exact absurd ⟨by omega, by rw [show at' - 32768 = p by omega]; exact g3, by rw [show at' - 32768 = p by omega]; exact (h t p).2 ⟨g1, g2, g3, g4⟩⟩ hc
      · exact h'
    · rintro ⟨g1, g2, g3, g4⟩
      exact ⟨g1, by omega, g3, g4⟩
def keepF (l : List UInt8) (at' : Nat) (f : T3 → Option Nat) : T3 → Option Nat := fun t => if threeAt l at' = some t then some at' else f t
theorem LastNear.keep {l : List UInt8} {at' : Nat} {f : T3 → Option Nat} (h : LastNear l at' f) : LastIs l (at' + 1) (keepF l at' f) := by
  intro t p
  unfold keepF
  split
  · rename_i hc
    constructor
    · intro e
      obtain rfl := Option.some.inj e
      exact ⟨by omega, by omega, hc, fun q h1 h2 => by omega⟩
    · rintro ⟨g1, g2, g3, g4⟩
      rcases Nat.lt_or_ge p at' with h' | h'
      · exact absurd hc (g4 at' h' (by omega))
      · rw [show at' = p by omega]
  · rename_i hc
    rw [h t p]
    constructor
    · rintro ⟨g1, g2, g3, g4⟩
      refine ⟨by omega, by omega, g3, fun q h1 h2 => ?_⟩
      by_cases hq : q = at'
      · rw [hq]; exact hc
      · exact g4 q h1 (by omega)
    · rintro ⟨g1, g2, g3, g4⟩
      have hp : p < at' := by
        rcases Nat.lt_or_ge p at' with h' | h'
        · exact h'
        · exact absurd (show threeAt l at' = some t by rw [show at' = p by omega]; exact g3) hc
      exact ⟨hp, by omega, g3, fun q h1 h2 => g4 q h1 (by omega)⟩
def PrevIs (l : List UInt8) (p : Nat) (t : T3) (v : Int) : Prop :=
  (v = -1 ∧ ∀ q, q < p → p ≤ q + 32767 → threeAt l q ≠ some t) ∨ (∃ q : Nat, v = (q : Int) ∧ q < p ∧ threeAt l q = some t ∧ ∀ q', q < q' → q' < p → threeAt l q' ≠ some t)
def placeZ (o : Option Nat) : Int := match o with
  | some p => (p : Int)
  | none => -1
theorem LastNear.prev {l : List UInt8} {at' : Nat} {f : T3 → Option Nat} (h : LastNear l at' f) (t : T3) : PrevIs l at' t (placeZ (f t)) := by
  cases hf : f t with
  | none =>
    refine .inl ⟨rfl, fun q h1 h2 h3 => ?_⟩
    obtain ⟨p, g1, g2, g3⟩ := last_any at' ⟨q, h1, h3⟩
    have hqp : q ≤ p := by
      rcases Nat.lt_or_ge p q with h' | h'
      · exact absurd h3 (g3 q h' h1)
      · exact h'
    rw [(h t p).2 ⟨g1, by omega, g2, g3⟩] at hf
    cases hf
  | some p =>
    obtain ⟨g1, g2, g3, g4⟩ := (h t p).1 hf
    exact .inr ⟨p, rfl, g1, g3, g4⟩
def AheadIs (l : List UInt8) (at' : Nat) (A : List Int) : Prop :=
  ∀ p t, p < at' → at' ≤ p + 32768 → threeAt l p = some t → ∃ v, A[p % A.length]? = some v ∧ PrevIs l p t v
theorem ahead_none (l : List UInt8) (A : List Int) : AheadIs l 0 A := fun p _ h => by omega
theorem AheadIs.skip {l : List UInt8} {at' : Nat} {A : List Int} (h : AheadIs l at' A) (hs : threeAt l at' = none) : AheadIs l (at' + 1) A := fun p t h1 h2 h3 => by
  by_cases hp : p = at'
  · rw [hp, hs] at h3; cases h3
  · exact h p t (by omega) (by omega) h3
theorem mod_apart {n p q : Nat} (h1 : p < q) (h2 : q < p + n) : p % n ≠ q % n := by
  intro h
  have a := Nat.div_add_mod p n
  have b := Nat.div_add_mod q n
  rw [h] at a
  have hd : p / n = q / n := by
    rcases Nat.lt_trichotomy (p / n) (q / n) with c | c | c
    · have : n * (p / n) + n ≤ n * (q / n) := by
        have := Nat.mul_le_mul_left n (show p / n + 1 ≤ q / n by omega)
        rwa [Nat.mul_add, Nat.mul_one] at this
      omega
    · exact c
    · have : n * (q / n) + n ≤ n * (p / n) := by
        have := Nat.mul_le_mul_left n (show q / n + 1 ≤ p / n by omega)
        rwa [Nat.mul_add, Nat.mul_one] at this
      omega
  rw [hd] at a
  omega
theorem AheadIs.put {l : List UInt8} {at' : Nat} {A : List Int} {t : T3} {v : Int} (h : AheadIs l at' A) (hA : A.length = min l.length 32768) (ht : threeAt l at' = some t) (hv : PrevIs l at' t v) : AheadIs l (at' + 1) (A.set (at' % A.length) v) := fun p u h1 h2 h3 => by
  have hl := threeAt_lt ht
  have hn : 0 < A.length := by omega
  rw [List.length_set]
  by_cases hp : p = at'
  · subst hp
    rw [ht] at h3
    obtain rfl := Option.some.inj h3
    exact ⟨v, by rw [List.getElem?_set_self (Nat.mod_lt _ hn)], hv⟩
  · obtain ⟨x, hx, hpx⟩ := h p u (by omega) (by omega) h3
    refine ⟨x, ?_, hpx⟩
    rw [List.getElem?_set_ne]
    · exact hx
    · exact (mod_apart (by omega) (by omega)).symm
structure Chase (l : List UInt8) (at' : Nat) (t : T3) (d : Nat) (n j : Nat) (from' : Int) : Prop where
  told : pieceT l at' d = (n, j)
  far : d ≤ farN at'
  rest : ∀ q, q < at' - d → at' ≤ q + 32768 → threeAt l q = some t → (q : Int) ≤ from'
  next : from' = -1 ∨ ∃ q : Nat, from' = (q : Int) ∧ q + d < at' ∧ threeAt l q = some t
theorem Chase.done {l : List UInt8} {at' d n j : Nat} {t : T3} {from' : Int} (h : Chase l at' t d n j from') (ht : threeAt l at' = some t) (hs : from' = -1 ∨ 32768 < (at' : Int) - from' ∨ mostN l at' ≤ n) : nextN l at' = (n, j) := by
  unfold nextN
  rw [← h.told]
  by_cases hf : mostN l at' ≤ n
  · exact pieceT_full (by rw [h.told]; exact hf) _ h.far
  · refine pieceT_skip _ h.far fun k h1 h2 => ?_
    rcases Nat.lt_or_ge (likeN l at' (at' - k)) 3 with hc | hc
    · exact hc
    · have h3 := (like_three ht).1 hc
      unfold farN at h2
      have h4 := h.rest (at' - k) (by omega) (by omega) h3
      omega
theorem Chase.step {l : List UInt8} {at' d n j q : Nat} {t : T3} {v : Int} (h : Chase l at' t d n j (q : Int)) (ht : threeAt l at' = some t) (hq : at' ≤ q + 32768) (hv : PrevIs l q t v) :
    q + d < at' ∧ threeAt l q = some t ∧ 3 ≤ likeN l at' q ∧ Chase l at' t (at' - q) (if n < likeN l at' q then likeN l at' q else n) (if n < likeN l at' q then at' - q else j) v := by
  obtain ⟨q', e, h1, h2⟩ : ∃ q' : Nat, (q : Int) = (q' : Int) ∧ q' + d < at' ∧ threeAt l q' = some t := by
    rcases h.next with e | e
    · omega
    · exact e
  obtain rfl : q = q' := by omega
  have hl := (like_three ht).2 h2
  refine ⟨h1, h2, hl, ?_, by unfold farN; omega, fun p hp1 hp2 hp3 => ?_, ?_⟩
  · obtain ⟨k, hk⟩ : ∃ k, at' - q = k + 1 := ⟨at' - q - 1, by omega⟩
    have hs : pieceT l at' k = (n, j) := by
      rw [← h.told]
      refine pieceT_skip _ (by omega) fun i h3 h4 => ?_
      rcases Nat.lt_or_ge (likeN l at' (at' - i)) 3 with hc | hc
      · exact hc
      · have h5 := h.rest (at' - i) (by omega) (by omega) ((like_three ht).1 hc)
        omega
    rw [hk, pieceT, hs, ← hk, show at' - (at' - q) = q by omega]
    by_cases hc : n < likeN l at' q
    · rw [if_pos ⟨hc, hl⟩, if_pos hc, if_pos hc]
    · rw [if_neg (by omega), if_neg hc, if_neg hc]
  · have hpq : p < q := by omega
    rcases hv with ⟨rfl, hn⟩ | ⟨q', rfl, g1, g2, g3⟩
    · exact absurd hp3 (hn p hpq (by omega))
    · rcases Nat.lt_or_ge q' p with h' | h'
      · exact absurd hp3 (g3 p h' hpq)
      · omega
  · rcases hv with ⟨rfl, _⟩ | ⟨q', rfl, g1, g2, g3⟩
    · exact .inl rfl
    · exact .inr ⟨q', rfl, by omega, g2⟩
theorem PrevIs.less {l : List UInt8} {q : Nat} {t : T3} {v : Int} (h : PrevIs l q t v) : -1 ≤ v ∧ v < q := by
  rcases h with ⟨rfl, _⟩ | ⟨q', rfl, g1, _⟩
  · omega
  · omega
theorem LastIs.chase {l : List UInt8} {at' : Nat} {f : T3 → Option Nat} {t : T3} (h : LastIs l at' f) : Chase l at' t 0 0 0 (placeZ (f t)) := by
  refine ⟨rfl, by omega, fun q h1 h2 h3 => ?_, ?_⟩
  · obtain ⟨p, g1, g2⟩ := h.found (by omega) h2 h3
    rw [g1]
    show (q : Int) ≤ (p : Int)
    omega
  · cases hf : f t with
    | none => exact .inl rfl
    | some p =>
      obtain ⟨g1, g2, g3, g4⟩ := (h t p).1 hf
      exact .inr ⟨p, rfl, by omega, g3⟩
theorem nextN_short {l : List UInt8} {at' : Nat} (h : l.length < at' + 3) : nextN l at' = (0, 0) := by
  unfold nextN
  refine pieceT_skip (d := 0) _ (by omega) fun j _ _ => ?_
  have := likeN_le l at' (at' - j)
  unfold mostN at this
  omega
end
end Go.Proofs.YtiiiokikmjgliaaGreatDoor
/-
  The shorter way is short: plain facts, no program in sight.
-/
namespace Go.Proofs.YtiiiokikmjgliaaGreatDoor
section
theorem bestZ_le (l : List UInt8) : (bestZ l).length ≤ (fixedZ l).length ∧ (bestZ l).length ≤ (storedZ l).length := by
  unfold bestZ
  split <;> omega
end
end Go.Proofs.YtiiiokikmjgliaaGreatDoor
/-
  The document's way of reading deflated bytes: a state that is handed on, an error kept in it: plain facts, no program in sight.
-/
namespace Go.Proofs.YtiiiokikmjgliaaGreatDoor
section
structure St where
  at' : Nat
  out : List UInt8
  code : Int
theorem pfail_false {e : Int} {l : List UInt8} {pos : Nat} : pfail false e l pos = .ok ((), pos) := rfl
theorem pfail_true {e : Int} {l : List UInt8} {pos : Nat} : pfail true e l pos = .error e := rfl
theorem extra_len {k : Nat} (h : k ≤ 28) : extraN k 8 4 ≤ 6 := by unfold extraN; split <;> omega
theorem extra_dist {d : Nat} (h : d ≤ 29) : extraN d 4 2 ≤ 13 := by unfold extraN; split <;> omega
theorem extra_wide {k : Nat} (h : k ≤ 28) : (if k = 28 then 0 else extraN k 8 4) ≤ 16 := by
  have := extra_len h
  split <;> omega
end
end Go.Proofs.YtiiiokikmjgliaaGreatDoor
/-
  The document's way of reading deflated bytes, on: coded, heads, row, own, Inflate as states: plain facts, no program in sight.
-/
namespace Go.Proofs.YtiiiokikmjgliaaGreatDoor
section
end
end Go.Proofs.YtiiiokikmjgliaaGreatDoor
/-
  The document's examples of deflated bytes: plain facts.
-/
namespace Go.Proofs.YtiiiokikmjgliaaGreatDoor
section
end
end Go.Proofs.YtiiiokikmjgliaaGreatDoor
/-
  The sum behind deflated bytes: plain facts, no program in sight.
-/
namespace Go.Proofs.YtiiiokikmjgliaaGreatDoor
section
def aFold (p : Nat × Nat) (l : List UInt8) : Nat × Nat := l.foldl (fun p c => ((p.1 + c.toNat) % 65521, (p.2 + (p.1 + c.toNat) % 65521) % 65521)) p
theorem aFold_snoc (p : Nat × Nat) (l : List UInt8) (c : UInt8) : aFold p (l ++ [c]) = (((aFold p l).1 + c.toNat) % 65521, ((aFold p l).2 + ((aFold p l).1 + c.toNat) % 65521) % 65521) := by simp [aFold]
def sB : List UInt8 → Nat
  | [] => 0
  | c :: l => c.toNat + sB l
def wB : List UInt8 → Nat
  | [] => 0
  | c :: l => (l.length + 1) * c.toNat + wB l
theorem aFold_is : ∀ (l : List UInt8) (a h : Nat), a < 65521 → h < 65521 → aFold (a, h) l = ((a + sB l) % 65521, (h + l.length * a + wB l) % 65521)
  | [], a, h, ha, hh => by
    simp only [aFold, List.foldl_nil, sB, wB, List.length_nil, Nat.zero_mul, Nat.add_zero]
    rw [Nat.mod_eq_of_lt ha, Nat.mod_eq_of_lt hh]
  | c :: l, a, h, ha, hh => by
    have e : aFold (a, h) (c :: l) = aFold ((a + c.toNat) % 65521, (h + (a + c.toNat) % 65521) % 65521) l := rfl
    rw [e, aFold_is l _ _ (Nat.mod_lt _ (by omega)) (Nat.mod_lt _ (by omega))]
    simp only [sB, wB, List.length_cons]
    congr 1
    · rw [Nat.mod_add_mod, Nat.add_assoc]
    · obtain ⟨r, hr⟩ : ∃ r, (a + c.toNat) % 65521 = r := ⟨_, rfl⟩
      obtain ⟨q, hq⟩ : ∃ q, (a + c.toNat) / 65521 = q := ⟨_, rfl⟩
      have hac : a + c.toNat = 65521 * q + r := by rw [← hr, ← hq]; exact (Nat.div_add_mod _ _).symm
      rw [hr, Nat.add_assoc ((h + r) % 65521), Nat.mod_add_mod]
      have e2 : h + (l.length + 1) * a + ((l.length + 1) * c.toNat + wB l) = (h + r + (l.length * r + wB l)) + 65521 * ((l.length + 1) * q) := by
        have : (l.length + 1) * a + (l.length + 1) * c.toNat = (l.length + 1) * (65521 * q + r) := by rw [← Nat.mul_add, hac]
        have e3 : (l.length + 1) * (65521 * q + r) = 65521 * ((l.length + 1) * q) + (l.length * r + r) := by
          rw [Nat.mul_add, Nat.add_mul (l.length) 1 r, Nat.one_mul, Nat.mul_left_comm]
        omega
      rw [e2, Nat.add_mul_mod_self_left]
theorem aFold_lt (l : List UInt8) {p : Nat × Nat} (h1 : p.1 < 65521) (h2 : p.2 < 65521) : (aFold p l).1 < 65521 ∧ (aFold p l).2 < 65521 := by
  obtain ⟨a, h⟩ := p
  rw [aFold_is l a h h1 h2]
  exact ⟨Nat.mod_lt _ (by omega), Nat.mod_lt _ (by omega)⟩
def aNum (p : Nat × Nat) : Nat := p.2 * 65536 + p.1
def aSum (l : List UInt8) : Nat := aNum (aFold (1, 0) l)
theorem aNum_parts {p : Nat × Nat} (h : p.1 < 65521) : aNum p % 65536 = p.1 ∧ aNum p / 65536 = p.2 := by unfold aNum; omega
def aIs (n : Nat) : Prop := n / 65536 < 65521 ∧ n % 65536 < 65521
theorem aSum_ok (l : List UInt8) : aIs (aSum l) := by
  obtain ⟨h1, h2⟩ := aFold_lt l (p := (1, 0)) (by decide) (by decide)
  obtain ⟨e1, e2⟩ := aNum_parts h1
  unfold aIs aSum
  rw [e1, e2]; exact ⟨h2, h1⟩
def aBad (n : Int) : Prop := n < 0 ∨ 65521 ≤ n / 65536 ∨ 65521 ≤ n % 65536
instance (n : Int) : Decidable (aBad n) := by unfold aBad; infer_instance
end
end Go.Proofs.YtiiiokikmjgliaaGreatDoor
/-
  Numbers as bytes, the highest ahead: plain facts, no program in sight.
-/
namespace Go.Proofs.YtiiiokikmjgliaaGreatDoor
section
def loN : Nat → Nat → List UInt8
  | 0, _ => []
  | i + 1, n => UInt8.ofNat (n / 256 ^ i % 256) :: loN i n
theorem loN_length : ∀ i n, (loN i n).length = i
  | 0, _ => rfl
  | i + 1, n => by simp [loN, loN_length i n]
def valB (l : List UInt8) : Nat := l.foldl (fun a c => 256 * a + c.toNat) 0
theorem valB_snoc (l : List UInt8) (c : UInt8) : valB (l ++ [c]) = 256 * valB l + c.toNat := by simp [valB]
theorem valB_from (l : List UInt8) (x : Nat) : l.foldl (fun a c => 256 * a + c.toNat) x = x * 256 ^ l.length + valB l := by
  unfold valB
  induction l generalizing x with
  | nil => simp
  | cons c l ih =>
    rw [List.foldl_cons, ih, List.foldl_cons, ih (256 * 0 + c.toNat), List.length_cons, Nat.pow_succ]
    rw [Nat.add_mul, Nat.add_mul]
    simp only [Nat.mul_zero, Nat.zero_mul, Nat.zero_add]
    have : 256 * x * 256 ^ l.length = x * (256 ^ l.length * 256) := by rw [Nat.mul_comm 256 x, Nat.mul_assoc, Nat.mul_comm 256]
    omega
theorem valB_cons (c : UInt8) (l : List UInt8) : valB (c :: l) = c.toNat * 256 ^ l.length + valB l := by
  have := valB_from l (256 * 0 + c.toNat)
  unfold valB at this ⊢
  rw [List.foldl_cons, this]; simp
theorem valB_lt : ∀ l : List UInt8, valB l < 256 ^ l.length
  | [] => by simp [valB]
  | c :: l => by
    have h1 := valB_lt l
    have h2 := c.toNat_lt
    rw [valB_cons, List.length_cons, Nat.pow_succ]
    have h3 : (c.toNat + 1) * 256 ^ l.length ≤ 256 * 256 ^ l.length := Nat.mul_le_mul_right _ (by omega)
    rw [Nat.add_mul, Nat.one_mul] at h3
    omega
theorem valB_bound {l : List UInt8} {k : Nat} (h : l.length ≤ k) : valB l < 256 ^ k :=
  Nat.lt_of_lt_of_le (valB_lt l) (Nat.pow_le_pow_right (by omega) h)
def putF (n width : Int) : List UInt8 × Int :=
  if width < 0 ∨ 8 < width then ([], 2) else if n < 0 ∨ (256 : Int) ^ width.toNat ≤ n then ([], 3) else (loN width.toNat n.toNat, 0)
theorem putF_arg {n width : Int} (h : width < 0 ∨ 8 < width) : putF n width = ([], 2) := by unfold putF; rw [if_pos h]
theorem putF_neg {n width : Int} (h : ¬ (width < 0 ∨ 8 < width)) (h' : n < 0) : putF n width = ([], 3) := by unfold putF; rw [if_neg h, if_pos (.inl h')]
theorem pow_cast (w : Nat) : (256 : Int) ^ w = ((256 ^ w : Nat) : Int) := by simp
theorem putF_big {n w : Nat} (h : w ≤ 8) (h' : 256 ^ w ≤ n) : putF (n : Int) (w : Int) = ([], 3) := by
  unfold putF
  rw [if_neg (by omega), if_pos]
  right
  rw [Int.toNat_natCast, pow_cast]; omega
theorem putF_ok {n w : Nat} (h : w ≤ 8) (h' : n < 256 ^ w) : putF (n : Int) (w : Int) = (loN w n, 0) := by
  unfold putF
  rw [if_neg (by omega), if_neg]
  · simp
  · rw [Int.toNat_natCast, pow_cast]; omega
def getF (l : List UInt8) : Int × Int :=
  if 8 < l.length then (0, 2) else if 9223372036854775808 ≤ valB l then (0, 3) else ((valB l : Int), 0)
theorem getF_arg {l : List UInt8} (h : 8 < l.length) : getF l = (0, 2) := by unfold getF; rw [if_pos h]
theorem getF_range {l : List UInt8} (h : ¬ 8 < l.length) (h' : 9223372036854775808 ≤ valB l) : getF l = (0, 3) := by unfold getF; rw [if_neg h, if_pos h']
theorem getF_ok {l : List UInt8} (h : ¬ 8 < l.length) (h' : ¬ 9223372036854775808 ≤ valB l) : getF l = ((valB l : Int), 0) := by unfold getF; rw [if_neg h, if_neg h']
theorem valB_low {l : List UInt8} (h : l.length ≤ 7) : ¬ 9223372036854775808 ≤ valB l := by
  have h1 := valB_bound h
  have e : (256 : Nat) ^ 7 = 72057594037927936 := by decide
  omega
def widN (n : Nat) : Nat := if n = 0 then 0 else widN (n / 256) + 1
theorem widN_zero : widN 0 = 0 := by rw [widN, if_pos rfl]
theorem widN_pos {n : Nat} (h : ¬ n = 0) : widN n = widN (n / 256) + 1 := by rw [widN, if_neg h]
theorem widN_iff : ∀ (w n : Nat), widN n ≤ w ↔ n < 256 ^ w
  | 0, n => by
    by_cases h : n = 0
    · subst h; simp [widN_zero]
    · rw [widN_pos h]; simp; omega
  | w + 1, n => by
    by_cases h : n = 0
    · subst h; simp [widN_zero]; exact Nat.pow_pos (by omega)
    · rw [widN_pos h, Nat.add_le_add_iff_right, widN_iff w (n / 256), Nat.pow_succ, Nat.div_lt_iff_lt_mul (by omega)]
def needFrom : Nat → List Int → Int
  | w, [] => w
  | w, n :: ns => if n < 0 then -1 else needFrom (max w (widN n.toNat)) ns
def needF (ns : List Int) : Int := needFrom 0 ns
end
end Go.Proofs.YtiiiokikmjgliaaGreatDoor
/-
  What is put is got; what is a row is cut into its numbers, and the other way round: plain facts.
-/
namespace Go.Proofs.YtiiiokikmjgliaaGreatDoor
section
theorem valB_lo : ∀ (k n : Nat), valB (loN k n) = n % 256 ^ k
  | 0, n => by simp [loN, valB, Nat.mod_one]
  | k + 1, n => by
    rw [loN, valB_cons, loN_length, valB_lo k n]
    have e : (UInt8.ofNat (n / 256 ^ k % 256)).toNat = n / 256 ^ k % 256 := by simp
    rw [e, Nat.pow_succ, Nat.mod_mul, Nat.mul_comm, Nat.add_comm]
theorem lo_mod : ∀ (k n : Nat), loN k (n % 256 ^ k) = loN k n
  | k, n => by
    have h : ∀ j, j ≤ k → loN j (n % 256 ^ k) = loN j n := by
      intro j
      induction j with
      | zero => intro _; rfl
      | succ j ih =>
        intro hj
        rw [loN, loN, ih (by omega)]
        congr 2
        have e : (256 : Nat) ^ k = 256 ^ j * (256 * 256 ^ (k - (j + 1))) := by
          rw [← Nat.mul_assoc, ← Nat.pow_succ, ← Nat.pow_add]
          congr 1; omega
        rw [e, Nat.mod_mul_right_div_self, Nat.mod_mul_right_mod]
    exact h k (Nat.le_refl _)
theorem lo_val : ∀ (l : List UInt8), loN l.length (valB l) = l
  | [] => rfl
  | c :: l => by
    have h1 := valB_lt l
    rw [List.length_cons, loN, valB_cons]
    have e1 : (c.toNat * 256 ^ l.length + valB l) / 256 ^ l.length = c.toNat := by
      rw [Nat.mul_comm, Nat.mul_add_div (Nat.pow_pos (by omega)), Nat.div_eq_of_lt h1, Nat.add_zero]
    have e2 : loN l.length (c.toNat * 256 ^ l.length + valB l) = loN l.length (valB l) := by
      rw [← lo_mod l.length (c.toNat * 256 ^ l.length + valB l), Nat.mul_comm, Nat.mul_add_mod, Nat.mod_eq_of_lt h1]
    rw [e1, e2, lo_val l]
    congr 1
    apply UInt8.toNat_inj.1
    have := c.toNat_lt
    rw [UInt8.toNat_ofNat']; omega
end
end Go.Proofs.YtiiiokikmjgliaaGreatDoor
/-
  Rows told by what they differ from the row ahead: plain facts, no program in sight.
-/
namespace Go.Proofs.YtiiiokikmjgliaaGreatDoor
section
set_option maxRecDepth 100000
def aboveP (l : List UInt8) (n i : Nat) : UInt8 := if n ≤ i then l[i - n]?.getD 0 else 0
def leftP (l : List UInt8) (n i : Nat) : UInt8 := if i % n = 0 then 0 else l[i - 1]?.getD 0
def cornerP (l : List UInt8) (n i : Nat) : UInt8 := if i % n = 0 ∨ i < n then 0 else l[i - n - 1]?.getD 0
def encOne (l : List UInt8) (n i : Nat) : List UInt8 := (if i % n = 0 then [2] else []) ++ [l[i]?.getD 0 - aboveP l n i]
def encUpto (l : List UInt8) (n : Nat) : Nat → List UInt8
  | 0 => []
  | i + 1 => encUpto l n i ++ encOne l n i
def encP (l : List UInt8) (columns : Int) : List UInt8 × Int :=
  if columns < 1 ∨ 256 < columns then ([], 2) else if l.length % columns.toNat ≠ 0 then ([], 4) else (encUpto l columns.toNat l.length, 0)
def awayP (a b : Int) : Int := if a < b then b - a else a - b
def guessP (kind a b c : Nat) : Nat :=
  if kind = 1 then a else if kind = 2 then b else if kind = 3 then (a + b) / 2 else if kind = 4 then
    if awayP ((a : Int) + b - c) a ≤ awayP ((a : Int) + b - c) b ∧ awayP ((a : Int) + b - c) a ≤ awayP ((a : Int) + b - c) c then a
    else if awayP ((a : Int) + b - c) b ≤ awayP ((a : Int) + b - c) c then b else c
  else 0
def decOne (n kind : Nat) (out : List UInt8) (c : UInt8) : List UInt8 :=
  out ++ [UInt8.ofNat (c.toNat + guessP kind (leftP out n out.length).toNat (aboveP out n out.length).toNat (cornerP out n out.length).toNat)]
def decRow (n kind : Nat) (out row : List UInt8) : List UInt8 := row.foldl (decOne n kind) out
def decRows (n : Nat) : Nat → List UInt8 → List UInt8 → Option (List UInt8)
  | 0, out, _ => some out
  | m + 1, out, l => if 4 < (l[0]?.getD 0).toNat then none else decRows n m (decRow n (l[0]?.getD 0).toNat out ((l.drop 1).take n)) (l.drop (n + 1))
def decP (l : List UInt8) (columns : Int) : List UInt8 × Int :=
  if columns < 1 ∨ 256 < columns then ([], 2) else if l.length % (columns.toNat + 1) ≠ 0 then ([], 4) else
    match decRows columns.toNat (l.length / (columns.toNat + 1)) [] l with
    | none => ([], 4)
    | some o => (o, 0)
theorem guessP_bound (kind a b c : Nat) (ha : a < 256) (hb : b < 256) (hc : c < 256) : guessP kind a b c < 256 := by
  unfold guessP
  repeat' split
  all_goals omega
theorem decRow_length (n kind : Nat) : ∀ (row out : List UInt8), (decRow n kind out row).length = out.length + row.length
  | [], out => rfl
  | c :: row, out => by
    show (decRow n kind (decOne n kind out c) row).length = _
    rw [decRow_length n kind row]
    unfold decOne
    simp only [List.length_append, List.length_cons, List.length_nil]
    omega
theorem decRow_snoc (n kind : Nat) (out row : List UInt8) (c : UInt8) : decRow n kind out (row ++ [c]) = decOne n kind (decRow n kind out row) c := by
  unfold decRow
  rw [List.foldl_append]; rfl
def encRow (l : List UInt8) (n r : Nat) : List UInt8 := 2 :: (List.range n).map fun k => l[r * n + k]?.getD 0 - aboveP l n (r * n + k)
def encFrom (l : List UInt8) (n r : Nat) : Nat → List UInt8
  | 0 => []
  | m + 1 => encRow l n r ++ encFrom l n (r + 1) m
theorem encRow_length (l : List UInt8) (n r : Nat) : (encRow l n r).length = n + 1 := by simp [encRow]
theorem encFrom_length (l : List UInt8) (n : Nat) : ∀ m r, (encFrom l n r m).length = m * (n + 1)
  | 0, r => by simp [encFrom]
  | m + 1, r => by rw [encFrom, List.length_append, encRow_length, encFrom_length l n m, Nat.add_mul]; omega
theorem encUpto_in (l : List UInt8) {n : Nat} (r : Nat) : ∀ k, 1 ≤ k → k ≤ n → encUpto l n (r * n + k) = encUpto l n (r * n) ++ 2 :: (List.range k).map fun k => l[r * n + k]?.getD 0 - aboveP l n (r * n + k)
  | 0, h, _ => by omega
  | 1, _, h => by
    show encUpto l n (r * n) ++ encOne l n (r * n) = _
    unfold encOne
    rw [if_pos (by exact Nat.mul_mod_left r n)]
    rfl
  | k + 2, _, h => by
    show encUpto l n (r * n + (k + 1)) ++ encOne l n (r * n + (k + 1)) = _
    rw [encUpto_in l r (k + 1) (by omega) (by omega), List.append_assoc]
    unfold encOne
    rw [if_neg (by rw [Nat.mul_comm, Nat.mul_add_mod, Nat.mod_eq_of_lt (by omega)]; omega), List.range_succ (n := k + 1), List.map_append]
    simp
theorem encUpto_row (l : List UInt8) {n : Nat} (hn : 1 ≤ n) (r : Nat) : encUpto l n ((r + 1) * n) = encUpto l n (r * n) ++ encRow l n r := by
  rw [Nat.add_mul, Nat.one_mul, encUpto_in l r n hn (Nat.le_refl _)]
  rfl
theorem encUpto_from (l : List UInt8) {n : Nat} (hn : 1 ≤ n) : ∀ m r, encUpto l n ((r + m) * n) = encUpto l n (r * n) ++ encFrom l n r m
  | 0, r => by simp [encFrom]
  | m + 1, r => by
    rw [show r + (m + 1) = (r + 1) + m by omega, encUpto_from l hn m (r + 1), encUpto_row l hn, List.append_assoc]
    rfl
theorem dec_in (l : List UInt8) {n : Nat} (r : Nat) : ∀ k, k ≤ n → r * n + k ≤ l.length → decRow n 2 (l.take (r * n)) ((List.range k).map fun k => l[r * n + k]?.getD 0 - aboveP l n (r * n + k)) = l.take (r * n + k)
  | 0, _, _ => by simp [decRow]
  | k + 1, h, hl => by
    rw [List.range_succ, List.map_append, List.map_cons, List.map_nil, decRow_snoc, dec_in l r k (by omega) (by omega)]
    unfold decOne
    have hlen : (l.take (r * n + k)).length = r * n + k := by rw [List.length_take]; omega
    rw [hlen]
    have hab : aboveP (l.take (r * n + k)) n (r * n + k) = aboveP l n (r * n + k) := by
      unfold aboveP
      split
      · rcases Nat.eq_zero_or_pos n with h0 | h0
        · omega
        · rw [List.getElem?_take_of_lt (by omega)]
      · rfl
    rw [hab]
    have hg : guessP 2 (leftP (l.take (r * n + k)) n (r * n + k)).toNat (aboveP l n (r * n + k)).toNat (cornerP (l.take (r * n + k)) n (r * n + k)).toNat = (aboveP l n (r * n + k)).toNat := by unfold guessP; simp
    rw [hg]
    have hget : l[r * n + k]? = some (l[r * n + k]'(by omega)) := List.getElem?_eq_getElem (by omega)
    rw [hget, Option.getD_some, ← Nat.add_assoc, List.take_add_one, hget]
    congr 2
    apply UInt8.toNat_inj.1
    have h1 := (l[r * n + k]'(by omega)).toNat_lt
    have h2 := (aboveP l n (r * n + k)).toNat_lt
    rw [UInt8.toNat_ofNat', UInt8.toNat_sub]
    omega
theorem dec_from (l : List UInt8) {n : Nat} : ∀ m r, (r + m) * n ≤ l.length → decRows n m (l.take (r * n)) (encFrom l n r m) = some (l.take ((r + m) * n))
  | 0, r, _ => rfl
  | m + 1, r, h => by
    have e : (r + (m + 1)) * n = (r + 1 + m) * n := by rw [show r + (m + 1) = r + 1 + m by omega]
    have h2 : (r + 1) * n ≤ l.length := Nat.le_trans (Nat.mul_le_mul_right n (by omega)) h
    rw [Nat.add_mul, Nat.one_mul] at h2
    unfold decRows
    have h0 : (encFrom l n r (m + 1))[0]?.getD 0 = 2 := rfl
    rw [h0, if_neg (by decide)]
    have hd : (encFrom l n r (m + 1)).drop (n + 1) = encFrom l n (r + 1) m := by
      show (encRow l n r ++ encFrom l n (r + 1) m).drop (n + 1) = _
      rw [List.drop_append_of_le_length (by rw [encRow_length]; exact Nat.le_refl _), List.drop_of_length_le (by rw [encRow_length]; exact Nat.le_refl _), List.nil_append]
    have ht : ((encFrom l n r (m + 1)).drop 1).take n = (List.range n).map fun k => l[r * n + k]?.getD 0 - aboveP l n (r * n + k) := by
      show (((List.range n).map fun k => l[r * n + k]?.getD 0 - aboveP l n (r * n + k)) ++ encFrom l n (r + 1) m).take n = _
      rw [List.take_append_of_le_length (by simp), List.take_of_length_le (by simp)]
    rw [hd, ht, show (2 : UInt8).toNat = 2 from rfl, dec_in l r n (Nat.le_refl _) h2, e, ← dec_from l m (r + 1) (by rw [← e]; exact h), Nat.add_mul, Nat.one_mul]
theorem enc_back {l : List UInt8} {n : Nat} (h1 : 1 ≤ n) (h2 : n ≤ 256) (hl : l.length % n = 0) : decP (encP l (n : Int)).1 (n : Int) = (l, 0) ∧ (encP l (n : Int)).2 = 0 := by
  obtain ⟨m, hm⟩ : ∃ m, l.length = m * n := ⟨l.length / n, by have := Nat.div_add_mod l.length n; rw [hl, Nat.mul_comm] at this; omega⟩
  have he : encP l (n : Int) = (encFrom l n 0 m, 0) := by
    unfold encP
    rw [if_neg (by omega), Int.toNat_natCast, if_neg (by omega), hm]
    have := encUpto_from l h1 m 0
    rw [Nat.zero_add, Nat.zero_mul] at this
    rw [this]; rfl
  rw [he]
  refine ⟨?_, rfl⟩
  unfold decP
  rw [if_neg (by omega), Int.toNat_natCast]
  show (if (encFrom l n 0 m).length % (n + 1) ≠ 0 then _ else _) = _
  rw [encFrom_length, if_neg (by simp), Nat.mul_div_cancel _ (by omega)]
  have hd := dec_from l (n := n) m 0 (by rw [Nat.zero_add, hm]; exact Nat.le_refl _)
  rw [Nat.zero_mul, List.take_zero, Nat.zero_add, ← hm, List.take_length] at hd
  rw [hd]
end
end Go.Proofs.YtiiiokikmjgliaaGreatDoor
/-
  A row restored by the row ahead; rows told one by one: plain facts, no program in sight.
-/
namespace Go.Proofs.YtiiiokikmjgliaaGreatDoor
section
set_option maxRecDepth 100000
def befB (l : List UInt8) (k : Nat) : UInt8 := if k = 0 then 0 else l[k - 1]?.getD 0
def restOne (kind : Nat) (ahead done : List UInt8) (x : UInt8) : List UInt8 :=
  done ++ [UInt8.ofNat (x.toNat + guessP kind (befB done done.length).toNat (ahead[done.length]?.getD 0).toNat (befB ahead done.length).toNat)]
def restR (kind : Nat) (ahead row : List UInt8) : List UInt8 := row.foldl (restOne kind ahead) []
theorem restOne_length (kind : Nat) (ahead done : List UInt8) (x : UInt8) : (restOne kind ahead done x).length = done.length + 1 := by simp [restOne]
theorem restF_length (kind : Nat) (ahead : List UInt8) : ∀ (row done : List UInt8), (row.foldl (restOne kind ahead) done).length = done.length + row.length
  | [], done => rfl
  | x :: row, done => by
    show (row.foldl (restOne kind ahead) (restOne kind ahead done x)).length = _
    rw [restF_length kind ahead row, restOne_length, List.length_cons]; omega
theorem restR_length (kind : Nat) (ahead row : List UInt8) : (restR kind ahead row).length = row.length := by
  unfold restR; rw [restF_length]; simp
theorem restR_snoc (kind : Nat) (ahead row : List UInt8) (x : UInt8) : restR kind ahead (row ++ [x]) = restOne kind ahead (restR kind ahead row) x := by
  unfold restR; rw [List.foldl_append]; rfl
theorem restR_take {kind : Nat} {ahead row : List UInt8} {k : Nat} (h : k < row.length) : restR kind ahead (row.take (k + 1)) = restOne kind ahead (restR kind ahead (row.take k)) row[k] := by
  rw [List.take_succ_eq_append_getElem h, restR_snoc]
theorem restF_pre (kind : Nat) (ahead : List UInt8) : ∀ (row done : List UInt8), ∃ t, row.foldl (restOne kind ahead) done = done ++ t
  | [], done => ⟨[], (List.append_nil _).symm⟩
  | x :: row, done => by
    obtain ⟨t, ht⟩ := restF_pre kind ahead row (restOne kind ahead done x)
    refine ⟨[UInt8.ofNat (x.toNat + guessP kind (befB done done.length).toNat (ahead[done.length]?.getD 0).toNat (befB ahead done.length).toNat)] ++ t, ?_⟩
    show row.foldl (restOne kind ahead) (restOne kind ahead done x) = _
    rw [ht, ← List.append_assoc]; rfl
theorem restR_pre (kind : Nat) (ahead row : List UInt8) {k : Nat} (h : k ≤ row.length) : (restR kind ahead row).take k = restR kind ahead (row.take k) := by
  have e : restR kind ahead row = (row.drop k).foldl (restOne kind ahead) (restR kind ahead (row.take k)) := by
    unfold restR
    rw [← List.foldl_append, List.take_append_drop]
  obtain ⟨t, ht⟩ := restF_pre kind ahead (row.drop k) (restR kind ahead (row.take k))
  rw [e, ht]
  have hl : (restR kind ahead (row.take k)).length = k := by rw [restR_length, List.length_take]; omega
  rw [List.take_append_of_le_length (by omega), List.take_of_length_le (by omega)]
theorem befB_take {l : List UInt8} {k : Nat} : befB (l.take k) k = befB l k := by
  unfold befB
  split
  · rfl
  · rw [List.getElem?_take_of_lt (by omega)]
theorem restR_at {kind : Nat} {ahead row : List UInt8} {k : Nat} (h : k < row.length) :
    (restR kind ahead row)[k]? = some (UInt8.ofNat (row[k].toNat + guessP kind (befB (restR kind ahead row) k).toNat (ahead[k]?.getD 0).toNat (befB ahead k).toNat)) := by
  have h1 := restR_pre kind ahead row (k := k + 1) h
  have h2 := restR_pre kind ahead row (k := k) (by omega)
  have hl : (restR kind ahead (row.take k)).length = k := by rw [restR_length, List.length_take]; omega
  have e : ((restR kind ahead row).take (k + 1))[k]? = (restR kind ahead row)[k]? := List.getElem?_take_of_lt (by omega)
  rw [← e, h1, restR_take h]
  unfold restOne
  rw [List.getElem?_append_right (by omega), hl, Nat.sub_self, ← h2, befB_take]
  rfl
theorem befB_succ {l : List UInt8} {k : Nat} {x : UInt8} (h : l[k]? = some x) : befB l (k + 1) = x := by
  unfold befB
  rw [if_neg (by omega), Nat.add_sub_cancel, h]; rfl
theorem rest_put {l row : List UInt8} {k : Nat} {y : UInt8} (hl : l.length = row.length) (hk : k < row.length) (hy : l[k]? = some y) : (l.take k ++ row.drop k).set k y = l.take (k + 1) ++ row.drop (k + 1) := by
  have hk' : k < l.length := by omega
  obtain ⟨_, e⟩ := List.getElem?_eq_some_iff.1 hy
  rw [List.set_append_right _ _ (by rw [List.length_take]; omega), List.length_take, show min k l.length = k by omega, Nat.sub_self, List.drop_eq_getElem_cons hk, List.set_cons_zero, List.take_succ_eq_append_getElem hk', e, List.append_assoc]
  rfl
theorem rest_get {l row : List UInt8} {k : Nat} (hl : l.length = row.length) (hk : k < row.length) : (l.take k ++ row.drop k)[k]? = some row[k] := by
  rw [List.getElem?_append_right (by rw [List.length_take]; omega), List.length_take, show min k l.length = k by omega, Nat.sub_self, List.getElem?_drop, Nat.add_zero, List.getElem?_eq_getElem hk]
def aheadOf (n : Nat) (out : List UInt8) : List UInt8 := if out.length < n then List.replicate n 0 else out.drop (out.length - n)
theorem aheadOf_nil {n : Nat} (h : 1 ≤ n) : aheadOf n [] = List.replicate n 0 := by unfold aheadOf; rw [if_pos (by simpa using Nat.lt_of_lt_of_le Nat.zero_lt_one h)]
theorem aheadOf_app {n : Nat} {out x : List UInt8} (h : x.length = n) : aheadOf n (out ++ x) = x := by
  unfold aheadOf
  rw [List.length_append, if_neg (by omega), h, Nat.add_sub_cancel, List.drop_append_of_le_length (Nat.le_refl _), List.drop_length, List.nil_append]
theorem aheadOf_length (n : Nat) (out : List UInt8) : (aheadOf n out).length = n := by
  unfold aheadOf
  split
  · simp
  · rw [List.length_drop]; omega
theorem above_ahead {n r : Nat} {out done : List UInt8} (ho : out.length = r * n) (hd : done.length < n) : aboveP (out ++ done) n (out.length + done.length) = (aheadOf n out)[done.length]?.getD 0 := by
  unfold aboveP aheadOf
  cases r with
  | zero =>
    rw [Nat.zero_mul] at ho
    rw [if_neg (by omega), if_pos (by omega), List.getElem?_replicate, if_pos hd]; rfl
  | succ r =>
    rw [Nat.add_mul, Nat.one_mul] at ho
    rw [if_pos (by omega), if_neg (by omega), List.getElem?_append_left (by omega), List.getElem?_drop, show out.length - n + done.length = out.length + done.length - n by omega]
theorem left_done {n r : Nat} {out done : List UInt8} (ho : out.length = r * n) (hd : done.length < n) : leftP (out ++ done) n (out.length + done.length) = befB done done.length := by
  unfold leftP befB
  have hm : (out.length + done.length) % n = done.length := by rw [ho, Nat.mul_comm, Nat.mul_add_mod, Nat.mod_eq_of_lt hd]
  rw [hm]
  by_cases h0 : done.length = 0
  · rw [if_pos h0, if_pos h0]
  · rw [if_neg h0, if_neg h0, List.getElem?_append_right (by omega), show out.length + done.length - 1 - out.length = done.length - 1 by omega]
theorem corner_ahead {n r : Nat} {out done : List UInt8} (ho : out.length = r * n) (hd : done.length < n) : cornerP (out ++ done) n (out.length + done.length) = befB (aheadOf n out) done.length := by
  unfold cornerP befB aheadOf
  have hm : (out.length + done.length) % n = done.length := by rw [ho, Nat.mul_comm, Nat.mul_add_mod, Nat.mod_eq_of_lt hd]
  rw [hm]
  by_cases h0 : done.length = 0
  · rw [if_pos (.inl h0), if_pos h0]
  · rw [if_neg h0]
    cases r with
    | zero =>
      rw [Nat.zero_mul] at ho
      rw [if_pos (.inr (by omega)), if_pos (by omega), List.getElem?_replicate]
      split <;> rfl
    | succ r =>
      rw [Nat.add_mul, Nat.one_mul] at ho
      rw [if_neg (by omega), if_neg (by omega), List.getElem?_append_left (by omega), List.getElem?_drop, show out.length - n + (done.length - 1) = out.length + done.length - n - 1 by omega]
theorem decOne_rest {n kind r : Nat} {out done : List UInt8} {c : UInt8} (ho : out.length = r * n) (hd : done.length < n) : decOne n kind (out ++ done) c = out ++ restOne kind (aheadOf n out) done c := by
  unfold decOne restOne
  rw [List.length_append, above_ahead ho hd, left_done ho hd, corner_ahead ho hd, List.append_assoc]
theorem decRow_restF {n kind r : Nat} {out : List UInt8} (ho : out.length = r * n) : ∀ (row done : List UInt8), done.length + row.length ≤ n → decRow n kind (out ++ done) row = out ++ row.foldl (restOne kind (aheadOf n out)) done
  | [], done, _ => rfl
  | c :: row, done, h => by
    rw [List.length_cons] at h
    show decRow n kind (decOne n kind (out ++ done) c) row = out ++ row.foldl (restOne kind (aheadOf n out)) (restOne kind (aheadOf n out) done c)
    rw [decOne_rest ho (by omega), decRow_restF ho row _ (by rw [restOne_length]; omega)]
theorem decRow_rest {n kind r : Nat} {out row : List UInt8} (ho : out.length = r * n) (h : row.length ≤ n) : decRow n kind out row = out ++ restR kind (aheadOf n out) row := by
  have := decRow_restF (kind := kind) ho row [] (by simpa using h)
  rwa [List.append_nil] at this
theorem restR_plain (ahead row : List UInt8) : restR 0 ahead row = row := by
  unfold restR
  suffices h : ∀ (row done : List UInt8), row.foldl (restOne 0 ahead) done = done ++ row by simpa using h row []
  intro row
  induction row with
  | nil => intro done; simp
  | cons x row ih =>
    intro done
    show row.foldl (restOne 0 ahead) (restOne 0 ahead done x) = _
    rw [ih]
    unfold restOne guessP
    simp
def apartP (a b : Int) : Int := if a - b < b - a then b - a else a - b
theorem apartP_away (a b : Int) : apartP a b = awayP a b := by unfold apartP awayP; split <;> split <;> omega
theorem awayP_comm (a b : Int) : awayP a b = awayP b a := by unfold awayP; split <;> split <;> omega
def nearOne (aim m n : Int) : Int := if apartP n aim < apartP m aim then n else m
theorem nearOne_self (aim m : Int) : nearOne aim m m = m := by unfold nearOne; split <;> rfl
theorem near_guess (a b c : Nat) : nearOne ((a : Int) + b - c) (nearOne ((a : Int) + b - c) (nearOne ((a : Int) + b - c) a a) b) c = (guessP 4 a b c : Nat) := by
  rw [nearOne_self]
  unfold guessP
  rw [if_neg (by decide), if_neg (by decide), if_neg (by decide), if_pos rfl]
  generalize (a : Int) + b - c = p
  have hab : nearOne p (a : Int) (b : Int) = if awayP p b < awayP p a then (b : Int) else a := by unfold nearOne; rw [apartP_away, apartP_away, awayP_comm (b : Int), awayP_comm (a : Int)]
  have hc : ∀ m : Int, nearOne p m (c : Int) = if awayP p c < awayP p m then (c : Int) else m := fun m => by unfold nearOne; rw [apartP_away, apartP_away, awayP_comm (c : Int), awayP_comm m]
  rw [hab, hc]
  by_cases h1 : awayP p b < awayP p a
  · rw [if_pos h1]
    by_cases h2 : awayP p c < awayP p b
    · rw [if_pos h2, if_neg (by omega), if_neg (by omega)]
    · rw [if_neg h2, if_neg (by omega), if_pos (by omega)]
  · rw [if_neg h1]
    by_cases h2 : awayP p c < awayP p a
    · rw [if_pos h2, if_neg (by omega), if_neg (by omega)]
    · rw [if_neg h2, if_pos (by omega)]
theorem decRows_cons {n m r : Nat} {out l : List UInt8} (ho : out.length = r * n) :
    decRows n (m + 1) out l = if 4 < (l[0]?.getD 0).toNat then none else decRows n m (out ++ restR (l[0]?.getD 0).toNat (aheadOf n out) ((l.drop 1).take n)) (l.drop (n + 1)) := by
  rw [decRows]
  split
  · rfl
  · rw [decRow_rest ho]
    rw [List.length_take]; omega
end
end Go.Proofs.YtiiiokikmjgliaaGreatDoor
/-
  Rows told by what is above them, row by row: plain facts, no program in sight.
-/
namespace Go.Proofs.YtiiiokikmjgliaaGreatDoor
section
def aboveRow (l : List UInt8) (n r : Nat) : List UInt8 := (List.range n).map fun k => aboveP l n (r * n + k)
theorem aboveRow_length (l : List UInt8) (n r : Nat) : (aboveRow l n r).length = n := by simp [aboveRow]
theorem aboveRow_at {l : List UInt8} {n r k : Nat} (h : k < n) : (aboveRow l n r)[k]? = some (aboveP l n (r * n + k)) := by simp [aboveRow, h]
theorem aboveRow_zero (l : List UInt8) (n : Nat) : aboveRow l n 0 = List.replicate n 0 := by
  apply List.ext_getElem?
  intro k
  rcases Nat.lt_or_ge k n with h | h
  · rw [aboveRow_at h, List.getElem?_replicate, if_pos h]
    unfold aboveP
    rw [if_neg (by omega)]
  · rw [List.getElem?_eq_none (by rw [aboveRow_length]; exact h), List.getElem?_eq_none (by simpa using h)]
theorem aboveRow_succ {l : List UInt8} {n r : Nat} (h : (r + 1) * n ≤ l.length) : aboveRow l n (r + 1) = (l.drop (r * n)).take n := by
  rw [Nat.add_mul, Nat.one_mul] at h
  apply List.ext_getElem?
  intro k
  rcases Nat.lt_or_ge k n with hk | hk
  · rw [aboveRow_at hk, List.getElem?_take_of_lt hk, List.getElem?_drop]
    unfold aboveP
    rw [Nat.add_mul, Nat.one_mul, if_pos (by omega), show r * n + n + k - n = r * n + k by omega, List.getElem?_eq_getElem (by omega)]
    rfl
  · rw [List.getElem?_eq_none (by rw [aboveRow_length]; exact hk), List.getElem?_eq_none (by rw [List.length_take, List.length_drop]; omega)]
def encPart (l : List UInt8) (n r k : Nat) : List UInt8 := encUpto l n (r * n) ++ 2 :: (List.range k).map fun k => l[r * n + k]?.getD 0 - aboveP l n (r * n + k)
theorem encPart_succ (l : List UInt8) (n r k : Nat) : encPart l n r (k + 1) = encPart l n r k ++ [l[r * n + k]?.getD 0 - aboveP l n (r * n + k)] := by
  unfold encPart
  rw [List.range_succ, List.map_append, List.append_assoc]
  rfl
theorem encPart_all {l : List UInt8} {n : Nat} (hn : 1 ≤ n) (r : Nat) : encPart l n r n = encUpto l n ((r + 1) * n) := (encUpto_row l hn r).symm
theorem encUpto_length (l : List UInt8) (n : Nat) : ∀ i, (encUpto l n i).length ≤ 2 * i
  | 0 => Nat.le_refl _
  | i + 1 => by
    have := encUpto_length l n i
    rw [encUpto, List.length_append]
    unfold encOne
    split <;> simp <;> omega
theorem encPart_length (l : List UInt8) (n r k : Nat) : (encPart l n r k).length ≤ 2 * (r * n) + 1 + k := by
  have := encUpto_length l n (r * n)
  unfold encPart
  rw [List.length_append, List.length_cons, List.length_map, List.length_range]
  omega
theorem encP_end {l : List UInt8} {n : Nat} (h1 : 1 ≤ n) (h2 : n ≤ 256) (hl : l.length % n = 0) : encP l (n : Int) = (encUpto l n l.length, 0) := by
  unfold encP
  rw [if_neg (by omega), Int.toNat_natCast, if_neg (by omega)]
end
end Go.Proofs.YtiiiokikmjgliaaGreatDoor
