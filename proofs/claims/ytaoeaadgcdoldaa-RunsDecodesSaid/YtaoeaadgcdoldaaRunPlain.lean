/-
  Bytes with runs of alike ones told shortly: plain facts, no program in sight.
-/
import Derived.Test.YtaoeaadgcdoldaaPlain
import Derived.Test.YtaoeaadgcdoldaaDPlain
namespace Go.Proofs.Ytaoeaadgcdoldaa

/-- Do three alike bytes begin? -/
def alikeB : List UInt8 → Bool
  | a :: b :: c :: _ => a == b && a == c
  | _ => false
/-- How many of one byte, so many at most. -/
def runLen (c : UInt8) : Nat → List UInt8 → Nat
  | 0, _ => 0
  | _ + 1, [] => 0
  | k + 1, x :: t => if x = c then runLen c k t + 1 else 0
/-- How many bytes up to where three alike ones begin, so many at most. -/
def rawLen : Nat → List UInt8 → Nat
  | 0, _ => 0
  | _ + 1, [] => 0
  | k + 1, x :: t => if alikeB (x :: t) then 0 else rawLen k t + 1
def encR : Nat → List UInt8 → List UInt8
  | 0, _ => [128]
  | _ + 1, [] => [128]
  | f + 1, x :: t =>
    if alikeB (x :: t) then UInt8.ofNat (257 - runLen x 128 (x :: t)) :: x :: encR f ((x :: t).drop (runLen x 128 (x :: t)))
    else UInt8.ofNat (rawLen 128 (x :: t) - 1) :: ((x :: t).take (rawLen 128 (x :: t)) ++ encR f ((x :: t).drop (rawLen 128 (x :: t))))
def encAll (l : List UInt8) : List UInt8 := encR l.length l

theorem runLen_le (c : UInt8) : ∀ (k : Nat) (l : List UInt8), runLen c k l ≤ k ∧ runLen c k l ≤ l.length
  | 0, _ => ⟨Nat.le_refl _, Nat.zero_le _⟩
  | _ + 1, [] => ⟨Nat.zero_le _, Nat.zero_le _⟩
  | k + 1, x :: t => by
    have := runLen_le c k t
    unfold runLen
    split
    · simp only [List.length_cons]; omega
    · omega
theorem rawLen_le : ∀ (k : Nat) (l : List UInt8), rawLen k l ≤ k ∧ rawLen k l ≤ l.length
  | 0, _ => ⟨Nat.le_refl _, Nat.zero_le _⟩
  | _ + 1, [] => ⟨Nat.zero_le _, Nat.zero_le _⟩
  | k + 1, x :: t => by
    have := rawLen_le k t
    unfold rawLen
    split
    · omega
    · simp only [List.length_cons]; omega
theorem runLen_alike {x : UInt8} {t : List UInt8} (h : alikeB (x :: t) = true) : 3 ≤ runLen x 128 (x :: t) := by
  match t, h with
  | b :: c :: r, h =>
    simp only [alikeB, Bool.and_eq_true, beq_iff_eq] at h
    obtain ⟨rfl, rfl⟩ := h
    simp only [runLen, if_pos]
    omega
theorem rawLen_pos {x : UInt8} {t : List UInt8} (h : alikeB (x :: t) = false) : 1 ≤ rawLen 128 (x :: t) := by
  unfold rawLen; rw [h]; simp
/-- All bytes of a run are alike. -/
theorem runLen_take (c : UInt8) : ∀ (k : Nat) (l : List UInt8), l.take (runLen c k l) = List.replicate (runLen c k l) c
  | 0, _ => rfl
  | _ + 1, [] => rfl
  | k + 1, x :: t => by
    unfold runLen
    split
    · rename_i h; subst h
      rw [List.take_succ_cons, runLen_take x k t]; rfl
    · rfl
/-- Behind bytes that are told as they are: the end, three alike ones, or a full part. -/
theorem rawLen_end : ∀ (k : Nat) (l : List UInt8), rawLen k l = k ∨ l.drop (rawLen k l) = [] ∨ alikeB (l.drop (rawLen k l)) = true
  | 0, _ => .inl rfl
  | _ + 1, [] => .inr (.inl rfl)
  | k + 1, x :: t => by
    unfold rawLen
    split
    · rename_i h; exact .inr (.inr h)
    · rcases rawLen_end k t with h | h | h
      · left; rw [h]
      · right; left; rw [List.drop_succ_cons]; exact h
      · right; right; rw [List.drop_succ_cons]; exact h

theorem encR_nil : ∀ f, encR f [] = [128]
  | 0 => rfl
  | _ + 1 => rfl
theorem encR_run {f : Nat} {x : UInt8} {t : List UInt8} (h : alikeB (x :: t) = true) : encR (f + 1) (x :: t) = UInt8.ofNat (257 - runLen x 128 (x :: t)) :: x :: encR f ((x :: t).drop (runLen x 128 (x :: t))) := by
  rw [encR, if_pos h]
theorem encR_raw {f : Nat} {x : UInt8} {t : List UInt8} (h : alikeB (x :: t) = false) : encR (f + 1) (x :: t) = UInt8.ofNat (rawLen 128 (x :: t) - 1) :: ((x :: t).take (rawLen 128 (x :: t)) ++ encR f ((x :: t).drop (rawLen 128 (x :: t)))) := by
  rw [encR, if_neg (by rw [h]; decide)]
/-- More steps than are needed turn nothing. -/
theorem encR_more : ∀ (f g : Nat) (l : List UInt8), l.length ≤ f → l.length ≤ g → encR f l = encR g l
  | _, _, [], _, _ => by rw [encR_nil, encR_nil]
  | 0, _, _ :: _, h, _ => by simp at h
  | _, 0, _ :: _, _, h => by simp at h
  | f + 1, g + 1, x :: t, hf, hg => by
    simp only [List.length_cons] at hf hg
    cases ha : alikeB (x :: t)
    · have := rawLen_pos ha
      rw [encR_raw ha, encR_raw ha, encR_more f g _ (by simp only [List.length_drop, List.length_cons]; omega) (by simp only [List.length_drop, List.length_cons]; omega)]
    · have := runLen_alike ha
      rw [encR_run ha, encR_run ha, encR_more f g _ (by simp only [List.length_drop, List.length_cons]; omega) (by simp only [List.length_drop, List.length_cons]; omega)]
theorem encAll_run {x : UInt8} {t : List UInt8} (h : alikeB (x :: t) = true) : encAll (x :: t) = UInt8.ofNat (257 - runLen x 128 (x :: t)) :: x :: encAll ((x :: t).drop (runLen x 128 (x :: t))) := by
  have := runLen_alike h
  unfold encAll
  rw [List.length_cons, encR_run h]
  congr 2
  exact encR_more _ _ _ (by simp only [List.length_drop, List.length_cons]; omega) (Nat.le_refl _)
theorem encAll_raw {x : UInt8} {t : List UInt8} (h : alikeB (x :: t) = false) : encAll (x :: t) = UInt8.ofNat (rawLen 128 (x :: t) - 1) :: ((x :: t).take (rawLen 128 (x :: t)) ++ encAll ((x :: t).drop (rawLen 128 (x :: t)))) := by
  have := rawLen_pos h
  unfold encAll
  rw [List.length_cons, encR_raw h]
  congr 2
  exact encR_more _ _ _ (by simp only [List.length_drop, List.length_cons]; omega) (Nat.le_refl _)
theorem encAll_nil : encAll [] = [128] := rfl

/-- A step of telling, by induction on what is left. -/
theorem run_induct {P : List UInt8 → Prop} (h0 : P []) (h1 : ∀ x t, alikeB (x :: t) = true → P ((x :: t).drop (runLen x 128 (x :: t))) → P (x :: t))
    (h2 : ∀ x t, alikeB (x :: t) = false → P ((x :: t).drop (rawLen 128 (x :: t))) → P (x :: t)) : ∀ (n : Nat) (l : List UInt8), l.length ≤ n → P l
  | _, [], _ => h0
  | 0, _ :: _, h => by simp at h
  | n + 1, x :: t, h => by
    simp only [List.length_cons] at h
    cases ha : alikeB (x :: t)
    · have := rawLen_pos ha
      exact h2 x t ha (run_induct h0 h1 h2 n _ (by simp only [List.length_drop, List.length_cons]; omega))
    · have := runLen_alike ha
      exact h1 x t ha (run_induct h0 h1 h2 n _ (by simp only [List.length_drop, List.length_cons]; omega))

/-- What is told is hardly longer. -/
theorem encAll_short (l : List UInt8) : (encAll l).length + (if alikeB l then 1 else 0) ≤ l.length + (l.length + 127) / 128 + 1 := by
  refine run_induct (P := fun l => (encAll l).length + (if alikeB l then 1 else 0) ≤ l.length + (l.length + 127) / 128 + 1) (by decide) ?_ ?_ l.length l (Nat.le_refl _)
  · intro x t ha ih
    have h3 := runLen_alike ha
    have h4 := runLen_le x 128 (x :: t)
    rw [encAll_run ha, if_pos ha]
    have ih' : (encAll ((x :: t).drop (runLen x 128 (x :: t)))).length ≤ ((x :: t).drop (runLen x 128 (x :: t))).length + (((x :: t).drop (runLen x 128 (x :: t))).length + 127) / 128 + 1 := by
      have := ih; omega
    rw [List.length_drop] at ih'
    simp only [List.length_cons] at ih' h4 ⊢
    omega
  · intro x t ha ih
    have h3 := rawLen_pos ha
    have h4 := rawLen_le 128 (x :: t)
    have h5 := rawLen_end 128 (x :: t)
    rw [encAll_raw ha, if_neg (by rw [ha]; decide)]
    generalize hn : rawLen 128 (x :: t) = n at *
    have hd : ((x :: t).drop n).length = (x :: t).length - n := List.length_drop
    have ht : ((x :: t).take n).length = n := by rw [List.length_take]; omega
    rw [List.length_cons, List.length_append, ht]
    rw [hd] at ih
    rcases h5 with h | h | h
    · generalize (x :: t).length = m at *
      have : (encAll ((x :: t).drop n)).length ≤ m - n + (m - n + 127) / 128 + 1 := by omega
      omega
    · rw [h, encAll_nil]
      have : (x :: t).length - n = 0 := by rw [← hd, h]; rfl
      generalize (x :: t).length = m at *
      simp only [List.length_singleton]
      omega
    · rw [if_pos h] at ih
      generalize (x :: t).length = m at *
      omega
/-- A run of one byte alone. -/
theorem runLen_full (c : UInt8) : ∀ (k n : Nat), n ≤ k → runLen c k (List.replicate n c) = n
  | 0, n, h => by obtain rfl : n = 0 := by omega
                  rfl
  | k + 1, 0, _ => rfl
  | k + 1, n + 1, h => by
    rw [List.replicate_succ, runLen, if_pos rfl, runLen_full c k n (by omega)]
theorem encAll_one {c : UInt8} {n : Nat} (h3 : 3 ≤ n) (h : n ≤ 128) : encAll (List.replicate n c) = [UInt8.ofNat (257 - n), c, 128] := by
  obtain ⟨m, rfl⟩ : ∃ m, n = m + 3 := ⟨n - 3, by omega⟩
  have ha : alikeB (c :: List.replicate (m + 2) c) = true := by
    simp [List.replicate_succ, alikeB]
  have hr : runLen c 128 (c :: List.replicate (m + 2) c) = m + 3 := by
    rw [← List.replicate_succ]; exact runLen_full c 128 (m + 3) h
  rw [List.replicate_succ, encAll_run ha, hr]
  have : (c :: List.replicate (m + 2) c).drop (m + 3) = [] := List.drop_of_length_le (by simp)
  rw [this, encAll_nil]

/-- What parts tell: what was told, and what is ahead. -/
def decR (most : Int) : Nat → List UInt8 → List UInt8 → List UInt8 × Int
  | 0, _, _ => ([], 5)
  | _ + 1, _, [] => ([], 5)
  | f + 1, out, c :: t =>
    if c.toNat = 128 then (if t = [] then (out, 0) else ([], 4))
    else if t.length < (if c.toNat < 128 then c.toNat + 1 else 1) then ([], 5)
    else if most < ((out ++ (if c.toNat < 128 then t.take (c.toNat + 1) else List.replicate (257 - c.toNat) (t.headD 0))).length : Int) then ([], 7)
    else decR most f (out ++ (if c.toNat < 128 then t.take (c.toNat + 1) else List.replicate (257 - c.toNat) (t.headD 0))) (t.drop (if c.toNat < 128 then c.toNat + 1 else 1))
def decAll (l : List UInt8) (most : Int) : List UInt8 × Int := if most < 0 then ([], 2) else decR most (l.length + 1) [] l

theorem decR_nil {most : Int} : ∀ {f : Nat} {out : List UInt8}, decR most f out [] = ([], 5)
  | 0, _ => rfl
  | _ + 1, _ => rfl
theorem decR_end {most : Int} {f : Nat} {out t : List UInt8} {c : UInt8} (h : c.toNat = 128) : decR most (f + 1) out (c :: t) = if t = [] then (out, 0) else ([], 4) := by
  rw [decR, if_pos h]
theorem decR_raw_short {most : Int} {f : Nat} {out t : List UInt8} {c : UInt8} (h : c.toNat < 128) (hl : t.length < c.toNat + 1) : decR most (f + 1) out (c :: t) = ([], 5) := by
  rw [decR, if_neg (by omega), if_pos (by rw [if_pos h]; exact hl)]
theorem decR_raw_big {most : Int} {f : Nat} {out t : List UInt8} {c : UInt8} (h : c.toNat < 128) (hl : ¬ t.length < c.toNat + 1) (hb : most < ((out ++ t.take (c.toNat + 1)).length : Int)) : decR most (f + 1) out (c :: t) = ([], 7) := by
  rw [decR, if_neg (by omega), if_neg (by rw [if_pos h]; exact hl)]
  simp only [if_pos h]
  rw [if_pos hb]
theorem decR_raw {most : Int} {f : Nat} {out t : List UInt8} {c : UInt8} (h : c.toNat < 128) (hl : ¬ t.length < c.toNat + 1) (hb : ¬ most < ((out ++ t.take (c.toNat + 1)).length : Int)) :
    decR most (f + 1) out (c :: t) = decR most f (out ++ t.take (c.toNat + 1)) (t.drop (c.toNat + 1)) := by
  rw [decR, if_neg (by omega), if_neg (by rw [if_pos h]; exact hl)]
  simp only [if_pos h]
  rw [if_neg hb]
theorem decR_run_short {most : Int} {f : Nat} {out : List UInt8} {c : UInt8} (h : 128 < c.toNat) : decR most (f + 1) out [c] = ([], 5) := by
  rw [decR, if_neg (by omega), if_pos (by rw [if_neg (by omega)]; simp)]
theorem decR_run_big {most : Int} {f : Nat} {out t : List UInt8} {c x : UInt8} (h : 128 < c.toNat) (hb : most < ((out ++ List.replicate (257 - c.toNat) x).length : Int)) : decR most (f + 1) out (c :: x :: t) = ([], 7) := by
  rw [decR, if_neg (by omega), if_neg (by rw [if_neg (by omega)]; simp)]
  have h' : ¬ c.toNat < 128 := by omega
  simp only [if_neg h', List.headD_cons]
  rw [if_pos hb]
theorem decR_run {most : Int} {f : Nat} {out t : List UInt8} {c x : UInt8} (h : 128 < c.toNat) (hb : ¬ most < ((out ++ List.replicate (257 - c.toNat) x).length : Int)) :
    decR most (f + 1) out (c :: x :: t) = decR most f (out ++ List.replicate (257 - c.toNat) x) t := by
  rw [decR, if_neg (by omega), if_neg (by rw [if_neg (by omega)]; simp)]
  have h' : ¬ c.toNat < 128 := by omega
  simp only [if_neg h', List.headD_cons]
  rw [if_neg hb]; rfl

theorem byte_nat {n : Nat} (h : n < 256) : (UInt8.ofNat n).toNat = n := by rw [UInt8.toNat_ofNat']; omega
/-- There and back, with just as much room as it needs, and not with less. -/
theorem dec_encAll (most : Int) (l : List UInt8) : ∀ (f : Nat) (out : List UInt8), (encAll l).length ≤ f → (out.length : Int) ≤ most →
    decR most f out (encAll l) = if most < ((out ++ l).length : Int) then ([], 7) else (out ++ l, 0) := by
  refine run_induct (P := fun l => ∀ (f : Nat) (out : List UInt8), (encAll l).length ≤ f → (out.length : Int) ≤ most →
    decR most f out (encAll l) = if most < ((out ++ l).length : Int) then ([], 7) else (out ++ l, 0)) ?_ ?_ ?_ l.length l (Nat.le_refl _)
  · intro f out hf hm
    obtain ⟨g, rfl⟩ : ∃ g, f = g + 1 := ⟨f - 1, by rw [encAll_nil] at hf; simp at hf; omega⟩
    rw [encAll_nil, decR_end rfl, if_pos rfl, List.append_nil, if_neg (by omega)]
  · intro x t ha ih f out hf hm
    have h3 := runLen_alike ha
    have h4 := runLen_le x 128 (x :: t)
    have h5 := runLen_take x 128 (x :: t)
    rw [encAll_run ha] at hf ⊢
    simp only [List.length_cons] at hf
    obtain ⟨g, rfl⟩ : ∃ g, f = g + 1 := ⟨f - 1, by omega⟩
    generalize hn : runLen x 128 (x :: t) = n at *
    have hc : (UInt8.ofNat (257 - n)).toNat = 257 - n := byte_nat (by omega)
    have e : 257 - (257 - n) = n := by omega
    have hsplit : out ++ List.replicate n x ++ (x :: t).drop n = out ++ (x :: t) := by rw [← h5, List.append_assoc, List.take_append_drop]
    have hlen : (out ++ (x :: t)).length = (out ++ List.replicate n x).length + ((x :: t).drop n).length := by rw [← hsplit, List.length_append]
    by_cases hb : most < ((out ++ List.replicate n x).length : Int)
    · rw [decR_run_big (by omega) (by rw [hc, e]; exact hb), if_pos (by omega)]
    · rw [decR_run (by omega) (by rw [hc, e]; exact hb), hc, e, ih g _ (by omega) (by omega), hsplit]
  · intro x t ha ih f out hf hm
    have h3 := rawLen_pos ha
    have h4 := rawLen_le 128 (x :: t)
    rw [encAll_raw ha] at hf ⊢
    simp only [List.length_cons, List.length_append] at hf
    obtain ⟨g, rfl⟩ : ∃ g, f = g + 1 := ⟨f - 1, by omega⟩
    generalize hn : rawLen 128 (x :: t) = n at *
    have hc : (UInt8.ofNat (n - 1)).toNat = n - 1 := byte_nat (by omega)
    have e : n - 1 + 1 = n := by omega
    have ht : ((x :: t).take n).length = n := by rw [List.length_take]; omega
    have etake : ((x :: t).take n ++ encAll ((x :: t).drop n)).take n = (x :: t).take n := List.take_left' ht
    have edrop : ((x :: t).take n ++ encAll ((x :: t).drop n)).drop n = encAll ((x :: t).drop n) := List.drop_left' ht
    have hsplit : out ++ (x :: t).take n ++ (x :: t).drop n = out ++ (x :: t) := by rw [List.append_assoc, List.take_append_drop]
    have hlen : (out ++ (x :: t)).length = (out ++ (x :: t).take n).length + ((x :: t).drop n).length := by rw [← hsplit, List.length_append]
    have hlong : ¬ ((x :: t).take n ++ encAll ((x :: t).drop n)).length < n := by rw [List.length_append, ht]; omega
    by_cases hb : most < ((out ++ (x :: t).take n).length : Int)
    · rw [decR_raw_big (by omega) (by rw [hc, e]; exact hlong) (by rw [hc, e, etake]; exact hb), if_pos (by omega)]
    · rw [decR_raw (by omega) (by rw [hc, e]; exact hlong) (by rw [hc, e, etake]; exact hb), hc, e, etake, edrop, ih g _ (by rw [ht] at hf; omega) (by omega), hsplit]

end Go.Proofs.Ytaoeaadgcdoldaa
