/-
  Numbers as bytes, the highest ahead: plain facts, no program in sight.
-/
import Derived.Test.YtjdhpemkajijnaaDPlain
namespace Go.Proofs.Ytjdhpemkajijnaa

/-- The lowest bytes of a number, the highest ahead. -/
def loN : Nat → Nat → List UInt8
  | 0, _ => []
  | i + 1, n => UInt8.ofNat (n / 256 ^ i % 256) :: loN i n
theorem loN_length : ∀ i n, (loN i n).length = i
  | 0, _ => rfl
  | i + 1, n => by simp [loN, loN_length i n]

/-- The number that bytes are. -/
def valB (l : List UInt8) : Nat := l.foldl (fun a c => 256 * a + c.toNat) 0
theorem valB_snoc (l : List UInt8) (c : UInt8) : valB (l ++ [c]) = 256 * valB l + c.toNat := by simp [valB]
theorem valB_from (l : List UInt8) (x : Nat) : l.foldl (fun a c => 256 * a + c.toNat) x = x * 256 ^ l.length + valB l := by
  unfold valB
  induction l generalizing x with
  | nil => simp
  | cons c l ih =>
    rw [List.foldl_cons, ih, List.foldl_cons, ih (256 * 0 + c.toNat), List.length_cons, Nat.pow_succ]
    rw [Nat.add_mul, Nat.add_mul]
    simp only [Nat.mul_zero, Nat.zero_mul, Nat.zero_add]
    have : 256 * x * 256 ^ l.length = x * (256 ^ l.length * 256) := by rw [Nat.mul_comm 256 x, Nat.mul_assoc, Nat.mul_comm 256]
    omega
theorem valB_cons (c : UInt8) (l : List UInt8) : valB (c :: l) = c.toNat * 256 ^ l.length + valB l := by
  have := valB_from l (256 * 0 + c.toNat)
  unfold valB at this ⊢
  rw [List.foldl_cons, this]; simp
theorem valB_lt : ∀ l : List UInt8, valB l < 256 ^ l.length
  | [] => by simp [valB]
  | c :: l => by
    have h1 := valB_lt l
    have h2 := c.toNat_lt
    rw [valB_cons, List.length_cons, Nat.pow_succ]
    have h3 : (c.toNat + 1) * 256 ^ l.length ≤ 256 * 256 ^ l.length := Nat.mul_le_mul_right _ (by omega)
    rw [Nat.add_mul, Nat.one_mul] at h3
    omega
theorem valB_take (s : ByteArray) (k : Nat) (h : k < s.size) : valB (s.data.toList.take (k + 1)) = 256 * valB (s.data.toList.take k) + s[k].toNat := by
  rw [take_snoc s k h, valB_snoc]
theorem valB_bound {l : List UInt8} {k : Nat} (h : l.length ≤ k) : valB l < 256 ^ k :=
  Nat.lt_of_lt_of_le (valB_lt l) (Nat.pow_le_pow_right (by omega) h)

/-- A number's bytes, and the error. -/
def putF (n width : Int) : List UInt8 × Int :=
  if width < 0 ∨ 8 < width then ([], 2) else if n < 0 ∨ (256 : Int) ^ width.toNat ≤ n then ([], 3) else (loN width.toNat n.toNat, 0)
theorem putF_arg {n width : Int} (h : width < 0 ∨ 8 < width) : putF n width = ([], 2) := by unfold putF; rw [if_pos h]
theorem putF_neg {n width : Int} (h : ¬ (width < 0 ∨ 8 < width)) (h' : n < 0) : putF n width = ([], 3) := by unfold putF; rw [if_neg h, if_pos (.inl h')]
theorem pow_cast (w : Nat) : (256 : Int) ^ w = ((256 ^ w : Nat) : Int) := by simp
theorem putF_big {n w : Nat} (h : w ≤ 8) (h' : 256 ^ w ≤ n) : putF (n : Int) (w : Int) = ([], 3) := by
  unfold putF
  rw [if_neg (by omega), if_pos]
  right
  rw [Int.toNat_natCast, pow_cast]; omega
theorem putF_ok {n w : Nat} (h : w ≤ 8) (h' : n < 256 ^ w) : putF (n : Int) (w : Int) = (loN w n, 0) := by
  unfold putF
  rw [if_neg (by omega), if_neg]
  · simp
  · rw [Int.toNat_natCast, pow_cast]; omega

/-- The number of bytes, and the error. -/
def getF (l : List UInt8) : Int × Int :=
  if 8 < l.length then (0, 2) else if 9223372036854775808 ≤ valB l then (0, 3) else ((valB l : Int), 0)
theorem getF_arg {l : List UInt8} (h : 8 < l.length) : getF l = (0, 2) := by unfold getF; rw [if_pos h]
theorem getF_range {l : List UInt8} (h : ¬ 8 < l.length) (h' : 9223372036854775808 ≤ valB l) : getF l = (0, 3) := by unfold getF; rw [if_neg h, if_pos h']
theorem getF_ok {l : List UInt8} (h : ¬ 8 < l.length) (h' : ¬ 9223372036854775808 ≤ valB l) : getF l = ((valB l : Int), 0) := by unfold getF; rw [if_neg h, if_neg h']
theorem valB_high {c : UInt8} {t : List UInt8} (h : t.length = 7) : 9223372036854775808 ≤ valB (c :: t) ↔ 127 < c.toNat := by
  have h1 := valB_lt t
  rw [valB_cons, h]
  rw [h] at h1
  have e : (256 : Nat) ^ 7 = 72057594037927936 := by decide
  rw [e] at h1 ⊢
  omega
theorem valB_low {l : List UInt8} (h : l.length ≤ 7) : ¬ 9223372036854775808 ≤ valB l := by
  have h1 := valB_bound h
  have e : (256 : Nat) ^ 7 = 72057594037927936 := by decide
  omega
theorem getF_bound (l : List UInt8) : 0 ≤ (getF l).1 ∧ (getF l).1 ≤ 9223372036854775807 := by
  unfold getF; split
  · simp
  · split <;> simp; omega

/-- The least width of a number. -/
def widN (n : Nat) : Nat := if n = 0 then 0 else widN (n / 256) + 1
theorem widN_zero : widN 0 = 0 := by rw [widN, if_pos rfl]
theorem widN_pos {n : Nat} (h : ¬ n = 0) : widN n = widN (n / 256) + 1 := by rw [widN, if_neg h]
theorem widN_iff : ∀ (w n : Nat), widN n ≤ w ↔ n < 256 ^ w
  | 0, n => by
    by_cases h : n = 0
    · subst h; simp [widN_zero]
    · rw [widN_pos h]; simp; omega
  | w + 1, n => by
    by_cases h : n = 0
    · subst h; simp [widN_zero]; exact Nat.pow_pos (by omega)
    · rw [widN_pos h, Nat.add_le_add_iff_right, widN_iff w (n / 256), Nat.pow_succ, Nat.div_lt_iff_lt_mul (by omega)]
theorem widN_8 {n : Nat} (h : n ≤ 9223372036854775807) : widN n ≤ 8 := (widN_iff 8 n).2 (by have e : (256 : Nat) ^ 8 = 18446744073709551616 := by decide
                                                                                            omega)

/-- The least width of numbers, behind those that a width has done for. -/
def needFrom : Nat → List Int → Int
  | w, [] => w
  | w, n :: ns => if n < 0 then -1 else needFrom (max w (widN n.toNat)) ns
def needF (ns : List Int) : Int := needFrom 0 ns

/-- What stands ahead, and what the rest makes. -/
def joinF (s : List UInt8) (r : List UInt8 × Int) : List UInt8 × Int := if r.2 = 0 then (s ++ r.1, 0) else ([], r.2)
/-- Numbers' bytes, one behind the other. -/
def rowGo : List Int → List Int → List UInt8 × Int
  | n :: ns, w :: ws => if (putF n w).2 = 0 then joinF (putF n w).1 (rowGo ns ws) else ([], (putF n w).2)
  | _, _ => ([], 0)
def rowF (ns ws : List Int) : List UInt8 × Int := if ns.length ≠ ws.length ∨ 16 < ns.length then ([], 2) else rowGo ns ws
theorem joinF_join (a b : List UInt8) (r : List UInt8 × Int) : joinF a (joinF b r) = joinF (a ++ b) r := by
  unfold joinF
  by_cases h : r.2 = 0
  · simp [h]
  · simp [h]
theorem joinF_nil (r : List UInt8 × Int) (h : r.2 = 0 ∨ r.1 = []) : joinF [] r = r := by
  unfold joinF
  obtain ⟨a, b⟩ := r
  simp only at h ⊢
  by_cases hb : b = 0
  · subst hb; simp
  · rw [if_neg hb]
    rcases h with h | h
    · exact absurd h hb
    · rw [h]
theorem rowGo_shape : ∀ ns ws, (rowGo ns ws).2 = 0 ∨ (rowGo ns ws).1 = []
  | [], _ => by simp [rowGo]
  | _ :: _, [] => by simp [rowGo]
  | n :: ns, w :: ws => by
    unfold rowGo joinF
    split
    · split
      · exact .inl rfl
      · exact .inr rfl
    · exact .inr rfl
theorem rowGo_step {ns ws : List Int} {k : Nat} {n w : Int} (hn : ns[k]? = some n) (hw : ws[k]? = some w) :
    rowGo (ns.drop k) (ws.drop k) = if (putF n w).2 = 0 then joinF (putF n w).1 (rowGo (ns.drop (k + 1)) (ws.drop (k + 1))) else ([], (putF n w).2) := by
  obtain ⟨h1, rfl⟩ := List.getElem?_eq_some_iff.1 hn
  obtain ⟨h2, rfl⟩ := List.getElem?_eq_some_iff.1 hw
  rw [List.drop_eq_getElem_cons h1, List.drop_eq_getElem_cons h2]; rfl

/-- The widths together. -/
def sumW : List Int → Int
  | [] => 0
  | w :: ws => w + sumW ws
theorem sumW_drop {ws : List Int} {j : Nat} {v : Int} (h : ws[j]? = some v) : sumW (ws.drop j) = v + sumW (ws.drop (j + 1)) := by
  obtain ⟨h1, rfl⟩ := List.getElem?_eq_some_iff.1 h
  rw [List.drop_eq_getElem_cons h1]; rfl
theorem sumW_nonneg : ∀ {ws : List Int}, (∀ v ∈ ws, 0 ≤ v) → 0 ≤ sumW ws
  | [], _ => by simp [sumW]
  | w :: ws, h => by
    have h1 := sumW_nonneg (ws := ws) (fun v hv => h v (by simp [hv]))
    have h2 := h w (by simp)
    simp only [sumW]; omega
/-- The numbers of bytes, each in its width. -/
def cutGo : List UInt8 → List Int → List Int × Int
  | l, w :: ws =>
    if (getF (l.take w.toNat)).2 = 0 then (if (cutGo (l.drop w.toNat) ws).2 = 0 then ((getF (l.take w.toNat)).1 :: (cutGo (l.drop w.toNat) ws).1, 0) else ([], (cutGo (l.drop w.toNat) ws).2))
    else ([], (getF (l.take w.toNat)).2)
  | _, [] => ([], 0)
def cutF (l : List UInt8) (ws : List Int) : List Int × Int :=
  if 16 < ws.length then ([], 2) else if ws.any (fun w => decide (w < 0 ∨ 8 < w)) then ([], 2) else if sumW ws ≠ l.length then ([], 4) else cutGo l ws

/-- What was told ahead, and what the rest tells. -/
def joinC (os : List Int) (r : List Int × Int) : List Int × Int := if r.2 = 0 then (os ++ r.1, 0) else ([], r.2)
theorem cut_stop {l : List UInt8} {ws : List Int} {j v : Nat} {os : List Int} {n e : Int} (h : ws[j]? = some (v : Int)) (hg : getF (l.take v) = (n, e)) (he : ¬ e = 0) :
    joinC os (cutGo l (ws.drop j)) = ([], e) := by
  obtain ⟨h1, h2⟩ := List.getElem?_eq_some_iff.1 h
  rw [List.drop_eq_getElem_cons h1, h2]
  unfold cutGo
  rw [Int.toNat_natCast, hg, if_neg he]
  unfold joinC; rw [if_neg he]
theorem cut_more {l : List UInt8} {ws : List Int} {j v : Nat} {os : List Int} {n : Int} (h : ws[j]? = some (v : Int)) (hg : getF (l.take v) = (n, 0)) :
    joinC os (cutGo l (ws.drop j)) = joinC (os ++ [n]) (cutGo (l.drop v) (ws.drop (j + 1))) := by
  obtain ⟨h1, h2⟩ := List.getElem?_eq_some_iff.1 h
  rw [List.drop_eq_getElem_cons h1, h2]
  rw [cutGo, Int.toNat_natCast, hg, if_pos rfl]
  unfold joinC
  by_cases hr : (cutGo (l.drop v) (ws.drop (j + 1))).2 = 0
  · simp [hr]
  · simp [hr]
theorem cutGo_shape : ∀ (ws : List Int) (l : List UInt8), (cutGo l ws).2 = 0 ∨ (cutGo l ws).1 = []
  | [], _ => by simp [cutGo]
  | w :: ws, l => by
    unfold cutGo
    split
    · split
      · exact .inl rfl
      · exact .inr rfl
    · exact .inr rfl
theorem joinC_nil {r : List Int × Int} (h : r.2 = 0 ∨ r.1 = []) : joinC [] r = r := by
  unfold joinC
  obtain ⟨a, b⟩ := r
  simp only at h ⊢
  by_cases hb : b = 0
  · subst hb; simp
  · rw [if_neg hb]
    rcases h with h | h
    · exact absurd h hb
    · rw [h]
theorem cutF_long {l : List UInt8} {ws : List Int} (h : 16 < ws.length) : cutF l ws = ([], 2) := by unfold cutF; rw [if_pos h]
theorem cutF_bad {l : List UInt8} {ws : List Int} {v : Int} (hv : v ∈ ws) (h : v < 0 ∨ 8 < v) : cutF l ws = ([], 2) := by
  unfold cutF
  split
  · rfl
  · rw [if_pos]
    rw [List.any_eq_true]
    exact ⟨v, hv, decide_eq_true h⟩
theorem cutF_form {l : List UInt8} {ws : List Int} (h : ¬ 16 < ws.length) (hw : ∀ v ∈ ws, 0 ≤ v ∧ v ≤ 8) (hs : ¬ sumW ws = l.length) : cutF l ws = ([], 4) := by
  unfold cutF
  rw [if_neg h, if_neg, if_pos hs]
  rw [List.any_eq_true]
  rintro ⟨v, hv, hd⟩
  have := of_decide_eq_true hd
  have := hw v hv
  omega
theorem cutF_go {l : List UInt8} {ws : List Int} (h : ¬ 16 < ws.length) (hw : ∀ v ∈ ws, 0 ≤ v ∧ v ≤ 8) (hs : sumW ws = l.length) : cutF l ws = cutGo l ws := by
  unfold cutF
  rw [if_neg h, if_neg, if_neg (by rw [hs]; simp)]
  rw [List.any_eq_true]
  rintro ⟨v, hv, hd⟩
  have := of_decide_eq_true hd
  have := hw v hv
  omega

end Go.Proofs.Ytjdhpemkajijnaa
