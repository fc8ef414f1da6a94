/-
  WrPlain, DBack, WrInj: texts merged.
-/
import Derived.Test.YtejgcnmbngdkiaaGreatDoorNVal
import Derived.Test.YtejgcnmbngdkiaaGreatDoorNPlain
/-
  Values as texts, plainly: no program in sight.
-/
namespace Go.Proofs.YtejgcnmbngdkiaaGreatDoor
section
set_option autoImplicit false

/-- A byte that a line may have; one that stands in a name as it is. -/
def shownB (c : UInt8) : Bool := decide (32 ≤ c.toNat ∧ c.toNat ≤ 126)
def bareB (c : UInt8) : Bool := shownB c && (decide (kindI (c.toNat : Int) = 2) && decide (c.toNat ≠ 35))
def nameB (c : UInt8) : List UInt8 := if bareB c = true then [c] else [35, digB (c.toNat / 16), digB (c.toNat % 16)]
def nameG (l : List UInt8) : List UInt8 := l.flatMap nameB
/-- A name's text. -/
def nameW (l : List UInt8) : List UInt8 := 47 :: nameG l
def escB (c : UInt8) : List UInt8 := if c.toNat = 40 ∨ c.toNat = 41 ∨ c.toNat = 92 then [92, c] else [c]
def escG (l : List UInt8) : List UInt8 := l.flatMap escB
/-- A text's text. -/
def bytesW (l : List UInt8) : List UInt8 := if l.all shownB = true then 40 :: (escG l ++ [41]) else 60 :: encH l
theorem nameG_nil : nameG [] = [] := rfl
theorem nameG_cons (c : UInt8) (l : List UInt8) : nameG (c :: l) = nameB c ++ nameG l := rfl
theorem nameG_snoc (l : List UInt8) (c : UInt8) : nameG (l ++ [c]) = nameG l ++ nameB c := by simp [nameG]
theorem escG_cons (c : UInt8) (l : List UInt8) : escG (c :: l) = escB c ++ escG l := rfl
theorem escG_snoc (l : List UInt8) (c : UInt8) : escG (l ++ [c]) = escG l ++ escB c := by simp [escG]
theorem nameB_length (c : UInt8) : (nameB c).length ≤ 3 := by unfold nameB; split <;> simp
theorem escB_length (c : UInt8) : (escB c).length ≤ 2 := by unfold escB; split <;> simp
theorem nameG_length : ∀ l : List UInt8, (nameG l).length ≤ 3 * l.length
  | [] => Nat.le_refl _
  | c :: l => by rw [nameG_cons, List.length_append, List.length_cons]; have := nameG_length l; have := nameB_length c; omega
theorem escG_length : ∀ l : List UInt8, (escG l).length ≤ 2 * l.length
  | [] => Nat.le_refl _
  | c :: l => by rw [escG_cons, List.length_append, List.length_cons]; have := escG_length l; have := escB_length c; omega
theorem nameW_length (l : List UInt8) : (nameW l).length ≤ 3 * l.length + 1 := by unfold nameW; rw [List.length_cons]; have := nameG_length l; omega
theorem bytesW_length (l : List UInt8) : (bytesW l).length ≤ 2 * l.length + 2 := by
  unfold bytesW; split
  · rw [List.length_cons, List.length_append]; have := escG_length l; simp; omega
  · rw [List.length_cons, encH_length]; omega

def openW (k : Int) : List UInt8 := if k = 5 then [91] else [60, 60]
def closeW (k : Int) : List UInt8 := if k = 5 then [93] else [62, 62]
def boolW (n : Int) : List UInt8 := if n = 0 then [102, 97, 108, 115, 101] else [116, 114, 117, 101]
def nullW : List UInt8 := [110, 117, 108, 108]
def linkW (n g : Int) : List UInt8 := putL n ++ 32 :: (putL g ++ [32, 82])
def gapW (i : Nat) : List UInt8 := if i = 0 then [] else [32]
mutual
/-- A value's text. -/
def textV : Val → List UInt8
  | .mk k n g s l d =>
    if k = 0 then nullW
    else if k = 1 then boolW n
    else if k = 2 then putL n
    else if k = 3 then nameW s.data.toList
    else if k = 4 then bytesW s.data.toList
    else if k = 7 then linkW n g
    else openW k ++ (elemsW 0 l ++ (prsW 0 d ++ closeW k))
/-- What is held, from one of that place on. -/
def elemsW : Nat → List Val → List UInt8
  | _, [] => []
  | i, v :: t => gapW i ++ (textV v ++ elemsW (i + 1) t)
def prsW : Nat → List (ByteArray × Val) → List UInt8
  | _, [] => []
  | i, (k, v) :: t => gapW i ++ (nameW k.data.toList ++ (32 :: (textV v ++ prsW (i + 1) t)))
end
theorem textV_eq (v : Val) : textV v = if v.kind = 0 then nullW else if v.kind = 1 then boolW v.n else if v.kind = 2 then putL v.n else if v.kind = 3 then nameW v.s.data.toList else if v.kind = 4 then bytesW v.s.data.toList
    else if v.kind = 7 then linkW v.n v.g else openW v.kind ++ (elemsW 0 v.l ++ (prsW 0 v.d ++ closeW v.kind)) := by cases v; rw [textV]; rfl

/-- A value that may be, somewhere, but no stream. -/
def OkV (v : Val) : Prop := ∃ m, checkV v false m = 0
theorem OkV.l {v x : Val} (h : OkV v) (hx : x ∈ v.l) : OkV x := by
  obtain ⟨m, h⟩ := h
  exact ⟨_, checkL_zero.1 (checkV_zero.1 h).2.1 x hx⟩
theorem OkV.d {v : Val} {p : ByteArray × Val} (h : OkV v) (hx : p ∈ v.d) : OkV p.2 := by
  obtain ⟨m, h⟩ := h
  exact ⟨_, ((checkD_zero.1 (checkV_zero.1 h).2.2).1 p hx).2⟩
theorem OkV.kind {v : Val} (h : OkV v) : 0 ≤ v.kind ∧ v.kind ≤ 7 := by
  obtain ⟨m, h⟩ := h
  have := (oneV_zero.1 (checkV_zero.1 h).1).1
  simp only [and_true] at this
  omega
theorem OkV.bare {v : Val} (h : OkV v) : bareV v = v := by
  have hk := h.kind
  obtain ⟨m, h⟩ := h
  have h2 := (oneV_zero.1 (checkV_zero.1 h).1).2.1
  have hx : extraV v = false := by cases he : extraV v; rfl; exact absurd (.inl he) h2
  exact bareV_of_extra hx hk.1 (by omega)
theorem OkV.out {v : Val} (h : OkV v) : outV v = false := by
  obtain ⟨m, h⟩ := h
  exact (oneV_zero.1 (checkV_zero.1 h).1).2.2.1
theorem OkV.bool {v : Val} (h : OkV v) (hk : v.kind = 1) : v.n = 0 ∨ v.n = 1 := by
  have := h.out
  unfold outV at this
  rw [if_pos hk] at this
  have := of_decide_eq_false this
  omega
theorem OkV.int {v : Val} (h : OkV v) (hk : v.kind = 2) : -2147483647 ≤ v.n ∧ v.n ≤ 2147483647 := by
  have := h.out
  unfold outV at this
  rw [if_neg (by omega), if_pos hk] at this
  have := of_decide_eq_false this
  omega
theorem OkV.link {v : Val} (h : OkV v) (hk : v.kind = 7) : 1 ≤ v.n ∧ v.n ≤ 8388607 ∧ 0 ≤ v.g ∧ v.g ≤ 65535 := by
  have := h.out
  unfold outV at this
  rw [if_neg (by omega), if_neg (by omega), if_pos hk] at this
  have := of_decide_eq_false this
  omega
theorem OkV.noPairs {v : Val} (h : OkV v) (hk : v.kind ≠ 6) : v.d = [] := by
  have hb := h.bare
  have hk8 := h.kind.2
  cases v with
  | mk k n g s l d =>
    rw [Val.kind_mk] at hk hk8
    rw [bareV] at hb
    rw [← hb]
    repeat' split
    all_goals first | rfl | omega
theorem OkV.noElems {v : Val} (h : OkV v) (hk : v.kind ≠ 5) : v.l = [] := by
  have hb := h.bare
  cases v with
  | mk k n g s l d =>
    rw [Val.kind_mk] at hk
    rw [bareV] at hb
    rw [← hb]
    repeat' split
    all_goals first | rfl | omega

/-! How long a text is at most. -/
theorem putL_length (n : Int) (h0 : -9223372036854775808 ≤ n) (h1 : n ≤ 9223372036854775807) : (putL n).length ≤ 20 := by
  unfold putL; split
  · rw [List.length_cons]; have := decN_19 n.natAbs (by omega); omega
  · have := decN_19 n.natAbs (by omega); omega
theorem gapW_length (i : Nat) : (gapW i).length ≤ 1 := by unfold gapW; split <;> simp
theorem elemsW_length : ∀ (l : List Val) (i : Nat), (∀ x ∈ l, (textV x).length + 9500 ≤ 20000 * sizeV x) → (elemsW i l).length ≤ 20000 * sizeL l
  | [], i, _ => by rw [elemsW]; exact Nat.zero_le _
  | v :: t, i, h => by
    rw [elemsW, sizeL, List.length_append, List.length_append]
    have h1 := h v (List.mem_cons_self ..)
    have h2 := elemsW_length t (i + 1) (fun x hx => h x (List.mem_cons_of_mem _ hx))
    have h3 := gapW_length i
    omega
theorem prsW_length : ∀ (d : List (ByteArray × Val)) (i : Nat), (∀ p ∈ d, (textV p.2).length + 9500 ≤ 20000 * sizeV p.2 ∧ p.1.size ≤ 3000) → (prsW i d).length ≤ 20000 * sizeD d
  | [], i, _ => by rw [prsW]; exact Nat.zero_le _
  | (k, v) :: t, i, h => by
    rw [prsW, sizeD, List.length_append, List.length_append, List.length_cons, List.length_append]
    have h1 := h (k, v) (List.mem_cons_self ..)
    have h2 := prsW_length t (i + 1) (fun x hx => h x (List.mem_cons_of_mem _ hx))
    have h3 := gapW_length i
    have h4 := nameW_length k.data.toList
    dsimp only at h1
    rw [← size_data] at h4
    omega
theorem textV_length {m : Nat} (v : Val) : OkV v → Fit v m → (textV v).length + 9500 ≤ 20000 * sizeV v := by
  induction v using Val.ind with
  | h v hl hd =>
    intro ho hf
    have h1 := elemsW_length v.l 0 (fun x hx => hl x hx (ho.l hx) (hf.l hx))
    have h2 := prsW_length v.d 0 (fun p hp => ⟨hd p hp (ho.d hp) (hf.d hp).1, (hf.d hp).2⟩)
    have h3 := hf.s
    have h4 := nameW_length v.s.data.toList
    have h5 := bytesW_length v.s.data.toList
    rw [← size_data] at h4 h5
    rw [textV_eq, sizeV_eq]
    split
    · simp [nullW]; omega
    split
    · unfold boolW; split <;> simp <;> omega
    split
    · rename_i hk; have := ho.int hk; have := putL_length v.n (by omega) (by omega); omega
    split
    · omega
    split
    · omega
    split
    · rename_i hk; have := ho.link hk; have := putL_length v.n (by omega) (by omega); have := putL_length v.g (by omega) (by omega)
      unfold linkW
      rw [List.length_append, List.length_cons, List.length_append]
      simp only [List.length_cons, List.length_nil]
      omega
    · rw [List.length_append, List.length_append, List.length_append]
      have h6 : (openW v.kind).length ≤ 2 := by unfold openW; split <;> simp
      have h7 : (closeW v.kind).length ≤ 2 := by unfold closeW; split <;> simp
      omega

/-! All that is written can be seen. -/
def SeenL (l : List UInt8) : Prop := ∀ c ∈ l, 32 ≤ c.toNat ∧ c.toNat ≤ 126
theorem SeenL.app {a b : List UInt8} (ha : SeenL a) (hb : SeenL b) : SeenL (a ++ b) := fun c hc => (List.mem_append.1 hc).elim (ha c) (hb c)
theorem SeenL.cons {c : UInt8} {l : List UInt8} (hc : 32 ≤ c.toNat ∧ c.toNat ≤ 126) (hl : SeenL l) : SeenL (c :: l) := fun x hx => by
  rcases List.mem_cons.1 hx with e | e
  · rw [e]; exact hc
  · exact hl x e
theorem SeenL.nil : SeenL [] := fun _ h => absurd h List.not_mem_nil
theorem SeenL.flat {f : UInt8 → List UInt8} {l : List UInt8} (h : ∀ c ∈ l, SeenL (f c)) : SeenL (l.flatMap f) := fun c hc => by
  obtain ⟨x, hx, h2⟩ := List.mem_flatMap.1 hc
  exact h x hx c h2
theorem digB_seen {n : Nat} (h : n < 16) : 48 ≤ (digB n).toNat ∧ (digB n).toNat ≤ 70 := by
  have a := digitI_range h
  have b := digB_nat h
  omega
theorem nameB_seen (c : UInt8) : SeenL (nameB c) := by
  have h := c.toNat_lt
  have h1 := digB_seen (show c.toNat / 16 < 16 by omega)
  have h2 := digB_seen (show c.toNat % 16 < 16 by omega)
  unfold nameB
  split
  · rename_i hb
    unfold bareB at hb
    rw [Bool.and_eq_true] at hb
    exact SeenL.cons (of_decide_eq_true hb.1) .nil
  · exact SeenL.cons (by decide) (SeenL.cons (by omega) (SeenL.cons (by omega) .nil))
theorem nameW_seen (l : List UInt8) : SeenL (nameW l) := SeenL.cons (by decide) (SeenL.flat fun c _ => nameB_seen c)
theorem escB_seen {c : UInt8} (h : shownB c = true) : SeenL (escB c) := by
  have := of_decide_eq_true h
  unfold escB
  split
  · exact SeenL.cons (by decide) (SeenL.cons this .nil)
  · exact SeenL.cons this .nil
theorem bytesW_seen (l : List UInt8) : SeenL (bytesW l) := by
  unfold bytesW
  split
  · rename_i h
    exact SeenL.cons (by decide) (SeenL.app (SeenL.flat fun c hc => escB_seen (List.all_eq_true.1 h c hc)) (SeenL.cons (by decide) .nil))
  · exact SeenL.cons (by decide) fun c hc => by have := encH_seen hc; omega
theorem dig_seen (n : Nat) (h : n < 10) : 48 ≤ (dig n).toNat ∧ (dig n).toNat ≤ 57 := by
  have : ∀ k : Fin 10, 48 ≤ (dig k.1).toNat ∧ (dig k.1).toNat ≤ 57 := by decide
  exact this ⟨n, h⟩
theorem decN_seen (n : Nat) : SeenL (decN n) := by
  induction n using Nat.strongRecOn with
  | _ n ih =>
    by_cases h : n < 10
    · rw [decN_low h]; have := dig_seen n h; exact SeenL.cons (by omega) .nil
    · rw [decN_high h]; have := dig_seen (n % 10) (by omega); exact (ih (n / 10) (by omega)).app (SeenL.cons (by omega) .nil)
theorem putL_seen (n : Int) : SeenL (putL n) := by
  unfold putL; split
  · exact SeenL.cons (by decide) (decN_seen _)
  · exact decN_seen _
theorem gapW_seen (i : Nat) : SeenL (gapW i) := by unfold gapW; split; exact .nil; exact SeenL.cons (by decide) .nil
theorem elemsW_seen : ∀ (l : List Val) (i : Nat), (∀ x ∈ l, SeenL (textV x)) → SeenL (elemsW i l)
  | [], i, _ => by rw [elemsW]; exact .nil
  | v :: t, i, h => by rw [elemsW]; exact (gapW_seen i).app ((h v (List.mem_cons_self ..)).app (elemsW_seen t (i + 1) fun x hx => h x (List.mem_cons_of_mem _ hx)))
theorem prsW_seen : ∀ (d : List (ByteArray × Val)) (i : Nat), (∀ p ∈ d, SeenL (textV p.2)) → SeenL (prsW i d)
  | [], i, _ => by rw [prsW]; exact .nil
  | (k, v) :: t, i, h => by
    rw [prsW]
    exact (gapW_seen i).app ((nameW_seen _).app (SeenL.cons (by decide) ((h (k, v) (List.mem_cons_self ..)).app (prsW_seen t (i + 1) fun x hx => h x (List.mem_cons_of_mem _ hx)))))
theorem textV_seen (v : Val) : SeenL (textV v) := by
  induction v using Val.ind with
  | h v hl hd =>
    rw [textV_eq]
    split
    · unfold nullW SeenL; decide
    split
    · unfold boolW SeenL; split <;> decide
    split
    · exact putL_seen _
    split
    · exact nameW_seen _
    split
    · exact bytesW_seen _
    split
    · exact (putL_seen _).app (SeenL.cons (by decide) ((putL_seen _).app (by unfold SeenL; decide)))
    · have h6 : SeenL (openW v.kind) := by unfold openW SeenL; split <;> decide
      have h7 : SeenL (closeW v.kind) := by unfold closeW SeenL; split <;> decide
      exact h6.app ((elemsW_seen _ _ hl).app ((prsW_seen _ _ hd).app h7))
end
end Go.Proofs.YtejgcnmbngdkiaaGreatDoor
/-
  What is written is read again: plain facts.
-/
namespace Go.Proofs.YtejgcnmbngdkiaaGreatDoor
section

theorem dig_toNat (n : Nat) (h : n < 10) : (dig n).toNat = 48 + n := by
  have : ∀ k : Fin 10, (dig k.1).toNat = 48 + k.1 := by decide
  exact this ⟨n, h⟩
theorem dig_isDig (n : Nat) (h : n < 10) : isDig (dig n) = true := by
  apply isDig_yes <;> rw [dig_toNat n h] <;> omega
theorem decN_digits : ∀ (n : Nat), ∀ c ∈ decN n, isDig c = true := by
  intro n
  induction n using Nat.strongRecOn with
  | _ n ih =>
    intro c hc
    by_cases h : n < 10
    · rw [decN_low h] at hc; simp at hc; subst hc; exact dig_isDig n h
    · rw [decN_high h, List.mem_append] at hc
      rcases hc with hc | hc
      · exact ih (n / 10) (by omega) c hc
      · simp at hc; subst hc; exact dig_isDig _ (by omega)
theorem valN_dec (n : Nat) : valN (decN n) = n := by
  induction n using Nat.strongRecOn with
  | _ n ih =>
    by_cases h : n < 10
    · rw [decN_low h]
      have := valN_snoc [] (dig n)
      simp [valN] at this ⊢
      rw [dig_toNat n h]; omega
    · rw [decN_high h, valN_snoc, ih (n / 10) (by omega), dig_toNat _ (by omega)]; omega
theorem count_all {l : List UInt8} (h : ∀ c ∈ l, isDig c = true) : countN l = l.length := by
  induction l with
  | nil => rfl
  | cons x l ih =>
    unfold countN
    rw [List.takeWhile_cons_of_pos (h x (by simp))]
    have := ih (fun c hc => h c (by simp [hc]))
    unfold countN at this
    simp [this]
theorem decN_first (n : Nat) : ∃ c t, decN n = c :: t ∧ isDig c = true ∧ (0 < n → ¬ c = 48) := by
  induction n using Nat.strongRecOn with
  | _ n ih =>
    by_cases h : n < 10
    · refine ⟨dig n, [], decN_low h, dig_isDig n h, fun h0 e => ?_⟩
      have := congrArg UInt8.toNat e
      rw [dig_toNat n h] at this
      simp at this; omega
    · obtain ⟨c, t, e, h1, h2⟩ := ih (n / 10) (by omega)
      exact ⟨c, t ++ [dig (n % 10)], by rw [decN_high h, e]; rfl, h1, fun _ => h2 (by omega)⟩
theorem decN_10 (n : Nat) (h : n ≤ 2147483647) : (decN n).length ≤ 10 := decN_len 9 n (by omega)

theorem fixL_dec (n : Nat) (h : n ≤ 2147483647) : fixL (decN n) = ((n : Int), 0) := by
  have := fixL_ok (decN_ne n) (count_all (decN_digits n)) (by rw [valN_dec]; exact h)
  rw [valN_dec] at this; exact this
theorem digit_not_sign {c : UInt8} (h : isDig c = true) : ¬ (c.toNat : Int) = 45 ∧ ¬ (c.toNat : Int) = 43 := by
  have := isDig_of h; omega
theorem looseL_dec (n : Nat) (h : n ≤ 2147483647) : looseL (decN n) = ((n : Int), 0) := by
  obtain ⟨c, t, e, h1, _⟩ := decN_first n
  have hf := fixL_dec n h
  rw [e] at hf ⊢
  obtain ⟨h2, h3⟩ := digit_not_sign h1
  show (if (c.toNat : Int) = 45 then _ else _) = _
  rw [if_neg h2, if_neg h3]; exact hf
theorem looseL_neg (n : Nat) (h : n ≤ 2147483647) : looseL (45 :: decN n) = (-(n : Int), 0) := by
  have e : looseL (45 :: decN n) = (-(fixL (decN n)).1, (fixL (decN n)).2) := rfl
  rw [e, fixL_dec n h]
theorem dropMinus_dec (n : Nat) : dropMinus (decN n) = decN n := by
  obtain ⟨c, t, e, h1, _⟩ := decN_first n
  rw [e]
  show (if (c.toNat : Int) = 45 then _ else _) = _
  rw [if_neg (digit_not_sign h1).1]
theorem dropMinus_neg (n : Nat) : dropMinus (45 :: decN n) = decN n := rfl
theorem read_shape {l : List UInt8} {n : Nat} (hd : dropMinus l = decN n) (h : n ≤ 2147483647) (h0 : n = 0 → l = [48]) : readL l = looseL l := by
  have hlen := decN_10 n h
  unfold readL
  rw [if_neg]
  · unfold wholeL
    rw [if_neg]
    rw [hd]; rintro ⟨a, _⟩; omega
  · rw [hd]
    rintro (a | a | a | ⟨a, b⟩)
    · exact decN_ne n a
    · omega
    · exact a (count_all (decN_digits n))
    · obtain ⟨c, t, e, h1, h2⟩ := decN_first n
      rw [e] at a
      simp at a
      by_cases hn : 0 < n
      · exact h2 hn a
      · exact b (h0 (by omega))

/-- What is written is read as the same number, strictly and loosely. -/
theorem loose_put (x : Int) (h0 : -2147483647 ≤ x) (h1 : x ≤ 2147483647) : looseL (putL x) = (x, 0) := by
  unfold putL
  split
  · rw [looseL_neg _ (by omega)]; congr 1; omega
  · rw [looseL_dec _ (by omega)]; congr 1; omega
theorem read_put (x : Int) (h0 : -2147483647 ≤ x) (h1 : x ≤ 2147483647) : readL (putL x) = (x, 0) := by
  rw [← loose_put x h0 h1]
  unfold putL
  split
  · exact read_shape (dropMinus_neg _) (by omega) (fun e => by omega)
  · exact read_shape (dropMinus_dec _) (by omega) (fun e => by rw [e, decN_low (by omega)]; rfl)

theorem valN_noughts (j : Nat) (l : List UInt8) : valN (List.replicate j 48 ++ l) = valN l := by
  have h : valN (List.replicate j 48) = 0 := by
    induction j with
    | zero => rfl
    | succ j ih => rw [List.replicate_succ', valN_snoc, ih]; rfl
  unfold valN at h ⊢
  rw [List.foldl_append, h]
/-- What is padded has its width, is digits alone, and is read as the number. -/
theorem pad_back {x w : Int} (hx : x ≤ 2147483647) {s : List UInt8} (h : padL x w = (s, 0)) :
    (s.length : Int) = w ∧ countN s = s.length ∧ fixL s = (x, 0) := by
  unfold padL at h
  split at h
  · simp at h
  · rename_i hw
    split at h
    · simp at h
    · rename_i hr
      simp only [Prod.mk.injEq, and_true] at h
      have hx0 : ¬ x < 0 := by omega
      have hp : putL x = decN x.natAbs := by unfold putL; rw [if_neg hx0]
      rw [hp] at h hr
      have hall : ∀ c ∈ s, isDig c = true := by
        intro c hc
        rw [← h, List.mem_append] at hc
        rcases hc with hc | hc
        · rw [List.eq_of_mem_replicate hc]; rfl
        · exact decN_digits _ c hc
      have hlen : s.length = (w.toNat - (decN x.natAbs).length) + (decN x.natAbs).length := by rw [← h]; simp
      refine ⟨by omega, count_all hall, ?_⟩
      have hv : valN s = x.natAbs := by rw [← h, valN_noughts, valN_dec]
      have hne : s ≠ [] := by
        intro e; rw [e] at hlen; simp at hlen
        have := decN_ne x.natAbs
        exact this (List.eq_nil_of_length_eq_zero (by omega))
      rw [fixL_ok hne (count_all hall) (by rw [hv]; omega), hv]
      congr 1; omega
/-- Where it is not padded: no text, and why. -/
theorem pad_not {x w : Int} {s : List UInt8} {e : Int} (h : padL x w = (s, e)) (he : ¬ e = 0) : s = [] ∧ (w < 1 ∨ 20 < w ∨ x < 0 ∨ w < ((putL x).length : Int)) := by
  unfold padL at h
  split at h
  · rename_i hw; simp only [Prod.mk.injEq] at h
    exact ⟨h.1.symm, by omega⟩
  · split at h
    · rename_i hr; simp only [Prod.mk.injEq] at h
      exact ⟨h.1.symm, by omega⟩
    · simp only [Prod.mk.injEq] at h; exact absurd h.2.symm he

end
end Go.Proofs.YtejgcnmbngdkiaaGreatDoor
/-
  One text a value: no text of a value begins with another one's, as far as what stands behind is told apart.
-/
namespace Go.Proofs.YtejgcnmbngdkiaaGreatDoor
section
set_option autoImplicit false

def NoDig (r : List UInt8) : Prop := ∀ c t, r = c :: t → isDig c = false
theorem span_digits : ∀ (a b r r' : List UInt8), (∀ c ∈ a, isDig c = true) → (∀ c ∈ b, isDig c = true) → NoDig r → NoDig r' → a ++ r = b ++ r' → a = b ∧ r = r'
  | [], [], _, _, _, _, _, _, h => ⟨rfl, h⟩
  | [], c :: b, r, r', _, hb, hr, _, h => by
    have h1 := hr c (b ++ r') h
    rw [hb c (List.mem_cons_self ..)] at h1; cases h1
  | c :: a, [], r, r', ha, _, _, hr, h => by
    have h1 := hr c (a ++ r) h.symm
    rw [ha c (List.mem_cons_self ..)] at h1; cases h1
  | c :: a, d :: b, r, r', ha, hb, hr, hr', h => by
    simp only [List.cons_append, List.cons.injEq] at h
    obtain ⟨h1, h2⟩ := span_digits a b r r' (fun x hx => ha x (List.mem_cons_of_mem _ hx)) (fun x hx => hb x (List.mem_cons_of_mem _ hx)) hr hr' h.2
    exact ⟨by rw [h.1, h1], h2⟩
theorem decN_inj {a b : Nat} (h : decN a = decN b) : a = b := by rw [← valN_dec a, h, valN_dec]
theorem putL_span {a b : Int} {r r' : List UInt8} (hr : NoDig r) (hr' : NoDig r') (h : putL a ++ r = putL b ++ r') : a = b ∧ r = r' := by
  have hm : ∀ n : Nat, ∀ t t' : List UInt8, 45 :: t ≠ decN n ++ t' := fun n t t' e => by
    obtain ⟨c, u, hc, h1, _⟩ := decN_first n
    rw [hc, List.cons_append, List.cons.injEq] at e
    have h2 := isDig_of h1
    rw [← e.1] at h2
    exact absurd h2.1 (by decide)
  unfold putL at h
  split at h <;> split at h
  · simp only [List.cons_append, List.cons.injEq, true_and] at h
    obtain ⟨h1, h2⟩ := span_digits _ _ _ _ (decN_digits _) (decN_digits _) hr hr' h
    have := decN_inj h1
    exact ⟨by omega, h2⟩
  · exact absurd h (hm _ _ _)
  · exact absurd h.symm (hm _ _ _)
  · obtain ⟨h1, h2⟩ := span_digits _ _ _ _ (decN_digits _) (decN_digits _) hr hr' h
    have := decN_inj h1
    exact ⟨by omega, h2⟩

/-- What may stand behind a value: nothing, a blank, or what closes; and no link's end. -/
def Stop (r : List UInt8) : Prop := (∀ c t, r = c :: t → c.toNat = 32 ∨ c.toNat = 93 ∨ c.toNat = 62) ∧ ∀ ds t, (∀ c ∈ ds, isDig c = true) → r ≠ 32 :: (ds ++ 32 :: 82 :: t)
theorem Stop.noDig {r : List UInt8} (h : Stop r) : NoDig r := fun c t e => by
  have := h.1 c t e
  exact isDig_no (by omega)
theorem Stop.nil : Stop [] := ⟨fun _ _ h => by (cases h), fun _ _ _ h => by (cases h)⟩

/-! Names. -/
def NoName (r : List UInt8) : Prop := ∀ c t, r = c :: t → bareB c = false ∧ c.toNat ≠ 35
theorem Stop.noName {r : List UInt8} (h : Stop r) : NoName r := fun c t e => by
  have := h.1 c t e
  refine ⟨?_, by omega⟩
  unfold bareB kindI
  rcases this with h | h | h <;> simp [h]
theorem noName_blank (r : List UInt8) : NoName (32 :: r) := fun c t e => by
  rw [List.cons.injEq] at e
  rw [← e.1]
  exact ⟨by decide, by decide⟩
theorem digB_inj {a b : Nat} (ha : a < 16) (hb : b < 16) (h : digB a = digB b) : a = b := by
  have : ∀ a b : Fin 16, digB a.1 = digB b.1 → a = b := by decide
  have := this ⟨a, ha⟩ ⟨b, hb⟩ h
  simpa using this
theorem pair_inj {c d : UInt8} (h1 : digB (c.toNat / 16) = digB (d.toNat / 16)) (h2 : digB (c.toNat % 16) = digB (d.toNat % 16)) : c = d := by
  have hc := c.toNat_lt
  have hd := d.toNat_lt
  have h3 := digB_inj (by omega) (by omega) h1
  have h4 := digB_inj (by omega) (by omega) h2
  exact UInt8.toNat_inj.1 (by omega)
theorem bare_not {c : UInt8} (h : bareB c = true) : c ≠ 35 := by
  intro e
  rw [e] at h
  exact absurd h (by decide)
theorem nameG_span : ∀ (l l' r r' : List UInt8), NoName r → NoName r' → nameG l ++ r = nameG l' ++ r' → l = l' ∧ r = r'
  | [], [], _, _, _, _, h => ⟨rfl, h⟩
  | [], d :: b, r, r', hr, _, h => by
    rw [nameG_nil, nameG_cons, nameB] at h
    split at h
    · rename_i hd
      have := (hr d _ h).1
      rw [hd] at this; cases this
    · have := (hr 35 _ h).2
      exact absurd rfl this
  | c :: a, [], r, r', _, hr, h => by
    rw [nameG_nil, nameG_cons, nameB] at h
    split at h
    · rename_i hd
      have := (hr c _ h.symm).1
      rw [hd] at this; cases this
    · have := (hr 35 _ h.symm).2
      exact absurd rfl this
  | c :: a, d :: b, r, r', hr, hr', h => by
    rw [nameG_cons, nameG_cons, nameB, nameB] at h
    split at h <;> split at h
    · simp only [List.cons_append, List.nil_append, List.cons.injEq] at h
      obtain ⟨h1, h2⟩ := nameG_span a b r r' hr hr' h.2
      exact ⟨by rw [h.1, h1], h2⟩
    · rename_i hc _
      simp only [List.cons_append, List.nil_append, List.cons.injEq] at h
      exact absurd h.1 (bare_not hc)
    · rename_i _ hd
      simp only [List.cons_append, List.nil_append, List.cons.injEq] at h
      exact absurd h.1.symm (bare_not hd)
    · simp only [List.cons_append, List.nil_append, List.cons.injEq, true_and] at h
      obtain ⟨h1, h2⟩ := nameG_span a b r r' hr hr' h.2.2
      exact ⟨by rw [pair_inj h.1 h.2.1, h1], h2⟩
theorem data_inj {a b : ByteArray} (h : a.data.toList = b.data.toList) : a = b := by rw [← bytes_of a, h, bytes_of]
theorem nameW_span {a b : ByteArray} {r r' : List UInt8} (hr : NoName r) (hr' : NoName r') (h : nameW a.data.toList ++ r = nameW b.data.toList ++ r') : a = b ∧ r = r' := by
  unfold nameW at h
  rw [List.cons_append, List.cons_append, List.cons.injEq] at h
  obtain ⟨h1, h2⟩ := nameG_span _ _ _ _ hr hr' h.2
  exact ⟨data_inj h1, h2⟩

/-! Texts. -/
theorem escG_span : ∀ (l l' r r' : List UInt8), escG l ++ 41 :: r = escG l' ++ 41 :: r' → l = l' ∧ r = r'
  | [], [], _, _, h => by simpa [escG] using h
  | [], d :: b, r, r', h => by
    rw [escG_cons, escB] at h
    split at h
    · simp [escG] at h
    · rename_i hd
      simp only [escG, List.flatMap_nil, List.nil_append, List.cons_append, List.cons.injEq] at h
      rw [← h.1] at hd
      exact absurd (by decide) hd
  | c :: a, [], r, r', h => by
    rw [escG_cons, escB] at h
    split at h
    · simp [escG] at h
    · rename_i hd
      simp only [escG, List.flatMap_nil, List.nil_append, List.cons_append, List.cons.injEq] at h
      rw [h.1] at hd
      exact absurd (by decide) hd
  | c :: a, d :: b, r, r', h => by
    rw [escG_cons, escG_cons, escB, escB] at h
    split at h <;> split at h
    · simp only [List.cons_append, List.nil_append, List.cons.injEq, true_and] at h
      obtain ⟨h1, h2⟩ := escG_span a b r r' h.2
      exact ⟨by rw [h.1, h1], h2⟩
    · rename_i _ hd
      simp only [List.cons_append, List.nil_append, List.cons.injEq] at h
      rw [← h.1] at hd
      exact absurd (by decide) hd
    · rename_i hc _
      simp only [List.cons_append, List.nil_append, List.cons.injEq] at h
      rw [h.1] at hc
      exact absurd (by decide) hc
    · simp only [List.cons_append, List.nil_append, List.cons.injEq] at h
      obtain ⟨h1, h2⟩ := escG_span a b r r' h.2
      exact ⟨by rw [h.1, h1], h2⟩
theorem digB_not {n : Nat} (h : n < 16) : digB n ≠ 62 ∧ digB n ≠ 60 := by
  have : ∀ a : Fin 16, digB a.1 ≠ 62 ∧ digB a.1 ≠ 60 := by decide
  exact this ⟨n, h⟩
theorem encH_span : ∀ (l l' r r' : List UInt8), encH l ++ r = encH l' ++ r' → l = l' ∧ r = r'
  | [], [], _, _, h => by simpa [encH, encD] using h
  | [], d :: b, r, r', h => by
    have hd := d.toNat_lt
    simp only [encH, encD_cons, encD_nil, List.nil_append, List.cons_append, List.append_assoc, List.cons.injEq] at h
    exact absurd h.1.symm (digB_not (by omega)).1
  | c :: a, [], r, r', h => by
    have hd := c.toNat_lt
    simp only [encH, encD_cons, encD_nil, List.nil_append, List.cons_append, List.append_assoc, List.cons.injEq] at h
    exact absurd h.1 (digB_not (by omega)).1
  | c :: a, d :: b, r, r', h => by
    have h0 : encH a ++ r = encH b ++ r' ∧ c = d := by
      simp only [encH, encD_cons, List.cons_append, List.append_assoc, List.cons.injEq] at h
      refine ⟨?_, pair_inj h.1 h.2.1⟩
      simp only [encH, List.append_assoc]
      exact h.2.2
    obtain ⟨h1, h2⟩ := encH_span a b r r' h0.1
    exact ⟨by rw [h0.2, h1], h2⟩
theorem bytesW_span {a b : ByteArray} {r r' : List UInt8} (h : bytesW a.data.toList ++ r = bytesW b.data.toList ++ r') : a = b ∧ r = r' := by
  unfold bytesW at h
  split at h <;> split at h
  · simp only [List.cons_append, List.append_assoc, List.nil_append, List.cons.injEq, true_and] at h
    obtain ⟨h1, h2⟩ := escG_span _ _ _ _ h
    exact ⟨data_inj h1, h2⟩
  · simp at h
  · simp at h
  · rw [List.cons_append, List.cons_append, List.cons.injEq] at h
    obtain ⟨h1, h2⟩ := encH_span _ _ _ _ h.2
    exact ⟨data_inj h1, h2⟩
/-- A text in digits isn't empty: two signs tell it from a dictionary. -/
theorem bytesW_two {l r : List UInt8} {t : List UInt8} : bytesW l ++ r ≠ 60 :: 60 :: t := by
  unfold bytesW
  split
  · simp
  · rename_i h
    intro e
    cases l with
    | nil => exact h rfl
    | cons c l =>
      have hc := c.toNat_lt
      simp only [encH, encD_cons, List.cons_append, List.cons.injEq, true_and] at e
      exact absurd e.1 (digB_not (by omega)).2

/-! How a text begins. -/
def Heads (k : Int) (c : UInt8) : Prop :=
  (k = 0 → c = 110) ∧ (k = 1 → c = 116 ∨ c = 102) ∧ (k = 2 → isDig c = true ∨ c = 45) ∧ (k = 3 → c = 47) ∧ (k = 4 → c = 40 ∨ c = 60) ∧ (k = 5 → c = 91) ∧ (k = 6 → c = 60) ∧ (k = 7 → isDig c = true)
theorem putL_head (n : Int) : ∃ c t, putL n = c :: t ∧ (isDig c = true ∨ c = 45) ∧ (0 ≤ n → isDig c = true) := by
  unfold putL
  split
  · exact ⟨45, _, rfl, .inr rfl, fun h => by omega⟩
  · obtain ⟨c, t, h, h1, _⟩ := decN_first n.natAbs
    exact ⟨c, t, h, .inl h1, fun _ => h1⟩
theorem textV_head {v : Val} (ho : OkV v) : ∃ c t, textV v = c :: t ∧ Heads v.kind c := by
  have hk := ho.kind
  rw [textV_eq]
  unfold Heads
  split
  · rename_i h; exact ⟨_, _, rfl, by simp [h]⟩
  split
  · rename_i h
    unfold boolW
    split
    · exact ⟨_, _, rfl, by simp [h]⟩
    · exact ⟨_, _, rfl, by simp [h]⟩
  split
  · rename_i h
    obtain ⟨c, t, e, h1, _⟩ := putL_head v.n
    exact ⟨c, t, e, by simp [h, h1]⟩
  split
  · rename_i h; exact ⟨_, _, rfl, by simp [h]⟩
  split
  · rename_i h
    unfold bytesW
    split
    · exact ⟨_, _, rfl, by simp [h]⟩
    · exact ⟨_, _, rfl, by simp [h]⟩
  split
  · rename_i h
    have hn := ho.link h
    obtain ⟨c, t, e, _, h1⟩ := putL_head v.n
    refine ⟨c, t ++ 32 :: (putL v.g ++ [32, 82]), by unfold linkW; rw [e]; rfl, ?_⟩
    simp [h, h1 (by omega)]
  · unfold openW
    split
    · rename_i h; exact ⟨_, _, rfl, by simp [h]⟩
    · have h6 : v.kind = 6 := by omega
      exact ⟨_, _, rfl, by simp [h6]⟩
theorem heads_no {v : Val} (ho : OkV v) {c : UInt8} {t r : List UInt8} (h : textV v ++ r = c :: t) : c ≠ 32 ∧ c ≠ 82 := by
  obtain ⟨d, u, e, hh⟩ := textV_head ho
  rw [e, List.cons_append, List.cons.injEq] at h
  rw [← h.1]
  have hk := ho.kind
  unfold Heads at hh
  have h3 : v.kind = 0 ∨ v.kind = 1 ∨ v.kind = 2 ∨ v.kind = 3 ∨ v.kind = 4 ∨ v.kind = 5 ∨ v.kind = 6 ∨ v.kind = 7 := by omega
  obtain ⟨a0, a1, a2, a3, a4, a5, a6, a7⟩ := hh
  have dg : isDig d = true → d ≠ 32 ∧ d ≠ 82 := fun h => by
    constructor <;> (intro e; rw [e] at h; exact absurd h (by decide))
  rcases h3 with h | h | h | h | h | h | h | h
  · rw [a0 h]; decide
  · rcases a1 h with e | e <;> rw [e] <;> decide
  · rcases a2 h with e | e
    · exact dg e
    · rw [e]; decide
  · rw [a3 h]; decide
  · rcases a4 h with e | e <;> rw [e] <;> decide
  · rw [a5 h]; decide
  · rw [a6 h]; decide
  · exact dg (a7 h)

/-! What stands behind an element, or a pair. -/
theorem textV_int {v : Val} (h : v.kind = 2) : textV v = putL v.n := by rw [textV_eq, if_neg (by omega), if_neg (by omega), if_pos h]
theorem textV_link {v : Val} (h : v.kind = 7) : textV v = linkW v.n v.g := by rw [textV_eq, if_neg (by omega), if_neg (by omega), if_neg (by omega), if_neg (by omega), if_neg (by omega), if_pos h]
/-- No element is a number that a link goes on with. -/
theorem elem_no {v : Val} (ho : OkV v) {ds t r : List UInt8} (hd : ∀ c ∈ ds, isDig c = true) (hr : ∀ u, r ≠ 32 :: 82 :: u) (hn : NoDig r) : textV v ++ r ≠ ds ++ 32 :: 82 :: t := by
  intro e
  cases ds with
  | nil => exact (heads_no ho e).1 rfl
  | cons c ds =>
    obtain ⟨d, u, ed, hh⟩ := textV_head ho
    have hc : d = c := by
      rw [ed, List.cons_append, List.cons_append, List.cons.injEq] at e
      exact e.1
    have hdc : isDig d = true := by rw [hc]; exact hd c (List.mem_cons_self ..)
    have hb : NoDig (32 :: 82 :: t) := fun x y h => by
      rw [List.cons.injEq] at h; rw [← h.1]; decide
    have hk := ho.kind
    by_cases h2 : v.kind = 2
    · rw [textV_int h2] at e
      have hp : 0 ≤ v.n := by
        by_cases h : v.n < 0
        · rw [textV_int h2, putL, if_pos h, List.cons.injEq] at ed
          rw [← ed.1] at hdc
          exact absurd hdc (by decide)
        · omega
      rw [putL, if_neg (by omega)] at e
      exact hr _ (span_digits _ _ _ _ (decN_digits _) hd hn hb e).2
    · by_cases h7 : v.kind = 7
      · rw [textV_link h7, linkW, putL, if_neg (by have := ho.link h7; omega), List.append_assoc] at e
        have h3 := (span_digits _ _ _ _ (decN_digits _) hd (fun x y h => by
          rw [List.cons_append, List.cons.injEq] at h; rw [← h.1]; decide) hb e).2
        rw [putL, if_neg (by have := ho.link h7; omega)] at h3
        obtain ⟨x, y, hx, h4, _⟩ := decN_first v.g.natAbs
        rw [hx] at h3
        simp only [List.cons_append, List.cons.injEq, true_and] at h3
        rw [h3.1] at h4
        exact absurd h4 (by decide)
      · exfalso
        unfold Heads at hh
        have hcs : v.kind = 0 ∨ v.kind = 1 ∨ v.kind = 3 ∨ v.kind = 4 ∨ v.kind = 5 ∨ v.kind = 6 := by omega
        obtain ⟨a0, a1, a2, a3, a4, a5, a6, a7⟩ := hh
        have no : ∀ x : UInt8, isDig x = false → d ≠ x := fun x h e => by rw [e, h] at hdc; cases hdc
        rcases hcs with h | h | h | h | h | h
        · exact no 110 (by decide) (a0 h)
        · rcases a1 h with e | e
          · exact no _ (by decide) e
          · exact no _ (by decide) e
        · exact no _ (by decide) (a3 h)
        · rcases a4 h with e | e
          · exact no _ (by decide) e
          · exact no _ (by decide) e
        · exact no _ (by decide) (a5 h)
        · exact no _ (by decide) (a6 h)
theorem gap_succ (i : Nat) : gapW (i + 1) = [32] := by unfold gapW; rw [if_neg (by omega)]
theorem elems_stop (l : List Val) (i : Nat) (r : List UInt8) (ho : ∀ x ∈ l, OkV x) : Stop (elemsW (i + 1) l ++ 93 :: r) ∧ ∀ u, elemsW (i + 1) l ++ 93 :: r ≠ 32 :: 82 :: u := by
  induction l generalizing i with
  | nil =>
    rw [elemsW]
    refine ⟨⟨fun c t h => ?_, fun ds t _ h => ?_⟩, fun u h => ?_⟩
    · rw [List.nil_append, List.cons.injEq] at h; rw [← h.1]; decide
    · simp at h
    · simp at h
  | cons v t ih =>
    have hv := ho v (List.mem_cons_self ..)
    have ht := ih (i + 1) (fun x hx => ho x (List.mem_cons_of_mem _ hx))
    rw [elemsW, gap_succ, List.append_assoc, List.append_assoc]
    refine ⟨⟨fun c u h => ?_, fun ds u hd h => ?_⟩, fun u h => ?_⟩
    · simp only [List.cons_append, List.cons.injEq] at h; rw [← h.1]; decide
    · simp only [List.cons_append, List.nil_append, List.cons.injEq, true_and] at h
      exact elem_no hv hd ht.2 ht.1.noDig h
    · simp only [List.cons_append, List.nil_append, List.cons.injEq, true_and] at h
      exact (heads_no hv h).2 rfl
theorem prs_stop (d : List (ByteArray × Val)) (i : Nat) (r : List UInt8) : Stop (prsW (i + 1) d ++ 62 :: r) := by
  cases d with
  | nil =>
    rw [prsW]
    refine ⟨fun c t h => ?_, fun ds t _ h => ?_⟩
    · rw [List.nil_append, List.cons.injEq] at h; rw [← h.1]; decide
    · simp at h
  | cons p t =>
    obtain ⟨k, v⟩ := p
    rw [prsW, gap_succ]
    refine ⟨fun c u h => ?_, fun ds u hd h => ?_⟩
    · simp only [List.cons_append, List.cons.injEq] at h; rw [← h.1]; decide
    · simp only [List.cons_append, List.nil_append, nameW, List.cons.injEq, true_and] at h
      cases ds with
      | nil => simp at h
      | cons c ds =>
        rw [List.cons_append, List.cons.injEq] at h
        have := hd c (List.mem_cons_self ..)
        rw [← h.1] at this
        exact absurd this (by decide)

/-! One text a value. -/
def OneT (v : Val) : Prop := OkV v → ∀ w, OkV w → ∀ r r', Stop r → Stop r' → textV v ++ r = textV w ++ r' → v = w ∧ r = r'
theorem elems_span : ∀ (l l' : List Val) (i : Nat) (r r' : List UInt8), (∀ x ∈ l, OneT x) → (∀ x ∈ l, OkV x) → (∀ x ∈ l', OkV x) → elemsW i l ++ 93 :: r = elemsW i l' ++ 93 :: r' → l = l' ∧ r = r'
  | [], [], i, _, _, _, _, _, h => by rw [elemsW] at h; simpa using h
  | [], y :: t, i, r, r', _, _, ho, h => by
    rw [elemsW, elemsW, List.append_assoc, List.append_assoc, List.nil_append] at h
    have hy := ho y (List.mem_cons_self ..)
    exfalso
    unfold gapW at h
    split at h
    · obtain ⟨c, u, e, hh⟩ := textV_head hy
      have hs : ∀ w : Val, OkV w → ∀ u q, textV w ++ u ≠ 93 :: q := fun w hw u q e => by
        obtain ⟨d, z, e2, hh⟩ := textV_head hw
        rw [e2, List.cons_append, List.cons.injEq] at e
        have hk := hw.kind
        unfold Heads at hh
        have hd : isDig 93 = false := by decide
        rw [e.1, hd] at hh
        have h93 : ∀ x : UInt8, x.toNat ≠ 93 → (93 : UInt8) ≠ x := fun x h e => h (by rw [← e]; rfl)
        simp only [h93 110 (by decide), h93 116 (by decide), h93 102 (by decide), h93 45 (by decide), h93 47 (by decide), h93 40 (by decide), h93 60 (by decide), h93 91 (by decide), or_self, imp_false, Bool.false_eq_true] at hh
        omega
      exact hs y hy _ _ h.symm
    · simp at h
  | x :: t, [], i, r, r', _, ho, _, h => by
    rw [elemsW, elemsW, List.append_assoc, List.append_assoc, List.nil_append] at h
    have hy := ho x (List.mem_cons_self ..)
    exfalso
    unfold gapW at h
    split at h
    · have hs : ∀ w : Val, OkV w → ∀ u q, textV w ++ u ≠ 93 :: q := fun w hw u q e => by
        obtain ⟨d, z, e2, hh⟩ := textV_head hw
        rw [e2, List.cons_append, List.cons.injEq] at e
        have hk := hw.kind
        unfold Heads at hh
        have hd : isDig 93 = false := by decide
        rw [e.1, hd] at hh
        have h93 : ∀ x : UInt8, x.toNat ≠ 93 → (93 : UInt8) ≠ x := fun x h e => h (by rw [← e]; rfl)
        simp only [h93 110 (by decide), h93 116 (by decide), h93 102 (by decide), h93 45 (by decide), h93 47 (by decide), h93 40 (by decide), h93 60 (by decide), h93 91 (by decide), or_self, imp_false, Bool.false_eq_true] at hh
        omega
      exact hs x hy _ _ h
    · simp at h
  | x :: t, y :: t', i, r, r', h1, ho, ho', h => by
    rw [elemsW, elemsW, List.append_assoc, List.append_assoc, List.append_assoc, List.append_assoc, List.append_cancel_left_eq] at h
    have hs := (elems_stop t i r (fun x hx => ho x (List.mem_cons_of_mem _ hx))).1
    have hs' := (elems_stop t' i r' (fun x hx => ho' x (List.mem_cons_of_mem _ hx))).1
    obtain ⟨e1, e2⟩ := h1 x (List.mem_cons_self ..) (ho x (List.mem_cons_self ..)) y (ho' y (List.mem_cons_self ..)) _ _ hs hs' h
    obtain ⟨e3, e4⟩ := elems_span t t' (i + 1) r r' (fun x hx => h1 x (List.mem_cons_of_mem _ hx)) (fun x hx => ho x (List.mem_cons_of_mem _ hx)) (fun x hx => ho' x (List.mem_cons_of_mem _ hx)) e2
    exact ⟨by rw [e1, e3], e4⟩
theorem prs_span : ∀ (d d' : List (ByteArray × Val)) (i : Nat) (r r' : List UInt8), (∀ p ∈ d, OneT p.2) → (∀ p ∈ d, OkV p.2) → (∀ p ∈ d', OkV p.2) → prsW i d ++ 62 :: r = prsW i d' ++ 62 :: r' → d = d' ∧ r = r'
  | [], [], i, _, _, _, _, _, h => by rw [prsW] at h; simpa using h
  | [], (k, y) :: t, i, r, r', _, _, ho, h => by
    rw [prsW, prsW] at h
    exfalso
    unfold gapW at h
    split at h <;> simp [nameW] at h
  | (k, x) :: t, [], i, r, r', _, ho, _, h => by
    rw [prsW, prsW] at h
    exfalso
    unfold gapW at h
    split at h <;> simp [nameW] at h
  | (k, x) :: t, (k', y) :: t', i, r, r', h1, ho, ho', h => by
    rw [prsW, prsW, List.append_assoc, List.append_assoc, List.append_assoc, List.append_assoc, List.append_cancel_left_eq, List.cons_append, List.cons_append, List.append_assoc, List.append_assoc] at h
    obtain ⟨e0, h⟩ := nameW_span (noName_blank _) (noName_blank _) h
    rw [List.cons.injEq] at h
    obtain ⟨e1, e2⟩ := h1 (k, x) (List.mem_cons_self ..) (ho (k, x) (List.mem_cons_self ..)) y (ho' (k', y) (List.mem_cons_self ..)) _ _ (prs_stop t i r) (prs_stop t' i r') h.2
    obtain ⟨e3, e4⟩ := prs_span t t' (i + 1) r r' (fun x hx => h1 x (List.mem_cons_of_mem _ hx)) (fun x hx => ho x (List.mem_cons_of_mem _ hx)) (fun x hx => ho' x (List.mem_cons_of_mem _ hx)) e2
    dsimp only at e1
    exact ⟨by rw [e0, e1, e3], e4⟩

/-- How a text begins, as numbers. -/
theorem cls {k : Int} {c : UInt8} (q0 : k = 0 → c = 110) (q1 : k = 1 → c = 116 ∨ c = 102) (q2 : k = 2 → isDig c = true ∨ c = 45) (q3 : k = 3 → c = 47) (q4 : k = 4 → c = 40 ∨ c = 60) (q5 : k = 5 → c = 91) (q6 : k = 6 → c = 60) (q7 : k = 7 → isDig c = true) :
    (k = 0 → c.toNat = 110) ∧ (k = 1 → c.toNat = 116 ∨ c.toNat = 102) ∧ (k = 2 → 48 ≤ c.toNat ∧ c.toNat ≤ 57 ∨ c.toNat = 45) ∧ (k = 3 → c.toNat = 47) ∧ (k = 4 → c.toNat = 40 ∨ c.toNat = 60) ∧ (k = 5 → c.toNat = 91) ∧ (k = 6 → c.toNat = 60) ∧ (k = 7 → 48 ≤ c.toNat ∧ c.toNat ≤ 57) := by
  have dg : isDig c = true → 48 ≤ c.toNat ∧ c.toNat ≤ 57 := fun h => by have := isDig_of h; omega
  have nt : ∀ x : UInt8, c = x → c.toNat = x.toNat := fun x h => by rw [h]
  exact ⟨fun h => nt _ (q0 h), fun h => (q1 h).imp (nt _) (nt _), fun h => (q2 h).imp dg (nt _), fun h => nt _ (q3 h), fun h => (q4 h).imp (nt _) (nt _), fun h => nt _ (q5 h), fun h => nt _ (q6 h), fun h => dg (q7 h)⟩
/-- The kind is told by how a text begins. -/
theorem kind_one {v w : Val} (ho : OkV v) (hw : OkV w) {r r' : List UInt8} (hr : Stop r) (hr' : Stop r') (h : textV v ++ r = textV w ++ r') : v.kind = w.kind := by
  obtain ⟨c, t, e, hh⟩ := textV_head ho
  obtain ⟨d, u, e', hh'⟩ := textV_head hw
  have hcd : c = d := by rw [e, e', List.cons_append, List.cons_append, List.cons.injEq] at h; exact h.1
  have key : ∀ {v w : Val} {r r' : List UInt8}, OkV v → OkV w → Stop r → v.kind = 2 → w.kind = 7 → textV v ++ r ≠ textV w ++ r' := fun {v w r r'} ho hw hr h2 h7 h => by
    rw [textV_int h2, textV_link h7, linkW, List.append_assoc, List.cons_append] at h
    obtain ⟨e1, e2⟩ := putL_span hr.noDig (fun x y h => by rw [List.cons.injEq] at h; rw [← h.1]; decide) h
    rw [List.append_assoc, putL, if_neg (by have := hw.link h7; omega)] at e2
    exact hr.2 _ _ (decN_digits _) e2
  have key2 : ∀ {v w : Val} {r r' : List UInt8}, v.kind = 4 → w.kind = 6 → textV v ++ r ≠ textV w ++ r' := fun {v w r r'} h4 h6 h => by
    rw [textV_eq v, if_neg (by omega), if_neg (by omega), if_neg (by omega), if_neg (by omega), if_pos h4] at h
    rw [textV_eq w, if_neg (by omega), if_neg (by omega), if_neg (by omega), if_neg (by omega), if_neg (by omega), if_neg (by omega), openW, if_neg (by omega)] at h
    exact bytesW_two h
  have hk := ho.kind
  have hk' := hw.kind
  subst hcd
  unfold Heads at hh hh'
  obtain ⟨a0, a1, a2, a3, a4, a5, a6, a7⟩ := hh
  obtain ⟨b0, b1, b2, b3, b4, b5, b6, b7⟩ := hh'
  have hv : v.kind = 0 ∨ v.kind = 1 ∨ v.kind = 2 ∨ v.kind = 3 ∨ v.kind = 4 ∨ v.kind = 5 ∨ v.kind = 6 ∨ v.kind = 7 := by omega
  have hw2 : w.kind = 0 ∨ w.kind = 1 ∨ w.kind = 2 ∨ w.kind = 3 ∨ w.kind = 4 ∨ w.kind = 5 ∨ w.kind = 6 ∨ w.kind = 7 := by omega
  have ca := cls a0 a1 a2 a3 a4 a5 a6 a7
  have cb := cls b0 b1 b2 b3 b4 b5 b6 b7
  clear a0 a1 a2 a3 a4 a5 a6 a7 b0 b1 b2 b3 b4 b5 b6 b7
  by_cases h27 : v.kind = 2 ∧ w.kind = 7
  · exact absurd h (key ho hw hr h27.1 h27.2)
  by_cases h72 : v.kind = 7 ∧ w.kind = 2
  · exact absurd h.symm (key hw ho hr' h72.2 h72.1)
  by_cases h46 : v.kind = 4 ∧ w.kind = 6
  · exact absurd h (key2 h46.1 h46.2)
  by_cases h64 : v.kind = 6 ∧ w.kind = 4
  · exact absurd h.symm (key2 h64.2 h64.1)
  generalize c.toNat = n at ca cb
  generalize v.kind = k at *
  generalize w.kind = k' at *
  clear h key key2 e e' hr hr' ho hw hk hk'
  obtain ⟨a0, a1, a2, a3, a4, a5, a6, a7⟩ := ca
  obtain ⟨b0, b1, b2, b3, b4, b5, b6, b7⟩ := cb
  rcases hv with h | h | h | h | h | h | h | h
  · have x := a0 h
    clear a0 a1 a2 a3 a4 a5 a6 a7
    rcases hw2 with g | g | g | g | g | g | g | g <;> simp only [g, true_implies] at b0 b1 b2 b3 b4 b5 b6 b7 <;> omega
  · have x := a1 h
    clear a0 a1 a2 a3 a4 a5 a6 a7
    rcases hw2 with g | g | g | g | g | g | g | g <;> simp only [g, true_implies] at b0 b1 b2 b3 b4 b5 b6 b7 <;> omega
  · have x := a2 h
    clear a0 a1 a2 a3 a4 a5 a6 a7
    rcases hw2 with g | g | g | g | g | g | g | g <;> simp only [g, true_implies] at b0 b1 b2 b3 b4 b5 b6 b7 <;> omega
  · have x := a3 h
    clear a0 a1 a2 a3 a4 a5 a6 a7
    rcases hw2 with g | g | g | g | g | g | g | g <;> simp only [g, true_implies] at b0 b1 b2 b3 b4 b5 b6 b7 <;> omega
  · have x := a4 h
    clear a0 a1 a2 a3 a4 a5 a6 a7
    rcases hw2 with g | g | g | g | g | g | g | g <;> simp only [g, true_implies] at b0 b1 b2 b3 b4 b5 b6 b7 <;> omega
  · have x := a5 h
    clear a0 a1 a2 a3 a4 a5 a6 a7
    rcases hw2 with g | g | g | g | g | g | g | g <;> simp only [g, true_implies] at b0 b1 b2 b3 b4 b5 b6 b7 <;> omega
  · have x := a6 h
    clear a0 a1 a2 a3 a4 a5 a6 a7
    rcases hw2 with g | g | g | g | g | g | g | g <;> simp only [g, true_implies] at b0 b1 b2 b3 b4 b5 b6 b7 <;> omega
  · have x := a7 h
    clear a0 a1 a2 a3 a4 a5 a6 a7
    rcases hw2 with g | g | g | g | g | g | g | g <;> simp only [g, true_implies] at b0 b1 b2 b3 b4 b5 b6 b7 <;> omega
theorem text_one (v : Val) : OneT v := by
  induction v using Val.ind with
  | h v hl hd =>
    intro ho w hw r r' hr hr' h
    have hkk := kind_one ho hw hr hr' h
    have hbv := ho.bare
    have hbw := hw.bare
    have hk := ho.kind
    obtain ⟨k, n, g, s, l, d⟩ := v
    obtain ⟨k', n', g', s', l', d'⟩ := w
    simp only [Val.kind_mk] at hkk hk
    subst hkk
    rw [textV_eq, textV_eq] at h
    simp only [Val.kind_mk, Val.n_mk, Val.g_mk, Val.s_mk, Val.l_mk, Val.d_mk] at h
    have hcs : k = 0 ∨ k = 1 ∨ k = 2 ∨ k = 3 ∨ k = 4 ∨ k = 5 ∨ k = 6 ∨ k = 7 := by omega
    rcases hcs with rfl | rfl | rfl | rfl | rfl | rfl | rfl | rfl
    · simp only [if_true, List.append_cancel_left_eq] at h
      rw [← hbv, ← hbw]
      exact ⟨rfl, h⟩
    · have h1 := ho.bool rfl
      have h2 := hw.bool rfl
      simp only [Val.n_mk] at h1 h2
      rw [← hbv, ← hbw]
      rcases h1 with rfl | rfl <;> rcases h2 with rfl | rfl <;> simp [boolW] at h ⊢
      · exact ⟨rfl, h⟩
      · exact ⟨rfl, h⟩
    · simp only [show ¬ (2 : Int) = 0 by decide, show ¬ (2 : Int) = 1 by decide, if_false, if_true] at h
      obtain ⟨e1, e2⟩ := putL_span hr.noDig hr'.noDig h
      rw [← hbv, ← hbw, e1]
      exact ⟨rfl, e2⟩
    · simp only [show ¬ (3 : Int) = 0 by decide, show ¬ (3 : Int) = 1 by decide, show ¬ (3 : Int) = 2 by decide, if_false, if_true] at h
      obtain ⟨e1, e2⟩ := nameW_span hr.noName hr'.noName h
      rw [← hbv, ← hbw, e1]
      exact ⟨rfl, e2⟩
    · simp only [show ¬ (4 : Int) = 0 by decide, show ¬ (4 : Int) = 1 by decide, show ¬ (4 : Int) = 2 by decide, show ¬ (4 : Int) = 3 by decide, if_false, if_true] at h
      obtain ⟨e1, e2⟩ := bytesW_span h
      rw [← hbv, ← hbw, e1]
      exact ⟨rfl, e2⟩
    · have e0 : d = [] := ho.noPairs (by simp)
      have e0' : d' = [] := hw.noPairs (by simp)
      subst e0 e0'
      simp only [show ¬ (5 : Int) = 0 by decide, show ¬ (5 : Int) = 1 by decide, show ¬ (5 : Int) = 2 by decide, show ¬ (5 : Int) = 3 by decide, show ¬ (5 : Int) = 4 by decide, show ¬ (5 : Int) = 7 by decide, if_false, if_true, prsW, openW, closeW, List.cons_append, List.nil_append, List.append_assoc, List.cons.injEq, true_and] at h
      obtain ⟨e1, e2⟩ := elems_span l l' 0 r r' hl (fun x hx => ho.l hx) (fun x hx => hw.l hx) h
      rw [← hbv, ← hbw, e1]
      exact ⟨rfl, e2⟩
    · have e0 : l = [] := ho.noElems (by simp)
      have e0' : l' = [] := hw.noElems (by simp)
      subst e0 e0'
      simp only [show ¬ (6 : Int) = 0 by decide, show ¬ (6 : Int) = 1 by decide, show ¬ (6 : Int) = 2 by decide, show ¬ (6 : Int) = 3 by decide, show ¬ (6 : Int) = 4 by decide, show ¬ (6 : Int) = 5 by decide, show ¬ (6 : Int) = 7 by decide, if_false, elemsW, openW, closeW, List.cons_append, List.nil_append, List.append_assoc, List.cons.injEq, true_and] at h
      obtain ⟨e1, e2⟩ := prs_span d d' 0 (62 :: r) (62 :: r') hd (fun x hx => ho.d hx) (fun x hx => hw.d hx) h
      rw [← hbv, ← hbw, e1]
      exact ⟨rfl, by simpa using e2⟩
    · simp only [show ¬ (7 : Int) = 0 by decide, show ¬ (7 : Int) = 1 by decide, show ¬ (7 : Int) = 2 by decide, show ¬ (7 : Int) = 3 by decide, show ¬ (7 : Int) = 4 by decide, if_false, if_true, linkW, List.append_assoc, List.cons_append] at h
      have hb : ∀ t, NoDig (32 :: t) := fun t x y h => by rw [List.cons.injEq] at h; rw [← h.1]; decide
      obtain ⟨e1, e2⟩ := putL_span (hb _) (hb _) h
      rw [List.cons.injEq] at e2
      obtain ⟨e3, e4⟩ := putL_span (hb _) (hb _) e2.2
      rw [← hbv, ← hbw, e1, e3]
      exact ⟨rfl, by simpa using e4⟩
/-- Two values that may be have one text just if they are one. -/
theorem text_iff {v w : Val} (ho : OkV v) (hw : OkV w) : textV v = textV w ↔ v = w :=
  ⟨fun h => (text_one v ho w hw [] [] Stop.nil Stop.nil (by rw [h])).1, fun h => by rw [h]⟩
end
end Go.Proofs.YtejgcnmbngdkiaaGreatDoor
