/-
  A row restored by the row ahead; rows told one by one: plain facts, no program in sight.
-/
import Derived.Test.YtjkppdgakokelaaPrPlain
namespace Go.Proofs.Ytjkppdgakokelaa
set_option maxRecDepth 100000
/-- What stands ahead of a place (0 ahead of the first). -/
def befB (l : List UInt8) (k : Nat) : UInt8 := if k = 0 then 0 else l[k - 1]?.getD 0
/-- A byte of a row restored: it goes behind what was restored. -/
def restOne (kind : Nat) (ahead done : List UInt8) (x : UInt8) : List UInt8 :=
  done ++ [UInt8.ofNat (x.toNat + guessP kind (befB done done.length).toNat (ahead[done.length]?.getD 0).toNat (befB ahead done.length).toNat)]
/-- A row restored. -/
def restR (kind : Nat) (ahead row : List UInt8) : List UInt8 := row.foldl (restOne kind ahead) []
theorem restOne_length (kind : Nat) (ahead done : List UInt8) (x : UInt8) : (restOne kind ahead done x).length = done.length + 1 := by simp [restOne]
theorem restF_length (kind : Nat) (ahead : List UInt8) : ∀ (row done : List UInt8), (row.foldl (restOne kind ahead) done).length = done.length + row.length
  | [], done => rfl
  | x :: row, done => by
    show (row.foldl (restOne kind ahead) (restOne kind ahead done x)).length = _
    rw [restF_length kind ahead row, restOne_length, List.length_cons]; omega
theorem restR_length (kind : Nat) (ahead row : List UInt8) : (restR kind ahead row).length = row.length := by
  unfold restR; rw [restF_length]; simp
theorem restR_snoc (kind : Nat) (ahead row : List UInt8) (x : UInt8) : restR kind ahead (row ++ [x]) = restOne kind ahead (restR kind ahead row) x := by
  unfold restR; rw [List.foldl_append]; rfl
theorem restR_take {kind : Nat} {ahead row : List UInt8} {k : Nat} (h : k < row.length) : restR kind ahead (row.take (k + 1)) = restOne kind ahead (restR kind ahead (row.take k)) row[k] := by
  rw [List.take_succ_eq_append_getElem h, restR_snoc]
theorem restF_pre (kind : Nat) (ahead : List UInt8) : ∀ (row done : List UInt8), ∃ t, row.foldl (restOne kind ahead) done = done ++ t
  | [], done => ⟨[], (List.append_nil _).symm⟩
  | x :: row, done => by
    obtain ⟨t, ht⟩ := restF_pre kind ahead row (restOne kind ahead done x)
    refine ⟨[UInt8.ofNat (x.toNat + guessP kind (befB done done.length).toNat (ahead[done.length]?.getD 0).toNat (befB ahead done.length).toNat)] ++ t, ?_⟩
    show row.foldl (restOne kind ahead) (restOne kind ahead done x) = _
    rw [ht, ← List.append_assoc]; rfl
theorem restR_pre (kind : Nat) (ahead row : List UInt8) {k : Nat} (h : k ≤ row.length) : (restR kind ahead row).take k = restR kind ahead (row.take k) := by
  have e : restR kind ahead row = (row.drop k).foldl (restOne kind ahead) (restR kind ahead (row.take k)) := by
    unfold restR
    rw [← List.foldl_append, List.take_append_drop]
  obtain ⟨t, ht⟩ := restF_pre kind ahead (row.drop k) (restR kind ahead (row.take k))
  rw [e, ht]
  have hl : (restR kind ahead (row.take k)).length = k := by rw [restR_length, List.length_take]; omega
  rw [List.take_append_of_le_length (by omega), List.take_of_length_le (by omega)]
theorem befB_take {l : List UInt8} {k : Nat} : befB (l.take k) k = befB l k := by
  unfold befB
  split
  · rfl
  · rw [List.getElem?_take_of_lt (by omega)]
/-- A byte of a row that was restored. -/
theorem restR_at {kind : Nat} {ahead row : List UInt8} {k : Nat} (h : k < row.length) :
    (restR kind ahead row)[k]? = some (UInt8.ofNat (row[k].toNat + guessP kind (befB (restR kind ahead row) k).toNat (ahead[k]?.getD 0).toNat (befB ahead k).toNat)) := by
  have h1 := restR_pre kind ahead row (k := k + 1) h
  have h2 := restR_pre kind ahead row (k := k) (by omega)
  have hl : (restR kind ahead (row.take k)).length = k := by rw [restR_length, List.length_take]; omega
  have e : ((restR kind ahead row).take (k + 1))[k]? = (restR kind ahead row)[k]? := List.getElem?_take_of_lt (by omega)
  rw [← e, h1, restR_take h]
  unfold restOne
  rw [List.getElem?_append_right (by omega), hl, Nat.sub_self, ← h2, befB_take]
  rfl
theorem befB_succ {l : List UInt8} {k : Nat} {x : UInt8} (h : l[k]? = some x) : befB l (k + 1) = x := by
  unfold befB
  rw [if_neg (by omega), Nat.add_sub_cancel, h]; rfl
/-- One byte more of a row is restored. -/
theorem rest_put {l row : List UInt8} {k : Nat} {y : UInt8} (hl : l.length = row.length) (hk : k < row.length) (hy : l[k]? = some y) : (l.take k ++ row.drop k).set k y = l.take (k + 1) ++ row.drop (k + 1) := by
  have hk' : k < l.length := by omega
  obtain ⟨_, e⟩ := List.getElem?_eq_some_iff.1 hy
  rw [List.set_append_right _ _ (by rw [List.length_take]; omega), List.length_take, show min k l.length = k by omega, Nat.sub_self, List.drop_eq_getElem_cons hk, List.set_cons_zero, List.take_succ_eq_append_getElem hk', e, List.append_assoc]
  rfl
theorem rest_get {l row : List UInt8} {k : Nat} (hl : l.length = row.length) (hk : k < row.length) : (l.take k ++ row.drop k)[k]? = some row[k] := by
  rw [List.getElem?_append_right (by rw [List.length_take]; omega), List.length_take, show min k l.length = k by omega, Nat.sub_self, List.getElem?_drop, Nat.add_zero, List.getElem?_eq_getElem hk]
/-- The row ahead of the next one: noughts ahead of the first. -/
def aheadOf (n : Nat) (out : List UInt8) : List UInt8 := if out.length < n then List.replicate n 0 else out.drop (out.length - n)
theorem aheadOf_nil {n : Nat} (h : 1 ≤ n) : aheadOf n [] = List.replicate n 0 := by unfold aheadOf; rw [if_pos (by simpa using Nat.lt_of_lt_of_le Nat.zero_lt_one h)]
theorem aheadOf_app {n : Nat} {out x : List UInt8} (h : x.length = n) : aheadOf n (out ++ x) = x := by
  unfold aheadOf
  rw [List.length_append, if_neg (by omega), h, Nat.add_sub_cancel, List.drop_append_of_le_length (Nat.le_refl _), List.drop_length, List.nil_append]
theorem aheadOf_length (n : Nat) (out : List UInt8) : (aheadOf n out).length = n := by
  unfold aheadOf
  split
  · simp
  · rw [List.length_drop]; omega
theorem above_ahead {n r : Nat} {out done : List UInt8} (ho : out.length = r * n) (hd : done.length < n) : aboveP (out ++ done) n (out.length + done.length) = (aheadOf n out)[done.length]?.getD 0 := by
  unfold aboveP aheadOf
  cases r with
  | zero =>
    rw [Nat.zero_mul] at ho
    rw [if_neg (by omega), if_pos (by omega), List.getElem?_replicate, if_pos hd]; rfl
  | succ r =>
    rw [Nat.add_mul, Nat.one_mul] at ho
    rw [if_pos (by omega), if_neg (by omega), List.getElem?_append_left (by omega), List.getElem?_drop, show out.length - n + done.length = out.length + done.length - n by omega]
theorem left_done {n r : Nat} {out done : List UInt8} (ho : out.length = r * n) (hd : done.length < n) : leftP (out ++ done) n (out.length + done.length) = befB done done.length := by
  unfold leftP befB
  have hm : (out.length + done.length) % n = done.length := by rw [ho, Nat.mul_comm, Nat.mul_add_mod, Nat.mod_eq_of_lt hd]
  rw [hm]
  by_cases h0 : done.length = 0
  · rw [if_pos h0, if_pos h0]
  · rw [if_neg h0, if_neg h0, List.getElem?_append_right (by omega), show out.length + done.length - 1 - out.length = done.length - 1 by omega]
theorem corner_ahead {n r : Nat} {out done : List UInt8} (ho : out.length = r * n) (hd : done.length < n) : cornerP (out ++ done) n (out.length + done.length) = befB (aheadOf n out) done.length := by
  unfold cornerP befB aheadOf
  have hm : (out.length + done.length) % n = done.length := by rw [ho, Nat.mul_comm, Nat.mul_add_mod, Nat.mod_eq_of_lt hd]
  rw [hm]
  by_cases h0 : done.length = 0
  · rw [if_pos (.inl h0), if_pos h0]
  · rw [if_neg h0]
    cases r with
    | zero =>
      rw [Nat.zero_mul] at ho
      rw [if_pos (.inr (by omega)), if_pos (by omega), List.getElem?_replicate]
      split <;> rfl
    | succ r =>
      rw [Nat.add_mul, Nat.one_mul] at ho
      rw [if_neg (by omega), if_neg (by omega), List.getElem?_append_left (by omega), List.getElem?_drop, show out.length - n + (done.length - 1) = out.length + done.length - n - 1 by omega]
theorem decOne_rest {n kind r : Nat} {out done : List UInt8} {c : UInt8} (ho : out.length = r * n) (hd : done.length < n) : decOne n kind (out ++ done) c = out ++ restOne kind (aheadOf n out) done c := by
  unfold decOne restOne
  rw [List.length_append, above_ahead ho hd, left_done ho hd, corner_ahead ho hd, List.append_assoc]
theorem decRow_restF {n kind r : Nat} {out : List UInt8} (ho : out.length = r * n) : ∀ (row done : List UInt8), done.length + row.length ≤ n → decRow n kind (out ++ done) row = out ++ row.foldl (restOne kind (aheadOf n out)) done
  | [], done, _ => rfl
  | c :: row, done, h => by
    rw [List.length_cons] at h
    show decRow n kind (decOne n kind (out ++ done) c) row = out ++ row.foldl (restOne kind (aheadOf n out)) (restOne kind (aheadOf n out) done c)
    rw [decOne_rest ho (by omega), decRow_restF ho row _ (by rw [restOne_length]; omega)]
/-- A row told is the row restored by the one ahead. -/
theorem decRow_rest {n kind r : Nat} {out row : List UInt8} (ho : out.length = r * n) (h : row.length ≤ n) : decRow n kind out row = out ++ restR kind (aheadOf n out) row := by
  have := decRow_restF (kind := kind) ho row [] (by simpa using h)
  rwa [List.append_nil] at this
theorem restR_plain (ahead row : List UInt8) : restR 0 ahead row = row := by
  unfold restR
  suffices h : ∀ (row done : List UInt8), row.foldl (restOne 0 ahead) done = done ++ row by simpa using h row []
  intro row
  induction row with
  | nil => intro done; simp
  | cons x row ih =>
    intro done
    show row.foldl (restOne 0 ahead) (restOne 0 ahead done x) = _
    rw [ih]
    unfold restOne guessP
    simp
/-- How far two numbers are from one another, as the greater of both differences. -/
def apartP (a b : Int) : Int := if a - b < b - a then b - a else a - b
theorem apartP_away (a b : Int) : apartP a b = awayP a b := by unfold apartP awayP; split <;> split <;> omega
theorem apartP_nonneg (a b : Int) : 0 ≤ apartP a b := by unfold apartP; split <;> omega
theorem awayP_comm (a b : Int) : awayP a b = awayP b a := by unfold awayP; split <;> split <;> omega
/-- The nearer one of two; the first one, of two that are as near. -/
def nearOne (aim m n : Int) : Int := if apartP n aim < apartP m aim then n else m
theorem nearOne_self (aim m : Int) : nearOne aim m m = m := by unfold nearOne; split <;> rfl
theorem near_guess (a b c : Nat) : nearOne ((a : Int) + b - c) (nearOne ((a : Int) + b - c) (nearOne ((a : Int) + b - c) a a) b) c = (guessP 4 a b c : Nat) := by
  rw [nearOne_self]
  unfold guessP
  rw [if_neg (by decide), if_neg (by decide), if_neg (by decide), if_pos rfl]
  generalize (a : Int) + b - c = p
  have hab : nearOne p (a : Int) (b : Int) = if awayP p b < awayP p a then (b : Int) else a := by unfold nearOne; rw [apartP_away, apartP_away, awayP_comm (b : Int), awayP_comm (a : Int)]
  have hc : ∀ m : Int, nearOne p m (c : Int) = if awayP p c < awayP p m then (c : Int) else m := fun m => by unfold nearOne; rw [apartP_away, apartP_away, awayP_comm (c : Int), awayP_comm m]
  rw [hab, hc]
  by_cases h1 : awayP p b < awayP p a
  · rw [if_pos h1]
    by_cases h2 : awayP p c < awayP p b
    · rw [if_pos h2, if_neg (by omega), if_neg (by omega)]
    · rw [if_neg h2, if_neg (by omega), if_pos (by omega)]
  · rw [if_neg h1]
    by_cases h2 : awayP p c < awayP p a
    · rw [if_pos h2, if_neg (by omega), if_neg (by omega)]
    · rw [if_neg h2, if_pos (by omega)]
/-- What a row of a kind is, told. -/
theorem decRows_cons {n m r : Nat} {out l : List UInt8} (ho : out.length = r * n) :
    decRows n (m + 1) out l = if 4 < (l[0]?.getD 0).toNat then none else decRows n m (out ++ restR (l[0]?.getD 0).toNat (aheadOf n out) ((l.drop 1).take n)) (l.drop (n + 1)) := by
  rw [decRows]
  split
  · rfl
  · rw [decRow_rest ho]
    rw [List.length_take]; omega
end Go.Proofs.Ytjkppdgakokelaa
