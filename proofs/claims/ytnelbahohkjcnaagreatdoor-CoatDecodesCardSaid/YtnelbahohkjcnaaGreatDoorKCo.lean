/-
  CoZw, CoPlain, CoBound, CoFits, CoSize: texts merged.
-/
import Derived.Test.YtnelbahohkjcnaaGreatDoorKBack
import Derived.Test.YtnelbahohkjcnaaGreatDoorKZt
import Derived.Test.YtnelbahohkjcnaaGreatDoorKPlain
/-
  What is wrapped is unwrapped with any room that suffices, and is hardly longer: plain facts.
-/
namespace Go.Proofs.YtnelbahohkjcnaaGreatDoor
section
theorem wrapZ_short {l : List UInt8} (hl : l.length ≤ 65535) : (wrapZ l).length ≤ l.length + 11 := by
  rw [wrapZ_length]
  have h : (bestZ l).length ≤ (storedZ l).length := by
    unfold bestZ
    split <;> omega
  rw [storedZ_length] at h
  omega
theorem unwrapZ_within {l : List UInt8} {M : Nat} : (unwrapZ l (M : Int)).1.length ≤ M := by
  match l with
  | [] => simp [unwrapZ]; split <;> simp
  | [a] => simp [unwrapZ]; split <;> simp
  | a :: b :: t =>
    show (if (M : Int) < 0 then ([], 2) else if headNo a.toNat b.toNat = true then ([], 4) else restZ t (inflZ t M)).1.length ≤ M
    rw [if_neg (by omega)]
    split
    · simp
    · obtain ⟨o, n, e, h⟩ : ∃ o n e, inflZ t (M : Int) = (o, n, e) := ⟨_, _, _, rfl⟩
      have hw := (inflZ_within h).2
      rw [h]
      unfold restZ
      repeat' split
      all_goals first | exact Nat.zero_le _ | exact hw
end
end Go.Proofs.YtnelbahohkjcnaaGreatDoor
/-
  Filters, by their numbers (1 hex, 2 runs, 3 deflate), one within the other: plain facts, no program in sight.
-/
namespace Go.Proofs.YtnelbahohkjcnaaGreatDoor
section
set_option maxRecDepth 100000
def checkC (ks : List Nat) (columns : Int) : Int :=
  if columns < 0 ∨ 256 < columns then 2 else if 4 < ks.length ∨ 0 ∈ ks ∨ (columns ≠ 0 ∧ ks.getLast? ≠ some 3) then 16 else 0
def encK (k : Nat) (l : List UInt8) : List UInt8 := if k = 1 then encH l else if k = 2 then encAll l else wrapZ l
def decK (k : Nat) (l : List UInt8) (room : Int) : List UInt8 × Int := if k = 1 then decH l else if k = 2 then decAll l room else unwrapZ l room
def encKs : List Nat → List UInt8 → List UInt8
  | [], l => l
  | k :: ks, l => encK k (encKs ks l)
def decKs : List Nat → List UInt8 → Int → List UInt8 × Int
  | [], l, _ => (l, 0)
  | k :: ks, l, room => if (decK k l room).2 ≠ 0 then ([], (decK k l room).2) else decKs ks (decK k l room).1 room
def encC (ks : List Nat) (columns : Int) (l : List UInt8) : List UInt8 × Int :=
  if checkC ks columns ≠ 0 then ([], checkC ks columns) else if 1048576 < l.length then ([], 7)
  else if columns = 0 then (encKs ks l, 0) else if (encP l columns).2 ≠ 0 then ([], (encP l columns).2) else (encKs ks (encP l columns).1, 0)
def mostC (l : List UInt8) (most : Int) : List UInt8 × Int := if most < (l.length : Int) then ([], 7) else (l, 0)
def decC (ks : List Nat) (columns : Int) (l : List UInt8) (most : Int) : List UInt8 × Int :=
  if checkC ks columns ≠ 0 then ([], checkC ks columns) else if most < 0 ∨ 1048576 < most then ([], 2)
  else if (decKs ks l (16 * most + 1024)).2 ≠ 0 then ([], (decKs ks l (16 * most + 1024)).2)
  else if columns = 0 then mostC (decKs ks l (16 * most + 1024)).1 most
  else if (decP (decKs ks l (16 * most + 1024)).1 columns).2 ≠ 0 then ([], (decP (decKs ks l (16 * most + 1024)).1 columns).2)
  else mostC (decP (decKs ks l (16 * most + 1024)).1 columns).1 most
theorem encK_length {k : Nat} {l : List UInt8} (hl : l.length ≤ 65535) : (encK k l).length ≤ 2 * l.length + 11 := by
  unfold encK
  split
  · rw [encH_length]; omega
  · split
    · have := encAll_short l
      split at this <;> omega
    · have := wrapZ_short hl
      omega
def growC : Nat → Nat → Nat
  | 0, n => n
  | m + 1, n => 2 * growC m n + 11
theorem growC_le : ∀ (m n : Nat), n ≤ growC m n
  | 0, n => Nat.le_refl _
  | m + 1, n => by have := growC_le m n; unfold growC; omega
theorem growC_mono : ∀ (m n k : Nat), n ≤ k → growC m n ≤ growC m k
  | 0, n, k, h => h
  | m + 1, n, k, h => by have := growC_mono m n k h; unfold growC; omega
theorem encKs_length : ∀ (ks : List Nat) (l : List UInt8), growC ks.length l.length ≤ 65535 → (encKs ks l).length ≤ growC ks.length l.length
  | [], l, _ => Nat.le_refl _
  | k :: ks, l, h => by
    rw [List.length_cons, growC] at h ⊢
    have ih := encKs_length ks l (by omega)
    have := encK_length (k := k) (l := encKs ks l) (by omega)
    rw [encKs]
    omega
theorem checkC_ok {ks : List Nat} {columns : Int} (h : checkC ks columns = 0) : 0 ≤ columns ∧ columns ≤ 256 ∧ ks.length ≤ 4 ∧ 0 ∉ ks ∧ (columns ≠ 0 → ks.getLast? = some 3) := by
  unfold checkC at h
  split at h
  · exact absurd h (by decide)
  · split at h
    · exact absurd h (by decide)
    · rename_i h1 h2
      refine ⟨by omega, by omega, by omega, fun hm => h2 (.inr (.inl hm)), fun hc => ?_⟩
      by_cases h3 : ks.getLast? = some 3
      · exact h3
      · exact absurd (.inr (.inr ⟨hc, h3⟩)) h2
end
end Go.Proofs.YtnelbahohkjcnaaGreatDoor
/-
  How long what comes out of filters may be: plain facts.
-/
namespace Go.Proofs.YtnelbahohkjcnaaGreatDoor
section
theorem pairsH_length : ∀ ds : List Nat, (pairsH ds).length ≤ ds.length
  | [] => Nat.le_refl _
  | [a] => Nat.le_refl _
  | a :: b :: r => by
    have := pairsH_length r
    show (pairsH r).length + 1 ≤ r.length + 1 + 1
    omega
theorem decGo_length : ∀ (l : List UInt8) (ds : List Nat), (decGo ds l).1.length ≤ ds.length + l.length
  | [], ds => Nat.zero_le _
  | c :: t, ds => by
    rw [decGo, List.length_cons]
    split
    · split
      · have := pairsH_length ds
        show (pairsH ds).length ≤ _
        omega
      · exact Nat.zero_le _
    · split
      · have := decGo_length t (ds ++ [(hexI (c.toNat : Int)).toNat])
        rw [List.length_append, List.length_cons, List.length_nil] at this
        omega
      · split
        · have := decGo_length t ds
          omega
        · exact Nat.zero_le _
theorem decH_length (l : List UInt8) : (decH l).1.length ≤ l.length := by
  have := decGo_length l []
  simpa [decH] using this
theorem decR_length {M : Nat} : ∀ (f : Nat) (out l : List UInt8), out.length ≤ M → (decR (M : Int) f out l).1.length ≤ M
  | 0, _, _, _ => Nat.zero_le _
  | _ + 1, _, [], _ => Nat.zero_le _
  | f + 1, out, c :: t, h => by
    rw [decR]
    by_cases h1 : c.toNat = 128
    · rw [if_pos h1]
      split
      · exact h
      · exact Nat.zero_le _
    · rw [if_neg h1]
      generalize (if c.toNat < 128 then c.toNat + 1 else 1) = K
      generalize (if c.toNat < 128 then t.take (c.toNat + 1) else List.replicate (257 - c.toNat) (t.headD 0)) = P
      by_cases h2 : t.length < K
      · rw [if_pos h2]; exact Nat.zero_le _
      · rw [if_neg h2]
        by_cases h3 : (M : Int) < ((out ++ P).length : Int)
        · rw [if_pos h3]; exact Nat.zero_le _
        · rw [if_neg h3]
          exact decR_length f _ _ (by omega)
theorem decAll_length {l : List UInt8} {M : Nat} : (decAll l (M : Int)).1.length ≤ M := by
  unfold decAll
  split
  · exact Nat.zero_le _
  · exact decR_length _ _ _ (Nat.zero_le _)
theorem decK_length {k M N : Nat} {l : List UInt8} (hl : l.length ≤ N) (hM : M ≤ N) : (decK k l (M : Int)).1.length ≤ N := by
  unfold decK
  split
  · have := decH_length l
    omega
  · split
    · have := decAll_length (l := l) (M := M)
      omega
    · have := unwrapZ_within (l := l) (M := M)
      omega
def hexName : List UInt8 := [65, 83, 67, 73, 73, 72, 101, 120, 68, 101, 99, 111, 100, 101]
def runsName : List UInt8 := [82, 117, 110, 76, 101, 110, 103, 116, 104, 68, 101, 99, 111, 100, 101]
def flateName : List UInt8 := [70, 108, 97, 116, 101, 68, 101, 99, 111, 100, 101]
def knownC (l : List UInt8) : Nat := if l = hexName then 1 else if l = runsName then 2 else if l = flateName then 3 else 0
theorem knownC_le (l : List UInt8) : knownC l ≤ 3 := by
  unfold knownC
  repeat' split
  all_goals omega
end
end Go.Proofs.YtnelbahohkjcnaaGreatDoor
/-
  Where the filters' bytes stay short enough: plain facts.
-/
namespace Go.Proofs.YtnelbahohkjcnaaGreatDoor
section
set_option maxRecDepth 100000
def decFits : List Nat → List UInt8 → Int → Prop
  | [], l, _ => l.length ≤ 100000
  | k :: ks, l, room => l.length ≤ 100000 ∧ (k = 3 → l.length ≤ 10000) ∧ ((decK k l room).2 = 0 → decFits ks (decK k l room).1 room)
theorem decFits_first {ks : List Nat} {l : List UInt8} {room : Int} (h : decFits ks l room) : l.length ≤ 100000 := by
  cases ks with
  | nil => exact h
  | cons k ks => exact h.1
theorem decC_check {ks : List Nat} {columns most c : Int} {l : List UInt8} (h : checkC ks columns = c) (hc : c ≠ 0) : decC ks columns l most = ([], c) := by
  unfold decC
  rw [h, if_pos hc]
theorem decC_arg {ks : List Nat} {columns most : Int} {l : List UInt8} (h : checkC ks columns = 0) (hm : most < 0 ∨ 1048576 < most) : decC ks columns l most = ([], 2) := by
  unfold decC
  rw [h, if_neg (by omega), if_pos hm]
theorem decC_err {ks : List Nat} {columns most e : Int} {l o : List UInt8} (h : checkC ks columns = 0) (h0 : 0 ≤ most) (h1 : most ≤ 1048576) (hd : decKs ks l (16 * most + 1024) = (o, e)) (he : e ≠ 0) : decC ks columns l most = ([], e) := by
  unfold decC
  rw [h, if_neg (by omega), if_neg (by omega), hd, if_pos he]
theorem decC_plain {ks : List Nat} {most : Int} {l o : List UInt8} (h : checkC ks 0 = 0) (h0 : 0 ≤ most) (h1 : most ≤ 1048576) (hd : decKs ks l (16 * most + 1024) = (o, 0)) : decC ks 0 l most = mostC o most := by
  unfold decC
  rw [h, if_neg (by omega), if_neg (by omega), hd, if_neg (by omega), if_pos rfl]
theorem decC_rows {ks : List Nat} {columns most e : Int} {l o p : List UInt8} (h : checkC ks columns = 0) (h0 : 0 ≤ most) (h1 : most ≤ 1048576) (hd : decKs ks l (16 * most + 1024) = (o, 0)) (hc : columns ≠ 0) (hp : decP o columns = (p, e)) :
    decC ks columns l most = if e ≠ 0 then ([], e) else mostC p most := by
  unfold decC
  rw [h, if_neg (by omega), if_neg (by omega), hd, if_neg (by omega), if_neg hc, hp]
theorem decKs_step {ks : List Nat} {j k : Nat} {l o : List UInt8} {room e : Int} (hk : ks[j]? = some k) (hd : decK k l room = (o, e)) : decKs (ks.drop j) l room = if e ≠ 0 then ([], e) else decKs (ks.drop (j + 1)) o room := by
  obtain ⟨hj, rfl⟩ := List.getElem?_eq_some_iff.1 hk
  rw [List.drop_eq_getElem_cons hj, decKs, hd]
theorem decFits_step {ks : List Nat} {j k : Nat} {l o : List UInt8} {room : Int} (hk : ks[j]? = some k) (h : decFits (ks.drop j) l room) : l.length ≤ 100000 ∧ (k = 3 → l.length ≤ 10000) ∧ (decK k l room = (o, 0) → decFits (ks.drop (j + 1)) o room) := by
  obtain ⟨hj, rfl⟩ := List.getElem?_eq_some_iff.1 hk
  rw [List.drop_eq_getElem_cons hj, decFits] at h
  exact ⟨h.1, h.2.1, fun e => by have := h.2.2 (by rw [e]); rwa [e] at this⟩
theorem encC_check {ks : List Nat} {columns c : Int} {l : List UInt8} (h : checkC ks columns = c) (hc : c ≠ 0) : encC ks columns l = ([], c) := by
  unfold encC
  rw [h, if_pos hc]
theorem encC_plain {ks : List Nat} {l : List UInt8} (h : checkC ks 0 = 0) (hl : l.length ≤ 1048576) : encC ks 0 l = (encKs ks l, 0) := by
  unfold encC
  rw [h, if_neg (by omega), if_neg (by omega), if_pos rfl]
theorem encC_rows {ks : List Nat} {columns e : Int} {l p : List UInt8} (h : checkC ks columns = 0) (hl : l.length ≤ 1048576) (hc : columns ≠ 0) (hp : encP l columns = (p, e)) : encC ks columns l = if e ≠ 0 then ([], e) else (encKs ks p, 0) := by
  unfold encC
  rw [h, if_neg (by omega), if_neg (by omega), if_neg hc, hp]
theorem encKs_step {ks : List Nat} {j k : Nat} {l : List UInt8} (hk : ks[j]? = some k) : encKs (ks.drop j) l = encK k (encKs (ks.drop (j + 1)) l) := by
  obtain ⟨hj, rfl⟩ := List.getElem?_eq_some_iff.1 hk
  rw [List.drop_eq_getElem_cons hj, encKs]
theorem decFits_room : ∀ (ks : List Nat) (l : List UInt8) (M N : Nat), l.length ≤ N → M ≤ N → N ≤ 10000 → decFits ks l (M : Int)
  | [], l, M, N, h, _, hN => by show l.length ≤ 100000; omega
  | k :: ks, l, M, N, h, hM, hN => ⟨by omega, fun _ => by omega, fun _ => decFits_room ks _ M N (decK_length h hM) hM hN⟩
theorem decRows_length {n : Nat} : ∀ (m : Nat) (out l : List UInt8) (o : List UInt8), decRows n m out l = some o → o.length ≤ out.length + l.length
  | 0, out, l, o, h => by
    obtain rfl : out = o := Option.some.inj h
    omega
  | m + 1, out, l, o, h => by
    rw [decRows] at h
    split at h
    · exact absurd h (by simp)
    · have := decRows_length m _ _ o h
      rw [decRow_length, List.length_take, List.length_drop, List.length_drop] at this
      omega
theorem decP_length (l : List UInt8) (columns : Int) : (decP l columns).1.length ≤ l.length := by
  unfold decP
  split
  · exact Nat.zero_le _
  · split
    · exact Nat.zero_le _
    · split
      · exact Nat.zero_le _
      · rename_i o h
        have := decRows_length _ _ _ _ h
        simpa using this
end
end Go.Proofs.YtnelbahohkjcnaaGreatDoor
/-
  What Encode and Decode answer, as texts, and how long it is: plain facts.
-/
namespace Go.Proofs.YtnelbahohkjcnaaGreatDoor
section
set_option maxRecDepth 100000
theorem decC_text (ks : List Nat) (columns : Int) (l : List UInt8) (most : Int) : ∃ (u : ByteArray) (e : Int), decC ks columns l most = (u.data.toList, e) := ⟨bytes (decC ks columns l most).1, (decC ks columns l most).2, by rw [bytes_data]⟩
end
end Go.Proofs.YtnelbahohkjcnaaGreatDoor
