/-
  CoZw, CoPlain, CoBound, CoFits, CoSize: texts merged.
-/
import Derived.Test.YtiiiokikmjgliaaGreatDoorKBack
import Derived.Test.YtiiiokikmjgliaaGreatDoorKZt
import Derived.Test.YtiiiokikmjgliaaGreatDoorKPlain
/-
  What is wrapped is unwrapped with any room that suffices, and is hardly longer: plain facts.
-/
namespace Go.Proofs.YtiiiokikmjgliaaGreatDoor
section
theorem wrap_room {l : List UInt8} (hl : l.length ≤ 65535) {M : Nat} (hM : l.length ≤ M) : unwrapZ (wrapZ l) (M : Int) = (l, 0) := by
  have h := best_back hl
  obtain ⟨_, _, _, hm⟩ := inflZ_cut h
  have hm2 := hm (tailZ l)
  rw [List.take_length] at hm2
  have hb := (inflZ_room hm2).1 M hM
  show unwrapZ (120 :: 1 :: (bestZ l ++ tailZ l)) _ = _
  rw [unwrapZ_wrapped _ _ (by omega), hb]
  unfold restZ
  simp only [ne_eq, not_true_eq_false, if_false, List.drop_left, tailZ_length]
  rw [if_neg (by omega), if_neg (by rw [List.take_of_length_le (by rw [tailZ_length]; omega)]; simp), if_neg (by omega)]
theorem wrapZ_short {l : List UInt8} (hl : l.length ≤ 65535) : (wrapZ l).length ≤ l.length + 11 := by
  rw [wrapZ_length]
  have h : (bestZ l).length ≤ (storedZ l).length := by
    unfold bestZ
    split <;> omega
  rw [storedZ_length] at h
  omega
end
end Go.Proofs.YtiiiokikmjgliaaGreatDoor
/-
  Filters, by their numbers (1 hex, 2 runs, 3 deflate), one within the other: plain facts, no program in sight.
-/
namespace Go.Proofs.YtiiiokikmjgliaaGreatDoor
section
set_option maxRecDepth 100000
def checkC (ks : List Nat) (columns : Int) : Int :=
  if columns < 0 ∨ 256 < columns then 2 else if 4 < ks.length ∨ 0 ∈ ks ∨ (columns ≠ 0 ∧ ks.getLast? ≠ some 3) then 16 else 0
def encK (k : Nat) (l : List UInt8) : List UInt8 := if k = 1 then encH l else if k = 2 then encAll l else wrapZ l
def decK (k : Nat) (l : List UInt8) (room : Int) : List UInt8 × Int := if k = 1 then decH l else if k = 2 then decAll l room else unwrapZ l room
def encKs : List Nat → List UInt8 → List UInt8
  | [], l => l
  | k :: ks, l => encK k (encKs ks l)
def decKs : List Nat → List UInt8 → Int → List UInt8 × Int
  | [], l, _ => (l, 0)
  | k :: ks, l, room => if (decK k l room).2 ≠ 0 then ([], (decK k l room).2) else decKs ks (decK k l room).1 room
def encC (ks : List Nat) (columns : Int) (l : List UInt8) : List UInt8 × Int :=
  if checkC ks columns ≠ 0 then ([], checkC ks columns) else if 1048576 < l.length then ([], 7)
  else if columns = 0 then (encKs ks l, 0) else if (encP l columns).2 ≠ 0 then ([], (encP l columns).2) else (encKs ks (encP l columns).1, 0)
def mostC (l : List UInt8) (most : Int) : List UInt8 × Int := if most < (l.length : Int) then ([], 7) else (l, 0)
def decC (ks : List Nat) (columns : Int) (l : List UInt8) (most : Int) : List UInt8 × Int :=
  if checkC ks columns ≠ 0 then ([], checkC ks columns) else if most < 0 ∨ 1048576 < most then ([], 2)
  else if (decKs ks l (16 * most + 1024)).2 ≠ 0 then ([], (decKs ks l (16 * most + 1024)).2)
  else if columns = 0 then mostC (decKs ks l (16 * most + 1024)).1 most
  else if (decP (decKs ks l (16 * most + 1024)).1 columns).2 ≠ 0 then ([], (decP (decKs ks l (16 * most + 1024)).1 columns).2)
  else mostC (decP (decKs ks l (16 * most + 1024)).1 columns).1 most
theorem hex_back (l : List UInt8) : decH (encH l) = (l, 0) := by
  have := dec_enc l [] rfl
  simpa [decH, pairsH] using this
theorem runs_back {l : List UInt8} {M : Nat} (h : l.length ≤ M) : decAll (encAll l) (M : Int) = (l, 0) := by
  unfold decAll
  rw [if_neg (by omega), dec_encAll (M : Int) l _ [] (by omega) (by simp), List.nil_append, if_neg (by omega)]
theorem encK_length {k : Nat} {l : List UInt8} (hl : l.length ≤ 65535) : (encK k l).length ≤ 2 * l.length + 11 := by
  unfold encK
  split
  · rw [encH_length]; omega
  · split
    · have := encAll_short l
      split at this <;> omega
    · have := wrapZ_short hl
      omega
theorem decK_back {k M : Nat} {l : List UInt8} (hl : l.length ≤ 65535) (h : l.length ≤ M) : decK k (encK k l) (M : Int) = (l, 0) := by
  unfold decK encK
  by_cases h1 : k = 1
  · rw [if_pos h1, if_pos h1, hex_back]
  · rw [if_neg h1, if_neg h1]
    by_cases h2 : k = 2
    · rw [if_pos h2, if_pos h2, runs_back h]
    · rw [if_neg h2, if_neg h2, wrap_room hl h]
def growC : Nat → Nat → Nat
  | 0, n => n
  | m + 1, n => 2 * growC m n + 11
theorem growC_le : ∀ (m n : Nat), n ≤ growC m n
  | 0, n => Nat.le_refl _
  | m + 1, n => by have := growC_le m n; unfold growC; omega
theorem growC_mono : ∀ (m n k : Nat), n ≤ k → growC m n ≤ growC m k
  | 0, n, k, h => h
  | m + 1, n, k, h => by have := growC_mono m n k h; unfold growC; omega
theorem encKs_length : ∀ (ks : List Nat) (l : List UInt8), growC ks.length l.length ≤ 65535 → (encKs ks l).length ≤ growC ks.length l.length
  | [], l, _ => Nat.le_refl _
  | k :: ks, l, h => by
    rw [List.length_cons, growC] at h ⊢
    have ih := encKs_length ks l (by omega)
    have := encK_length (k := k) (l := encKs ks l) (by omega)
    rw [encKs]
    omega
theorem decKs_back : ∀ (ks : List Nat) (l : List UInt8) (M : Nat), growC ks.length l.length ≤ 65535 → (ks ≠ [] → growC (ks.length - 1) l.length ≤ M) → decKs ks (encKs ks l) (M : Int) = (l, 0)
  | [], l, M, _, _ => rfl
  | k :: ks, l, M, h, hM => by
    rw [List.length_cons, growC] at h
    have hM2 : growC ks.length l.length ≤ M := hM (by simp)
    have hle := encKs_length ks l (by omega)
    have hb := decK_back (k := k) (M := M) (l := encKs ks l) (by omega) (by omega)
    rw [encKs, decKs, hb]
    rw [if_neg (by simp)]
    refine decKs_back ks l M (by omega) fun hne => ?_
    cases ks with
    | nil => exact absurd rfl hne
    | cons j js =>
      rw [List.length_cons, growC] at hM2
      show growC js.length _ ≤ M
      omega
theorem growC_four {m n : Nat} (hm : m ≤ 4) : growC m n ≤ 16 * n + 165 ∧ growC (m - 1) n ≤ 8 * n + 77 := by
  have : m = 0 ∨ m = 1 ∨ m = 2 ∨ m = 3 ∨ m = 4 := by omega
  rcases this with rfl | rfl | rfl | rfl | rfl
  · exact ⟨by show n ≤ _; omega, by show n ≤ _; omega⟩
  · exact ⟨by show 2 * n + 11 ≤ _; omega, by show n ≤ _; omega⟩
  · exact ⟨by show 2 * (2 * n + 11) + 11 ≤ _; omega, by show 2 * n + 11 ≤ _; omega⟩
  · exact ⟨by show 2 * (2 * (2 * n + 11) + 11) + 11 ≤ _; omega, by show 2 * (2 * n + 11) + 11 ≤ _; omega⟩
  · exact ⟨by show 2 * (2 * (2 * (2 * n + 11) + 11) + 11) + 11 ≤ _; omega, by show 2 * (2 * (2 * n + 11) + 11) + 11 ≤ _; omega⟩
theorem back_room {ks : List Nat} {l : List UInt8} {n M : Nat} (hm : ks.length ≤ 4) (hl : l.length ≤ 2 * n) (hn : n ≤ 1000) (hM : 16 * n + 77 ≤ M) : decKs ks (encKs ks l) (M : Int) = (l, 0) ∧ (encKs ks l).length ≤ 32 * n + 165 := by
  have h1 := growC_four (m := ks.length) (n := l.length) hm
  refine ⟨decKs_back ks l M (by omega) fun _ => by omega, ?_⟩
  have := encKs_length ks l (by omega)
  omega
theorem checkC_ok {ks : List Nat} {columns : Int} (h : checkC ks columns = 0) : 0 ≤ columns ∧ columns ≤ 256 ∧ ks.length ≤ 4 ∧ 0 ∉ ks ∧ (columns ≠ 0 → ks.getLast? = some 3) := by
  unfold checkC at h
  split at h
  · exact absurd h (by decide)
  · split at h
    · exact absurd h (by decide)
    · rename_i h1 h2
      refine ⟨by omega, by omega, by omega, fun hm => h2 (.inr (.inl hm)), fun hc => ?_⟩
      by_cases h3 : ks.getLast? = some 3
      · exact h3
      · exact absurd (.inr (.inr ⟨hc, h3⟩)) h2
theorem encP_length {l : List UInt8} {n m : Nat} (h1 : 1 ≤ n) (h2 : n ≤ 256) (hl : l.length = m * n) : (encP l (n : Int)).2 = 0 ∧ (encP l (n : Int)).1.length ≤ 2 * l.length := by
  rw [encP_end h1 h2 (by rw [hl]; exact Nat.mul_mod_left m n)]
  exact ⟨rfl, encUpto_length l n l.length⟩
theorem coat_back {ks : List Nat} {l : List UInt8} {n : Nat} (hk : checkC ks (n : Int) = 0) (hl : l.length ≤ 500) (hn : 1 ≤ n → ∃ m, l.length = m * n) :
    (encC ks (n : Int) l).2 = 0 ∧ (encC ks (n : Int) l).1.length ≤ 32 * l.length + 165 ∧ decC ks (n : Int) (encC ks (n : Int) l).1 (l.length : Int) = (l, 0) ∧ (1 ≤ l.length → decC ks (n : Int) (encC ks (n : Int) l).1 ((l.length - 1 : Nat) : Int) = ([], 7)) := by
  obtain ⟨_, h256, h4, _, _⟩ := checkC_ok hk
  have hks : ks.length ≤ 4 := h4
  by_cases h0 : n = 0
  · subst h0
    have he : encC ks ((0 : Nat) : Int) l = (encKs ks l, 0) := by
      unfold encC
      rw [if_neg (by rw [hk]; simp), if_neg (by omega), if_pos (show ((0 : Nat) : Int) = 0 from rfl)]
    rw [he]
    have hr : ∀ M : Nat, l.length ≤ M + 1 → decKs ks (encKs ks l) (16 * (M : Int) + 1024) = (l, 0) ∧ (encKs ks l).length ≤ 32 * l.length + 165 := fun M hM => by
      have := back_room (ks := ks) (l := l) (n := l.length) (M := 16 * M + 1024) hks (by omega) (by omega) (by omega)
      rwa [show ((16 * M + 1024 : Nat) : Int) = 16 * (M : Int) + 1024 by omega] at this
    have hd : ∀ M : Nat, M ≤ 1000 → l.length ≤ M + 1 → decC ks ((0 : Nat) : Int) (encKs ks l) (M : Int) = mostC l (M : Int) := fun M h1 h2 => by
      unfold decC
      rw [if_neg (by rw [hk]; simp), if_neg (by omega), (hr M h2).1, if_neg (by simp), if_pos (show ((0 : Nat) : Int) = 0 from rfl)]
    refine ⟨rfl, (hr l.length (by omega)).2, ?_, fun h1 => ?_⟩
    · rw [hd _ (by omega) (by omega)]
      unfold mostC
      rw [if_neg (by omega)]
    · rw [hd _ (by omega) (by omega)]
      unfold mostC
      rw [if_pos (by omega)]
  · have h1n : 1 ≤ n := by omega
    have h2n : n ≤ 256 := by omega
    obtain ⟨m, hm⟩ := hn h1n
    obtain ⟨hp, hpl⟩ := encP_length h1n h2n hm
    obtain ⟨hb, _⟩ := enc_back h1n h2n (l := l) (by rw [hm]; exact Nat.mul_mod_left m n)
    have he : encC ks (n : Int) l = (encKs ks (encP l (n : Int)).1, 0) := by
      unfold encC
      rw [if_neg (by rw [hk]; simp), if_neg (by omega), if_neg (by omega), hp, if_neg (by simp)]
    rw [he]
    have hr : ∀ M : Nat, l.length ≤ M + 1 → decKs ks (encKs ks (encP l (n : Int)).1) (16 * (M : Int) + 1024) = ((encP l (n : Int)).1, 0) ∧ (encKs ks (encP l (n : Int)).1).length ≤ 32 * l.length + 165 := fun M hM => by
      have := back_room (ks := ks) (l := (encP l (n : Int)).1) (n := l.length) (M := 16 * M + 1024) hks hpl (by omega) (by omega)
      rwa [show ((16 * M + 1024 : Nat) : Int) = 16 * (M : Int) + 1024 by omega] at this
    have hd : ∀ M : Nat, M ≤ 1000 → l.length ≤ M + 1 → decC ks (n : Int) (encKs ks (encP l (n : Int)).1) (M : Int) = mostC l (M : Int) := fun M h1 h2 => by
      unfold decC
      rw [if_neg (by rw [hk]; simp), if_neg (by omega), (hr M h2).1, if_neg (by simp), if_neg (by omega), hb, if_neg (by simp)]
    refine ⟨rfl, (hr l.length (by omega)).2, ?_, fun h1 => ?_⟩
    · rw [hd _ (by omega) (by omega)]
      unfold mostC
      rw [if_neg (by omega)]
    · rw [hd _ (by omega) (by omega)]
      unfold mostC
      rw [if_pos (by omega)]
end
end Go.Proofs.YtiiiokikmjgliaaGreatDoor
/-
  How long what comes out of filters may be: plain facts.
-/
namespace Go.Proofs.YtiiiokikmjgliaaGreatDoor
section
def hexName : List UInt8 := [65, 83, 67, 73, 73, 72, 101, 120, 68, 101, 99, 111, 100, 101]
def runsName : List UInt8 := [82, 117, 110, 76, 101, 110, 103, 116, 104, 68, 101, 99, 111, 100, 101]
def flateName : List UInt8 := [70, 108, 97, 116, 101, 68, 101, 99, 111, 100, 101]
def knownC (l : List UInt8) : Nat := if l = hexName then 1 else if l = runsName then 2 else if l = flateName then 3 else 0
theorem knownC_le (l : List UInt8) : knownC l ≤ 3 := by
  unfold knownC
  repeat' split
  all_goals omega
end
end Go.Proofs.YtiiiokikmjgliaaGreatDoor
/-
  Where the filters' bytes stay short enough: plain facts.
-/
namespace Go.Proofs.YtiiiokikmjgliaaGreatDoor
section
set_option maxRecDepth 100000
def decFits : List Nat → List UInt8 → Int → Prop
  | [], l, _ => l.length ≤ 100000
  | k :: ks, l, room => l.length ≤ 100000 ∧ (k = 3 → l.length ≤ 10000) ∧ ((decK k l room).2 = 0 → decFits ks (decK k l room).1 room)
theorem decFits_first {ks : List Nat} {l : List UInt8} {room : Int} (h : decFits ks l room) : l.length ≤ 100000 := by
  cases ks with
  | nil => exact h
  | cons k ks => exact h.1
theorem decC_check {ks : List Nat} {columns most c : Int} {l : List UInt8} (h : checkC ks columns = c) (hc : c ≠ 0) : decC ks columns l most = ([], c) := by
  unfold decC
  rw [h, if_pos hc]
theorem decC_arg {ks : List Nat} {columns most : Int} {l : List UInt8} (h : checkC ks columns = 0) (hm : most < 0 ∨ 1048576 < most) : decC ks columns l most = ([], 2) := by
  unfold decC
  rw [h, if_neg (by omega), if_pos hm]
theorem decC_err {ks : List Nat} {columns most e : Int} {l o : List UInt8} (h : checkC ks columns = 0) (h0 : 0 ≤ most) (h1 : most ≤ 1048576) (hd : decKs ks l (16 * most + 1024) = (o, e)) (he : e ≠ 0) : decC ks columns l most = ([], e) := by
  unfold decC
  rw [h, if_neg (by omega), if_neg (by omega), hd, if_pos he]
theorem decC_plain {ks : List Nat} {most : Int} {l o : List UInt8} (h : checkC ks 0 = 0) (h0 : 0 ≤ most) (h1 : most ≤ 1048576) (hd : decKs ks l (16 * most + 1024) = (o, 0)) : decC ks 0 l most = mostC o most := by
  unfold decC
  rw [h, if_neg (by omega), if_neg (by omega), hd, if_neg (by omega), if_pos rfl]
theorem decC_rows {ks : List Nat} {columns most e : Int} {l o p : List UInt8} (h : checkC ks columns = 0) (h0 : 0 ≤ most) (h1 : most ≤ 1048576) (hd : decKs ks l (16 * most + 1024) = (o, 0)) (hc : columns ≠ 0) (hp : decP o columns = (p, e)) :
    decC ks columns l most = if e ≠ 0 then ([], e) else mostC p most := by
  unfold decC
  rw [h, if_neg (by omega), if_neg (by omega), hd, if_neg (by omega), if_neg hc, hp]
theorem decKs_step {ks : List Nat} {j k : Nat} {l o : List UInt8} {room e : Int} (hk : ks[j]? = some k) (hd : decK k l room = (o, e)) : decKs (ks.drop j) l room = if e ≠ 0 then ([], e) else decKs (ks.drop (j + 1)) o room := by
  obtain ⟨hj, rfl⟩ := List.getElem?_eq_some_iff.1 hk
  rw [List.drop_eq_getElem_cons hj, decKs, hd]
theorem decFits_step {ks : List Nat} {j k : Nat} {l o : List UInt8} {room : Int} (hk : ks[j]? = some k) (h : decFits (ks.drop j) l room) : l.length ≤ 100000 ∧ (k = 3 → l.length ≤ 10000) ∧ (decK k l room = (o, 0) → decFits (ks.drop (j + 1)) o room) := by
  obtain ⟨hj, rfl⟩ := List.getElem?_eq_some_iff.1 hk
  rw [List.drop_eq_getElem_cons hj, decFits] at h
  exact ⟨h.1, h.2.1, fun e => by have := h.2.2 (by rw [e]); rwa [e] at this⟩
theorem encC_check {ks : List Nat} {columns c : Int} {l : List UInt8} (h : checkC ks columns = c) (hc : c ≠ 0) : encC ks columns l = ([], c) := by
  unfold encC
  rw [h, if_pos hc]
theorem encC_plain {ks : List Nat} {l : List UInt8} (h : checkC ks 0 = 0) (hl : l.length ≤ 1048576) : encC ks 0 l = (encKs ks l, 0) := by
  unfold encC
  rw [h, if_neg (by omega), if_neg (by omega), if_pos rfl]
theorem encC_rows {ks : List Nat} {columns e : Int} {l p : List UInt8} (h : checkC ks columns = 0) (hl : l.length ≤ 1048576) (hc : columns ≠ 0) (hp : encP l columns = (p, e)) : encC ks columns l = if e ≠ 0 then ([], e) else (encKs ks p, 0) := by
  unfold encC
  rw [h, if_neg (by omega), if_neg (by omega), if_neg hc, hp]
theorem encKs_step {ks : List Nat} {j k : Nat} {l : List UInt8} (hk : ks[j]? = some k) : encKs (ks.drop j) l = encK k (encKs (ks.drop (j + 1)) l) := by
  obtain ⟨hj, rfl⟩ := List.getElem?_eq_some_iff.1 hk
  rw [List.drop_eq_getElem_cons hj, encKs]
theorem encKs_fits : ∀ (ks : List Nat) (l : List UInt8) (M : Nat), growC (ks.length - 1) l.length ≤ 9000 → (ks ≠ [] → growC (ks.length - 1) l.length ≤ M) → decFits ks (encKs ks l) (M : Int)
  | [], l, M, h, _ => by
    have : l.length ≤ 9000 := h
    show l.length ≤ 100000
    omega
  | k :: ks, l, M, h, hM => by
    rw [List.length_cons, Nat.add_sub_cancel] at h hM
    have hM2 := hM (by simp)
    have hle := encKs_length ks l (by omega)
    have hk := encK_length (k := k) (l := encKs ks l) (by omega)
    have hb := decK_back (k := k) (M := M) (l := encKs ks l) (by omega) (by omega)
    rw [encKs]
    refine ⟨by omega, fun h3 => ?_, fun _ => ?_⟩
    · subst h3
      have := wrapZ_short (l := encKs ks l) (by omega)
      show (wrapZ (encKs ks l)).length ≤ 10000
      omega
    · rw [hb]
      have hmono : growC (ks.length - 1) l.length ≤ growC ks.length l.length := by
        cases hks : ks.length with
        | zero => exact Nat.le_refl _
        | succ m => rw [Nat.add_sub_cancel, growC]; omega
      exact encKs_fits ks l M (by omega) fun _ => by omega
theorem decRows_length {n : Nat} : ∀ (m : Nat) (out l : List UInt8) (o : List UInt8), decRows n m out l = some o → o.length ≤ out.length + l.length
  | 0, out, l, o, h => by
    obtain rfl : out = o := Option.some.inj h
    omega
  | m + 1, out, l, o, h => by
    rw [decRows] at h
    split at h
    · exact absurd h (by simp)
    · have := decRows_length m _ _ o h
      rw [decRow_length, List.length_take, List.length_drop, List.length_drop] at this
      omega
theorem decP_length (l : List UInt8) (columns : Int) : (decP l columns).1.length ≤ l.length := by
  unfold decP
  split
  · exact Nat.zero_le _
  · split
    · exact Nat.zero_le _
    · split
      · exact Nat.zero_le _
      · rename_i o h
        have := decRows_length _ _ _ _ h
        simpa using this
end
end Go.Proofs.YtiiiokikmjgliaaGreatDoor
/-
  What Encode and Decode answer, as texts, and how long it is: plain facts.
-/
namespace Go.Proofs.YtiiiokikmjgliaaGreatDoor
section
set_option maxRecDepth 100000
theorem encC_text (ks : List Nat) (columns : Int) (l : List UInt8) : ∃ (u : ByteArray) (e : Int), encC ks columns l = (u.data.toList, e) := ⟨bytes (encC ks columns l).1, (encC ks columns l).2, by rw [bytes_data]⟩
theorem encP_most (l : List UInt8) {columns : Int} (h0 : 0 ≤ columns) (h1 : columns ≤ 256) : (if columns = 0 then l else (encP l columns).1).length ≤ 2 * l.length := by
  by_cases h : columns = 0
  · rw [if_pos h]; omega
  · rw [if_neg h]
    obtain ⟨n, rfl⟩ := Int.eq_ofNat_of_zero_le h0
    have hn1 : 1 ≤ n := by omega
    by_cases hm : l.length % n = 0
    · have hl : l.length = l.length / n * n := by have := Nat.div_add_mod l.length n; rw [hm, Nat.add_zero, Nat.mul_comm] at this; exact this.symm
      exact (encP_length hn1 (by omega) hl).2
    · unfold encP
      rw [if_neg (by omega), if_pos (by simpa using hm)]
      exact Nat.zero_le _
theorem coat_fits {ks : List Nat} {columns : Int} {l : List UInt8} {m : Nat} (hl : l.length ≤ 500) (hm : ks.length = m) : checkC ks columns = 0 → growC (m - 1) (if columns = 0 then l else (encP l columns).1).length ≤ 10000 := fun h => by
  obtain ⟨h0, h1, h4, _, _⟩ := checkC_ok h
  have h2 := encP_most l h0 h1
  have h3 := (growC_four (m := m) (n := (if columns = 0 then l else (encP l columns).1).length) (by rw [← hm]; exact h4)).2
  omega
end
end Go.Proofs.YtiiiokikmjgliaaGreatDoor
