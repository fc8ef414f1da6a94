/-
  SqBack, SqBack2, ZwPlain: texts merged.
-/
import Derived.Test.YtiiiokikmjgliaaGreatDoorKPlain
import Derived.Test.YtiiiokikmjgliaaGreatDoorKBlk
/-
  What is deflated is told again: plain facts, no program in sight.
-/
namespace Go.Proofs.YtiiiokikmjgliaaGreatDoor
section
set_option maxRecDepth 100000
theorem pfail_no {c : Bool} {e : Int} {l : List UInt8} {pos : Nat} (h : c = false) : pfail c e l pos = .ok ((), pos) := by
  unfold pfail; rw [h]; rfl
theorem rest_length {T : List UInt8} {pos : Nat} {b r : List Nat} (hp : pos ≤ 8 * T.length) (h : (bitsOf T).drop pos = b ++ r) : pos + b.length ≤ 8 * T.length ∧ (bitsOf T).drop (pos + b.length) = r := by
  have h1 := congrArg List.length h
  rw [List.length_drop, bitsOf_length, List.length_append] at h1
  refine ⟨by omega, ?_⟩
  rw [← List.drop_drop, h, List.drop_left]
theorem bitsP_at {T : List UInt8} {pos w n : Nat} {r : List Nat} (hp : pos ≤ 8 * T.length) (h : (bitsOf T).drop pos = bitsN w n ++ r) (hn : n < 2 ^ w) : bitsP w T pos = .ok (n, pos + w) := by
  have h1 := (rest_length hp h).1
  rw [bitsN_length] at h1
  unfold bitsP
  rw [if_pos h1, h, List.take_left' (bitsN_length _ _), numB_bitsN _ _ hn]
theorem symP_at {ns : List Nat} {T : List UInt8} {pos k n : Nat} {r : List Nat} (hr : refusedZ (intsOf ns) = 0) (hi : ns[k]? = some (n + 1)) (hL : n + 1 ≤ longN ns) (h : (bitsOf T).drop pos = codeBits (n + 1) (codeAt ns k) ++ r) : symP ns T pos = .ok (k, pos + (n + 1)) := by
  obtain ⟨_, hall, hkr⟩ := refusedZ_zero hr
  have hi' : (intsOf ns)[k]? = some ((n + 1 : Nat) : Int) := by
    unfold intsOf
    rw [List.getElem?_map, hi]; rfl
  have h1 := read_whole hall hkr hi' hL r
  rw [show (intsOf ns).map Int.toNat = ns from natsOf_intsOf ns, ← h] at h1
  rw [symP_of h1, if_pos rfl]; rfl
theorem long_lit : longN fixedLit = 9 := by decide +kernel
theorem long_dist : longN fixedDist = 5 := by decide +kernel
theorem symP_sym {T : List UInt8} {pos k : Nat} {r : List Nat} (hk : k < 288) (h : (bitsOf T).drop pos = symB k ++ r) : symP fixedLit T pos = .ok (k, pos + (symB k).length) := by
  obtain ⟨wd, h1, h2⟩ := fixedLit_at hk
  have h3 := litL_le ⟨k, hk⟩
  simp only [h1, Option.getD_some] at h3
  obtain ⟨n, rfl⟩ : ∃ n, wd = n + 1 := ⟨wd - 1, by omega⟩
  have hs : symB k = codeBits (n + 1) (codeAt fixedLit k) := by unfold symB; rw [h1]; rfl
  rw [hs] at h
  rw [symP_at fixed_refused.1 h1 (by rw [long_lit]; omega) h, hs, codeBits_length]
theorem symP_far {T : List UInt8} {pos k : Nat} {r : List Nat} (hk : k < 32) (h : (bitsOf T).drop pos = codeBits 5 k ++ r) : symP fixedDist T pos = .ok (k, pos + 5) := by
  have h1 := dist_code ⟨k, hk⟩
  simp only at h1
  exact symP_at (n := 4) fixed_refused.2 h1.2 (by rw [long_dist]; omega) (by rw [h1.1]; exact h)
theorem copy_take {l : List UInt8} {d : Nat} : ∀ (n a : Nat), 1 ≤ d → d ≤ a → a + n ≤ l.length → (∀ i, i < n → l[a - d + i]? = l[a + i]?) → copyB d n (l.take a) = l.take (a + n)
  | 0, a, _, _, _, _ => rfl
  | n + 1, a, h1, h2, h3, h4 => by
    have hl : (l.take a).length = a := by rw [List.length_take]; omega
    have h0 := h4 0 (by omega)
    rw [Nat.add_zero, Nat.add_zero] at h0
    have ha : l[a]? = some (l[a]'(by omega)) := List.getElem?_eq_getElem _
    have he : (l.take a)[(l.take a).length - d]?.getD 0 = l[a]'(by omega) := by
      rw [hl, List.getElem?_take, if_pos (by omega), h0, ha]; rfl
    have ht : l.take a ++ [l[a]'(by omega)] = l.take (a + 1) := by
      rw [List.take_add_one, ha]; rfl
    rw [copyB, he, ht, copy_take n (a + 1) h1 (by omega) (by omega) fun i hi => by
      have := h4 (i + 1) (by omega)
      rw [show a + 1 - d + i = a - d + (i + 1) by omega, show a + 1 + i = a + (i + 1) by omega]
      exact this]
    rw [show a + 1 + n = a + (n + 1) by omega]
theorem codedP_succ (lit dist : List Nat) (M f : Nat) (o : List UInt8) : codedP lit dist M (f + 1) o = pbind (symP lit) fun n =>
    pbind (pfail (decide (285 < n)) 4) fun _ =>
    if n = 256 then pret o
    else if n < 256 then pbind (pfail (decide (M < o.length + 1)) 7) fun _ => codedP lit dist M f (o ++ [UInt8.ofNat n])
    else pbind (copiedP dist M (n - 257) o) fun o' => codedP lit dist M f o' := rfl
theorem copied_at {l T : List UInt8} {a n d pos : Nat} {r : List Nat} (hp : pos ≤ 8 * T.length) (h1 : 3 ≤ n) (h2 : n ≤ 258) (h3 : a + n ≤ l.length) (h4 : 1 ≤ d) (h5 : d ≤ 32768) (h6 : d ≤ a) (h7 : ∀ i, i < n → l[a - d + i]? = l[a + i]?)
    (h : (bitsOf T).drop pos = bitsN (moreL (lenK n)) (n - lengthN (lenK n)) ++ (codeBits 5 (farK d) ++ (bitsN (moreD (farK d)) (d - distN (farK d)) ++ r))) :
    copiedP fixedDist l.length (lenK n) (l.take a) T pos = .ok (l.take (a + n), pos + (moreL (lenK n) + (5 + moreD (farK d)))) := by
  obtain ⟨a1, a2, a3⟩ := lenK_facts h1 h2
  obtain ⟨b1, b2, b3⟩ := farK_facts h4 h5
  have hl : (l.take a).length = a := by rw [List.length_take]; omega
  obtain ⟨p1, q1⟩ := rest_length hp h
  rw [bitsN_length] at p1 q1
  obtain ⟨p2, q2⟩ := rest_length p1 q1
  rw [codeBits_length] at p2 q2
  have e1 := bitsP_at hp h a3
  have e2 := symP_far (by omega) q1
  have e3 := bitsP_at p2 q2 b3
  unfold copiedP
  unfold moreL at e1 e2 e3 q1 ⊢
  unfold moreD at e3 ⊢
  rw [pbind_of e1, pbind_of e2, pbind_of (pfail_no (by rw [decide_eq_false_iff_not]; omega)), pbind_of e3,
    pbind_of (pfail_no (by rw [decide_eq_false_iff_not, hl]; omega)), pbind_of (pfail_no (by rw [decide_eq_false_iff_not, hl]; omega))]
  unfold pret
  rw [show distN (farK d) + (d - distN (farK d)) = d by omega, show lengthN (lenK n) + (n - lengthN (lenK n)) = n by omega, copy_take n a h4 h6 h3 h7]
  congr 2
  omega
theorem coded_back {l T : List UInt8} {r : List Nat} : ∀ (f a pos F : Nat), f < F → l.length ≤ a + f → a ≤ l.length → pos ≤ 8 * T.length → (bitsOf T).drop pos = codedN l f a ++ (symB 256 ++ r) →
    codedP fixedLit fixedDist l.length F (l.take a) T pos = .ok (l, pos + ((codedN l f a).length + (symB 256).length))
  | f, a, pos, 0, hF, _, _, _, _ => by omega
  | f, a, pos, F + 1, hF, haf, hal, hp, h => by
    have hl : (l.take a).length = a := by rw [List.length_take]; omega
    rw [codedP_succ]
    by_cases ha : a < l.length
    · obtain ⟨f', rfl⟩ : ∃ f', f = f' + 1 := ⟨f - 1, by omega⟩
      have hst : codedN l (f' + 1) a = if (nextN l a).1 = 0 then symB (l[a]?.getD 0).toNat ++ codedN l f' (a + 1) else pieceB (nextN l a).1 (nextN l a).2 ++ codedN l f' (a + (nextN l a).1) := by
        rw [codedN, if_neg (by omega)]
      rw [hst] at h ⊢
      rcases nextN_facts l a with hn | ⟨n, d, hn, h1, h2, h3, h4, h5, h6, h7⟩
      · rw [hn] at h ⊢
        simp only [if_true] at h ⊢
        have hla : l[a]? = some (l[a]'ha) := List.getElem?_eq_getElem _
        rw [hla] at h ⊢
        simp only [Option.getD_some] at h ⊢
        have hb := byte_sym (l[a]'ha)
        rw [List.append_assoc] at h
        obtain ⟨p1, q1⟩ := rest_length hp h
        rw [pbind_of (symP_sym (by omega) h), pbind_of (pfail_no (by rw [decide_eq_false_iff_not]; omega)), if_neg (by omega), if_pos hb, pbind_of (pfail_no (by rw [decide_eq_false_iff_not, hl]; omega))]
        have ht : l.take a ++ [UInt8.ofNat (l[a]'ha).toNat] = l.take (a + 1) := by
          rw [UInt8.ofNat_toNat, List.take_add_one, hla]; rfl
        rw [ht, coded_back f' (a + 1) _ F (by omega) (by omega) (by omega) p1 q1, List.length_append]
        congr 2
        omega
      · rw [hn] at h ⊢
        simp only at h ⊢
        rw [if_neg (by omega)] at h ⊢
        obtain ⟨a1, a2, a3⟩ := lenK_facts h1 h2
        have hpb : pieceB n d = symB (257 + lenK n) ++ (bitsN (moreL (lenK n)) (n - lengthN (lenK n)) ++ (codeBits 5 (farK d) ++ bitsN (moreD (farK d)) (d - distN (farK d)))) := rfl
        rw [hpb] at h ⊢
        simp only [List.append_assoc] at h
        obtain ⟨p1, q1⟩ := rest_length hp h
        have e1 := symP_sym (by omega) h
        have e2 := copied_at p1 h1 h2 h3 h4 h5 h6 h7 q1
        obtain ⟨p2, q2⟩ := rest_length p1 q1
        obtain ⟨p3, q3⟩ := rest_length p2 q2
        obtain ⟨p4, q4⟩ := rest_length p3 q3
        rw [pbind_of e1, pbind_of (pfail_no (by rw [decide_eq_false_iff_not]; omega)), if_neg (by omega), if_neg (by omega), show 257 + lenK n - 257 = lenK n by omega, pbind_of e2]
        simp only [bitsN_length, codeBits_length] at p4 q4
        have hpos : pos + (symB (257 + lenK n)).length + (moreL (lenK n) + (5 + moreD (farK d))) = pos + (symB (257 + lenK n)).length + moreL (lenK n) + 5 + moreD (farK d) := by omega
        rw [hpos, coded_back f' (a + n) _ F (by omega) (by omega) (by omega) p4 q4]
        simp only [List.length_append, bitsN_length, codeBits_length]
        congr 2
        omega
    · have hE : codedN l f a = [] := by
        cases f with
        | zero => rfl
        | succ f => rw [codedN, if_pos (by omega)]
      rw [hE, List.nil_append] at h
      rw [pbind_of (symP_sym (by omega) h), pbind_of (pfail_no (by decide)), if_pos rfl, hE]
      unfold pret
      rw [List.take_of_length_le (by omega)]
      simp
end
end Go.Proofs.YtiiiokikmjgliaaGreatDoor
/-
  What is deflated is told again, in each way: plain facts, no program in sight.
-/
namespace Go.Proofs.YtiiiokikmjgliaaGreatDoor
section
set_option maxRecDepth 100000
theorem inflP_succ (M f : Nat) (o : List UInt8) : inflP M (f + 1) o = pbind (bitsP 1) fun last =>
    pbind (bitsP 2) fun kind =>
    pbind (pfail (decide (kind = 3)) 4) fun _ =>
    pbind (blockP M kind o) fun o' =>
    if last = 0 then inflP M f o' else pret o' := rfl
theorem fuel_is : FUEL = 9999999 + 1 := rfl
theorem fixed_back {l : List UInt8} (hl : l.length ≤ 100000) : inflZ (fixedZ l) (l.length : Int) = (l, (fixedZ l).length, 0) := by
  have hb : bitsOf (fixedZ l) = fixedR l ++ List.replicate (padN (fixedR l).length) 0 := bitsOf_textB (fixedR_two l)
  have ht : 8 * (fixedZ l).length = (fixedR l).length + padN (fixedR l).length := textB_length _
  have hp := padN_lt (fixedR l).length
  have h0 : (bitsOf (fixedZ l)).drop 0 = bitsN 1 1 ++ (bitsN 2 1 ++ (codedN l l.length 0 ++ (symB 256 ++ List.replicate (padN (fixedR l).length) 0))) := by
    rw [List.drop_zero, hb]
    unfold fixedR headB
    simp only [List.append_assoc]
  have hlen : (fixedR l).length = 3 + ((codedN l l.length 0).length + (symB 256).length) := by
    unfold fixedR
    simp only [List.length_append, show headB.length = 3 from rfl]
    omega
  obtain ⟨p1, q1⟩ := rest_length (Nat.zero_le _) h0
  rw [bitsN_length] at p1 q1
  obtain ⟨p2, q2⟩ := rest_length p1 q1
  rw [bitsN_length] at p2 q2
  have e1 := bitsP_at (Nat.zero_le _) h0 (by decide)
  have e2 := bitsP_at p1 q1 (by decide)
  have e3 := coded_back (l := l) l.length 0 _ FUEL (by unfold FUEL; omega) (by omega) (by omega) p2 q2
  rw [List.take_zero] at e3
  have hi : inflP l.length FUEL [] (fixedZ l) 0 = .ok (l, 0 + 1 + 2 + ((codedN l l.length 0).length + (symB 256).length)) := by
    rw [fuel_is, inflP_succ, pbind_of e1, pbind_of e2, pbind_of (pfail_no (by decide))]
    have hk : blockP l.length 1 [] = codedP fixedLit fixedDist l.length FUEL [] := by unfold blockP; rw [if_neg (by omega), if_pos rfl]
    rw [hk, pbind_of e3, if_neg (by omega)]
    rfl
  rw [inflZ_of hi]
  congr 2
  unfold wholeN
  omega
theorem cons_eq {a b : Nat} {l m : List Nat} (h1 : a = b) (h2 : l = m) : a :: l = b :: m := by rw [h1, h2]
theorem bitsN_next (k n : Nat) : bitsN (k + 1) n = n % 2 :: bitsN k (n / 2) := rfl
theorem bits_low (n : Nat) : ∀ k, k ≤ 8 → ∀ r, bitsN k (n % 2 ^ k + 2 ^ k * r) = bitsN k n
  | 0, _, _ => rfl
  | k + 1, hk, r => by
    rw [bitsN_next, bitsN_next]
    have h1 := Nat.div_add_mod n 2
    have hp : 2 ^ (k + 1) = 2 * 2 ^ k := by rw [Nat.pow_succ, Nat.mul_comm]
    have hm : n % 2 ^ (k + 1) = n % 2 + 2 * (n / 2 % 2 ^ k) := by rw [hp, Nat.mod_mul]
    have he : n % 2 ^ (k + 1) + 2 ^ (k + 1) * r = n % 2 + 2 * (n / 2 % 2 ^ k + 2 ^ k * r) := by
      rw [hm, hp, Nat.mul_add, Nat.mul_assoc]; omega
    refine cons_eq (by rw [he]; omega) ?_
    rw [show (n % 2 ^ (k + 1) + 2 ^ (k + 1) * r) / 2 = n / 2 % 2 ^ k + 2 ^ k * r by rw [he]; omega]
    exact bits_low (n / 2) k (by omega) r
theorem bits_join : ∀ (a b n : Nat), bitsN (a + b) n = bitsN a n ++ bitsN b (n / 2 ^ a)
  | 0, b, n => by simp [bitsN]
  | a + 1, b, n => by
    rw [show a + 1 + b = (a + b) + 1 by omega, bitsN_next, bitsN_next, bits_join a b (n / 2), Nat.div_div_eq_div_mul, Nat.pow_succ, Nat.mul_comm 2]
    rfl
theorem bits16 (n : Nat) : bitsN 8 (n % 256) ++ bitsN 8 (n / 256) = bitsN 16 n := by
  have h := bits_low n 8 (by omega) 0
  rw [Nat.mul_zero, Nat.add_zero] at h
  rw [show 16 = 8 + 8 from rfl, bits_join, ← h]
theorem byte_natS (n : Nat) (h : n < 256) : (UInt8.ofNat n).toNat = n := by rw [UInt8.toNat_ofNat']; omega
theorem stored_back {l : List UInt8} (hl : l.length ≤ 65535) : inflZ (storedZ l) (l.length : Int) = (l, (storedZ l).length, 0) := by
  have hz : storedZ l = blockZ 1 l := by
    unfold storedZ
    cases hn : l.length with
    | zero => rfl
    | succ f => rw [storedN, if_neg (by omega)]
  have hbl : (blockZ 1 l).length = l.length + 5 := rfl
  have hb : bitsOf (blockZ 1 l) = bitsN 8 1 ++ (bitsN 16 l.length ++ (bitsN 16 (65535 - l.length) ++ bitsOf l)) := by
    unfold blockZ
    simp only [bitsOf_cons]
    rw [byte_natS 1 (by omega), byte_natS (l.length % 256) (by omega), byte_natS (l.length / 256) (by omega), byte_natS ((65535 - l.length) % 256) (by omega), byte_natS ((65535 - l.length) / 256) (by omega), ← bits16 l.length, ← bits16 (65535 - l.length)]
    simp only [List.append_assoc]
  have h0 : (bitsOf (blockZ 1 l)).drop 0 = bitsN 1 1 ++ (bitsN 2 0 ++ (bitsN 5 0 ++ (bitsN 16 l.length ++ (bitsN 16 (65535 - l.length) ++ bitsOf l)))) := by
    rw [List.drop_zero, hb, show bitsN 8 1 = bitsN 1 1 ++ (bitsN 2 0 ++ bitsN 5 0) from rfl]
    simp only [List.append_assoc]
  obtain ⟨p1, q1⟩ := rest_length (Nat.zero_le _) h0
  obtain ⟨p2, q2⟩ := rest_length p1 q1
  obtain ⟨p3, q3⟩ := rest_length p2 q2
  obtain ⟨p4, q4⟩ := rest_length p3 q3
  obtain ⟨p5, q5⟩ := rest_length p4 q4
  simp only [bitsN_length] at p1 q1 p2 q2 p3 q3 p4 q4 p5 q5
  have e1 := bitsP_at (Nat.zero_le _) h0 (by decide)
  have e2 := bitsP_at p1 q1 (by decide)
  have e3 : alignP (blockZ 1 l) (0 + 1 + 2) = .ok ((), 0 + 1 + 2 + 5) := rfl
  have e4 := bitsP_at p3 q3 (show l.length < 2 ^ 16 by omega)
  have e5 := bitsP_at p4 q4 (show 65535 - l.length < 2 ^ 16 by omega)
  have e6 : bytesP l.length (blockZ 1 l) (0 + 1 + 2 + 5 + 16 + 16) = .ok (l, 0 + 1 + 2 + 5 + 16 + 16 + 8 * l.length) := by
    unfold bytesP
    rw [if_pos (by rw [hbl]; omega), q5]
    rw [show 8 * l.length = (bitsOf l).length by rw [bitsOf_length], List.take_length, packB_bitsOf]
  have hs : storedP l.length [] (blockZ 1 l) (0 + 1 + 2) = .ok (l, 0 + 1 + 2 + 5 + 16 + 16 + 8 * l.length) := by
    unfold storedP
    rw [pbind_of e3, pbind_of e4, pbind_of e5, pbind_of (pfail_no (by rw [decide_eq_false_iff_not]; omega)), pbind_of e6, pbind_of (pfail_no (by rw [decide_eq_false_iff_not]; simp))]
    rfl
  have hi : inflP l.length FUEL [] (blockZ 1 l) 0 = .ok (l, 0 + 1 + 2 + 5 + 16 + 16 + 8 * l.length) := by
    rw [fuel_is, inflP_succ, pbind_of e1, pbind_of e2, pbind_of (pfail_no (by decide))]
    have hk : blockP l.length 0 [] = storedP l.length [] := by unfold blockP; rw [if_pos rfl]
    rw [hk, pbind_of hs, if_neg (by omega)]
    rfl
  have hw : wholeN (0 + 1 + 2 + 5 + 16 + 16 + 8 * l.length) / 8 = l.length + 5 := by unfold wholeN; omega
  rw [hz, inflZ_of hi, hbl, hw]
theorem best_back {l : List UInt8} (hl : l.length ≤ 65535) : inflZ (bestZ l) (l.length : Int) = (l, (bestZ l).length, 0) := by
  unfold bestZ
  split
  · exact fixed_back (by omega)
  · exact stored_back hl
end
end Go.Proofs.YtiiiokikmjgliaaGreatDoor
/-
  Deflated bytes with a head and a sum: plain facts, no program in sight.
-/
namespace Go.Proofs.YtiiiokikmjgliaaGreatDoor
section
set_option maxRecDepth 100000
def tailZ (l : List UInt8) : List UInt8 := loN 4 (aSum l)
theorem tailZ_length (l : List UInt8) : (tailZ l).length = 4 := loN_length 4 _
def wrapZ (l : List UInt8) : List UInt8 := [120, 1] ++ (bestZ l ++ tailZ l)
def headNo (a b : Nat) : Bool := decide (a % 16 ≠ 8 ∨ 7 < a / 16 ∨ (256 * a + b) % 31 ≠ 0 ∨ b / 32 % 2 = 1)
def restZ (l : List UInt8) (r : List UInt8 × Nat × Int) : List UInt8 × Int :=
  if r.2.2 ≠ 0 then ([], r.2.2)
  else if (l.drop r.2.1).length < 4 then ([], 5)
  else if (l.drop r.2.1).take 4 ≠ tailZ r.1 then ([], 6)
  else if 4 < (l.drop r.2.1).length then ([], 4)
  else (r.1, 0)
def unwrapZ : List UInt8 → Int → List UInt8 × Int
  | a :: b :: l, most => if most < 0 then ([], 2) else if headNo a.toNat b.toNat = true then ([], 4) else restZ l (inflZ l most)
  | _, most => if most < 0 then ([], 2) else ([], 5)
theorem unwrapZ_short {l : List UInt8} {most : Int} (h : 0 ≤ most) (hl : l.length < 2) : unwrapZ l most = ([], 5) := by
  match l, hl with
  | [], _ => simp [unwrapZ]; omega
  | [a], _ => simp [unwrapZ]; omega
theorem unwrapZ_wrapped (l : List UInt8) (most : Int) (h : 0 ≤ most) : unwrapZ (120 :: 1 :: l) most = restZ l (inflZ l most) := by
  show (if most < 0 then ([], 2) else if headNo (120 : UInt8).toNat (1 : UInt8).toNat = true then ([], 4) else restZ l (inflZ l most)) = _
  rw [if_neg (by omega), if_neg (by decide)]
theorem restZ_err {l : List UInt8} {r : List UInt8 × Nat × Int} (h : r.2.2 ≠ 0) : restZ l r = ([], r.2.2) := by unfold restZ; rw [if_pos h]
theorem wrapZ_length (l : List UInt8) : (wrapZ l).length = (bestZ l).length + 6 := by
  unfold wrapZ
  simp only [List.length_append, tailZ_length, List.length_cons, List.length_nil]
  omega
end
end Go.Proofs.YtiiiokikmjgliaaGreatDoor
