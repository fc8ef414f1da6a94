/-
  PaBack, PaText: texts merged.
-/
import Derived.Test.YtejgcnmbngdkiaaGreatDoorNPa
import Derived.Test.YtejgcnmbngdkiaaGreatDoorNWr
/-
  What is written is read as it was: plainly.
-/
namespace Go.Proofs.YtejgcnmbngdkiaaGreatDoor
section
set_option autoImplicit false

/-! Where the next sign begins. -/
def Dark (u : List UInt8) : Prop := ∀ c t, u = c :: t → ¬ kindI (c.toNat : Int) = 0 ∧ ¬ c.toNat = 37
theorem skip_dark {u : List UInt8} (h : Dark u) : skipGo false u = 0 := by
  cases u with
  | nil => rfl
  | cons c t => exact skip_stop (h c t rfl).1 (h c t rfl).2
theorem next_first {l a u : List UInt8} (hl : l = a ++ u) (hu : Dark u) : nextN l a.length = (firstL u).put a.length := by
  subst hl
  unfold nextN skipN
  rw [List.drop_left, skip_dark hu, Nat.add_zero, List.drop_left]
theorem next_gap {l a u : List UInt8} (hl : l = a ++ 32 :: u) : nextN l a.length = nextN l (a.length + 1) := by
  have e : skipN l a.length = skipN l (a.length + 1) := by
    subst hl
    unfold skipN
    have e2 : (a ++ 32 :: u).drop (a.length + 1) = u := by rw [← List.drop_drop, List.drop_left]; rfl
    rw [List.drop_left, e2, skip_white (by decide)]
    omega
  unfold nextN
  rw [e]
/-- What stands behind a value: nothing, a blank, or what closes. -/
def Tail (r : List UInt8) : Prop := ∀ c t, r = c :: t → c.toNat = 32 ∨ c.toNat = 93 ∨ c.toNat = 62
theorem Tail.reg {r : List UInt8} (h : Tail r) : ∀ c t, r = c :: t → ¬ kindI (c.toNat : Int) = 2 := fun c t e => by
  rcases h c t e with h | h | h <;> rw [h] <;> decide
theorem Tail.blank (r : List UInt8) : Tail (32 :: r) := fun c t e => by injection e with e; rw [← e]; decide
theorem Tail.close (r : List UInt8) : Tail (93 :: r) := fun c t e => by injection e with e; rw [← e]; decide
theorem Tail.closes (r : List UInt8) : Tail (62 :: r) := fun c t e => by injection e with e; rw [← e]; decide
theorem Tail.nil : Tail [] := fun c t e => by cases e

/-! Words and numbers. -/
def Regs (w : List UInt8) : Prop := ∀ c ∈ w, kindI (c.toNat : Int) = 2
theorem reg_not {c : UInt8} (h : kindI (c.toNat : Int) = 2) : ¬ c.toNat = 91 ∧ ¬ c.toNat = 93 ∧ ¬ c.toNat = 47 ∧ ¬ c.toNat = 40 ∧ ¬ c.toNat = 60 ∧ ¬ c.toNat = 62 ∧ ¬ c.toNat = 41 ∧ ¬ c.toNat = 123 ∧ ¬ c.toNat = 125 ∧ ¬ c.toNat = 37 := by
  unfold kindI at h
  split at h
  · cases h
  · split at h
    · cases h
    · omega
theorem span_regs : ∀ (w r : List UInt8), Regs w → (∀ c t, r = c :: t → ¬ kindI (c.toNat : Int) = 2) → spanN (w ++ r) [2] 0 = w.length := by
  intro w r hw hr
  unfold spanN
  rw [List.drop_zero]
  induction w with
  | nil =>
    cases r with
    | nil => rfl
    | cons c t =>
      have := hr c t rfl
      rw [List.nil_append, List.takeWhile_cons_of_neg (by simpa using this)]
  | cons c w ih =>
    have h := hw c (List.mem_cons_self ..)
    rw [List.cons_append, List.takeWhile_cons_of_pos (by simp [h]), List.length_cons, List.length_cons, ih (fun x hx => hw x (List.mem_cons_of_mem _ hx))]
theorem first_regs {w r : List UInt8} (h0 : w ≠ []) (hw : Regs w) (hr : Tail r) : firstL (w ++ r) = wordOf w := by
  have hs := span_regs w r hw hr.reg
  cases w with
  | nil => exact absurd rfl h0
  | cons c w =>
    have h := reg_not (hw c (List.mem_cons_self ..))
    rw [List.cons_append] at hs ⊢
    unfold firstL
    simp only
    rw [if_neg h.1, if_neg h.2.1, if_neg h.2.2.1, if_neg h.2.2.2.1, if_neg h.2.2.2.2.1, if_neg h.2.2.2.2.2.1, if_neg (by omega)]
    unfold wordL
    rw [hs, ← List.cons_append, List.take_left' (by rfl)]
theorem regs_dark {w r : List UInt8} (h0 : w ≠ []) (hw : Regs w) : Dark (w ++ r) := fun c t e => by
  cases w with
  | nil => exact absurd rfl h0
  | cons a w =>
    rw [List.cons_append] at e
    injection e with e _
    subst e
    have h := hw a (List.mem_cons_self ..)
    exact ⟨by omega, (reg_not h).2.2.2.2.2.2.2.2.2⟩
theorem dig_reg {c : UInt8} (h : isDig c = true) : kindI (c.toNat : Int) = 2 := by
  have := isDig_of h
  unfold kindI
  rw [if_neg (by omega), if_neg (by omega)]
theorem putL_regs (n : Int) : Regs (putL n) := by
  unfold putL
  split
  · intro c hc
    rcases List.mem_cons.1 hc with rfl | h
    · decide
    · exact dig_reg (decN_digits _ c h)
  · intro c hc; exact dig_reg (decN_digits _ c hc)
theorem putL_ne (n : Int) : putL n ≠ [] := by obtain ⟨c, t, h, _⟩ := putL_head n; rw [h]; exact List.cons_ne_nil _ _
theorem first_put {n : Int} {r : List UInt8} (h0 : -2147483647 ≤ n) (h1 : n ≤ 2147483647) (hr : Tail r) : firstL (putL n ++ r) = ⟨1, n, [], 0, (putL n).length, 0⟩ := by
  rw [first_regs (putL_ne n) (putL_regs n) hr]
  unfold wordOf
  rw [loose_put n h0 h1, if_pos rfl]
theorem true_regs : Regs trueL ∧ Regs falseL ∧ Regs nullL ∧ Regs [82] := by unfold Regs; decide
theorem first_word {w r : List UInt8} (h0 : w ≠ []) (hw : Regs w) (hl : (looseL w).2 = 4) (h : w.length ≤ 127) (hr : Tail r) : firstL (w ++ r) = ⟨8, 0, w, 0, w.length, 0⟩ := by
  rw [first_regs h0 hw hr]
  unfold wordOf
  rw [hl, if_neg (by decide), if_neg (by decide), if_neg (by omega)]

/-! Names. -/
theorem name_back : ∀ (s out : List UInt8) (n : Nat) (r : List UInt8), NoZero s → out.length + s.length ≤ 127 → Tail r → nameGo out n (nameG s ++ r) = ⟨2, 0, out ++ s, 0, n + (nameG s).length, 0⟩
  | [], out, n, r, _, _, hr => by
    rw [nameG_nil, List.nil_append, List.append_nil]
    cases r with
    | nil => rw [name_nil]; rfl
    | cons c t => rw [name_end (hr.reg c t rfl)]; rfl
  | c :: s, out, n, r, hz, hl, hr => by
    have ih := fun n => name_back s (out ++ [c]) n r (fun x hx => hz x (List.mem_cons_of_mem _ hx)) (by rw [List.length_append]; simp at hl ⊢; omega) hr
    have hc := hz c (List.mem_cons_self ..)
    have ho : ¬ 127 ≤ out.length := by simp at hl; omega
    have eo : out ++ c :: s = out ++ [c] ++ s := by simp
    rw [nameG_cons, eo]
    unfold nameB
    by_cases hb : bareB c = true
    · rw [if_pos hb, List.append_assoc, List.cons_append, List.nil_append]
      unfold bareB at hb
      simp only [Bool.and_eq_true, decide_eq_true_eq] at hb
      rw [name_plain hb.2.1 hb.2.2, if_neg ho, ih]
      rw [List.length_append, List.length_cons, List.length_nil]
      congr 1; omega
    · rw [if_neg hb, List.append_assoc]
      have h16 := c.toNat_lt
      have e1 := hex_digit (n := c.toNat / 16) (by omega)
      have e2 := hex_digit (n := c.toNat % 16) (by omega)
      rw [← digB_nat (by omega)] at e1 e2
      have hh : hidL ([35, digB (c.toNat / 16), digB (c.toNat % 16)] ++ (nameG s ++ r)) = some c := by
        simp only [List.cons_append, List.nil_append, hidL]
        rw [e1, e2, if_neg (by omega)]
        congr 1
        refine UInt8.toNat_inj.1 ?_
        rw [UInt8.toNat_ofNat_of_lt' (by show _ < 256; omega)]
        omega
      simp only [List.cons_append, List.nil_append] at hh ⊢
      rw [name_hid (by decide) (by decide) hh, if_neg ho]
      simp only [List.drop_succ_cons, List.drop_zero]
      rw [ih]
      simp only [List.length_cons]
      congr 1; omega
theorem first_name {s r : List UInt8} (hz : NoZero s) (hl : s.length ≤ 127) (hr : Tail r) : firstL (nameW s ++ r) = ⟨2, 0, s, 0, (nameW s).length, 0⟩ := by
  unfold nameW
  rw [List.cons_append]
  unfold firstL
  simp only
  rw [if_neg (by decide), if_neg (by decide), if_pos (by decide), name_back s [] 1 r hz (by simpa using hl) hr, List.length_cons]
  simp only [List.nil_append]
  congr 1; omega

/-! Texts. -/
theorem ends_zero {c : UInt8} {t : List UInt8} (h : ¬ (c.toNat = 10 ∨ c.toNat = 13)) : endsN (c :: t) 0 = 0 := by
  unfold endsN
  simp only [List.drop_zero, List.getElem?_cons_zero]
  rw [if_neg (fun hp => h (.inr (by obtain ⟨q, e⟩ := hp; injection e with e _; rw [← e]; decide)))]
  rw [if_neg (fun e => by
    rcases e with e | e <;> (injection e with e; exact h (by rw [e]; decide)))]
theorem text_back : ∀ (s out : List UInt8) (n : Nat) (r : List UInt8), (∀ c ∈ s, shownB c = true) → out.length + s.length ≤ 65535 → textGo 1 out n (escG s ++ 41 :: r) = ⟨3, 0, out ++ s, 0, n + (escG s).length + 1, 0⟩
  | [], out, n, r, _, _ => by
    rw [show escG [] = [] from rfl, List.nil_append, text_end (by decide) rfl, List.append_nil]; rfl
  | c :: s, out, n, r, hs, hl => by
    have ih := fun n => text_back s (out ++ [c]) n r (fun x hx => hs x (List.mem_cons_of_mem _ hx)) (by rw [List.length_append]; simp at hl ⊢; omega)
    have hc := of_decide_eq_true (hs c (List.mem_cons_self ..))
    have ho : ¬ 65535 < out.length + [c].length := by simp at hl ⊢; omega
    have eo : out ++ c :: s = out ++ [c] ++ s := by simp
    rw [escG_cons, eo]
    unfold escB
    by_cases hb : c.toNat = 40 ∨ c.toNat = 41 ∨ c.toNat = 92
    · rw [if_pos hb, List.append_assoc]
      simp only [List.cons_append, List.nil_append]
      have hw : withinL (92 :: c :: (escG s ++ 41 :: r)) = ([c], 2) := by
        unfold withinL
        simp only
        rw [ends_zero (by decide), if_neg (by decide), if_pos (by decide)]
        unfold escL
        simp only
        rw [ends_zero (by omega), if_neg (by decide)]
        have ho : octN (c :: (escG s ++ 41 :: r)) = 0 := by
          unfold octN
          rw [List.take_succ_cons, List.takeWhile_cons_of_neg (by unfold octB; simp; omega)]; rfl
        rw [ho, if_neg (by decide)]
        have he : escC c = c := by
          unfold escC
          rw [if_neg (by omega), if_neg (by omega), if_neg (by omega), if_neg (by omega), if_neg (by omega)]
        rw [he]; rfl
      rw [text_step (by decide) hw ho]
      simp only [List.drop_succ_cons, List.drop_zero]
      rw [show depthT 1 92 = 1 from rfl, ih]
      simp only [List.length_cons]
      congr 1; omega
    · rw [if_neg hb, List.append_assoc]
      simp only [List.cons_append, List.nil_append]
      have hw : withinL (c :: (escG s ++ 41 :: r)) = ([c], 1) := by
        unfold withinL
        simp only
        rw [ends_zero (by omega), if_neg (by decide), if_neg (by omega)]
      rw [text_step (by omega) hw ho]
      simp only [List.drop_succ_cons, List.drop_zero]
      rw [show depthT 1 c = 1 by unfold depthT; rw [if_neg (by omega), if_neg (by omega)], ih]
      simp only [List.length_cons]
      congr 1; omega
theorem digB_hex {n : Nat} (h : n < 16) : hexI ((digB n).toNat : Int) = n ∧ ¬ (digB n).toNat = 62 := by
  have a := digitI_range h
  have b := digB_nat h
  exact ⟨by rw [b]; exact hex_digit h, by omega⟩
theorem hex_back : ∀ (s : List UInt8) (ds : List Nat) (n : Nat) (r : List UInt8), ds.length % 2 = 0 → ds.length / 2 + s.length ≤ 65535 → hexGo ds n (encH s ++ r) = ⟨3, 0, pairsH ds ++ s, 0, n + (encH s).length, 0⟩
  | [], ds, n, r, h2, hl => by
    rw [show encH [] = [62] from rfl, List.append_nil]
    show hexGo ds n (62 :: r) = _
    rw [hex_end (by decide), if_neg (by simp at hl; omega)]; rfl
  | c :: s, ds, n, r, h2, hl => by
    have h16 := c.toNat_lt
    have e1 := digB_hex (n := c.toNat / 16) (by omega)
    have e2 := digB_hex (n := c.toNat % 16) (by omega)
    have hls : ds.length / 2 + (s.length + 1) ≤ 65535 := by simpa using hl
    have e : encH (c :: s) = digB (c.toNat / 16) :: digB (c.toNat % 16) :: encH s := rfl
    rw [e, List.cons_append, List.cons_append, hex_put e1.2 (by rw [e1.1]; omega), if_neg (by omega), hex_put e2.2 (by rw [e2.1]; omega), if_neg (by rw [List.length_append]; simp; omega), e1.1, e2.1]
    rw [hex_back s _ _ r (by simp; omega) (by simp; omega)]
    rw [Int.toNat_natCast, Int.toNat_natCast, pairsH_snoc2 _ _ _ h2]
    have ec : UInt8.ofNat (16 * (c.toNat / 16) + c.toNat % 16) = c := by
      refine UInt8.toNat_inj.1 ?_
      rw [UInt8.toNat_ofNat_of_lt' (by show _ < 256; omega)]
      omega
    rw [ec, List.append_assoc]
    simp only [List.length_cons, List.cons_append, List.nil_append]
    congr 1; omega
theorem first_bytes {s r : List UInt8} (hl : s.length ≤ 65535) : firstL (bytesW s ++ r) = ⟨3, 0, s, 0, (bytesW s).length, 0⟩ := by
  unfold bytesW
  split
  · rename_i h
    rw [List.cons_append, List.append_assoc]
    unfold firstL
    simp only
    rw [if_neg (by decide), if_neg (by decide), if_neg (by decide), if_pos (by decide)]
    simp only [List.cons_append, List.nil_append]
    rw [text_back s [] 1 r (fun c hc => List.all_eq_true.1 h c hc) (by simpa using hl)]
    simp only [List.nil_append, List.length_cons, List.length_append, List.length_nil]
    congr 1; omega
  · rename_i h
    have hp : preB (60 :: (encH s ++ r)) [60, 60] = false := by
      refine decide_eq_false fun hp => ?_
      obtain ⟨q, e⟩ := hp
      have e2 := bytesW_two (l := s) (r := r) (t := q)
      unfold bytesW at e2
      rw [if_neg h, List.cons_append] at e2
      exact e2 e.symm
    rw [List.cons_append]
    unfold firstL
    simp only
    rw [if_neg (by decide), if_neg (by decide), if_neg (by decide), if_neg (by decide), if_pos (by decide), hp, if_neg (by decide), hex_back s [] 1 r rfl (by simpa using hl)]
    simp only [List.length_cons]
    show Sg.mk 3 0 ([] ++ s) 0 _ 0 = _
    rw [List.nil_append]
    congr 1; omega
end
end Go.Proofs.YtejgcnmbngdkiaaGreatDoor
/-
  A value's text is read as the value, wherever it stands: plainly.
-/
namespace Go.Proofs.YtejgcnmbngdkiaaGreatDoor
section
set_option autoImplicit false

/-- The sign with which a value's text begins. -/
def fstV (v : Val) : Sg :=
  if v.kind = 0 then ⟨8, 0, nullL, 0, nullL.length, 0⟩
  else if v.kind = 1 then ⟨8, 0, boolW v.n, 0, (boolW v.n).length, 0⟩
  else if v.kind = 2 then ⟨1, v.n, [], 0, (putL v.n).length, 0⟩
  else if v.kind = 3 then ⟨2, 0, v.s.data.toList, 0, (nameW v.s.data.toList).length, 0⟩
  else if v.kind = 4 then ⟨3, 0, v.s.data.toList, 0, (bytesW v.s.data.toList).length, 0⟩
  else if v.kind = 7 then ⟨1, v.n, [], 0, (putL v.n).length, 0⟩
  else if v.kind = 5 then Sg.bare 4 1 else Sg.bare 6 2
theorem zeroS_of {s : ByteArray} (h : zeroS s = false) : NoZero s.data.toList := fun c hc e => by
  unfold zeroS at h
  rw [List.any_eq_false] at h
  exact h c hc (by simpa using e)
theorem OkV.name {v : Val} (h : OkV v) (hk : v.kind = 3) : NoZero v.s.data.toList ∧ v.s.data.toList.length ≤ 127 := by
  obtain ⟨m, h⟩ := h
  have ho := oneV_zero.1 (checkV_zero.1 h).1
  rw [← size_data]
  exact ⟨zeroS_of (by cases hz : zeroS v.s; rfl; exact absurd (.inr ⟨hk, hz⟩) ho.2.1), by have := ho.2.2.2.1; omega⟩
theorem OkV.text {v : Val} (h : OkV v) (hk : v.kind = 4) : v.s.data.toList.length ≤ 65535 := by
  obtain ⟨m, h⟩ := h
  have ho := oneV_zero.1 (checkV_zero.1 h).1
  rw [← size_data]
  have := ho.2.2.2.1; omega
theorem dark_cons {c : UInt8} {t : List UInt8} (h : ¬ kindI (c.toNat : Int) = 0) (h2 : ¬ c.toNat = 37) : Dark (c :: t) := fun x y e => by
  injection e with e _; rw [← e]; exact ⟨h, h2⟩
theorem first_value {v : Val} (ho : OkV v) {r : List UInt8} (hr : Tail r) : firstL (textV v ++ r) = fstV v ∧ Dark (textV v ++ r) := by
  have hk := ho.kind
  rw [textV_eq]
  unfold fstV
  by_cases h0 : v.kind = 0
  · rw [if_pos h0, if_pos h0]
    exact ⟨first_word (by decide) true_regs.2.2.1 (by decide) (by decide) hr, regs_dark (by decide) true_regs.2.2.1⟩
  rw [if_neg h0, if_neg h0]
  by_cases h1 : v.kind = 1
  · rw [if_pos h1, if_pos h1]
    unfold boolW
    split
    · exact ⟨first_word (by decide) true_regs.2.1 (by decide) (by decide) hr, regs_dark (by decide) true_regs.2.1⟩
    · exact ⟨first_word (by decide) true_regs.1 (by decide) (by decide) hr, regs_dark (by decide) true_regs.1⟩
  rw [if_neg h1, if_neg h1]
  by_cases h2 : v.kind = 2
  · rw [if_pos h2, if_pos h2]
    have := ho.int h2
    exact ⟨first_put this.1 this.2 hr, regs_dark (putL_ne _) (putL_regs _)⟩
  rw [if_neg h2, if_neg h2]
  by_cases h3 : v.kind = 3
  · rw [if_pos h3, if_pos h3]
    have := ho.name h3
    exact ⟨first_name this.1 this.2 hr, dark_cons (by decide) (by decide)⟩
  rw [if_neg h3, if_neg h3]
  by_cases h4 : v.kind = 4
  · rw [if_pos h4, if_pos h4]
    have := ho.text h4
    refine ⟨first_bytes this, ?_⟩
    unfold bytesW
    split
    · exact dark_cons (by decide) (by decide)
    · exact dark_cons (by decide) (by decide)
  rw [if_neg h4, if_neg h4]
  by_cases h7 : v.kind = 7
  · rw [if_pos h7, if_pos h7]
    have := ho.link h7
    unfold linkW
    rw [List.append_assoc, List.cons_append]
    exact ⟨first_put (by omega) (by omega) (Tail.blank _), regs_dark (putL_ne _) (putL_regs _)⟩
  rw [if_neg h7, if_neg h7]
  unfold openW
  by_cases h5 : v.kind = 5
  · rw [if_pos h5, if_pos h5]
    exact ⟨rfl, dark_cons (by decide) (by decide)⟩
  · rw [if_neg h5, if_neg h5]
    refine ⟨?_, dark_cons (by decide) (by decide)⟩
    simp only [List.cons_append, List.nil_append]
    have hp : ∀ x : List UInt8, preB (60 :: 60 :: x) [60, 60] = true := fun x => decide_eq_true ⟨x, rfl⟩
    unfold firstL
    simp only
    rw [if_neg (by decide), if_neg (by decide), if_neg (by decide), if_neg (by decide), if_pos (by decide), hp, if_pos rfl]
theorem fstV_code (v : Val) : (fstV v).code = 0 := by unfold fstV; repeat' split
                                                      all_goals rfl
theorem put_of {a : Sg} (h : a.code = 0) (k : Nat) : a.put k = ⟨a.kind, a.num, a.str, k, a.fin + k, 0⟩ := by unfold Sg.put; rw [if_pos h]
theorem fstV_noR (v : Val) (k : Nat) : endsR ((fstV v).put k) = false := by
  rw [put_of (fstV_code v)]
  unfold endsR
  simp only
  have : (fstV v).kind = 8 → (fstV v).str ≠ [82] := by
    unfold fstV boolW
    repeat' split
    all_goals first | (intro _; decide) | (intro h; dsimp only at h; omega)
  by_cases h : (fstV v).kind = 8
  · simp [this h]
  · simp [h]

/-! What stands behind a value ends it. -/
def NoLink (r : List UInt8) : Prop := ¬ ((nextN r 0).code = 0 ∧ (nextN r 0).kind = 1 ∧ endsR (nextN r (nextN r 0).fin) = true)
structure Halt (r : List UInt8) : Prop where
  tail : Tail r
  link : NoLink r
theorem off_of {a : Sg} (h : a.code = 0) (k : Nat) : a.off k = ⟨a.kind, a.num, a.str, a.beg + k, a.fin + k, 0⟩ := by unfold Sg.off; rw [if_pos h]
theorem endsR_off (a : Sg) (k : Nat) : endsR (a.off k) = endsR a := by
  by_cases h : a.code = 0
  · rw [off_of h]; unfold endsR; simp [h]
  · unfold Sg.off endsR; rw [if_neg h]; simp [h, Sg.err]
theorem nolink_at {l a r : List UInt8} (hl : l = a ++ r) (h : NoLink r) : ¬ ((nextN l a.length).code = 0 ∧ (nextN l a.length).kind = 1 ∧ endsR (nextN l (nextN l a.length).fin) = true) := by
  subst hl
  have e := next_behind a r 0
  rw [Nat.add_zero] at e
  rw [e]
  rintro ⟨h1, h2, h3⟩
  by_cases hc : (nextN r 0).code = 0
  · rw [off_of hc] at h2 h3
    simp only at h2 h3
    rw [Nat.add_comm, next_behind, endsR_off] at h3
    exact h ⟨hc, h2, h3⟩
  · unfold Sg.off at h1
    rw [if_neg hc] at h1
    exact hc h1
theorem next_close (r : List UInt8) : nextN (93 :: r) 0 = ⟨5, 0, [], 0, 1, 0⟩ := by
  have h := next_first (l := 93 :: r) (a := []) (u := 93 :: r) rfl (dark_cons (by decide) (by decide))
  exact h
theorem halt_close (r : List UInt8) : Halt (93 :: r) := ⟨Tail.close r, by unfold NoLink; rw [next_close]; simp⟩
theorem noR_elems {vs : List Val} (hv : ∀ x ∈ vs, OkV x) (i : Nat) (r : List UInt8) : endsR (nextN (elemsW (i + 1) vs ++ 93 :: r) 0) = false := by
  cases vs with
  | nil => rw [elemsW, List.nil_append, next_close]; rfl
  | cons w t =>
    rw [elemsW, gapW, if_neg (by omega)]
    simp only [List.cons_append, List.nil_append, List.append_assoc]
    have h1 := next_gap (l := 32 :: (textV w ++ (elemsW (i + 1 + 1) t ++ 93 :: r))) (a := []) rfl
    have hw := first_value (hv w (List.mem_cons_self ..)) (r := elemsW (i + 1 + 1) t ++ 93 :: r) (by
      cases t with
      | nil => rw [elemsW]; exact Tail.close r
      | cons x y => rw [elemsW, gapW, if_neg (by omega)]; exact Tail.blank _)
    have h2 := next_first (l := 32 :: (textV w ++ (elemsW (i + 1 + 1) t ++ 93 :: r))) (a := [32]) (u := textV w ++ (elemsW (i + 1 + 1) t ++ 93 :: r)) rfl hw.2
    rw [hw.1] at h2
    simp only [List.length_nil, List.length_cons, Nat.zero_add] at h1 h2
    rw [h1, h2]
    exact fstV_noR w 1
theorem tail_elems (vs : List Val) (i : Nat) (r : List UInt8) : Tail (elemsW (i + 1) vs ++ 93 :: r) := by
  cases vs with
  | nil => rw [elemsW]; exact Tail.close r
  | cons x y => rw [elemsW, gapW, if_neg (by omega)]; exact Tail.blank _
theorem halt_elems {vs : List Val} (hv : ∀ x ∈ vs, OkV x) (i : Nat) (r : List UInt8) : Halt (elemsW (i + 1) vs ++ 93 :: r) := by
  refine ⟨tail_elems vs i r, ?_⟩
  cases vs with
  | nil => rw [elemsW]; exact (halt_close r).link
  | cons w t =>
    have how := hv w (List.mem_cons_self ..)
    rw [elemsW, gapW, if_neg (by omega)]
    simp only [List.cons_append, List.nil_append, List.append_assoc]
    obtain ⟨L, hL⟩ : ∃ L, 32 :: (textV w ++ (elemsW (i + 1 + 1) t ++ 93 :: r)) = L := ⟨_, rfl⟩
    have h1 := next_gap (l := L) (a := []) hL.symm
    have hw := first_value how (tail_elems t (i + 1) r)
    have h2 := next_first (l := L) (a := [32]) (u := textV w ++ (elemsW (i + 1 + 1) t ++ 93 :: r)) hL.symm hw.2
    rw [hw.1, put_of (fstV_code w)] at h2
    simp only [List.length_nil, List.length_cons, Nat.zero_add] at h1 h2
    rw [hL]
    unfold NoLink
    rw [h1, h2]
    simp only
    rintro ⟨_, h3, h4⟩
    have hk := how.kind
    by_cases k2 : w.kind = 2
    · have e : (fstV w).fin = (textV w).length := by rw [textV_int k2]; unfold fstV; rw [if_neg (by omega), if_neg (by omega), if_pos k2]
      rw [e, ← hL] at h4
      have h5 := next_behind (32 :: textV w) (elemsW (i + 1 + 1) t ++ 93 :: r) 0
      rw [Nat.add_zero, List.length_cons, List.cons_append] at h5
      rw [h5, endsR_off, noR_elems (fun x hx => hv x (List.mem_cons_of_mem _ hx)) (i + 1) r] at h4
      cases h4
    · by_cases k7 : w.kind = 7
      · have e : (fstV w).fin = (putL w.n).length := by unfold fstV; rw [if_neg (by omega), if_neg (by omega), if_neg (by omega), if_neg (by omega), if_neg (by omega), if_pos k7]
        rw [e] at h4
        have hg := how.link k7
        rw [textV_link k7, linkW] at hL
        have h5 := next_gap (l := L) (a := 32 :: putL w.n) (u := putL w.g ++ [32, 82] ++ (elemsW (i + 1 + 1) t ++ 93 :: r)) (by rw [← hL]; simp)
        have h6 := next_first (l := L) (a := 32 :: (putL w.n ++ [32])) (u := putL w.g ++ ([32, 82] ++ (elemsW (i + 1 + 1) t ++ 93 :: r))) (by rw [← hL]; simp) (regs_dark (putL_ne _) (putL_regs _))
        rw [first_put (n := w.g) (r := [32, 82] ++ (elemsW (i + 1 + 1) t ++ 93 :: r)) (by omega) (by omega) (Tail.blank _)] at h6
        simp only [List.length_cons, List.length_append, List.length_nil, Nat.zero_add] at h5 h6
        rw [h5, h6] at h4
        exact absurd h4 (by unfold endsR Sg.put; simp)
      · have : ¬ (fstV w).kind = 1 := by
          unfold fstV
          rw [if_neg (show ¬ w.kind = 2 from k2), if_neg (show ¬ w.kind = 7 from k7)]
          repeat' split
          all_goals (dsimp only [Sg.bare]; decide)
        exact this h3
theorem next_name {l a u : List UInt8} (hl : l = a ++ 47 :: u) : (nextN l a.length).code = 0 → (nextN l a.length).kind = 2 := by
  have h := next_first (l := l) (a := a) hl (dark_cons (by decide) (by decide))
  have e : firstL (47 :: u) = nameGo [] 1 u := by
    unfold firstL
    simp only
    rw [if_neg (by decide), if_neg (by decide), if_pos (by decide)]
  rw [h, e]
  have g := (name_good u.length u [] 1 (Nat.le_refl _) (by decide)).2
  intro hc
  by_cases h0 : (nameGo [] 1 u).code = 0
  · rw [put_of h0]; exact (g h0).2
  · unfold Sg.put at hc
    rw [if_neg h0] at hc
    exact absurd hc h0
theorem next_closes (r : List UInt8) : nextN (62 :: 62 :: r) 0 = ⟨7, 0, [], 0, 2, 0⟩ := by
  have h := next_first (l := 62 :: 62 :: r) (a := []) (u := 62 :: 62 :: r) rfl (dark_cons (by decide) (by decide))
  have hp : preB (62 :: 62 :: r) [62, 62] = true := decide_eq_true ⟨r, rfl⟩
  have e : firstL (62 :: 62 :: r) = Sg.bare 7 2 := by
    unfold firstL
    simp only
    rw [if_neg (by decide), if_neg (by decide), if_neg (by decide), if_neg (by decide), if_neg (by decide), if_pos (by decide), hp, if_pos rfl]
  rw [e] at h
  exact h
theorem halt_prs (p : Prs) (i : Nat) (r : List UInt8) : Halt (prsW (i + 1) p ++ 62 :: 62 :: r) := by
  cases p with
  | nil => rw [prsW, List.nil_append]; exact ⟨Tail.closes _, by unfold NoLink; rw [next_closes]; simp⟩
  | cons q t =>
    obtain ⟨k, w⟩ := q
    rw [prsW, gapW, if_neg (by omega), nameW]
    simp only [List.cons_append, List.nil_append, List.append_assoc]
    refine ⟨Tail.blank _, ?_⟩
    unfold NoLink
    have h1 := next_gap (l := 32 :: 47 :: (nameG k.data.toList ++ 32 :: (textV w ++ (prsW (i + 1 + 1) t ++ 62 :: 62 :: r)))) (a := []) rfl
    have h2 := next_name (l := 32 :: 47 :: (nameG k.data.toList ++ 32 :: (textV w ++ (prsW (i + 1 + 1) t ++ 62 :: 62 :: r)))) (a := [32]) rfl
    simp only [List.length_nil, List.length_cons, Nat.zero_add] at h1 h2
    rw [h1]
    rintro ⟨h3, h4, _⟩
    rw [h2 h3] at h4
    exact absurd h4 (by decide)
theorem halt_nil : Halt [] := ⟨Tail.nil, by unfold NoLink; rw [show nextN [] 0 = ⟨0, 0, [], 0, 0, 0⟩ from rfl]; simp⟩
theorem halt_blank : Halt [32] := ⟨Tail.blank _, by
  have h1 := next_gap (l := [32]) (a := []) rfl
  have h2 := next_first (l := [32]) (a := [32]) (u := []) rfl (fun c t e => by cases e)
  unfold NoLink
  simp only [List.length_nil, List.length_cons, Nat.zero_add] at h1 h2
  rw [h1, h2]
  rintro ⟨_, h, _⟩
  exact absurd h (by decide)⟩
theorem halt_end : Halt [32, 93] := ⟨Tail.blank _, by
  have h1 := next_gap (l := [32, 93]) (a := []) rfl
  have h2 := next_first (l := [32, 93]) (a := [32]) (u := [93]) rfl (dark_cons (by decide) (by decide))
  unfold NoLink
  simp only [List.length_nil, List.length_cons, Nat.zero_add] at h1 h2
  rw [h1, h2]
  rintro ⟨_, h, _⟩
  exact absurd h (by decide)⟩

/-! The value is read. -/
def ReadAs (v : Val) : Prop := ∀ d : Nat, checkV v false (d : Int) = 0 → ∀ l a r : List UInt8, l = a ++ (textV v ++ r) → Halt r → ∀ f, 2 * (l.length - a.length) + 1 ≤ f →
  begunP l f (nextN l a.length) d = ⟨v, a.length + (textV v).length, 0⟩
theorem next_value {v : Val} (ho : OkV v) {l a r : List UInt8} (hl : l = a ++ (textV v ++ r)) (hr : Tail r) : nextN l a.length = ⟨(fstV v).kind, (fstV v).num, (fstV v).str, a.length, (fstV v).fin + a.length, 0⟩ := by
  have h := first_value ho hr
  rw [next_first hl h.2, h.1, put_of (fstV_code v)]
theorem fst_open (v : Val) : ¬ (fstV v).kind = 0 ∧ ¬ (fstV v).kind = 5 ∧ ¬ (fstV v).kind = 7 := by
  unfold fstV
  repeat' split
  all_goals first | (dsimp only; decide) | decide
theorem elems_read {d : Nat} (r : List UInt8) : ∀ (vs : List Val) (i : Nat) (acc : List Val) (l a : List UInt8) (f : Nat), (∀ x ∈ vs, ReadAs x) → (∀ x ∈ vs, checkV x false ((d + 1 : Nat) : Int) = 0) →
    l = a ++ (elemsW i vs ++ 93 :: r) → 2 * (l.length - a.length) + 2 ≤ f → listP l f a.length (d + 1) acc = ⟨.mk 5 0 0 (bytes []) (acc ++ vs) [], a.length + (elemsW i vs).length + 1, 0⟩
  | [], i, acc, l, a, 0, _, _, _, hf => by omega
  | [], i, acc, l, a, f + 1, _, _, hl, hf => by
    rw [elemsW, List.nil_append] at hl
    have h := next_first hl (dark_cons (by decide) (by decide))
    have e : nextN l a.length = ⟨5, 0, [], a.length, 1 + a.length, 0⟩ := h
    rw [list_end (by rw [e]) (by rw [e]), e, List.append_nil, elemsW, List.length_nil]
    congr 1
    show 1 + a.length = a.length + 0 + 1
    omega
  | v :: t, i, acc, l, a, 0, _, _, _, hf => by omega
  | v :: t, i, acc, l, a, f + 1, hrd, hc, hl, hf => by
    have hcv := hc v (List.mem_cons_self ..)
    have hov : OkV v := ⟨_, hcv⟩
    have hot : ∀ x ∈ t, OkV x := fun x hx => ⟨_, hc x (List.mem_cons_of_mem _ hx)⟩
    have hH := halt_elems hot i r
    obtain ⟨b, hb⟩ : ∃ b, a ++ gapW i = b := ⟨_, rfl⟩
    have hlb : l = b ++ (textV v ++ (elemsW (i + 1) t ++ 93 :: r)) := by rw [hl, ← hb, elemsW]; simp
    have hbl : b.length = a.length + (gapW i).length := by rw [← hb, List.length_append]
    have hnx : nextN l a.length = nextN l b.length := by
      by_cases h0 : i = 0
      · rw [hbl, gapW, if_pos h0]; rfl
      · rw [hbl, gapW, if_neg h0]
        refine next_gap (u := textV v ++ (elemsW (i + 1) t ++ 93 :: r)) ?_
        rw [hlb, ← hb, gapW, if_neg h0]; simp
    have hnv := next_value hov hlb hH.tail
    have hop := fst_open v
    have hll : l.length = b.length + (textV v).length + (elemsW (i + 1) t ++ 93 :: r).length := by rw [hlb]; simp only [List.length_append]; omega
    have hpos : 0 < (textV v).length := by
      obtain ⟨c, u, e, _⟩ := textV_head hov
      rw [e, List.length_cons]; omega
    have hrv := hrd v (List.mem_cons_self ..) (d + 1) hcv l b _ hlb hH f (by omega)
    rw [← hnx] at hrv
    rw [list_step (by rw [hnx, hnv]) (by rw [hnx, hnv]; exact hop.2.1) (by rw [hrv]), hrv]
    simp only
    have ih := elems_read r t (i + 1) (acc ++ [v]) l (b ++ textV v) f (fun x hx => hrd x (List.mem_cons_of_mem _ hx)) (fun x hx => hc x (List.mem_cons_of_mem _ hx)) (by rw [hlb]; simp) (by rw [List.length_append]; omega)
    rw [List.length_append] at ih
    rw [ih, elemsW, List.append_assoc]
    simp only [List.length_append]
    congr 1
    omega
theorem hasK_of {k : ByteArray} {p : Prs} (h : ∀ q ∈ p, q.1 ≠ k) : hasK k p = false := by
  unfold hasK
  rw [List.any_eq_false]
  intro q hq
  have := h q hq
  simpa using this
theorem prs_read {d : Nat} (r : List UInt8) : ∀ (p : Prs) (i : Nat) (acc : Prs) (l a : List UInt8) (f : Nat), (∀ q ∈ p, ReadAs q.2) → (∀ q ∈ p, (q.1.size ≤ 127 ∧ zeroS q.1 = false) ∧ checkV q.2 false ((d + 1 : Nat) : Int) = 0) →
    (p.map Prod.fst).Pairwise (· ≠ ·) → (∀ q ∈ acc, ∀ x ∈ p, q.1 ≠ x.1) →
    l = a ++ (prsW i p ++ 62 :: 62 :: r) → 2 * (l.length - a.length) + 2 ≤ f → dictP l f a.length (d + 1) acc = ⟨.mk 6 0 0 (bytes []) [] (acc ++ p), a.length + (prsW i p).length + 2, 0⟩
  | [], i, acc, l, a, 0, _, _, _, _, _, hf => by omega
  | [], i, acc, l, a, f + 1, _, _, _, _, hl, hf => by
    rw [prsW, List.nil_append] at hl
    have h := next_behind a (62 :: 62 :: r) 0
    rw [Nat.add_zero, ← hl, next_closes] at h
    have e : nextN l a.length = ⟨7, 0, [], 0 + a.length, 2 + a.length, 0⟩ := h
    rw [dict_end (by rw [e]) (by rw [e]), e, List.append_nil, prsW, List.length_nil]
    congr 1
    show 2 + a.length = a.length + 0 + 2
    omega
  | q :: t, i, acc, l, a, 0, _, _, _, _, _, hf => by omega
  | (k, v) :: t, i, acc, l, a, f + 1, hrd, hc, hw, hac, hl, hf => by
    obtain ⟨⟨hk1, hk2⟩, hcv⟩ := hc (k, v) (List.mem_cons_self ..)
    dsimp only at hk1 hk2 hcv
    have hov : OkV v := ⟨_, hcv⟩
    have hH := halt_prs t i r
    obtain ⟨b, hb⟩ : ∃ b, a ++ gapW i = b := ⟨_, rfl⟩
    have hlb : l = b ++ (nameW k.data.toList ++ 32 :: (textV v ++ (prsW (i + 1) t ++ 62 :: 62 :: r))) := by rw [hl, ← hb, prsW]; simp
    have hbl : b.length = a.length + (gapW i).length := by rw [← hb, List.length_append]
    have hnx : nextN l a.length = nextN l b.length := by
      by_cases h0 : i = 0
      · rw [hbl, gapW, if_pos h0]; rfl
      · rw [hbl, gapW, if_neg h0]
        refine next_gap (u := nameW k.data.toList ++ 32 :: (textV v ++ (prsW (i + 1) t ++ 62 :: 62 :: r))) ?_
        rw [hlb, ← hb, gapW, if_neg h0]; simp
    have hnk : nextN l b.length = ⟨2, 0, k.data.toList, b.length, (nameW k.data.toList).length + b.length, 0⟩ := by
      rw [next_first hlb (dark_cons (by decide) (by decide)), first_name (zeroS_of hk2) (by rw [← size_data]; exact hk1) (Tail.blank _)]; rfl
    obtain ⟨c, hce⟩ : ∃ c, b ++ nameW k.data.toList ++ [32] = c := ⟨_, rfl⟩
    have hlc : l = c ++ (textV v ++ (prsW (i + 1) t ++ 62 :: 62 :: r)) := by rw [hlb, ← hce]; simp
    have hcl : c.length = (nameW k.data.toList).length + b.length + 1 := by rw [← hce]; simp; omega
    have hnc : nextN l ((nameW k.data.toList).length + b.length) = nextN l c.length := by
      have := next_gap (l := l) (a := b ++ nameW k.data.toList) (u := textV v ++ (prsW (i + 1) t ++ 62 :: 62 :: r)) (by rw [hlb]; simp)
      rw [List.length_append, Nat.add_comm b.length] at this
      rw [this, hcl]
    have hnv := next_value hov hlc hH.tail
    have hop := fst_open v
    have hll : l.length = c.length + (textV v).length + (prsW (i + 1) t ++ 62 :: 62 :: r).length := by rw [hlc]; simp only [List.length_append]; omega
    have hpos : 0 < (textV v).length := by
      obtain ⟨c, u, e, _⟩ := textV_head hov
      rw [e, List.length_cons]; omega
    have hrv := hrd (k, v) (List.mem_cons_self ..) (d + 1) hcv l c _ hlc hH f (by omega)
    dsimp only at hrv
    have hkk : bytes k.data.toList = k := bytes_of k
    have hfree : hasK k acc = false := hasK_of fun q hq => hac q hq (k, v) (List.mem_cons_self ..)
    have hread : readP l f ((nameW k.data.toList).length + b.length) (d + 1) = ⟨v, c.length + (textV v).length, 0⟩ := by
      rw [pread_ok (by rw [hnc, hnv]), hnc, hrv]
    have e1 := dict_step (f := f) (d := d + 1) (prs := acc) (l := l) (k := a.length) (by rw [hnx, hnk]) (by rw [hnx, hnk]) (by rw [hnx, hnk]; dsimp only; rw [hkk]; exact hfree) (by rw [hnx, hnk]; dsimp only; rw [hread])
    rw [e1, hnx, hnk]
    dsimp only
    rw [hread]
    dsimp only
    have hpk : pairV k.data.toList v = (k, v) := by unfold pairV; rw [hkk]
    rw [hpk]
    rw [List.map_cons, List.pairwise_cons] at hw
    have ih := prs_read r t (i + 1) (acc ++ [(k, v)]) l (c ++ textV v) f (fun x hx => hrd x (List.mem_cons_of_mem _ hx)) (fun x hx => hc x (List.mem_cons_of_mem _ hx)) hw.2 (fun q hq x hx => by
      rcases List.mem_append.1 hq with e | e
      · exact hac q e x (List.mem_cons_of_mem _ hx)
      · obtain rfl := List.mem_singleton.1 e
        exact hw.1 x.1 (List.mem_map_of_mem hx)) (by rw [hlc]; simp) (by rw [List.length_append]; omega)
    rw [List.length_append] at ih
    rw [ih, prsW, List.append_assoc]
    simp only [List.length_append, List.length_cons]
    congr 1
    omega
theorem bytes_nil : bytes [] = ByteArray.empty := rfl
theorem read_back (v : Val) : ReadAs v := by
  induction v using Val.ind with
  | h v hl hd =>
    intro d hc l a r hla hr f hf
    have ho : OkV v := ⟨_, hc⟩
    have hbv := ho.bare
    have hk := ho.kind
    have hnv := next_value ho hla hr.tail
    have hchk := checkV_zero.1 hc
    have hone := oneV_zero.1 hchk.1
    obtain ⟨f, rfl⟩ : ∃ g, f = g + 1 := ⟨f - 1, by omega⟩
    rw [hnv]
    have hcs : v.kind = 0 ∨ v.kind = 1 ∨ v.kind = 2 ∨ v.kind = 3 ∨ v.kind = 4 ∨ v.kind = 5 ∨ v.kind = 6 ∨ v.kind = 7 := by omega
    have hpos : 0 < (textV v).length := by
      obtain ⟨c, u, e, _⟩ := textV_head ho
      rw [e, List.length_cons]; omega
    have hll : l.length = a.length + (textV v).length + r.length := by rw [hla]; simp only [List.length_append]; omega
    rcases hcs with h | h | h | h | h | h | h | h
    · have ef : fstV v = ⟨8, 0, nullL, 0, nullL.length, 0⟩ := by unfold fstV; rw [if_pos h]
      rw [ef, begun_word rfl, wordP, if_neg (by dsimp only; decide), if_neg (by dsimp only; decide), if_pos rfl]
      have ev : v = .null := by rw [← hbv]; cases v with | mk k n g s l d => rw [Val.kind_mk] at h; subst h; simp [bareV]
      rw [textV_eq, if_pos h, ← ev]
      congr 1
      exact Nat.add_comm _ _
    · have ef : fstV v = ⟨8, 0, boolW v.n, 0, (boolW v.n).length, 0⟩ := by unfold fstV; rw [if_neg (by omega), if_pos h]
      have et : textV v = boolW v.n := by rw [textV_eq, if_neg (by omega), if_pos h]
      have ev : v = bitV 1 v.n 0 [] := by unfold bitV; rw [bytes_nil]; rw [← hbv]; cases v with | mk k n g s l d => rw [Val.kind_mk] at h; subst h; simp [bareV]
      rw [ef, begun_word rfl, et]
      have hn := ho.bool h
      generalize v.n = n at *
      subst ev
      rcases hn with rfl | rfl
      · unfold wordP
        dsimp only
        rw [if_neg (show ¬ boolW 0 = trueL by decide), if_pos (show boolW 0 = falseL from rfl)]
        congr 1
        exact Nat.add_comm _ _
      · unfold wordP
        dsimp only
        rw [if_pos (show boolW 1 = trueL from rfl)]
        congr 1
        exact Nat.add_comm _ _
    · have ef : fstV v = ⟨1, v.n, [], 0, (putL v.n).length, 0⟩ := by unfold fstV; rw [if_neg (by omega), if_neg (by omega), if_pos h]
      have ev : v = bitV 2 v.n 0 [] := by unfold bitV; rw [bytes_nil]; rw [← hbv]; cases v with | mk k n g s l d => rw [Val.kind_mk] at h; subst h; simp [bareV]
      have hno := nolink_at (l := l) (a := a ++ textV v) (by rw [hla]; simp) hr.link
      rw [List.length_append, Nat.add_comm] at hno
      rw [textV_int h] at hno ⊢
      rw [ef, begun_num rfl, numberP, if_neg (by dsimp only; exact hno)]
      dsimp only
      rw [← ev]
      congr 1
      exact Nat.add_comm _ _
    · have ef : fstV v = ⟨2, 0, v.s.data.toList, 0, (nameW v.s.data.toList).length, 0⟩ := by unfold fstV; rw [if_neg (by omega), if_neg (by omega), if_neg (by omega), if_pos h]
      have ev : v = .mk 3 0 0 v.s [] [] := by rw [← hbv]; cases v with | mk k n g s l d => rw [Val.kind_mk] at h; subst h; simp [bareV]
      have et : textV v = nameW v.s.data.toList := by rw [textV_eq, if_neg (by omega), if_neg (by omega), if_neg (by omega), if_pos h]
      rw [ef, begun_name rfl, et]
      dsimp only [bitV]
      rw [bytes_of, ← ev]
      congr 1
      exact Nat.add_comm _ _
    · have ef : fstV v = ⟨3, 0, v.s.data.toList, 0, (bytesW v.s.data.toList).length, 0⟩ := by unfold fstV; rw [if_neg (by omega), if_neg (by omega), if_neg (by omega), if_neg (by omega), if_pos h]
      have ev : v = .mk 4 0 0 v.s [] [] := by rw [← hbv]; cases v with | mk k n g s l d => rw [Val.kind_mk] at h; subst h; simp [bareV]
      have et : textV v = bytesW v.s.data.toList := by rw [textV_eq, if_neg (by omega), if_neg (by omega), if_neg (by omega), if_neg (by omega), if_pos h]
      rw [ef, begun_text rfl, et]
      dsimp only [bitV]
      rw [bytes_of, ← ev]
      congr 1
      exact Nat.add_comm _ _
    · have ef : fstV v = Sg.bare 4 1 := by unfold fstV; rw [if_neg (by omega), if_neg (by omega), if_neg (by omega), if_neg (by omega), if_neg (by omega), if_neg (by omega), if_pos h]
      have ed : v.d = [] := ho.noPairs (by omega)
      have ev : v = .mk 5 0 0 ByteArray.empty v.l [] := by
        have e0 := hbv
        cases v with | mk k n g s l d => rw [Val.kind_mk] at h; subst h; rw [← e0]; simp [bareV]
      have et : textV v = 91 :: (elemsW 0 v.l ++ [93]) := by
        rw [textV_eq, if_neg (by omega), if_neg (by omega), if_neg (by omega), if_neg (by omega), if_neg (by omega), if_neg (by omega), ed, prsW, openW, closeW, if_pos h, if_pos h]; rfl
      have hd64 : ¬ 64 ≤ d := by
        have h6 := hone.2.2.2.2.2
        intro hge
        refine h6 ⟨by unfold holderV; rw [h]; decide, by omega⟩
      have hcl := fun x hx => checkL_zero.1 hchk.2.1 x hx
      have hlen : (textV v).length = (elemsW 0 v.l).length + 2 := by rw [et]; simp
      have he := elems_read (d := d) r v.l 0 [] l (a ++ [91]) f hl (fun x hx => by have := hcl x hx; simpa using this) (by rw [hla, et]; simp) (by rw [List.length_append]; simp; omega)
      rw [ef, begun_list rfl hd64]
      simp only [Sg.bare]
      rw [List.length_append] at he
      simp only [List.length_cons, List.length_nil, Nat.zero_add, List.nil_append] at he
      rw [Nat.add_comm 1, he, bytes_nil, ← ev, hlen]
      congr 1
      omega
    · have ef : fstV v = Sg.bare 6 2 := by unfold fstV; rw [if_neg (by omega), if_neg (by omega), if_neg (by omega), if_neg (by omega), if_neg (by omega), if_neg (by omega), if_neg (by omega)]
      have ed : v.l = [] := ho.noElems (by omega)
      have ev : v = .mk 6 0 0 ByteArray.empty [] v.d := by
        have e0 := hbv
        cases v with | mk k n g s l d => rw [Val.kind_mk] at h; subst h; rw [← e0]; simp [bareV]
      have et : textV v = 60 :: 60 :: (prsW 0 v.d ++ [62, 62]) := by
        rw [textV_eq, if_neg (by omega), if_neg (by omega), if_neg (by omega), if_neg (by omega), if_neg (by omega), if_neg (by omega), ed, elemsW, openW, closeW, if_neg (by omega), if_neg (by omega)]; rfl
      have hd64 : ¬ 64 ≤ d := by
        have h6 := hone.2.2.2.2.2
        intro hge
        refine h6 ⟨by unfold holderV; rw [h]; decide, by omega⟩
      have hcd := checkD_zero.1 hchk.2.2
      have hlen : (textV v).length = (prsW 0 v.d).length + 4 := by rw [et]; simp
      have he := prs_read (d := d) r v.d 0 [] l (a ++ [60, 60]) f hd (fun q hq => by have := hcd.1 q hq; exact ⟨⟨this.1.1, this.1.2.1⟩, by simpa using this.2⟩) hcd.2 (fun q hq => absurd hq List.not_mem_nil) (by rw [hla, et]; simp) (by rw [List.length_append]; simp; omega)
      rw [ef, begun_dict rfl hd64]
      simp only [Sg.bare]
      rw [List.length_append] at he
      simp only [List.length_cons, List.length_nil, Nat.zero_add, List.nil_append] at he
      rw [Nat.add_comm 2, show a.length + 2 = a.length + (1 + 1) from rfl, he, bytes_nil, ← ev, hlen]
      congr 1
      omega
    · have ef : fstV v = ⟨1, v.n, [], 0, (putL v.n).length, 0⟩ := by unfold fstV; rw [if_neg (by omega), if_neg (by omega), if_neg (by omega), if_neg (by omega), if_neg (by omega), if_pos h]
      have ev : v = bitV 7 v.n v.g [] := by unfold bitV; rw [bytes_nil]; rw [← hbv]; cases v with | mk k n g s l d => rw [Val.kind_mk] at h; subst h; simp [bareV]
      have hg := ho.link h
      have et : textV v = putL v.n ++ 32 :: (putL v.g ++ [32, 82]) := by rw [textV_link h]; rfl
      have n1 := next_gap (l := l) (a := a ++ putL v.n) (u := putL v.g ++ ([32, 82] ++ r)) (by rw [hla, et]; simp)
      have n2 := next_first (l := l) (a := a ++ putL v.n ++ [32]) (u := putL v.g ++ ([32, 82] ++ r)) (by rw [hla, et]; simp) (regs_dark (putL_ne _) (putL_regs _))
      rw [first_put (n := v.g) (r := [32, 82] ++ r) (by omega) (by omega) (Tail.blank _)] at n2
      have n3 := next_gap (l := l) (a := a ++ putL v.n ++ [32] ++ putL v.g) (u := [82] ++ r) (by rw [hla, et]; simp)
      have n4 := next_first (l := l) (a := a ++ putL v.n ++ [32] ++ putL v.g ++ [32]) (u := [82] ++ r) (by rw [hla, et]; simp) (regs_dark (by decide) true_regs.2.2.2)
      rw [first_word (by decide) true_regs.2.2.2 (by decide) (by decide) hr.tail] at n4
      simp only [List.length_append, List.length_cons, List.length_nil, Nat.zero_add, Sg.put, if_true] at n1 n2 n3 n4
      have m1 : nextN l ((putL v.n).length + a.length) = ⟨1, v.g, [], a.length + (putL v.n).length + 1, (putL v.g).length + (a.length + (putL v.n).length + 1), 0⟩ := by
        rw [Nat.add_comm, n1, n2]
      have m2 : nextN l ((putL v.g).length + (a.length + (putL v.n).length + 1)) = ⟨8, 0, [82], a.length + (putL v.n).length + 1 + (putL v.g).length + 1, 1 + (a.length + (putL v.n).length + 1 + (putL v.g).length + 1), 0⟩ := by
        rw [Nat.add_comm, n3, n4]
      have hov : overG v.n v.g = false := decide_eq_false (by omega)
      rw [ef, begun_num rfl, numberP]
      dsimp only
      rw [m1]
      dsimp only
      rw [m2]
      rw [if_pos ⟨rfl, rfl, by simp [endsR]⟩, hov, if_neg (by decide)]
      rw [← ev, et]
      simp only [List.length_append, List.length_cons, List.length_nil]
      congr 1
      omega
theorem next_note {l q s : List UInt8} (hl : l = 32 :: 37 :: (q ++ 10 :: s)) (hq : ∀ c ∈ q, ¬ (c.toNat = 10 ∨ c.toNat = 13)) : nextN l 0 = nextN l (q.length + 3) := by
  have e : skipN l 0 = skipN l (q.length + 3) := by
    subst hl
    unfold skipN
    have e2 : (32 :: 37 :: (q ++ 10 :: s)).drop (q.length + 3) = s := by
      show (q ++ 10 :: s).drop (q.length + 1) = s
      rw [← List.drop_drop, List.drop_left]; rfl
    rw [List.drop_zero, e2, skip_white (by decide), skip_note (by decide), skip_noted q _ hq, skip_eol (.inl (by decide))]
    omega
  unfold nextN
  rw [e]
/-- What is written is told, wherever it stands. -/
theorem read_written {v : Val} (hc : checkV v false 0 = 0) {l a r : List UInt8} (hl : l = a ++ (textV v ++ r)) (hr : Halt r) {k : Nat} (hk : nextN l k = nextN l a.length) : readP l (2 * l.length + 1) k 0 = ⟨v, a.length + (textV v).length, 0⟩ := by
  have ho : OkV v := ⟨_, hc⟩
  have hb := read_back v 0 hc l a r hl hr (2 * l.length + 1) (by omega)
  rw [pread_ok (by rw [hk, next_value ho hl hr.tail]), hk, hb]
theorem value_written {v : Val} (hc : checkV v false 0 = 0) {l a r : List UInt8} (hl : l = a ++ (textV v ++ r)) (hr : Halt r) {k : Nat} (hk : nextN l k = nextN l a.length) : valueP l k = ⟨plainV v, a.length + (textV v).length, 0⟩ := by
  have h := read_written hc hl hr hk
  rw [value_ok (by rw [h]), h]
theorem whole_written {v : Val} (hc : checkV v false 0 = 0) {l a r : List UInt8} (hl : l = a ++ (textV v ++ r)) (hr : r = [] ∨ r = [32]) (hk : nextN l 0 = nextN l a.length) : wholeV l = (plainV v, 0) := by
  have hH : Halt r := by rcases hr with rfl | rfl; exact halt_nil; exact halt_blank
  have h := value_written hc hl hH hk
  have hn : nextN l (a.length + (textV v).length) = ⟨0, 0, [], l.length, 0 + l.length, 0⟩ := by
    rcases hr with rfl | rfl
    · have := next_first (l := l) (a := l) (u := []) (by simp) (fun c t e => by cases e)
      rw [hl] at this ⊢
      simp only [List.append_nil, List.length_append] at this ⊢
      rw [this]; rfl
    · have n1 := next_gap (l := l) (a := a ++ textV v) (u := []) (by rw [hl]; simp)
      have n2 := next_first (l := l) (a := l) (u := []) (by simp) (fun c t e => by cases e)
      have e : l.length = a.length + (textV v).length + 1 := by rw [hl]; simp; omega
      rw [List.length_append] at n1
      rw [n1, ← e, n2]; rfl
  unfold wholeV
  rw [h]
  dsimp only
  rw [if_neg (by decide), hn]
  dsimp only
  rw [if_neg (by decide), if_neg (by decide)]
end
end Go.Proofs.YtejgcnmbngdkiaaGreatDoor
