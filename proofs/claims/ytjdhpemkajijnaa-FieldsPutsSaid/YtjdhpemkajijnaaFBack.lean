/-
  What is put is got; what is a row is cut into its numbers, and the other way round: plain facts.
-/
import Derived.Test.YtjdhpemkajijnaaFPlain
namespace Go.Proofs.Ytjdhpemkajijnaa

theorem valB_lo : ∀ (k n : Nat), valB (loN k n) = n % 256 ^ k
  | 0, n => by simp [loN, valB, Nat.mod_one]
  | k + 1, n => by
    rw [loN, valB_cons, loN_length, valB_lo k n]
    have e : (UInt8.ofNat (n / 256 ^ k % 256)).toNat = n / 256 ^ k % 256 := by simp
    rw [e, Nat.pow_succ, Nat.mod_mul, Nat.mul_comm, Nat.add_comm]
theorem lo_mod : ∀ (k n : Nat), loN k (n % 256 ^ k) = loN k n
  | k, n => by
    have h : ∀ j, j ≤ k → loN j (n % 256 ^ k) = loN j n := by
      intro j
      induction j with
      | zero => intro _; rfl
      | succ j ih =>
        intro hj
        rw [loN, loN, ih (by omega)]
        congr 2
        have e : (256 : Nat) ^ k = 256 ^ j * (256 * 256 ^ (k - (j + 1))) := by
          rw [← Nat.mul_assoc, ← Nat.pow_succ, ← Nat.pow_add]
          congr 1; omega
        rw [e, Nat.mod_mul_right_div_self, Nat.mod_mul_right_mod]
    exact h k (Nat.le_refl _)
theorem lo_val : ∀ (l : List UInt8), loN l.length (valB l) = l
  | [] => rfl
  | c :: l => by
    have h1 := valB_lt l
    rw [List.length_cons, loN, valB_cons]
    have e1 : (c.toNat * 256 ^ l.length + valB l) / 256 ^ l.length = c.toNat := by
      rw [Nat.mul_comm, Nat.mul_add_div (Nat.pow_pos (by omega)), Nat.div_eq_of_lt h1, Nat.add_zero]
    have e2 : loN l.length (c.toNat * 256 ^ l.length + valB l) = loN l.length (valB l) := by
      rw [← lo_mod l.length (c.toNat * 256 ^ l.length + valB l), Nat.mul_comm, Nat.mul_add_mod, Nat.mod_eq_of_lt h1]
    rw [e1, e2, lo_val l]
    congr 1
    apply UInt8.toNat_inj.1
    have := c.toNat_lt
    rw [UInt8.toNat_ofNat']; omega

/-- What Put makes of a number that fits. -/
theorem putF_zero {n w : Int} {u : List UInt8} (h : putF n w = (u, 0)) : ∃ m k : Nat, n = m ∧ w = k ∧ k ≤ 8 ∧ m < 256 ^ k ∧ u = loN k m := by
  unfold putF at h
  split at h
  · exact absurd (Prod.mk.inj h).2 (by decide)
  · split at h
    · exact absurd (Prod.mk.inj h).2 (by decide)
    · rename_i h1 h2
      obtain ⟨k, rfl⟩ := Int.eq_ofNat_of_zero_le (show 0 ≤ w by omega)
      obtain ⟨m, rfl⟩ := Int.eq_ofNat_of_zero_le (show 0 ≤ n by omega)
      refine ⟨m, k, rfl, rfl, by omega, ?_, ?_⟩
      · rw [Int.toNat_natCast, pow_cast] at h2
        omega
      · have := (Prod.mk.inj h).1
        simpa using this.symm
/-- What is put is got. -/
theorem get_put {m k : Nat} (hk : k ≤ 8) (h : m < 256 ^ k) (hm : m ≤ 9223372036854775807) : getF (loN k m) = ((m : Int), 0) := by
  have hv : valB (loN k m) = m := by rw [valB_lo, Nat.mod_eq_of_lt h]
  rw [getF_ok (by rw [loN_length]; omega) (by rw [hv]; omega), hv]

theorem row_cut : ∀ (ns ws : List Int) (a : List UInt8), ns.length = ws.length → (∀ n ∈ ns, n ≤ 9223372036854775807) → rowGo ns ws = (a, 0) →
    cutGo a ws = (ns, 0) ∧ sumW ws = a.length ∧ ∀ v ∈ ws, 0 ≤ v ∧ v ≤ 8
  | [], [], a, _, _, h => by
    unfold rowGo at h
    have := (Prod.mk.inj h).1
    subst this
    exact ⟨rfl, rfl, fun v hv => by cases hv⟩
  | [], _ :: _, _, hl, _, _ => by simp at hl
  | _ :: _, [], _, hl, _, _ => by simp at hl
  | n :: ns, w :: ws, a, hl, hn, h => by
    unfold rowGo at h
    split at h
    · rename_i hp
      obtain ⟨u, b, hu⟩ : ∃ u b, putF n w = (u, b) := ⟨_, _, rfl⟩
      rw [hu] at hp h
      simp only at hp h
      subst hp
      obtain ⟨m, k, rfl, rfl, hk, hm, rfl⟩ := putF_zero hu
      unfold joinF at h
      split at h
      · rename_i hr
        obtain ⟨t, b, ht⟩ : ∃ t b, rowGo ns ws = (t, b) := ⟨_, _, rfl⟩
        rw [ht] at hr h
        simp only at hr h
        subst hr
        have ha := (Prod.mk.inj h).1
        obtain ⟨i1, i2, i3⟩ := row_cut ns ws t (by simpa using hl) (fun x hx => hn x (by simp [hx])) ht
        have hmm : m ≤ 9223372036854775807 := by have := hn (m : Int) (by simp); omega
        refine ⟨?_, ?_, ?_⟩
        · rw [← ha, cutGo, Int.toNat_natCast]
          have e1 : (loN k m ++ t).take k = loN k m := by rw [List.take_append_of_le_length (by rw [loN_length]; exact Nat.le_refl _), List.take_of_length_le (by rw [loN_length]; exact Nat.le_refl _)]
          have e2 : (loN k m ++ t).drop k = t := by rw [List.drop_append_of_le_length (by rw [loN_length]; exact Nat.le_refl _), List.drop_of_length_le (by rw [loN_length]; exact Nat.le_refl _), List.nil_append]
          rw [e1, e2, get_put hk hm hmm, i1]
          rfl
        · rw [← ha, sumW, i2, List.length_append, loN_length]; omega
        · intro v hv
          rcases List.mem_cons.1 hv with rfl | hv
          · omega
          · exact i3 v hv
      · rename_i hr
        exact absurd (Prod.mk.inj h).2 hr
    · rename_i hp
      exact absurd (Prod.mk.inj h).2 hp

theorem cut_row : ∀ (ws : List Int) (s : List UInt8) (l : List Int), (∀ v ∈ ws, 0 ≤ v ∧ v ≤ 8) → sumW ws = s.length → cutGo s ws = (l, 0) →
    rowGo l ws = (s, 0) ∧ l.length = ws.length ∧ ∀ n ∈ l, 0 ≤ n ∧ n ≤ 9223372036854775807
  | [], s, l, _, hs, h => by
    unfold cutGo at h
    have := (Prod.mk.inj h).1
    subst this
    have : s = [] := List.eq_nil_of_length_eq_zero (by simp only [sumW] at hs; omega)
    subst this
    exact ⟨rfl, rfl, fun n hn => by cases hn⟩
  | w :: ws, s, l, hw, hs, h => by
    obtain ⟨hw0, hw8⟩ := hw w (by simp)
    obtain ⟨k, rfl⟩ := Int.eq_ofNat_of_zero_le hw0
    have hws : ∀ v ∈ ws, 0 ≤ v ∧ v ≤ 8 := fun v hv => hw v (by simp [hv])
    have hrest := sumW_nonneg (fun v hv => (hws v hv).1)
    rw [sumW] at hs
    rw [cutGo, Int.toNat_natCast] at h
    have hlen : (s.take k).length = k := by rw [List.length_take]; omega
    split at h
    · rename_i hg
      obtain ⟨n, b, hn⟩ : ∃ n b, getF (s.take k) = (n, b) := ⟨_, _, rfl⟩
      rw [hn] at hg h
      simp only at hg h
      subst hg
      split at h
      · rename_i hr
        obtain ⟨t, b, ht⟩ : ∃ t b, cutGo (s.drop k) ws = (t, b) := ⟨_, _, rfl⟩
        rw [ht] at hr h
        simp only at hr h
        subst hr
        have hl := (Prod.mk.inj h).1
        obtain ⟨i1, i2, i3⟩ := cut_row ws (s.drop k) t hws (by rw [List.length_drop]; omega) ht
        have hnv : n = (valB (s.take k) : Int) ∧ valB (s.take k) ≤ 9223372036854775807 := by
          unfold getF at hn
          rw [if_neg (by rw [hlen]; omega)] at hn
          split at hn
          · exact absurd (Prod.mk.inj hn).2 (by decide)
          · exact ⟨(Prod.mk.inj hn).1.symm, by omega⟩
        have hlt : valB (s.take k) < 256 ^ k := by have := valB_lt (s.take k); rwa [hlen] at this
        have hp : putF n (k : Int) = (s.take k, 0) := by
          rw [hnv.1, putF_ok (by omega) hlt]
          have := lo_val (s.take k)
          rw [hlen] at this
          rw [this]
        refine ⟨?_, ?_, ?_⟩
        · rw [← hl, rowGo, hp, if_pos rfl, i1]
          unfold joinF
          simp
        · rw [← hl, List.length_cons, i2, List.length_cons]
        · intro x hx
          rw [← hl] at hx
          rcases List.mem_cons.1 hx with rfl | hx
          · rw [hnv.1]; omega
          · exact i3 x hx
      · rename_i hr
        exact absurd (Prod.mk.inj h).2 hr
    · rename_i hg
      exact absurd (Prod.mk.inj h).2 hg

/-- What is a row is cut into its numbers. -/
theorem rowF_cutF {ns ws : List Int} {a : List UInt8} (hn : ∀ n ∈ ns, n ≤ 9223372036854775807) (h : rowF ns ws = (a, 0)) : cutF a ws = (ns, 0) ∧ ns.length = ws.length := by
  unfold rowF at h
  split at h
  · exact absurd (Prod.mk.inj h).2 (by decide)
  · rename_i hc
    have hl : ns.length = ws.length := Classical.byContradiction fun e => hc (.inl e)
    obtain ⟨h1, h2, h3⟩ := row_cut ns ws a hl hn h
    rw [cutF_go (by omega) h3 h2]
    exact ⟨h1, hl⟩
theorem cutF_zero {s : List UInt8} {ws l : List Int} (h : cutF s ws = (l, 0)) : ws.length ≤ 16 ∧ (∀ v ∈ ws, 0 ≤ v ∧ v ≤ 8) ∧ sumW ws = s.length ∧ cutGo s ws = (l, 0) := by
  unfold cutF at h
  split at h
  · exact absurd (Prod.mk.inj h).2 (by decide)
  · split at h
    · exact absurd (Prod.mk.inj h).2 (by decide)
    · split at h
      · exact absurd (Prod.mk.inj h).2 (by decide)
      · rename_i h1 h2 h3
        refine ⟨by omega, fun v hv => ?_, Classical.byContradiction h3, h⟩
        have : ¬ (v < 0 ∨ 8 < v) := fun e => h2 (List.any_eq_true.2 ⟨v, hv, decide_eq_true e⟩)
        omega
/-- And the other way round. -/
theorem cutF_rowF {s : List UInt8} {ws l : List Int} (h : cutF s ws = (l, 0)) : rowF l ws = (s, 0) ∧ ∀ n ∈ l, 0 ≤ n ∧ n ≤ 9223372036854775807 := by
  obtain ⟨h1, h2, h3, h4⟩ := cutF_zero h
  obtain ⟨i1, i2, i3⟩ := cut_row ws s l h2 h3 h4
  refine ⟨?_, i3⟩
  unfold rowF
  rw [if_neg (by rintro (e | e); exact e i2; omega)]
  exact i1

/-- A number in the width that it needs, and in no lesser one. -/
theorem need_one {n : Int} (h : 0 ≤ n) : needF [n] = (widN n.toNat : Int) := by
  unfold needF needFrom needFrom
  rw [if_neg (by omega)]
  simp
theorem need_less {n : Int} (h : n < 0) : needF [n] = -1 := by unfold needF needFrom; rw [if_pos h]
theorem put_need {m : Nat} (hm : m ≤ 9223372036854775807) : putF (m : Int) (widN m : Int) = (loN (widN m) m, 0) ∧ getF (loN (widN m) m) = ((m : Int), 0) := by
  have h8 := widN_8 hm
  have hlt := (widN_iff (widN m) m).1 (Nat.le_refl _)
  exact ⟨putF_ok h8 hlt, get_put h8 hlt hm⟩
theorem put_under {m : Nat} (hm : m ≤ 9223372036854775807) : ¬ (putF (m : Int) ((widN m : Int) - 1)).2 = 0 := by
  have h8 := widN_8 hm
  by_cases h : widN m = 0
  · rw [h, putF_arg (by omega)]; decide
  · have e : (widN m : Int) - 1 = ((widN m - 1 : Nat) : Int) := by omega
    rw [e, putF_big (by omega)]
    · decide
    · have := mt (widN_iff (widN m - 1) m).2
      omega

end Go.Proofs.Ytjdhpemkajijnaa
