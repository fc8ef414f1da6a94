/-
  RunRef, RunRef2: texts merged.
-/
import Derived.Test.YtiiiokikmjgliaaGreatDoorKPlain
import Derived.Test.YtiiiokikmjgliaaGreatDoorKRows
import Derived.Deep.LoopGhost
import Derived.BigQuiet
import Derived.Deep.QuietTactic
import Derived.WalkSpells
import Derived.WalkLawsBesides
/-
  The contracts of the document's Encode of runs.
-/
namespace Go.Proofs.YtiiiokikmjgliaaGreatDoor
section
open Go.RowKit
set_option maxRecDepth 100000
theorem drop_at {s : ByteArray} {k : Nat} (h : k < s.size) : s.data.toList.drop k = s[k] :: s.data.toList.drop (k + 1) := by
  rw [List.drop_eq_getElem_cons (by rw [← size_data]; exact h)]; rfl
theorem alike_short {s : ByteArray} {k : Nat} (h : ¬ k + 2 < s.size) : alikeB (s.data.toList.drop k) = false := by
  have hl : (s.data.toList.drop k).length < 3 := by rw [List.length_drop, ← size_data]; omega
  generalize s.data.toList.drop k = l at hl
  match l, hl with
  | [], _ => rfl
  | [_], _ => rfl
  | [_, _], _ => rfl
theorem alike_at {s : ByteArray} {k : Nat} (h : k + 2 < s.size) : alikeB (s.data.toList.drop k) = (s[k] == s[k + 1] && s[k] == s[k + 2]) := by
  rw [drop_at (show k < s.size by omega), drop_at (show k + 1 < s.size by omega), drop_at (show k + 1 + 1 < s.size by omega)]
  rfl
theorem byte_ne {a b : UInt8} (h : ¬ a = b) : ((a.toNat : Int) == (b.toNat : Int)) = false := by
  rw [beq_eq_false_iff_ne]
  intro e
  exact h (UInt8.toNat_inj.1 (by omega))
set_option maxHeartbeats 1000000 in
theorem rAlike_any (s : ByteArray) (k : Nat) (w : World) (hk : k ≤ 1000000) :
    Calls Tryz.prog 45 #[.string s, .int .i64 (k : Int)] w fun e w' => e = .returned (.bool (alikeB (s.data.toList.drop k))) ∧ ∃ q, w.drewN q = w' := by
  have q1 : IntKind.i64.wrap ((k : Int) + 1) = (k : Int) + 1 := by rw [IntKind.wrap_i64]; omega
  have q2 : IntKind.i64.wrap ((k : Int) + 2) = (k : Int) + 2 := by rw [IntKind.wrap_i64]; omega
  have q3 : ((k : Int) + 1).toNat = k + 1 := by omega
  have q4 : ((k : Int) + 2).toNat = k + 2 := by omega
  have q5 : 0 ≤ (k : Int) + 1 := by omega
  have q6 : 0 ≤ (k : Int) + 2 := by omega
  by_cases h2 : k + 2 < s.size
  · have hr := alike_at h2
    have h2' : (k : Int) + 2 < (s.size : Int) := by omega
    have h1' : (k : Int) + 1 < (s.size : Int) := by omega
    have h0' : (k : Int) < (s.size : Int) := by omega
    by_cases e1 : s[k] = s[k + 1]
    · have e1' : ((s[k].toNat : Int) == (s[k + 1].toNat : Int)) = true := by rw [e1]; simp
      by_cases e2 : s[k] = s[k + 2]
      · have Hr : Hid (alikeB (s.data.toList.drop k) = true) := Lib.hid (by rw [hr, ← e1, ← e2]; simp)
        have e2' : ((s[k].toNat : Int) == (s[k + 2].toNat : Int)) = true := by rw [e2]; simp
        clear e1 e2 hr
        go_enter Tryz.func45, Tryz.ntmps45
        go_wp2_with fail
        go_quiet (fail)
        go_wp2_with fail
        go_ret
        exact ⟨ret_bool (by rw [Hr.out]), _, rfl⟩
      · have Hr : Hid (alikeB (s.data.toList.drop k) = false) := Lib.hid (by rw [hr]; simp [e2])
        have e2' := byte_ne e2
        clear e1 e2 hr
        go_enter Tryz.func45, Tryz.ntmps45
        go_wp2_with fail
        go_quiet (fail)
        go_wp2_with fail
        go_ret
        exact ⟨ret_bool (by rw [Hr.out]), _, rfl⟩
    · have Hr : Hid (alikeB (s.data.toList.drop k) = false) := Lib.hid (by rw [hr]; simp [e1])
      have e1' := byte_ne e1
      clear e1 hr
      go_enter Tryz.func45, Tryz.ntmps45
      go_wp2_with fail
      go_quiet (fail)
      go_wp2_with fail
      go_ret
      exact ⟨ret_bool (by rw [Hr.out]), _, rfl⟩
  · have Hr := Lib.hid (alike_short h2)
    have h2' : decide ((k : Int) + 2 < (s.size : Int)) = false := decide_eq_false (by omega)
    go_enter Tryz.func45, Tryz.ntmps45
    go_wp2_with fail
    go_quiet (fail)
    go_wp2_with fail
    go_ret
    exact ⟨ret_bool (by rw [Hr.out]), _, rfl⟩
theorem runLen_more {s : ByteArray} {c : UInt8} {j m : Nat} (hj : j < s.size) (hm : m < 128) (hc : s[j] = c) : runLen c (128 - m) (s.data.toList.drop j) = runLen c (128 - (m + 1)) (s.data.toList.drop (j + 1)) + 1 := by
  rw [drop_at hj, show 128 - m = (128 - (m + 1)) + 1 by omega, runLen, if_pos hc]
theorem runLen_stop {s : ByteArray} {c : UInt8} {j m : Nat} (h : ¬ j < s.size ∨ (∃ hj : j < s.size, ¬ s[j] = c) ∨ ¬ m < 128) : runLen c (128 - m) (s.data.toList.drop j) = 0 := by
  rcases h with h | ⟨hj, h⟩ | h
  · rw [List.drop_of_length_le (by rw [← size_data]; omega)]
    cases 128 - m <;> rfl
  · rw [drop_at hj]
    cases 128 - m with
    | zero => rfl
    | succ k => rw [runLen, if_neg h]
  · rw [show 128 - m = 0 by omega]; rfl
theorem rawLen_more {s : ByteArray} {j m : Nat} (hj : j < s.size) (hm : m < 128) (ha : alikeB (s.data.toList.drop j) = false) : rawLen (128 - m) (s.data.toList.drop j) = rawLen (128 - (m + 1)) (s.data.toList.drop (j + 1)) + 1 := by
  rw [drop_at hj] at ha ⊢
  rw [show 128 - m = (128 - (m + 1)) + 1 by omega, rawLen, if_neg (by rw [ha]; decide)]
theorem rawLen_stop {s : ByteArray} {j m : Nat} (h : ¬ j < s.size ∨ alikeB (s.data.toList.drop j) = true ∨ ¬ m < 128) : rawLen (128 - m) (s.data.toList.drop j) = 0 := by
  rcases h with h | h | h
  · rw [List.drop_of_length_le (by rw [← size_data]; omega)]
    cases 128 - m <;> rfl
  · generalize s.data.toList.drop j = l at h
    cases l with
    | nil => cases h
    | cons x t =>
      cases 128 - m with
      | zero => rfl
      | succ k => rw [rawLen, if_pos h]
  · rw [show 128 - m = 0 by omega]; rfl
theorem enc_run_at {s : ByteArray} {k n : Nat} (hk : k < s.size) (ha : alikeB (s.data.toList.drop k) = true) (hn : runLen s[k] 128 (s.data.toList.drop k) = n) :
    encAll (s.data.toList.drop k) = [UInt8.ofNat (257 - n), s[k]] ++ encAll (s.data.toList.drop (k + n)) := by
  subst hn
  rw [← List.drop_drop]
  rw [drop_at hk] at ha ⊢
  rw [encAll_run ha]; rfl
theorem enc_raw_at {s : ByteArray} {k n : Nat} (hk : k < s.size) (ha : alikeB (s.data.toList.drop k) = false) (hn : rawLen 128 (s.data.toList.drop k) = n) :
    encAll (s.data.toList.drop k) = [UInt8.ofNat (n - 1)] ++ (s.data.toList.drop k).take n ++ encAll (s.data.toList.drop (k + n)) := by
  subst hn
  rw [← List.drop_drop]
  rw [drop_at hk] at ha ⊢
  rw [encAll_raw ha]; rfl
theorem ext_take (s : ByteArray) (k n : Nat) : (s.extract k (k + n)).data.toList = (s.data.toList.drop k).take n := by rw [Lib.extract_data]; congr 1; omega
theorem Own8.drewN {w : World} {B : Nat} {v : Value} {l : List UInt8} (h : Own8 w B v l) (q : Nat) : Own8 (w.drewN q) B v l := h
set_option maxRecDepth 100000 in
set_option maxHeartbeats 2000000 in
theorem rEncR_any (s : ByteArray) (w : World) (hs : s.size ≤ 100000) :
    Calls Tryz.prog 29 #[.string s] w fun e w' => e = .returned (.string (bytes (encAll s.data.toList))) ∧ Below w.heap.size w w' := by
  go_enter Tryz.func29, Tryz.ntmps29
  go_wp2_with fail
  go_loopg [3, 4] s.size (fun g s3 s4 wx => ∃ (k : Nat) (out : List UInt8), k + g = s.size ∧ s4 = .int .i64 k ∧ Aside (Own8 wx w.heap.size s3 out) ∧ out.length ≤ 2 * k ∧ Aside (encAll s.data.toList = out ++ encAll (s.data.toList.drop k)) ∧ Below w.heap.size w wx)
  case atStart => exact ⟨0, [], by omega, rfl, Own8.made w 0 #[] (Nat.le_refl _) (by decide) rfl, by simp, rfl, (Below.refl _ w).alloc (Nat.le_refl _) _⟩
  case round =>
    obtain ⟨k, out, hkg, rfl, HO, hol, HE, hb⟩ := hrel
    have Hb := Lib.hid hb
    clear hb
    cases gk with
    | zero =>
      obtain rfl : k = s.size := by omega
      have Hr : Hid (encAll s.data.toList = out ++ [128]) := Lib.hid (by rw [HE.out, List.drop_of_length_le (by rw [← size_data]; exact Nat.le_refl _)]; rfl)
      clear hkg
      go_wp2_with (at_builtin; refine wpList_append8 rfl (.tmp 83) (.tmp 84) rfl w.heap.size _ out rfl (HO.out.alloc _) ⟨wr.heap.size, 0, none⟩ 1 [128] rfl (cells_new1 _ 128 128 rfl) (by simp) (by simp; omega) w (Hb.out.alloc Hb.out.size _) (by have := Hb.out.size; simp; omega) ?_; intro v2 w2 Ho2 Hb2 _; have htext := Ho2.out.text)
      go_ret
      exact ⟨by rw [Hr.out]; rfl, Hb2.out⟩
    | succ g =>
      have hk : k < s.size := by omega
      have hkz : (k : Int) < (s.size : Int) := by omega
      have Hal := Lib.hid (fun W => rAlike_any s k W (by omega))
      cases ha : alikeB (s.data.toList.drop k)
      · rw [ha] at Hal
        have Ha := Lib.hid ha
        clear ha
        go_wp2_with fail
        refine (Hal.out _).mono ?_
        rintro e w1 ⟨rfl, q1, rfl⟩
        go_wp2_with fail
        go_loopg [5] 128 (fun g5 s5 wx => ∃ (m q : Nat), m + g5 = 128 ∧ s5 = .int .i64 m ∧ k + m ≤ s.size ∧ Aside (rawLen 128 (s.data.toList.drop k) = m + rawLen (128 - m) (s.data.toList.drop (k + m))) ∧ wr.drewN q = wx)
        case atStart => exact ⟨0, q1, by omega, rfl, by omega, by show _ = _; simp, rfl⟩
        case round =>
          obtain ⟨m, q, hmg, rfl, hkm, HM, rfl⟩ := hrel
          have q2 : ((k : Int) + (m : Int)).toNat = k + m := by omega
          have Hal2 := Lib.hid (fun W => rAlike_any s (k + m) W (by omega))
          rw [Int.natCast_add] at Hal2
          by_cases hgo : k + m < s.size ∧ alikeB (s.data.toList.drop (k + m)) = false ∧ m < 128
          · obtain ⟨hj, hc, hm⟩ := hgo
            have hjz : (k : Int) + (m : Int) < (s.size : Int) := by omega
            have hmz : (m : Int) < 128 := by omega
            have Hm := Lib.hid (rawLen_more hj hm hc)
            rw [hc] at Hal2
            clear hc
            go_wp2_with fail
            refine (Hal2.out _).mono ?_
            rintro e w2 ⟨rfl, q5, rfl⟩
            go_wp2_with fail
            go_roundg (127 - m)
            case measure => omega
            case rel => exact ⟨m + 1, _, by omega, by go_num, by omega, by show _ = _; rw [HM.out, Hm.out, show k + (m + 1) = k + m + 1 from by omega]; omega, rfl⟩
          · have hstop := rawLen_stop (s := s) (j := k + m) (m := m) (by
              by_cases h1 : k + m < s.size
              · cases h2 : alikeB (s.data.toList.drop (k + m))
                · exact .inr (.inr fun h3 => hgo ⟨h1, h2, h3⟩)
                · exact .inr (.inl rfl)
              · exact .inl h1)
            have hlen : rawLen 128 (s.data.toList.drop k) = m := by rw [HM.out, hstop]; omega
            have h3 : 1 ≤ m := by
              have := Ha.out
              rw [← hlen]
              rw [drop_at hk] at this ⊢
              exact rawLen_pos this
            have Hnext := Lib.hid (enc_raw_at hk Ha.out hlen)
            have hm128 : m ≤ 128 := by omega
            have hz := Lib.hid (show (m : Int) - 1 = ((UInt8.ofNat (m - 1)).toNat : Int) by rw [byte_nat (by omega)]; omega)
            have htl : (s.extract k (k + m)).size = m := by rw [ByteArray.size_extract]; omega
            have Htl := Lib.hid htl
            have hexit : ¬ (k : Int) + (m : Int) < (s.size : Int) ∨ ((k : Int) + (m : Int) < (s.size : Int) ∧ alikeB (s.data.toList.drop (k + m)) = true) ∨ ((k : Int) + (m : Int) < (s.size : Int) ∧ alikeB (s.data.toList.drop (k + m)) = false ∧ ¬ (m : Int) < 128) := by
              by_cases h1 : k + m < s.size
              · cases h2 : alikeB (s.data.toList.drop (k + m))
                · exact .inr (.inr ⟨by omega, rfl, fun h => hgo ⟨h1, h2, by omega⟩⟩)
                · exact .inr (.inl ⟨by omega, rfl⟩)
              · exact .inl (by omega)
            clear hgo hstop hlen htl
            rcases hexit with h1 | ⟨hjz, h2⟩ | ⟨hjz, h2, h4⟩
            · clear Hal2
              go_wp2_with (at_builtin; first
                | (refine wpList_append8 rfl (.tmp 66) (.tmp 70) rfl w.heap.size _ out rfl ((HO.out.drewN _).alloc _) ⟨wr.heap.size, 0, none⟩ 1 [UInt8.ofNat (m - 1)] rfl (cells_new1 _ _ _ hz.out) (by simp) (by simp; omega) w ((below_drewN Hb.out _).alloc Hb.out.size _) (by have := Hb.out.size; simp; omega) ?_; intro v2 w2 Ho2 Hb2 _)
                | (refine wpList_append8s rfl (.tmp 72) (.tmp 78) rfl w.heap.size _ _ rfl Ho2.out _ rfl (by rw [List.length_append]; simp; omega) w Hb2.out Hb2.out.size ?_; intro v3 w3 Ho3 Hb3 _))
              go_roundg (g + 1 - m)
              case measure => omega
              case rel => exact ⟨k + m, _, by omega, by go_num, Ho3.out, by rw [← ext_take] at Hnext; rw [List.length_append, List.length_append, ← size_data, Htl.out]; simp; omega, by show _ = _; rw [HE.out, Hnext.out, ext_take, List.append_assoc, List.append_assoc, List.append_assoc], Hb3.out⟩
            · rw [h2] at Hal2
              clear h2
              go_wp2_with fail
              refine (Hal2.out _).mono ?_
              rintro e w1 ⟨rfl, q5, rfl⟩
              go_wp2_with (at_builtin; first
                | (refine wpList_append8 rfl (.tmp 66) (.tmp 70) rfl w.heap.size _ out rfl ((HO.out.drewN _).alloc _) ⟨wr.heap.size, 0, none⟩ 1 [UInt8.ofNat (m - 1)] rfl (cells_new1 _ _ _ hz.out) (by simp) (by simp; omega) w ((below_drewN Hb.out _).alloc Hb.out.size _) (by have := Hb.out.size; simp; omega) ?_; intro v2 w2 Ho2 Hb2 _)
                | (refine wpList_append8s rfl (.tmp 72) (.tmp 78) rfl w.heap.size _ _ rfl Ho2.out _ rfl (by rw [List.length_append]; simp; omega) w Hb2.out Hb2.out.size ?_; intro v3 w3 Ho3 Hb3 _))
              go_roundg (g + 1 - m)
              case measure => omega
              case rel => exact ⟨k + m, _, by omega, by go_num, Ho3.out, by rw [← ext_take] at Hnext; rw [List.length_append, List.length_append, ← size_data, Htl.out]; simp; omega, by show _ = _; rw [HE.out, Hnext.out, ext_take, List.append_assoc, List.append_assoc, List.append_assoc], Hb3.out⟩
            · rw [h2] at Hal2
              clear h2
              go_wp2_with fail
              refine (Hal2.out _).mono ?_
              rintro e w1 ⟨rfl, q5, rfl⟩
              go_wp2_with (at_builtin; first
                | (refine wpList_append8 rfl (.tmp 66) (.tmp 70) rfl w.heap.size _ out rfl ((HO.out.drewN _).alloc _) ⟨wr.heap.size, 0, none⟩ 1 [UInt8.ofNat (m - 1)] rfl (cells_new1 _ _ _ hz.out) (by simp) (by simp; omega) w ((below_drewN Hb.out _).alloc Hb.out.size _) (by have := Hb.out.size; simp; omega) ?_; intro v2 w2 Ho2 Hb2 _)
                | (refine wpList_append8s rfl (.tmp 72) (.tmp 78) rfl w.heap.size _ _ rfl Ho2.out _ rfl (by rw [List.length_append]; simp; omega) w Hb2.out Hb2.out.size ?_; intro v3 w3 Ho3 Hb3 _))
              go_roundg (g + 1 - m)
              case measure => omega
              case rel => exact ⟨k + m, _, by omega, by go_num, Ho3.out, by rw [← ext_take] at Hnext; rw [List.length_append, List.length_append, ← size_data, Htl.out]; simp; omega, by show _ = _; rw [HE.out, Hnext.out, ext_take, List.append_assoc, List.append_assoc, List.append_assoc], Hb3.out⟩
      · rw [ha] at Hal
        have Ha := Lib.hid ha
        clear ha
        go_wp2_with fail
        refine (Hal.out _).mono ?_
        rintro e w1 ⟨rfl, q1, rfl⟩
        go_wp2_with fail
        go_loopg [5] 128 (fun g5 s5 wx => ∃ (m q : Nat), m + g5 = 128 ∧ s5 = .int .i64 m ∧ k + m ≤ s.size ∧ Aside (runLen s[k] 128 (s.data.toList.drop k) = m + runLen s[k] (128 - m) (s.data.toList.drop (k + m))) ∧ wr.drewN q = wx)
        case atStart => exact ⟨0, q1, by omega, rfl, by omega, by show _ = _; simp, rfl⟩
        case round =>
          obtain ⟨m, q, hmg, rfl, hkm, HM, rfl⟩ := hrel
          have q1 : IntKind.i64.wrap ((k : Int) + (m : Int)) = (k : Int) + (m : Int) := by rw [IntKind.wrap_i64]; omega
          have q2 : ((k : Int) + (m : Int)).toNat = k + m := by omega
          have q3 : 0 ≤ (k : Int) + (m : Int) := by omega
          by_cases hgo : ∃ hj : k + m < s.size, s[k + m] = s[k] ∧ m < 128
          · obtain ⟨hj, hc, hm⟩ := hgo
            have hc' : ((s[k + m].toNat : Int) == (s[k].toNat : Int)) = true := by rw [hc]; simp
            have hjz : (k : Int) + (m : Int) < (s.size : Int) := by omega
            have hmz : (m : Int) < 128 := by omega
            have Hm := Lib.hid (runLen_more hj hm hc)
            clear hc
            go_wp2_with fail
            go_quiet (fail)
            go_wp2_with fail
            go_roundg (127 - m)
            case measure => omega
            case rel => exact ⟨m + 1, _, by omega, by go_num, by omega, by show _ = _; rw [HM.out, Hm.out, show k + (m + 1) = k + m + 1 from by omega]; omega, rfl⟩
          · have hstop := runLen_stop (s := s) (c := s[k]) (j := k + m) (m := m) (by
              by_cases h1 : k + m < s.size
              · by_cases h2 : s[k + m] = s[k]
                · exact .inr (.inr fun h3 => hgo ⟨h1, h2, h3⟩)
                · exact .inr (.inl ⟨h1, h2⟩)
              · exact .inl h1)
            have hlen : runLen s[k] 128 (s.data.toList.drop k) = m := by rw [HM.out, hstop]; omega
            have h3 : 3 ≤ m := by
              have := Ha.out
              rw [← hlen]
              rw [drop_at hk] at this ⊢
              exact runLen_alike this
            have Hnext := Lib.hid (enc_run_at hk Ha.out hlen)
            have hm128 : m ≤ 128 := by omega
            have hz := Lib.hid (show 257 - (m : Int) = ((UInt8.ofNat (257 - m)).toNat : Int) by rw [byte_nat (by omega)]; omega)
            have hexit : decide ((k : Int) + (m : Int) < (s.size : Int)) = false ∨ (∃ hj : k + m < s.size, (k : Int) + (m : Int) < (s.size : Int) ∧ ((s[k + m].toNat : Int) == (s[k].toNat : Int)) = false) ∨ (∃ hj : k + m < s.size, (k : Int) + (m : Int) < (s.size : Int) ∧ ((s[k + m].toNat : Int) == (s[k].toNat : Int)) = true ∧ decide ((m : Int) < 128) = false) := by
              by_cases h1 : k + m < s.size
              · by_cases h2 : s[k + m] = s[k]
                · exact .inr (.inr ⟨h1, by omega, by rw [h2]; simp, decide_eq_false fun h => hgo ⟨h1, h2, by omega⟩⟩)
                · exact .inr (.inl ⟨h1, by omega, byte_ne h2⟩)
              · exact .inl (decide_eq_false (by omega))
            clear hgo hstop hlen
            rcases hexit with h1 | ⟨hj, hjz, h2⟩ | ⟨hj, hjz, h2, h4⟩
            all_goals
              go_wp2_with fail
              go_quiet (fail)
              go_wp2_with (at_builtin; refine wpList_append8 rfl (.tmp 37) (.tmp 44) rfl w.heap.size _ out rfl ((HO.out.drewN _).alloc _) ⟨wr.heap.size, 0, none⟩ 2 [UInt8.ofNat (257 - m), s[k]] rfl (cells_new2 _ _ _ _ _ hz.out rfl) (by simp) (by simp; omega) w ((below_drewN Hb.out _).alloc Hb.out.size _) (by have := Hb.out.size; simp; omega) ?_; intro v2 w2 Ho2 Hb2 _)
              go_roundg (g + 1 - m)
              case measure => omega
              case rel => exact ⟨k + m, _, by omega, by go_num, Ho2.out, by rw [List.length_append]; simp; omega, by show _ = _; rw [HE.out, Hnext.out, List.append_assoc], Hb2.out⟩
end
end Go.Proofs.YtiiiokikmjgliaaGreatDoor
/-
  The contract of the document's Decode of runs.
-/
namespace Go.Proofs.YtiiiokikmjgliaaGreatDoor
section
open Go.RowKit
set_option maxRecDepth 100000
end
end Go.Proofs.YtiiiokikmjgliaaGreatDoor
