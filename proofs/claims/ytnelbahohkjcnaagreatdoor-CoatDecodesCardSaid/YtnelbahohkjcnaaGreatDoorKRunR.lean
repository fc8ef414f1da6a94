/-
  RunRef, RunRef2: texts merged.
-/
import Derived.Test.YtnelbahohkjcnaaGreatDoorKPlain
import Derived.Test.YtnelbahohkjcnaaGreatDoorKRows
import Derived.Deep.LoopGhost
import Derived.BigQuiet
import Derived.Deep.QuietTactic
import Derived.WalkSpells
import Derived.WalkLawsBesides
/-
  The contracts of the document's Encode of runs.
-/
namespace Go.Proofs.YtnelbahohkjcnaaGreatDoor
section
open Go.RowKit
set_option maxRecDepth 100000
theorem drop_at {s : ByteArray} {k : Nat} (h : k < s.size) : s.data.toList.drop k = s[k] :: s.data.toList.drop (k + 1) := by
  rw [List.drop_eq_getElem_cons (by rw [← size_data]; exact h)]; rfl
theorem byte_ne {a b : UInt8} (h : ¬ a = b) : ((a.toNat : Int) == (b.toNat : Int)) = false := by
  rw [beq_eq_false_iff_ne]
  intro e
  exact h (UInt8.toNat_inj.1 (by omega))
theorem runLen_more {s : ByteArray} {c : UInt8} {j m : Nat} (hj : j < s.size) (hm : m < 128) (hc : s[j] = c) : runLen c (128 - m) (s.data.toList.drop j) = runLen c (128 - (m + 1)) (s.data.toList.drop (j + 1)) + 1 := by
  rw [drop_at hj, show 128 - m = (128 - (m + 1)) + 1 by omega, runLen, if_pos hc]
theorem runLen_stop {s : ByteArray} {c : UInt8} {j m : Nat} (h : ¬ j < s.size ∨ (∃ hj : j < s.size, ¬ s[j] = c) ∨ ¬ m < 128) : runLen c (128 - m) (s.data.toList.drop j) = 0 := by
  rcases h with h | ⟨hj, h⟩ | h
  · rw [List.drop_of_length_le (by rw [← size_data]; omega)]
    cases 128 - m <;> rfl
  · rw [drop_at hj]
    cases 128 - m with
    | zero => rfl
    | succ k => rw [runLen, if_neg h]
  · rw [show 128 - m = 0 by omega]; rfl
theorem rawLen_more {s : ByteArray} {j m : Nat} (hj : j < s.size) (hm : m < 128) (ha : alikeB (s.data.toList.drop j) = false) : rawLen (128 - m) (s.data.toList.drop j) = rawLen (128 - (m + 1)) (s.data.toList.drop (j + 1)) + 1 := by
  rw [drop_at hj] at ha ⊢
  rw [show 128 - m = (128 - (m + 1)) + 1 by omega, rawLen, if_neg (by rw [ha]; decide)]
theorem rawLen_stop {s : ByteArray} {j m : Nat} (h : ¬ j < s.size ∨ alikeB (s.data.toList.drop j) = true ∨ ¬ m < 128) : rawLen (128 - m) (s.data.toList.drop j) = 0 := by
  rcases h with h | h | h
  · rw [List.drop_of_length_le (by rw [← size_data]; omega)]
    cases 128 - m <;> rfl
  · generalize s.data.toList.drop j = l at h
    cases l with
    | nil => cases h
    | cons x t =>
      cases 128 - m with
      | zero => rfl
      | succ k => rw [rawLen, if_pos h]
  · rw [show 128 - m = 0 by omega]; rfl
theorem enc_run_at {s : ByteArray} {k n : Nat} (hk : k < s.size) (ha : alikeB (s.data.toList.drop k) = true) (hn : runLen s[k] 128 (s.data.toList.drop k) = n) :
    encAll (s.data.toList.drop k) = [UInt8.ofNat (257 - n), s[k]] ++ encAll (s.data.toList.drop (k + n)) := by
  subst hn
  rw [← List.drop_drop]
  rw [drop_at hk] at ha ⊢
  rw [encAll_run ha]; rfl
theorem enc_raw_at {s : ByteArray} {k n : Nat} (hk : k < s.size) (ha : alikeB (s.data.toList.drop k) = false) (hn : rawLen 128 (s.data.toList.drop k) = n) :
    encAll (s.data.toList.drop k) = [UInt8.ofNat (n - 1)] ++ (s.data.toList.drop k).take n ++ encAll (s.data.toList.drop (k + n)) := by
  subst hn
  rw [← List.drop_drop]
  rw [drop_at hk] at ha ⊢
  rw [encAll_raw ha]; rfl
theorem ext_take (s : ByteArray) (k n : Nat) : (s.extract k (k + n)).data.toList = (s.data.toList.drop k).take n := by rw [Lib.extract_data]; congr 1; omega
theorem Own8.drewN {w : World} {B : Nat} {v : Value} {l : List UInt8} (h : Own8 w B v l) (q : Nat) : Own8 (w.drewN q) B v l := h
end
end Go.Proofs.YtnelbahohkjcnaaGreatDoor
/-
  The contract of the document's Decode of runs.
-/
namespace Go.Proofs.YtnelbahohkjcnaaGreatDoor
section
open Go.RowKit
set_option maxRecDepth 100000
theorem empty_yes {t : ByteArray} (h : t.size = 0) : t = ByteArray.mk #[] := by
  cases t with
  | mk d => have : d = #[] := Array.eq_empty_of_size_eq_zero h
            rw [this]
theorem data_cons {t : ByteArray} (h : 0 < t.size) : t.data.toList = t[0] :: (t.extract 1 t.size).data.toList := by
  rw [Lib.extract_to_end]
  exact drop_at (s := t) (k := 0) h
set_option maxRecDepth 100000 in
set_option maxHeartbeats 2000000 in
theorem rDecR_is (s : ByteArray) (most : Int) (w : World) (hs : s.size ≤ 100000) {a : List UInt8} {b : Int} (h : decAll s.data.toList most = (a, b)) :
    Calls Tryz.prog 44 #[.string s, .int .i64 most] w fun e w' => e = .returned (.tuple #[.string (bytes a), .int .i64 b]) ∧ Below w.heap.size w w' := by
  by_cases hm : most < 0
  · have Hr : Hid ((a, b) = ([], 2)) := Lib.hid (by rw [← h]; unfold decAll; rw [if_pos hm])
    clear h
    go_enter Tryz.func44, Tryz.ntmps44
    go_wp2_with fail
    go_ret2
    obtain ⟨rfl, rfl⟩ := Prod.mk.inj Hr.out
    exact ⟨rfl, Below.refl _ _⟩
  · have H : Hid ((a, b) = decR most (s.size + 1) [] s.data.toList) := Lib.hid (by rw [← h]; unfold decAll; rw [if_neg hm, ← size_data])
    clear h
    go_enter Tryz.func44, Tryz.ntmps44
    go_wp2_with fail
    go_loopg [0, 6] s.size (fun g s0 s6 wx => ∃ (t : ByteArray) (out : List UInt8) (f : Nat), s0 = .string t ∧ Aside (t.size = g) ∧ t.size ≤ s.size ∧ Aside (Own8 wx w.heap.size s6 out) ∧ Aside ((out.length : Int) ≤ most) ∧ out.length + 128 * t.size ≤ 128 * s.size ∧ Aside (t.size < f ∧ (a, b) = decR most f out t.data.toList) ∧ Below w.heap.size w wx)
    case atStart => exact ⟨s, [], s.size + 1, rfl, rfl, Nat.le_refl _, Own8.made w 0 #[] (Nat.le_refl _) (by decide) rfl, by show (0 : Int) ≤ most; omega, by simp, ⟨by omega, H.out⟩, (Below.refl _ w).alloc (Nat.le_refl _) _⟩
    case round =>
      obtain ⟨t, out, f, rfl, HT, hts, HO, HM, hol, HD, hb⟩ := hrel
      have Hb := Lib.hid hb
      clear hb
      by_cases h0 : t.size = 0
      · obtain rfl := empty_yes h0
        have Hr : Hid ((a, b) = ([], 5)) := Lib.hid (HD.out.2.trans decR_nil)
        clear h0
        go_wp2_with fail
        go_ret2
        obtain ⟨rfl, rfl⟩ := Prod.mk.inj Hr.out
        exact ⟨rfl, Hb.out⟩
      · have hpos : 0 < t.size := by omega
        have he := isEmpty_not (show ¬ t.data.toList = [] from fun e => h0 (by rw [size_data, e]; rfl))
        obtain ⟨f, rfl⟩ : ∃ g, f = g + 1 := ⟨f - 1, by have := HD.out.1; omega⟩
        obtain ⟨t1, ht1⟩ : ∃ t1, t.extract 1 t.size = t1 := ⟨_, rfl⟩
        have hs1 : t1.size = t.size - 1 := by rw [← ht1, ByteArray.size_extract]; omega
        have hdat := HD.out.2
        rw [data_cons hpos, ht1] at hdat
        obtain ⟨c, hc⟩ : ∃ c : UInt8, t[0] = c := ⟨_, rfl⟩
        rw [hc] at hdat
        have hc256 := c.toNat_lt
        have Hs1 := Lib.hid hs1
        have Hf : Hid (t.size < f + 1) := Lib.hid HD.out.1
        clear h0 hs1 HD
        by_cases h128 : c.toNat = 128
        · have h128' : ((c.toNat : Int) == 128) = true := beq_iff_eq.2 (by omega)
          rw [decR_end h128] at hdat
          by_cases h1 : t1.data.toList = []
          · have he1 := isEmpty_of h1
            rw [if_pos h1] at hdat
            have Hr := Lib.hid hdat
            have htext := HO.out.text
            clear hdat h1 h128
            go_wp2_with fail
            go_ret2
            obtain ⟨rfl, rfl⟩ := Prod.mk.inj Hr.out
            exact ⟨rfl, Hb.out⟩
          · have he1 := isEmpty_not h1
            rw [if_neg h1] at hdat
            have Hr := Lib.hid hdat
            clear hdat h1 h128
            go_wp2_with fail
            go_ret2
            obtain ⟨rfl, rfl⟩ := Prod.mk.inj Hr.out
            exact ⟨rfl, Hb.out⟩
        · have h128' : ((c.toNat : Int) == 128) = false := beq_eq_false_iff_ne.2 (by omega)
          by_cases hlt : c.toNat < 128
          · have hltz : (c.toNat : Int) < 128 := by omega
            have q1 : ((c.toNat : Int) + 1).toNat = c.toNat + 1 := by omega
            by_cases hsh : t1.size < c.toNat + 1
            · rw [decR_raw_short hlt (by rw [← size_data]; exact hsh)] at hdat
              have Hr := Lib.hid hdat
              have hshz : (t1.size : Int) < (c.toNat : Int) + 1 := by omega
              clear hdat h128
              go_wp2_with fail
              go_ret2
              obtain ⟨rfl, rfl⟩ := Prod.mk.inj Hr.out
              exact ⟨rfl, Hb.out⟩
            · have hshz : ¬ (t1.size : Int) < (c.toNat : Int) + 1 := by omega
              obtain ⟨pc, hpc⟩ : ∃ pc, t1.extract 0 (c.toNat + 1) = pc := ⟨_, rfl⟩
              obtain ⟨t2, ht2⟩ : ∃ t2, t1.extract (c.toNat + 1) t1.size = t2 := ⟨_, rfl⟩
              have hpd : t1.data.toList.take (c.toNat + 1) = pc.data.toList := by rw [← hpc, Lib.extract_data]; simp
              have htd : t1.data.toList.drop (c.toNat + 1) = t2.data.toList := by rw [← ht2, Lib.extract_to_end]
              have hps : pc.size = c.toNat + 1 := by rw [← hpc, ByteArray.size_extract]; omega
              have hts2 : t2.size = t1.size - (c.toNat + 1) := by rw [← ht2, ByteArray.size_extract]; omega
              have Hps := Lib.hid hps
              have Hts2 := Lib.hid hts2
              have hlen2 : out.length + pc.size ≤ 13000000 := by omega
              clear hps hts2
              by_cases hbig : most < ((out.length + pc.size : Nat) : Int)
              · rw [decR_raw_big hlt (by rw [← size_data]; exact hsh) (by rw [hpd, List.length_append, ← size_data]; exact hbig)] at hdat
                have Hr := Lib.hid hdat
                have hbigz : most < (out.length : Int) + (pc.size : Int) := by omega
                clear hdat h128 hsh hpd htd hbig
                go_wp2_with (at_builtin; refine wpList_append8s rfl (.tmp 36) (.tmp 39) rfl w.heap.size _ out rfl HO.out pc rfl (by omega) w Hb.out Hb.out.size ?_; intro v2 w2 Ho2 Hb2 hf2; obtain ⟨g2, cap2, rfl⟩ := hf2)
                go_ret2
                obtain ⟨rfl, rfl⟩ := Prod.mk.inj Hr.out
                exact ⟨rfl, Hb2.out⟩
              · rw [decR_raw hlt (by rw [← size_data]; exact hsh) (by rw [hpd, List.length_append, ← size_data]; exact hbig), hpd, htd] at hdat
                have Hr := Lib.hid hdat
                have hbigz : ¬ most < (out.length : Int) + (pc.size : Int) := by omega
                clear hdat h128 hsh hpd htd hbig
                go_wp2_with (at_builtin; refine wpList_append8s rfl (.tmp 36) (.tmp 39) rfl w.heap.size _ out rfl HO.out pc rfl (by omega) w Hb.out Hb.out.size ?_; intro v2 w2 Ho2 Hb2 hf2; obtain ⟨g2, cap2, rfl⟩ := hf2)
                go_roundg t2.size
                case measure => have h1 := HT.out; have h2 := Hs1.out; have h3 := Hts2.out; omega
                case rel =>
                  have h1 := HT.out
                  have h2 := Hs1.out
                  have h3 := Hts2.out
                  have h4 := Hps.out
                  have h5 := Hf.out
                  exact ⟨t2, out ++ pc.data.toList, f, rfl, rfl, by omega, Ho2.out, by show ((out ++ pc.data.toList).length : Int) ≤ most; rw [List.length_append, ← size_data]; omega, by rw [List.length_append, ← size_data]; omega, ⟨by omega, Hr.out⟩, Hb2.out⟩
          · have hgt : 128 < c.toNat := by omega
            have hltz : ¬ (c.toNat : Int) < 128 := by omega
            obtain ⟨K, hK⟩ : ∃ K, 257 - c.toNat = K := ⟨_, rfl⟩
            have hcK : c.toNat + K = 257 := by omega
            by_cases hsh : t1.size = 0
            · have h1 : t1.data.toList = [] := by rw [empty_yes hsh]
              rw [h1, decR_run_short hgt] at hdat
              have Hr := Lib.hid hdat
              have hshz : (t1.size : Int) < 1 := by omega
              clear hdat h128 h1 hlt
              go_wp2_with fail
              go_ret2
              obtain ⟨rfl, rfl⟩ := Prod.mk.inj Hr.out
              exact ⟨rfl, Hb.out⟩
            · have hpos1 : 0 < t1.size := by omega
              have hshz : ¬ (t1.size : Int) < 1 := by omega
              obtain ⟨x, hx⟩ : ∃ x : UInt8, t1[0] = x := ⟨_, rfl⟩
              obtain ⟨t2, ht2⟩ : ∃ t2, t1.extract 1 t1.size = t2 := ⟨_, rfl⟩
              have hts2 : t2.size = t1.size - 1 := by rw [← ht2, ByteArray.size_extract]; omega
              have hd1 := data_cons hpos1
              rw [hx, ht2] at hd1
              rw [hd1] at hdat
              have Hts2 := Lib.hid hts2
              have Hdat := Lib.hid hdat
              have hol2 : out.length ≤ 12800000 := by omega
              have Hol := Lib.hid hol
              have hKn := Lib.hid hK
              clear hts2 hdat hd1 h128 hlt hol hsh hK
              go_wp2_with fail
              go_loopg [6, 9] K (fun g6 s6 s9 wx => ∃ (j : Nat), j + g6 = K ∧ s9 = .int .i64 ((c.toNat : Int) + j) ∧ Aside (Own8 wx w.heap.size s6 (out ++ List.replicate j x)) ∧ Below w.heap.size w wx)
              case atStart => exact ⟨0, by omega, by go_num, by show Own8 _ _ _ _; simpa using HO.out, Hb.out⟩
              case round =>
                obtain ⟨j, hjg, rfl, HO2, hb2⟩ := hrel
                have Hb2 := Lib.hid hb2
                clear hb2
                cases gk with
                | succ g6 =>
                  have hjz : (c.toNat : Int) + (j : Int) < 257 := by omega
                  have hlr : (out ++ List.replicate j x).length ≤ 13000000 := by rw [List.length_append, List.length_replicate]; omega
                  go_wp2_with (at_builtin; refine wpList_append8 rfl (.tmp 46) (.tmp 49) rfl w.heap.size _ (out ++ List.replicate j x) rfl (HO2.out.alloc _) ⟨wr.heap.size, 0, none⟩ 1 [x] rfl (cells_new1 _ _ _ rfl) (by simp) (by simp; omega) w (Hb2.out.alloc Hb2.out.size _) (by have := Hb2.out.size; simp; omega) ?_; intro v3 w3 Ho3 Hb3 _)
                  go_roundg g6
                  case measure => omega
                  case rel => exact ⟨j + 1, by omega, by go_num, by show Own8 _ _ _ _; rw [List.replicate_succ', ← List.append_assoc]; exact Ho3.out, Hb3.out⟩
                | zero =>
                  obtain rfl : j = K := by omega
                  have hjz : ¬ (c.toNat : Int) + (j : Int) < 257 := by omega
                  obtain ⟨g2, cap2, hv⟩ := HO2.out.2
                  have hll : (out ++ List.replicate j x).length = out.length + j := by rw [List.length_append, List.length_replicate]
                  rw [hll] at hv
                  subst hv
                  by_cases hbig : most < ((out.length + j : Nat) : Int)
                  · have Hr : Hid ((a, b) = ([], 7)) := Lib.hid (Hdat.out.trans ((by have := decR_run_big (f := f) (t := t2.data.toList) (x := x) hgt (most := most) (out := out) (by rw [hKn.out, hll]; exact hbig); exact this)))
                    have hbigz : most < (out.length : Int) + (j : Int) := by omega
                    clear hll
                    go_wp2_with fail
                    go_ret2
                    obtain ⟨rfl, rfl⟩ := Prod.mk.inj Hr.out
                    exact ⟨rfl, Hb2.out⟩
                  · have Hr : Hid ((a, b) = decR most f (out ++ List.replicate j x) t2.data.toList) := Lib.hid (Hdat.out.trans ((by have := decR_run (f := f) (t := t2.data.toList) (x := x) hgt (most := most) (out := out) (by rw [hKn.out, hll]; exact hbig); rw [hKn.out] at this; exact this)))
                    clear hll
                    go_wp2_with fail
                    go_roundg t2.size
                    case measure => have h1 := HT.out; have h2 := Hs1.out; have h3 := Hts2.out; omega
                    case rel =>
                      have h1 := HT.out
                      have h2 := Hs1.out
                      have h3 := Hts2.out
                      have h5 := Hf.out
                      have h6 := Hol.out
                      exact ⟨t2, out ++ List.replicate j x, f, rfl, rfl, by omega, HO2.out, by show ((out ++ List.replicate j x).length : Int) ≤ most; rw [List.length_append, List.length_replicate]; omega, by rw [List.length_append, List.length_replicate]; omega, ⟨by omega, Hr.out⟩, Hb2.out⟩
end
end Go.Proofs.YtnelbahohkjcnaaGreatDoor
