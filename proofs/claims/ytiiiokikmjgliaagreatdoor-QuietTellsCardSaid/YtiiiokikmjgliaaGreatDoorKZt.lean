/-
  ZwText, ZwPut, ZwFirst, ZwHead: texts merged.
-/
import Derived.Test.YtiiiokikmjgliaaGreatDoorKBack
import Derived.Test.YtiiiokikmjgliaaGreatDoorKPlain
import Derived.WalkKit
import Derived.WalkSpells
import Derived.WalkLawsBesides
import Derived.Lib.Hide
import Derived.Test.YtiiiokikmjgliaaGreatDoorRows
import Derived.Deep.LoopGhost
import Derived.Laws.EntriesVeiled
import Derived.Test.YtiiiokikmjgliaaGreatDoorKF
/-
  Deflated bytes with a head and a sum: texts and their bytes.
-/
namespace Go.Proofs.YtiiiokikmjgliaaGreatDoor
section
open Go.RowKit
theorem two_bytes {s : ByteArray} (h : 2 ≤ s.size) : s.data.toList = s[0] :: s[1] :: (s.extract 2 s.size).data.toList := by
  have hl : 2 ≤ s.data.toList.length := by rw [← size_data]; exact h
  have e : (s.extract 2 s.size).data.toList = s.data.toList.drop 2 := by
    rw [Lib.extract_data]; exact List.take_of_length_le (by rw [List.length_drop, ← size_data]; exact Nat.le_refl _)
  rw [e]
  match hs : s.data.toList, hl with
  | a :: b :: l, _ =>
    have h0 : s[0] = a := by
      have : s.data.toList[0]? = some s[0] := by rw [List.getElem?_eq_getElem (by omega)]; rfl
      rw [hs] at this; simpa using this.symm
    have h1 : s[1] = b := by
      have : s.data.toList[1]? = some s[1] := by rw [List.getElem?_eq_getElem (by omega)]; rfl
      rw [hs] at this; simpa using this.symm
    rw [h0, h1]; rfl
theorem unwrapZ_two {s : ByteArray} (h : 2 ≤ s.size) {most : Int} (hm : 0 ≤ most) : unwrapZ s.data.toList most = if headNo s[0].toNat s[1].toNat = true then ([], 4) else restZ (s.extract 2 s.size).data.toList (inflZ (s.extract 2 s.size).data.toList most) := by
  rw [two_bytes h]
  show (if most < 0 then _ else _) = _
  rw [if_neg (by omega)]
theorem unwrapZ_neg (l : List UInt8) {most : Int} (hm : most < 0) : unwrapZ l most = ([], 2) := by
  match l with
  | [] => simp [unwrapZ, hm]
  | [a] => simp [unwrapZ, hm]
  | a :: b :: t => simp [unwrapZ, hm]
theorem inflZ_within {l : List UInt8} {M n : Nat} {o : List UInt8} {e : Int} (h : inflZ l (M : Int) = (o, n, e)) : n ≤ l.length ∧ o.length ≤ M := by
  by_cases he : e = 0
  · rw [he] at h
    obtain ⟨_, h2, _, _⟩ := inflZ_cut h
    refine ⟨h2, ?_⟩
    rcases Nat.lt_or_ge M o.length with hM | hM
    · have := (inflZ_room h).2 M hM
      rw [this] at h; simp at h
    · exact hM
  · unfold inflZ at h
    rw [if_neg (by omega)] at h
    split at h
    · obtain ⟨ho, h⟩ := Prod.mk.inj h; obtain ⟨hn, _⟩ := Prod.mk.inj h; rw [← ho, ← hn]; exact ⟨Nat.zero_le _, Nat.zero_le _⟩
    · have h3 : (0 : Int) = e := congrArg (fun r => r.2.2) h; exact absurd h3.symm he
theorem ext_from (s : ByteArray) (k : Nat) : (s.extract k s.size).data.toList = s.data.toList.drop k := by
  rw [Lib.extract_data]; exact List.take_of_length_le (by rw [List.length_drop, ← size_data]; exact Nat.le_refl _)
theorem ext_first (s : ByteArray) (k : Nat) : (s.extract 0 k).data.toList = s.data.toList.take k := by
  rw [Lib.extract_data]; simp
theorem tail_num {l o : List UInt8} (hl : l.length = 4) : l = tailZ o ↔ valB l = aSum o := by
  have ho := aSum_ok o
  have hlt : aSum o < 256 ^ 4 := by
    obtain ⟨h1, h2⟩ := ho
    have : (256 : Nat) ^ 4 = 4294967296 := by decide
    omega
  constructor
  · rintro rfl
    unfold tailZ
    rw [valB_lo, Nat.mod_eq_of_lt hlt]
  · intro h
    unfold tailZ
    rw [← h, ← hl]
    exact (lo_val l).symm
end
end Go.Proofs.YtiiiokikmjgliaaGreatDoor
/-
  The sum as bytes: plain facts, and the text that a head, bytes and a sum make.
-/
namespace Go.Proofs.YtiiiokikmjgliaaGreatDoor
section
open Go.RowKit
theorem aSum_bound (l : List UInt8) : aSum l < 4294967296 := by
  obtain ⟨h1, h2⟩ := aSum_ok l
  omega
theorem put_tail (l : List UInt8) : putF ((aSum l : Nat) : Int) 4 = (tailZ l, 0) := by
  have h := aSum_bound l
  have e : (256 : Nat) ^ 4 = 4294967296 := by decide
  exact putF_ok (w := 4) (by omega) (by omega)
theorem wrap_text {x t u : ByteArray} (h : [120, 1] ++ (x.data.toList ++ t.data.toList) = u.data.toList) : (ByteArray.mk #[120, 1]) ++ x ++ t = u := by
  rw [bytes_eq (l := u.data.toList) rfl, ← h]
  apply ByteArray.ext
  apply Array.toList_inj.1
  simp [bytes]
end
end Go.Proofs.YtiiiokikmjgliaaGreatDoor
/-
  zwrap.firstBroken: the first demand that doesn't hold.
-/
namespace Go.Proofs.YtiiiokikmjgliaaGreatDoor
section
open Go.RowKit
set_option maxRecDepth 100000
structure Dmd where
  fn : Nat
  caps : Array Value
  code : Int
  holds : Bool
def firstZ : List Dmd → Int
  | [] => 0
  | d :: ds => if d.holds then firstZ ds else d.code
theorem firstZ_go {ds : List Dmd} {i : Nat} {d : Dmd} (h : ds[i]? = some d) (hd : d.holds = true) : firstZ (ds.drop i) = firstZ (ds.drop (i + 1)) := by
  obtain ⟨hi, rfl⟩ := List.getElem?_eq_some_iff.1 h
  rw [List.drop_eq_getElem_cons hi]
  simp [firstZ, hd]
theorem firstZ_stop {ds : List Dmd} {i : Nat} {d : Dmd} (h : ds[i]? = some d) (hd : d.holds = false) : firstZ (ds.drop i) = d.code := by
  obtain ⟨hi, rfl⟩ := List.getElem?_eq_some_iff.1 h
  rw [List.drop_eq_getElem_cons hi]
  simp [firstZ, hd]
set_option maxHeartbeats 1000000 in
theorem broken_is (p : Nat) (ds : List Dmd) (w : World) (hn : ds.length ≤ 100)
    (hrow : ∀ (i : Nat) (d : Dmd), ds[i]? = some d → w.cell? ⟨p, 2 * i, none⟩ = some (.func (.func d.fn) #[] d.caps) ∧ w.cell? ⟨p, 2 * i + 1, none⟩ = some (.int .i64 d.code))
    (hent : ∀ (i : Nat) (d : Dmd), ds[i]? = some d → ∀ args W, (callFunc d.fn args).run Tryz.prog W = .ok (.enter d.fn args) W)
    (hcall : ∀ (i : Nat) (d : Dmd), ds[i]? = some d → (∀ (j : Nat) (e : Dmd), j < i → ds[j]? = some e → e.holds = true) → ∀ W, Below w.heap.size w W → Calls Tryz.prog d.fn d.caps W fun e W' => e = .returned (.bool d.holds) ∧ Below W.heap.size W W') :
    Calls Tryz.prog 98 #[.slice (some ⟨p, 0, none⟩) ds.length ds.length] w fun e w' => e = .returned (.int .i64 (firstZ ds)) ∧ Below w.heap.size w w' := by
  have HR := Lib.hid hrow
  have HC := Lib.hid hcall
  have HE := Lib.hid hent
  clear hrow hcall hent
  go_enter Tryz.func98, Tryz.ntmps98
  go_wp2_with fail
  go_loopg [7] ds.length (fun g s7 wx => ∃ j : Nat, j + g = ds.length ∧ s7 = .int .i64 j ∧ Aside (∀ (i : Nat) (e : Dmd), i < j → ds[i]? = some e → e.holds = true) ∧ Aside (firstZ ds = firstZ (ds.drop j)) ∧ Below w.heap.size w wx)
  case atStart => exact ⟨0, by omega, rfl, fun i e hi => absurd hi (by omega), rfl, Below.refl _ _⟩
  case round =>
    obtain ⟨j, hjg, rfl, HA, HF, hb⟩ := hrel
    have Hb := Lib.hid hb
    clear hb
    cases gk with
    | zero =>
      obtain rfl : j = ds.length := by omega
      have Hr : Hid (firstZ ds = 0) := Lib.hid (by rw [HF.out, List.drop_length]; rfl)
      go_wp2_with fail
      go_ret
      exact ⟨by rw [Hr.out]; rfl, Hb.out⟩
    | succ g =>
      have hj : j < ds.length := by omega
      have hjz : (j : Int) < (ds.length : Int) := by omega
      obtain ⟨d, hd⟩ : ∃ d, ds[j]? = some d := ⟨ds[j], List.getElem?_eq_getElem hj⟩
      have hc := HR.out j d hd
      have hp : p < w.heap.size := by
        rcases Nat.lt_or_ge p w.heap.size with h | h
        · exact h
        · have := hc.1
          unfold World.cell? at this
          simp [Array.getElem?_eq_none h] at this
      have c0 : wr.cell? ⟨p, j * 2, none⟩ = some (.func (.func d.fn) #[] d.caps) := by
        rw [Hb.out.cell (p := ⟨p, j * 2, none⟩) hp, Nat.mul_comm]; exact hc.1
      have c1 : wr.cell? ⟨p, j * 2 + 1, none⟩ = some (.int .i64 d.code) := by
        rw [Hb.out.cell (p := ⟨p, j * 2 + 1, none⟩) hp, Nat.mul_comm]; exact hc.2
      have hen := HE.out j d hd
      have Hd := Lib.hid hd
      have Hjg := Lib.hid hjg
      clear hd hc hjg
      obtain ⟨b, hb⟩ : ∃ b, d.holds = b := ⟨_, rfl⟩
      have Hh := Lib.hid hb
      have Hb1 := Lib.hid (Hb.out.alloc Hb.out.size (.cells #[.func (.func d.fn) #[] d.caps, .int .i64 d.code] 132))
      have Hcall := Lib.hid (HC.out j d Hd.out HA.out _ Hb1.out)
      rw [hb] at Hcall
      clear hb
      go_wp2_with fail
      refine Hcall.out.mono ?_
      rintro e w1 ⟨rfl, hb⟩
      have Hb2 := Lib.hid (Hb1.out.trans (hb.mono Hb1.out.size))
      have c2 : w1.cell? ⟨wr.heap.size, 1, none⟩ = some (.int .i64 d.code) := by
        rw [hb.cell (p := ⟨wr.heap.size, 1, none⟩) (by simp)]; simp [go_sem]
      clear hb c0 c1 hen
      cases b with
      | true =>
        have Hr : Hid (firstZ ds = firstZ (ds.drop (j + 1))) := Lib.hid (HF.out.trans (firstZ_go Hd.out Hh.out))
        clear c2
        go_wp2_with fail
        go_roundg g
        case measure => omega
        case rel => exact ⟨j + 1, by have := Hjg.out; omega, by go_num, fun i e hi he => by
          by_cases h : i = j
          · subst h
            obtain rfl : d = e := by have := Hd.out; rw [he] at this; exact (Option.some.inj this).symm
            exact Hh.out
          · exact HA.out i e (by omega) he, Hr.out, Hb2.out⟩
      | false =>
        have Hr : Hid (firstZ ds = d.code) := Lib.hid (HF.out.trans (firstZ_stop Hd.out Hh.out))
        go_wp2_with fail
        go_ret
        exact ⟨by rw [Hr.out]; rfl, Hb2.out⟩
end
end Go.Proofs.YtiiiokikmjgliaaGreatDoor
/-
  zwrap.headDemands: what must hold ahead of the deflated bytes.
-/
namespace Go.Proofs.YtiiiokikmjgliaaGreatDoor
section
open Go.RowKit
set_option maxRecDepth 100000
theorem number_is (s : ByteArray) (w : World) (hs : s.size ≤ 4) {n : Nat} (hn : valB s.data.toList = n) :
    Calls Tryz.prog 121 #[.string s] w fun e w' => e = .returned (.int .i64 (n : Int)) ∧ Below w.heap.size w w' := by
  have hl : s.data.toList.length ≤ 4 := by rw [← size_data]; exact hs
  have hg : getF s.data.toList = ((n : Int), 0) := by
    rw [getF_ok (by omega) (valB_low (by omega)), hn]
  have H := Lib.hid (fGet_is s w (by unfold maxLen; omega) hg)
  clear hl hg hn
  go_enter Tryz.func121, Tryz.ntmps121
  go_wp2_with fail
  refine H.out.mono ?_
  rintro e w1 ⟨rfl, hb⟩
  have Hb := Lib.hid hb
  clear hb
  go_wp2_with fail
  go_ret
  exact ⟨rfl, Hb.out⟩
theorem hd1_is (p : Nat) (most : Int) (w : World) (hc : w.cell? ⟨p, 0, none⟩ = some (.int .i64 most)) :
    Calls Tryz.prog 116 #[.pointer (some ⟨p, 0, none⟩)] w fun e w' => e = .returned (.bool (decide (0 ≤ most))) ∧ Below w.heap.size w w' := by
  go_enter Tryz.func116, Tryz.ntmps116
  go_wp2_with fail
  go_ret
  exact ⟨rfl, Below.refl _ _⟩
theorem hd2_is (p : Nat) (s : ByteArray) (w : World) (hc : w.cell? ⟨p, 0, none⟩ = some (.string s)) :
    Calls Tryz.prog 117 #[.pointer (some ⟨p, 0, none⟩)] w fun e w' => e = .returned (.bool (decide (2 ≤ s.size))) ∧ Below w.heap.size w w' := by
  have e : decide (2 ≤ s.size) = decide ((2 : Int) ≤ (s.size : Int)) := by rw [decide_eq_decide]; omega
  rw [e]
  clear e
  go_enter Tryz.func117, Tryz.ntmps117
  go_wp2_with fail
  go_ret
  exact ⟨rfl, Below.refl _ _⟩
theorem hd3_is (p : Nat) (s : ByteArray) (a : Nat) (w : World) (h2 : 2 ≤ s.size) (ha : s[0].toNat = a) (hc : w.cell? ⟨p, 0, none⟩ = some (.string s)) :
    Calls Tryz.prog 118 #[.pointer (some ⟨p, 0, none⟩)] w fun e w' => e = .returned (.bool (decide (a % 16 = 8))) ∧ Below w.heap.size w w' := by
  have hz : (0 : Int) < (s.size : Int) := by omega
  have e : decide (a % 16 = 8) = ((a : Int) % 16 == 8) := by
    rw [Bool.eq_iff_iff]; simp only [decide_eq_true_eq, beq_iff_eq]; omega
  rw [e]
  clear e
  go_enter Tryz.func118, Tryz.ntmps118
  go_wp2_with fail
  go_ret
  exact ⟨rfl, Below.refl _ _⟩
theorem hd4_is (p : Nat) (s : ByteArray) (a : Nat) (w : World) (h2 : 2 ≤ s.size) (ha : s[0].toNat = a) (hc : w.cell? ⟨p, 0, none⟩ = some (.string s)) :
    Calls Tryz.prog 119 #[.pointer (some ⟨p, 0, none⟩)] w fun e w' => e = .returned (.bool (decide (a / 16 ≤ 7))) ∧ Below w.heap.size w w' := by
  have hz : (0 : Int) < (s.size : Int) := by omega
  have hlt : a < 256 := by rw [← ha]; exact s[0].toNat_lt
  have e : decide (a / 16 ≤ 7) = decide ((a : Int) / 16 ≤ 7) := by rw [decide_eq_decide]; omega
  rw [e]
  clear e
  go_enter Tryz.func119, Tryz.ntmps119
  go_wp2_with fail
  go_ret
  exact ⟨rfl, Below.refl _ _⟩
theorem and_32 {b : Nat} (hb : b < 256) : decide (¬ b / 32 % 2 = 1) = (bits .and .u8 (b : Int) 32 == 0) := by
  have : ∀ b : Fin 256, decide (¬ b.1 / 32 % 2 = 1) = (bits .and .u8 (b.1 : Int) 32 == 0) := by decide +kernel
  exact this ⟨b, hb⟩
theorem hd6_is (p : Nat) (s : ByteArray) (b : Nat) (w : World) (h2 : 2 ≤ s.size) (hb : s[1].toNat = b) (hc : w.cell? ⟨p, 0, none⟩ = some (.string s)) :
    Calls Tryz.prog 122 #[.pointer (some ⟨p, 0, none⟩)] w fun e w' => e = .returned (.bool (decide (¬ b / 32 % 2 = 1))) ∧ Below w.heap.size w w' := by
  have hz : (1 : Int) < (s.size : Int) := by omega
  have hlt : b < 256 := by rw [← hb]; exact s[1].toNat_lt
  rw [and_32 hlt]
  go_enter Tryz.func122, Tryz.ntmps122
  go_wp2_with fail
  go_ret
  exact ⟨rfl, Below.refl _ _⟩
theorem hd5_is (p : Nat) (s : ByteArray) (a b : Nat) (w : World) (h2 : 2 ≤ s.size) (ha : s[0].toNat = a) (hb : s[1].toNat = b) (hc : w.cell? ⟨p, 0, none⟩ = some (.string s)) :
    Calls Tryz.prog 120 #[.pointer (some ⟨p, 0, none⟩)] w fun e w' => e = .returned (.bool (decide ((256 * a + b) % 31 = 0))) ∧ Below w.heap.size w w' := by
  have hz : (2 : Int) ≤ (s.size : Int) := by omega
  have hv : valB (s.extract 0 2).data.toList = 256 * a + b := by
    rw [ext_first, two_bytes h2]
    simp [valB, ha, hb]
  have hsz : (s.extract 0 2).size ≤ 4 := by rw [ByteArray.size_extract]; omega
  have hlt : 256 * a + b < 65536 := by
    have h0 := s[0].toNat_lt
    have h1 := s[1].toNat_lt
    omega
  obtain ⟨n, hn⟩ : ∃ n, 256 * a + b = n := ⟨_, rfl⟩
  rw [hn] at hv hlt ⊢
  have H := Lib.hid (number_is (s.extract 0 2) w hsz hv)
  have e : decide (n % 31 = 0) = ((n : Int) % 31 == 0) := by
    rw [Bool.eq_iff_iff]; simp only [decide_eq_true_eq, beq_iff_eq]; omega
  rw [e]
  clear hv hsz hn ha hb e
  go_enter Tryz.func120, Tryz.ntmps120
  go_wp2_with fail
  refine H.out.mono ?_
  rintro e w1 ⟨rfl, hb⟩
  have Hb := Lib.hid hb
  clear hb
  go_wp2_with fail
  go_ret
  exact ⟨rfl, Hb.out⟩
def headW (s : ByteArray) (most : Int) (w : World) : World :=
  ((w.alloc (.cells #[.string s] 9)).alloc (.cells #[.int .i64 most] 3)).alloc (.cells #[
    .func (.func 116) #[] #[.pointer (some ⟨w.heap.size + 1, 0, none⟩)], .int .i64 2,
    .func (.func 117) #[] #[.pointer (some ⟨w.heap.size, 0, none⟩)], .int .i64 5,
    .func (.func 118) #[] #[.pointer (some ⟨w.heap.size, 0, none⟩)], .int .i64 4,
    .func (.func 119) #[] #[.pointer (some ⟨w.heap.size, 0, none⟩)], .int .i64 4,
    .func (.func 120) #[] #[.pointer (some ⟨w.heap.size, 0, none⟩)], .int .i64 4,
    .func (.func 122) #[] #[.pointer (some ⟨w.heap.size, 0, none⟩)], .int .i64 4] 132)
theorem headDemands_is (s : ByteArray) (most : Int) (w : World) :
    Calls Tryz.prog 99 #[.string s, .int .i64 most] w fun e w' => e = .returned (.slice (some ⟨w.heap.size + 2, 0, none⟩) 6 6) ∧ headW s most w = w' := by
  go_enter Tryz.func99, Tryz.ntmps99
  go_wp2_with fail
  go_ret
  exact ⟨rfl, rfl⟩
theorem headW_size (s : ByteArray) (most : Int) (w : World) : (headW s most w).heap.size = w.heap.size + 3 := by unfold headW; simp
theorem headW_below (s : ByteArray) (most : Int) (w : World) : Below w.heap.size w (headW s most w) := by
  unfold headW
  exact (((Below.refl _ w).alloc (Nat.le_refl _) _).alloc (by simp) _).alloc (by simp; omega) _
theorem headW_row (s : ByteArray) (most : Int) (w : World) : (headW s most w).heap[w.heap.size + 2]? = some (.cells #[
    .func (.func 116) #[] #[.pointer (some ⟨w.heap.size + 1, 0, none⟩)], .int .i64 2,
    .func (.func 117) #[] #[.pointer (some ⟨w.heap.size, 0, none⟩)], .int .i64 5,
    .func (.func 118) #[] #[.pointer (some ⟨w.heap.size, 0, none⟩)], .int .i64 4,
    .func (.func 119) #[] #[.pointer (some ⟨w.heap.size, 0, none⟩)], .int .i64 4,
    .func (.func 120) #[] #[.pointer (some ⟨w.heap.size, 0, none⟩)], .int .i64 4,
    .func (.func 122) #[] #[.pointer (some ⟨w.heap.size, 0, none⟩)], .int .i64 4] 132 (0, 0)) := by
  unfold headW
  have h := heap_alloc_new ((w.alloc (.cells #[.string s] 9)).alloc (.cells #[.int .i64 most] 3)) (.cells #[
    .func (.func 116) #[] #[.pointer (some ⟨w.heap.size + 1, 0, none⟩)], .int .i64 2,
    .func (.func 117) #[] #[.pointer (some ⟨w.heap.size, 0, none⟩)], .int .i64 5,
    .func (.func 118) #[] #[.pointer (some ⟨w.heap.size, 0, none⟩)], .int .i64 4,
    .func (.func 119) #[] #[.pointer (some ⟨w.heap.size, 0, none⟩)], .int .i64 4,
    .func (.func 120) #[] #[.pointer (some ⟨w.heap.size, 0, none⟩)], .int .i64 4,
    .func (.func 122) #[] #[.pointer (some ⟨w.heap.size, 0, none⟩)], .int .i64 4] 132)
  rw [show ((w.alloc (.cells #[.string s] 9)).alloc (.cells #[.int .i64 most] 3)).heap.size = w.heap.size + 2 by simp] at h
  exact h
theorem headW_text (s : ByteArray) (most : Int) (w : World) : (headW s most w).cell? ⟨w.heap.size, 0, none⟩ = some (.string s) ∧ (headW s most w).cell? ⟨w.heap.size + 1, 0, none⟩ = some (.int .i64 most) := by
  unfold headW
  constructor
  · rw [World.cell?_alloc_old _ _ _ (by simp; omega), World.cell?_alloc_old _ _ _ (by simp)]; simp [go_sem]
  · rw [World.cell?_alloc_old _ _ _ (by simp)]; simp [go_sem]
def headD (p : Nat) (s : ByteArray) (most : Int) (a b : Nat) : List Dmd := [
  ⟨116, #[.pointer (some ⟨p + 1, 0, none⟩)], 2, decide (0 ≤ most)⟩,
  ⟨117, #[.pointer (some ⟨p, 0, none⟩)], 5, decide (2 ≤ s.size)⟩,
  ⟨118, #[.pointer (some ⟨p, 0, none⟩)], 4, decide (a % 16 = 8)⟩,
  ⟨119, #[.pointer (some ⟨p, 0, none⟩)], 4, decide (a / 16 ≤ 7)⟩,
  ⟨120, #[.pointer (some ⟨p, 0, none⟩)], 4, decide ((256 * a + b) % 31 = 0)⟩,
  ⟨122, #[.pointer (some ⟨p, 0, none⟩)], 4, decide (¬ b / 32 % 2 = 1)⟩]
def headE (s : ByteArray) (most : Int) (a b : Nat) : Int := if most < 0 then 2 else if s.size < 2 then 5 else if headNo a b = true then 4 else 0
theorem headD_first (p : Nat) (s : ByteArray) (most : Int) (a b : Nat) : firstZ (headD p s most a b) = headE s most a b := by
  unfold headD headE headNo
  simp only [firstZ, decide_eq_true_eq]
  repeat' split
  all_goals first | rfl | omega
theorem headFirst_is (s : ByteArray) (most : Int) (w : World) (a b : Nat) (hab : ∀ h : 2 ≤ s.size, s[0].toNat = a ∧ s[1].toNat = b) {c : Int} (hc : headE s most a b = c) :
    Calls Tryz.prog 98 #[.slice (some ⟨w.heap.size + 2, 0, none⟩) 6 6] (headW s most w) fun e w' => e = .returned (.int .i64 c) ∧ Below w.heap.size w w' := by
  have hrow := headW_row s most w
  obtain ⟨ht, hm⟩ := headW_text s most w
  have hsz := headW_size s most w
  have hbl := headW_below s most w
  generalize headW s most w = W at *
  have T : ∀ V, Below W.heap.size W V → V.cell? ⟨w.heap.size, 0, none⟩ = some (.string s) := fun V hV => (hV.cell (p := ⟨w.heap.size, 0, none⟩) (by show w.heap.size < W.heap.size; omega)).trans ht
  have M : ∀ V, Below W.heap.size W V → V.cell? ⟨w.heap.size + 1, 0, none⟩ = some (.int .i64 most) := fun V hV => (hV.cell (p := ⟨w.heap.size + 1, 0, none⟩) (by show w.heap.size + 1 < W.heap.size; omega)).trans hm
  have h := broken_is (w.heap.size + 2) (headD w.heap.size s most a b) W (by simp [headD]) (fun i d hd => by
      match i with
      | 0 | 1 | 2 | 3 | 4 | 5 => obtain rfl := Option.some.inj hd; exact ⟨by rw [Lib.cell_of_heap hrow]; rfl, by rw [Lib.cell_of_heap hrow]; rfl⟩
      | i + 6 => simp [headD] at hd)
    (fun i d hd args V => by
      match i with
      | 0 => obtain rfl := Option.some.inj hd; exact Tryz.call116 args V
      | 1 => obtain rfl := Option.some.inj hd; exact Tryz.call117 args V
      | 2 => obtain rfl := Option.some.inj hd; exact Tryz.call118 args V
      | 3 => obtain rfl := Option.some.inj hd; exact Tryz.call119 args V
      | 4 => obtain rfl := Option.some.inj hd; exact Tryz.call120 args V
      | 5 => obtain rfl := Option.some.inj hd; exact Tryz.call122 args V
      | i + 6 => simp [headD] at hd)
    (fun i d hd hall V hV => by
      match i with
      | 0 => obtain rfl := Option.some.inj hd; exact hd1_is _ most V (M V hV)
      | 1 => obtain rfl := Option.some.inj hd; exact hd2_is _ s V (T V hV)
      | 2 =>
        have h2 : 2 ≤ s.size := of_decide_eq_true (hall 1 _ (by omega) rfl)
        obtain rfl := Option.some.inj hd; exact hd3_is _ s a V h2 (hab h2).1 (T V hV)
      | 3 =>
        have h2 : 2 ≤ s.size := of_decide_eq_true (hall 1 _ (by omega) rfl)
        obtain rfl := Option.some.inj hd; exact hd4_is _ s a V h2 (hab h2).1 (T V hV)
      | 4 =>
        have h2 : 2 ≤ s.size := of_decide_eq_true (hall 1 _ (by omega) rfl)
        obtain rfl := Option.some.inj hd; exact hd5_is _ s a b V h2 (hab h2).1 (hab h2).2 (T V hV)
      | 5 =>
        have h2 : 2 ≤ s.size := of_decide_eq_true (hall 1 _ (by omega) rfl)
        obtain rfl := Option.some.inj hd; exact hd6_is _ s b V h2 (hab h2).2 (T V hV)
      | i + 6 => simp [headD] at hd)
  refine h.mono ?_
  rintro e w' ⟨rfl, hb⟩
  exact ⟨by rw [headD_first, hc], hbl.trans (hb.mono (by omega))⟩
end
end Go.Proofs.YtiiiokikmjgliaaGreatDoor
