/-
  CoFind, CoCheck: texts merged.
-/
import Derived.Test.YtiiiokikmjgliaaGreatDoorKCo
import Derived.WalkKit
import Derived.WalkSpells
import Derived.WalkLawsBesides
import Derived.Lib.Hide
import Derived.Deep.LoopGhost
import Derived.Laws.EntriesVeiled
import Derived.Test.YtiiiokikmjgliaaGreatDoorKRows
/-
  coat: what a name does: filters, find, isUnknown.
-/
namespace Go.Proofs.YtiiiokikmjgliaaGreatDoor
section
open Go.RowKit
set_option maxRecDepth 100000
def givenV (s : ByteArray) (room : Int) : Value := .agg #[.string s, .int .i64 room]
def filtersW (s : ByteArray) (room : Int) (w : World) : World :=
  (w.alloc (.cells #[.string s, .int .i64 room] 54)).alloc (.cells #[.string ⟨#[65, 83, 67, 73, 73, 72, 101, 120, 68, 101, 99, 111, 100, 101]⟩, .func (.func 54) #[givenV s room] #[], .func (.func 55) #[givenV s room] #[], .string ⟨#[82, 117, 110, 76, 101, 110, 103, 116, 104, 68, 101, 99, 111, 100, 101]⟩, .func (.func 56) #[givenV s room] #[], .func (.func 57) #[givenV s room] #[], .string ⟨#[70, 108, 97, 116, 101, 68, 101, 99, 111, 100, 101]⟩, .func (.func 58) #[givenV s room] #[], .func (.func 59) #[givenV s room] #[]] 51)
theorem filters_is (s : ByteArray) (room : Int) (w : World) :
    Calls Tryz.prog 40 #[givenV s room] w fun e w' => e = .returned (.slice (some ⟨w.heap.size + 1, 0, none⟩) 3 3) ∧ filtersW s room w = w' := by
  unfold givenV
  go_enter Tryz.func40, Tryz.ntmps40
  go_wp2_with fail
  go_ret
  exact ⟨rfl, rfl⟩
def encFn (k : Nat) : Nat := if k = 1 then 54 else if k = 2 then 56 else 58
def decFn (k : Nat) : Nat := if k = 1 then 55 else if k = 2 then 57 else 59
def filterV (k : Nat) (x s : ByteArray) (room : Int) : Value := if k = 0 then .agg #[.string ⟨#[]⟩, .nilFunc, .nilFunc] else .agg #[.string x, .func (.func (encFn k)) #[givenV s room] #[], .func (.func (decFn k)) #[givenV s room] #[]]
theorem name_eq {x : ByteArray} {l : List UInt8} (h : x.data.toList = l) : x = ⟨l.toArray⟩ := by
  cases x with
  | mk d => rw [← h]
theorem name_ne {x : ByteArray} {l : List UInt8} (h : ¬ x.data.toList = l) : (l == x.toList) = false ∧ (x.toList == l) = false := by
  rw [Lib.toList_data]
  exact ⟨by rw [beq_eq_false_iff_ne]; exact fun e => h e.symm, by rw [beq_eq_false_iff_ne]; exact h⟩
theorem name_cases (x : ByteArray) :
    (x = ⟨#[65, 83, 67, 73, 73, 72, 101, 120, 68, 101, 99, 111, 100, 101]⟩ ∧ knownC x.data.toList = 1) ∨ (x = ⟨#[82, 117, 110, 76, 101, 110, 103, 116, 104, 68, 101, 99, 111, 100, 101]⟩ ∧ knownC x.data.toList = 2) ∨ (x = ⟨#[70, 108, 97, 116, 101, 68, 101, 99, 111, 100, 101]⟩ ∧ knownC x.data.toList = 3) ∨
      ((([65, 83, 67, 73, 73, 72, 101, 120, 68, 101, 99, 111, 100, 101] == x.toList) = false ∧ (x.toList == [65, 83, 67, 73, 73, 72, 101, 120, 68, 101, 99, 111, 100, 101]) = false) ∧ (([82, 117, 110, 76, 101, 110, 103, 116, 104, 68, 101, 99, 111, 100, 101] == x.toList) = false ∧ (x.toList == [82, 117, 110, 76, 101, 110, 103, 116, 104, 68, 101, 99, 111, 100, 101]) = false) ∧ (([70, 108, 97, 116, 101, 68, 101, 99, 111, 100, 101] == x.toList) = false ∧ (x.toList == [70, 108, 97, 116, 101, 68, 101, 99, 111, 100, 101]) = false) ∧ knownC x.data.toList = 0) := by
  unfold knownC
  by_cases h1 : x.data.toList = hexName
  · exact .inl ⟨name_eq h1, by rw [if_pos h1]⟩
  rw [if_neg h1]
  by_cases h2 : x.data.toList = runsName
  · exact .inr (.inl ⟨name_eq h2, by rw [if_pos h2]⟩)
  rw [if_neg h2]
  by_cases h3 : x.data.toList = flateName
  · exact .inr (.inr (.inl ⟨name_eq h3, by rw [if_pos h3]⟩))
  rw [if_neg h3]
  exact .inr (.inr (.inr ⟨name_ne h1, name_ne h2, name_ne h3, rfl⟩))
set_option maxHeartbeats 1000000 in
theorem find_1 (s x : ByteArray) (room : Int) (w : World) (hx : x = ⟨#[65, 83, 67, 73, 73, 72, 101, 120, 68, 101, 99, 111, 100, 101]⟩) :
    Calls Tryz.prog 21 #[givenV s room, .string x] w fun e w' => e = .returned (.tuple #[filterV 1 x s room, .bool true]) ∧ Below w.heap.size w w' := by
  subst hx
  have HF := Lib.hid (fun W => filters_is s room W)
  unfold filterV
  simp only [Nat.reduceEqDiff, if_true, if_false, encFn, decFn]
  unfold filtersW at HF
  unfold givenV at HF ⊢
  go_enter Tryz.func21, Tryz.ntmps21
  go_wp2_with fail
  refine (HF.out _).mono ?_
  rintro e w1 ⟨rfl, rfl⟩
  go_wp2_with fail
  refine wp_loop_rounds 4 ?_
  iterate 1 (rw [rounds_succ]; go_wp2_with fail)
  exact bodyPost_ret (by simp [results, Tryz.results21, go_sem]) rfl ⟨rfl, by repeat (first | exact Below.refl _ _ | refine Below.alloc ?_ (by simp <;> omega) _)⟩
set_option maxHeartbeats 1000000 in
theorem find_2 (s x : ByteArray) (room : Int) (w : World) (hx : x = ⟨#[82, 117, 110, 76, 101, 110, 103, 116, 104, 68, 101, 99, 111, 100, 101]⟩) :
    Calls Tryz.prog 21 #[givenV s room, .string x] w fun e w' => e = .returned (.tuple #[filterV 2 x s room, .bool true]) ∧ Below w.heap.size w w' := by
  subst hx
  have HF := Lib.hid (fun W => filters_is s room W)
  unfold filterV
  simp only [Nat.reduceEqDiff, if_true, if_false, encFn, decFn]
  unfold filtersW at HF
  unfold givenV at HF ⊢
  go_enter Tryz.func21, Tryz.ntmps21
  go_wp2_with fail
  refine (HF.out _).mono ?_
  rintro e w1 ⟨rfl, rfl⟩
  go_wp2_with fail
  refine wp_loop_rounds 4 ?_
  iterate 2 (rw [rounds_succ]; go_wp2_with fail)
  exact bodyPost_ret (by simp [results, Tryz.results21, go_sem]) rfl ⟨rfl, by repeat (first | exact Below.refl _ _ | refine Below.alloc ?_ (by simp <;> omega) _)⟩
set_option maxHeartbeats 1000000 in
theorem find_3 (s x : ByteArray) (room : Int) (w : World) (hx : x = ⟨#[70, 108, 97, 116, 101, 68, 101, 99, 111, 100, 101]⟩) :
    Calls Tryz.prog 21 #[givenV s room, .string x] w fun e w' => e = .returned (.tuple #[filterV 3 x s room, .bool true]) ∧ Below w.heap.size w w' := by
  subst hx
  have HF := Lib.hid (fun W => filters_is s room W)
  unfold filterV
  simp only [Nat.reduceEqDiff, if_false, encFn, decFn]
  unfold filtersW at HF
  unfold givenV at HF ⊢
  go_enter Tryz.func21, Tryz.ntmps21
  go_wp2_with fail
  refine (HF.out _).mono ?_
  rintro e w1 ⟨rfl, rfl⟩
  go_wp2_with fail
  refine wp_loop_rounds 4 ?_
  iterate 3 (rw [rounds_succ]; go_wp2_with fail)
  exact bodyPost_ret (by simp [results, Tryz.results21, go_sem]) rfl ⟨rfl, by repeat (first | exact Below.refl _ _ | refine Below.alloc ?_ (by simp <;> omega) _)⟩
set_option maxHeartbeats 1000000 in
theorem find_0 (s x : ByteArray) (room : Int) (w : World) (h1 : ([65, 83, 67, 73, 73, 72, 101, 120, 68, 101, 99, 111, 100, 101] == x.toList) = false) (h2 : ([82, 117, 110, 76, 101, 110, 103, 116, 104, 68, 101, 99, 111, 100, 101] == x.toList) = false) (h3 : ([70, 108, 97, 116, 101, 68, 101, 99, 111, 100, 101] == x.toList) = false) :
    Calls Tryz.prog 21 #[givenV s room, .string x] w fun e w' => e = .returned (.tuple #[filterV 0 x s room, .bool false]) ∧ Below w.heap.size w w' := by
  have HF := Lib.hid (fun W => filters_is s room W)
  unfold filterV
  simp only [if_true]
  unfold filtersW at HF
  unfold givenV at HF ⊢
  go_enter Tryz.func21, Tryz.ntmps21
  go_wp2_with fail
  refine (HF.out _).mono ?_
  rintro e w1 ⟨rfl, rfl⟩
  go_wp2_with fail
  refine wp_loop_rounds 4 ?_
  iterate 4 (rw [rounds_succ]; go_wp2_with fail)
  exact bodyPost_ret (by simp [results, Tryz.results21, go_sem]) rfl ⟨rfl, by repeat (first | exact Below.refl _ _ | refine Below.alloc ?_ (by simp <;> omega) _)⟩
theorem find_is (s x : ByteArray) (room : Int) (w : World) {k : Nat} (hk : knownC x.data.toList = k) :
    Calls Tryz.prog 21 #[givenV s room, .string x] w fun e w' => e = .returned (.tuple #[filterV k x s room, .bool (!(k == 0))]) ∧ Below w.heap.size w w' := by
  rcases name_cases x with ⟨hx, h⟩ | ⟨hx, h⟩ | ⟨hx, h⟩ | ⟨⟨h1, _⟩, ⟨h2, _⟩, ⟨h3, _⟩, h⟩
  · rw [h] at hk; subst hk; exact find_1 s x room w hx
  · rw [h] at hk; subst hk; exact find_2 s x room w hx
  · rw [h] at hk; subst hk; exact find_3 s x room w hx
  · rw [h] at hk; subst hk; exact find_0 s x room w h1 h2 h3
theorem filterV_agg (k : Nat) (x s : ByteArray) (room : Int) : ∃ y a b, filterV k x s room = .agg #[.string y, a, b] ∧ ((a = .nilFunc ∧ b = .nilFunc) ∨ (a = .func (.func (encFn k)) #[givenV s room] #[] ∧ b = .func (.func (decFn k)) #[givenV s room] #[])) := by
  unfold filterV
  split
  · exact ⟨_, _, _, rfl, .inl ⟨rfl, rfl⟩⟩
  · exact ⟨_, _, _, rfl, .inr ⟨rfl, rfl⟩⟩
theorem unknown_is (x : ByteArray) (w : World) {b : Bool} (hb : (knownC x.data.toList == 0) = b) :
    Calls Tryz.prog 33 #[.string x] w fun e w' => e = .returned (.bool b) ∧ Below w.heap.size w w' := by
  obtain ⟨k, hk⟩ : ∃ k, knownC x.data.toList = k := ⟨_, rfl⟩
  rw [hk] at hb
  have HF := Lib.hid (find_is ⟨#[]⟩ x 0 w hk)
  rw [hb] at HF
  obtain ⟨v0, v1, v2, hv, hv2⟩ := filterV_agg k x ⟨#[]⟩ 0
  rw [hv] at HF
  unfold givenV at HF
  clear hk hb hv
  rcases hv2 with ⟨rfl, rfl⟩ | ⟨rfl, rfl⟩
  all_goals
    go_enter Tryz.func33, Tryz.ntmps33
    go_wp2_with fail
    refine HF.out.mono ?_
    rintro e w1 ⟨rfl, hb⟩
    have Hb := Lib.hid hb
    clear hb
    go_wp2_with fail
    go_ret
    exact ⟨by simp, Hb.out.alloc Hb.out.size _⟩
end
end Go.Proofs.YtiiiokikmjgliaaGreatDoor
/-
  coat.Check: whether filters may be.
-/
namespace Go.Proofs.YtiiiokikmjgliaaGreatDoor
section
open Go.RowKit
set_option maxRecDepth 100000
def kindsC (xs : List ByteArray) : List Nat := xs.map fun x => knownC x.data.toList
theorem kindsC_length (xs : List ByteArray) : (kindsC xs).length = xs.length := by simp [kindsC]
theorem kindsC_at {xs : List ByteArray} {j : Nat} (hj : j < xs.length) : (kindsC xs)[j]? = some (knownC (xs[j]?.getD ByteArray.empty).data.toList) := by
  unfold kindsC
  rw [List.getElem?_map, List.getElem?_eq_getElem hj]
  rfl
theorem kindsC_zero {xs : List ByteArray} : 0 ∈ kindsC xs ↔ ∃ j, j < xs.length ∧ knownC (xs[j]?.getD ByteArray.empty).data.toList = 0 := by
  constructor
  · intro h
    obtain ⟨j, hj, e⟩ := List.getElem_of_mem h
    have hj2 : j < xs.length := by rw [← kindsC_length]; exact hj
    refine ⟨j, hj2, ?_⟩
    have := kindsC_at hj2
    rw [List.getElem?_eq_getElem hj, e] at this
    exact (Option.some.inj this).symm
  · rintro ⟨j, hj, e⟩
    have := kindsC_at hj
    rw [e] at this
    exact List.mem_of_getElem? this
set_option maxHeartbeats 1000000 in
theorem coIndex_is (a : Option Addr) (cap : Nat) (xs : List ByteArray) (w : World) (hn : xs.length ≤ 1000) (hT : Texts w a xs) :
    Calls Tryz.prog 48 #[.slice a xs.length cap, .func (.func 33) #[] #[]] w fun e w' => ∃ r : Int, e = .returned (.int .i64 r) ∧ decide (0 ≤ r) = decide (0 ∈ kindsC xs) ∧ Below w.heap.size w w' := by
  have HT := Lib.hid hT
  clear hT
  go_enter Tryz.func48, Tryz.ntmps48
  go_wp2_with fail
  go_loopg [8] xs.length (fun g s8 wx => ∃ j : Nat, j + g = xs.length ∧ s8 = .int .i64 j ∧ Aside (∀ i, i < j → ¬ knownC (xs[i]?.getD ByteArray.empty).data.toList = 0) ∧ Below w.heap.size w wx)
  case atStart => exact ⟨0, by omega, rfl, fun i hi => absurd hi (by omega), Below.refl _ _⟩
  case round =>
    obtain ⟨j, hjg, rfl, HA, hb⟩ := hrel
    have Hb := Lib.hid hb
    clear hb
    cases gk with
    | zero =>
      obtain rfl : j = xs.length := by omega
      go_wp2_with fail
      go_ret
      refine ⟨_, rfl, ?_, Hb.out⟩
      rw [decide_eq_false (by omega), decide_eq_false]
      intro h
      obtain ⟨i, hi, e⟩ := kindsC_zero.1 h
      exact HA.out i hi e
    | succ g =>
      have hj : j < xs.length := by omega
      have hjz : (j : Int) < (xs.length : Int) := by omega
      obtain ⟨x, hx⟩ : ∃ x, xs[j]?.getD ByteArray.empty = x := ⟨_, rfl⟩
      obtain ⟨p, off, rfl, hc⟩ := (HT.out.later Hb.out).at j hj
      rw [hx] at hc
      obtain ⟨b, hb⟩ : ∃ b, (knownC x.data.toList == 0) = b := ⟨_, rfl⟩
      have HU := Lib.hid (unknown_is x wr hb)
      have Hx := Lib.hid hx
      have Hk := Lib.hid hb
      have Hjg := Lib.hid hjg
      clear hx hb hjg
      go_wp2_with fail
      refine HU.out.mono ?_
      rintro e w1 ⟨rfl, hb⟩
      have Hb1 := Lib.hid (Hb.out.trans (hb.mono Hb.out.size))
      clear hb hc
      cases b with
      | true =>
        go_wp2_with fail
        go_ret
        refine ⟨_, rfl, ?_, Hb1.out⟩
        rw [decide_eq_true (by omega), decide_eq_true]
        exact kindsC_zero.2 ⟨j, hj, by rw [Hx.out]; exact beq_iff_eq.1 Hk.out⟩
      | false =>
        go_wp2_with fail
        go_roundg g
        case measure => omega
        case rel => exact ⟨j + 1, by have := Hjg.out; omega, by go_num, fun i hi => by
          by_cases h : i = j
          · subst h
            rw [Hx.out]
            exact beq_eq_false_iff_ne.1 Hk.out
          · exact HA.out i (by omega), Hb1.out⟩
theorem coContains_is (a : Option Addr) (cap : Nat) (xs : List ByteArray) (w : World) (hn : xs.length ≤ 1000) (hT : Texts w a xs) {b : Bool} (hb : decide (0 ∈ kindsC xs) = b) :
    Calls Tryz.prog 32 #[.slice a xs.length cap, .func (.func 33) #[] #[]] w fun e w' => e = .returned (.bool b) ∧ Below w.heap.size w w' := by
  have HI := Lib.hid (coIndex_is a cap xs w hn hT)
  rw [hb] at HI
  clear hb hT
  go_enter Tryz.func32, Tryz.ntmps32
  go_wp2_with fail
  refine HI.out.mono ?_
  rintro e w1 ⟨r, rfl, hr, hb⟩
  have Hb := Lib.hid hb
  clear hb
  go_wp2_with fail
  go_ret
  exact ⟨rfl, Hb.out⟩
theorem endsD_is (a : Option Addr) (cap : Nat) (xs : List ByteArray) (w : World) (hn : xs.length ≤ 1000) (hT : Texts w a xs) {b : Bool} (hb : decide ((kindsC xs).getLast? = some 3) = b) :
    Calls Tryz.prog 34 #[.slice a xs.length cap] w fun e w' => e = .returned (.bool b) ∧ Below w.heap.size w w' := by
  by_cases h0 : xs.length = 0
  · obtain rfl : xs = [] := List.eq_nil_of_length_eq_zero h0
    obtain rfl : false = b := by rw [← hb]; rfl
    clear h0 hT hb
    go_enter Tryz.func34, Tryz.ntmps34
    go_wp2_with fail
    go_ret
    exact ⟨rfl, Below.refl _ _⟩
  · obtain ⟨m, hm⟩ : ∃ m, xs.length = m + 1 := ⟨xs.length - 1, by omega⟩
    obtain ⟨p, off, rfl, hc⟩ := hT.at m (by omega)
    obtain ⟨x, hx⟩ : ∃ x, xs[m]?.getD ByteArray.empty = x := ⟨_, rfl⟩
    rw [hx] at hc
    have hl : (kindsC xs).getLast? = some (knownC x.data.toList) := by
      rw [List.getLast?_eq_getElem?, kindsC_length, hm, Nat.add_sub_cancel, kindsC_at (by omega), hx]
    have hb2 : (x.toList == [70, 108, 97, 116, 101, 68, 101, 99, 111, 100, 101]) = b := by
      rw [← hb, hl]
      rcases name_cases x with ⟨rfl, h⟩ | ⟨rfl, h⟩ | ⟨rfl, h⟩ | ⟨_, _, ⟨_, h3⟩, h⟩
      · rw [h]; decide +kernel
      · rw [h]; decide +kernel
      · rw [h]; decide +kernel
      · rw [h, h3]; decide
    have h1 : (0 : Int) < (xs.length : Int) := by omega
    have h2 : (xs.length : Int) - 1 = (m : Int) := by omega
    have h3 : (m : Int) < (xs.length : Int) := by omega
    have h4 : m < xs.length := by omega
    clear hl hb hx h0 hT hm
    go_enter Tryz.func34, Tryz.ntmps34
    go_wp2_with fail
    go_ret
    exact ⟨rfl, Below.refl _ _⟩
set_option maxHeartbeats 1000000 in
theorem coCheck_is (a : Option Addr) (cap : Nat) (xs : List ByteArray) (columns : Int) (w : World) (hn : xs.length ≤ 9223372036854775807) (hT : Texts w a xs) {c : Int} (hc : checkC (kindsC xs) columns = c) :
    Calls Tryz.prog 18 #[.slice a xs.length cap, .int .i64 columns] w fun e w' => e = .returned (.int .i64 c) ∧ Below w.heap.size w w' := by
  unfold checkC at hc
  rw [kindsC_length] at hc
  by_cases h0 : columns < 0
  · rw [if_pos (.inl h0)] at hc
    subst hc
    clear hT
    go_enter Tryz.func18, Tryz.ntmps18
    go_wp2_with fail
    go_ret
    exact ⟨rfl, Below.refl _ _⟩
  by_cases h1 : 256 < columns
  · rw [if_pos (.inr h1)] at hc
    subst hc
    clear hT
    go_enter Tryz.func18, Tryz.ntmps18
    go_wp2_with fail
    go_ret
    exact ⟨rfl, Below.refl _ _⟩
  rw [if_neg (by omega)] at hc
  by_cases h2 : (4 : Int) < (xs.length : Int)
  · rw [if_pos (.inl (by omega))] at hc
    subst hc
    clear hT
    go_enter Tryz.func18, Tryz.ntmps18
    go_wp2_with fail
    go_ret
    exact ⟨rfl, Below.refl _ _⟩
  obtain ⟨b, hb⟩ : ∃ b, decide (0 ∈ kindsC xs) = b := ⟨_, rfl⟩
  have HC := Lib.hid (coContains_is a cap xs w (by omega) hT hb)
  cases b with
  | true =>
    rw [if_pos (.inr (.inl (of_decide_eq_true hb)))] at hc
    subst hc
    clear hT hb
    go_enter Tryz.func18, Tryz.ntmps18
    go_wp2_with fail
    refine HC.out.mono ?_
    rintro e w1 ⟨rfl, hb⟩
    have Hb := Lib.hid hb
    clear hb
    go_wp2_with fail
    go_ret
    exact ⟨rfl, Hb.out⟩
  | false =>
    have hz : ¬ 0 ∈ kindsC xs := of_decide_eq_false hb
    by_cases h3 : columns = 0
    · subst h3
      rw [if_neg (by rintro (h | h | h); omega; exact hz h; exact h.1 rfl)] at hc
      subst hc
      clear hT hb
      go_enter Tryz.func18, Tryz.ntmps18
      go_wp2_with fail
      refine HC.out.mono ?_
      rintro e w1 ⟨rfl, hb⟩
      have Hb := Lib.hid hb
      clear hb
      go_wp2_with fail
      go_ret
      exact ⟨rfl, Hb.out⟩
    · obtain ⟨d, hd⟩ : ∃ d, decide ((kindsC xs).getLast? = some 3) = d := ⟨_, rfl⟩
      have HD := Lib.hid (fun W (hW : Below w.heap.size w W) => endsD_is a cap xs W (by omega) (hT.later hW) hd)
      have h3' : (columns != 0) = true := by simpa using h3
      cases d with
      | true =>
        rw [if_neg (by rintro (h | h | h); omega; exact hz h; exact h.2 (of_decide_eq_true hd))] at hc
        subst hc
        clear hT hb hd hz
        go_enter Tryz.func18, Tryz.ntmps18
        go_wp2_with fail
        refine HC.out.mono ?_
        rintro e w1 ⟨rfl, hb⟩
        have Hb := Lib.hid hb
        clear hb
        go_wp2_with fail
        refine (HD.out _ Hb.out).mono ?_
        rintro e w2 ⟨rfl, hb⟩
        have Hb2 := Lib.hid (Hb.out.trans (hb.mono Hb.out.size))
        clear hb
        go_wp2_with fail
        go_ret
        exact ⟨rfl, Hb2.out⟩
      | false =>
        rw [if_pos (.inr (.inr ⟨h3, of_decide_eq_false hd⟩))] at hc
        subst hc
        clear hT hb hd hz
        go_enter Tryz.func18, Tryz.ntmps18
        go_wp2_with fail
        refine HC.out.mono ?_
        rintro e w1 ⟨rfl, hb⟩
        have Hb := Lib.hid hb
        clear hb
        go_wp2_with fail
        refine (HD.out _ Hb.out).mono ?_
        rintro e w2 ⟨rfl, hb⟩
        have Hb2 := Lib.hid (Hb.out.trans (hb.mono Hb.out.size))
        clear hb
        go_wp2_with fail
        go_ret
        exact ⟨rfl, Hb2.out⟩
end
end Go.Proofs.YtiiiokikmjgliaaGreatDoor
