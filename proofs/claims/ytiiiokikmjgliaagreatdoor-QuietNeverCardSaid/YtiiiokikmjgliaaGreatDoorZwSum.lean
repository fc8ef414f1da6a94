/-
  zwrap.sumDemands: what must hold of what is behind the deflated bytes.
-/
import Derived.Test.YtiiiokikmjgliaaGreatDoorKZt
import Derived.Test.YtiiiokikmjgliaaGreatDoorKA
import Derived.Deep.RegionWith
namespace Go.Proofs.YtiiiokikmjgliaaGreatDoor
open Go.RowKit
set_option maxRecDepth 100000
theorem sd1_is (p : Nat) (t : ByteArray) (w : World) (hc : w.cell? ⟨p, 0, none⟩ = some (.string t)) :
    Calls Tryz.prog 126 #[.pointer (some ⟨p, 0, none⟩)] w fun e w' => e = .returned (.bool (decide (4 ≤ t.size))) ∧ Below w.heap.size w w' := by
  have e : decide (4 ≤ t.size) = decide ((4 : Int) ≤ (t.size : Int)) := by rw [decide_eq_decide]; omega
  rw [e]
  clear e
  go_enter Tryz.func126, Tryz.ntmps126
  go_wp2_with fail
  go_ret
  exact ⟨rfl, Below.refl _ _⟩
theorem sd3_is (p : Nat) (t : ByteArray) (w : World) (hc : w.cell? ⟨p, 0, none⟩ = some (.string t)) :
    Calls Tryz.prog 128 #[.pointer (some ⟨p, 0, none⟩)] w fun e w' => e = .returned (.bool (decide (t.size = 4))) ∧ Below w.heap.size w w' := by
  have e : decide (t.size = 4) = ((t.size : Int) == 4) := by
    rw [Bool.eq_iff_iff]; simp; omega
  rw [e]
  clear e
  go_enter Tryz.func128, Tryz.ntmps128
  go_wp2_with fail
  go_ret
  exact ⟨rfl, Below.refl _ _⟩
theorem sd2_is (p q : Nat) (t o : ByteArray) (w : World) (h4 : 4 ≤ t.size) (ho : o.size ≤ maxLen) (hc : w.cell? ⟨p, 0, none⟩ = some (.string t)) (hd : w.cell? ⟨q, 0, none⟩ = some (.string o)) :
    Calls Tryz.prog 127 #[.pointer (some ⟨p, 0, none⟩), .pointer (some ⟨q, 0, none⟩)] w fun e w' => e = .returned (.bool (decide (t.data.toList.take 4 = tailZ o.data.toList))) ∧ Below w.heap.size w w' := by
  have hz : (4 : Int) ≤ (t.size : Int) := by omega
  obtain ⟨n, hn⟩ : ∃ n, valB (t.extract 0 4).data.toList = n := ⟨_, rfl⟩
  obtain ⟨m, hm⟩ : ∃ m, aSum o.data.toList = m := ⟨_, rfl⟩
  have hx : (t.extract 0 4).size ≤ 4 := by rw [ByteArray.size_extract]; omega
  have He : Hid (decide (t.data.toList.take 4 = tailZ o.data.toList) = ((n : Int) == (m : Int))) := Lib.hid (by
    have h1 := tail_num (l := t.data.toList.take 4) (o := o.data.toList) (by rw [List.length_take, ← size_data]; omega)
    rw [ext_first] at hn
    rw [hn, hm] at h1
    rw [Bool.eq_iff_iff]
    simp only [decide_eq_true_eq, beq_iff_eq, h1]
    omega)
  have HN := Lib.hid (fun W => number_is (t.extract 0 4) W hx hn)
  have HS := Lib.hid (fun W => adSum_is o W ho hm)
  have lt : ∀ {b : Nat} {v : Value}, w.cell? ⟨b, 0, none⟩ = some v → b < w.heap.size := by
    intro b v h
    rcases Nat.lt_or_ge b w.heap.size with h' | h'
    · exact h'
    · unfold World.cell? at h
      simp [Array.getElem?_eq_none h'] at h
  have HC : Hid (∀ W, Below w.drew.heap.size w.drew W → W.cell? ⟨p, 0, none⟩ = some (.string t) ∧ W.cell? ⟨q, 0, none⟩ = some (.string o)) := Lib.hid (fun W hW => ⟨(hW.cell (p := ⟨p, 0, none⟩) (lt hc)).trans hc, (hW.cell (p := ⟨q, 0, none⟩) (lt hd)).trans hd⟩)
  clear hx hn hm lt
  go_enter Tryz.func127, Tryz.ntmps127
  go_wp2_with fail
  go_region_with (first
    | (go_at_call 121; refine (HN.out _).mono ?_; rintro e wn ⟨rfl, hbn⟩; obtain ⟨n0, n1⟩ := HC.out wn hbn)
    | (go_at_call 96; refine (HS.out _).mono ?_; rintro e ws ⟨rfl, hbs⟩))
  all_goals
    go_wp2_with fail
    go_ret
    exact ⟨by rw [He.out]; rfl, ((Below.refl _ w).drew.trans hbn).trans (hbs.mono hbn.size)⟩
def smW (t o : ByteArray) (w : World) : World :=
  ((w.alloc (.cells #[.string t] 9)).alloc (.cells #[.string o] 9)).alloc (.cells #[
    .func (.func 126) #[] #[.pointer (some ⟨w.heap.size, 0, none⟩)], .int .i64 5,
    .func (.func 127) #[] #[.pointer (some ⟨w.heap.size, 0, none⟩), .pointer (some ⟨w.heap.size + 1, 0, none⟩)], .int .i64 6,
    .func (.func 128) #[] #[.pointer (some ⟨w.heap.size, 0, none⟩)], .int .i64 4] 132)
theorem sumDemands_is (t o : ByteArray) (w : World) :
    Calls Tryz.prog 101 #[.string t, .string o] w fun e w' => e = .returned (.slice (some ⟨w.heap.size + 2, 0, none⟩) 3 3) ∧ smW t o w = w' := by
  go_enter Tryz.func101, Tryz.ntmps101
  go_wp2_with fail
  go_ret
  exact ⟨rfl, rfl⟩
theorem smW_size (t o : ByteArray) (w : World) : (smW t o w).heap.size = w.heap.size + 3 := by unfold smW; simp
theorem smW_below (t o : ByteArray) (w : World) : Below w.heap.size w (smW t o w) := by
  unfold smW
  exact (((Below.refl _ w).alloc (Nat.le_refl _) _).alloc (by simp) _).alloc (by simp; omega) _
theorem smW_row (t o : ByteArray) (w : World) : (smW t o w).heap[w.heap.size + 2]? = some (.cells #[
    .func (.func 126) #[] #[.pointer (some ⟨w.heap.size, 0, none⟩)], .int .i64 5,
    .func (.func 127) #[] #[.pointer (some ⟨w.heap.size, 0, none⟩), .pointer (some ⟨w.heap.size + 1, 0, none⟩)], .int .i64 6,
    .func (.func 128) #[] #[.pointer (some ⟨w.heap.size, 0, none⟩)], .int .i64 4] 132 (0, 0)) := by
  unfold smW
  have h := heap_alloc_new ((w.alloc (.cells #[.string t] 9)).alloc (.cells #[.string o] 9)) (.cells #[
    .func (.func 126) #[] #[.pointer (some ⟨w.heap.size, 0, none⟩)], .int .i64 5,
    .func (.func 127) #[] #[.pointer (some ⟨w.heap.size, 0, none⟩), .pointer (some ⟨w.heap.size + 1, 0, none⟩)], .int .i64 6,
    .func (.func 128) #[] #[.pointer (some ⟨w.heap.size, 0, none⟩)], .int .i64 4] 132)
  rw [show ((w.alloc (.cells #[.string t] 9)).alloc (.cells #[.string o] 9)).heap.size = w.heap.size + 2 by simp] at h
  exact h
theorem smW_text (t o : ByteArray) (w : World) : (smW t o w).cell? ⟨w.heap.size, 0, none⟩ = some (.string t) ∧ (smW t o w).cell? ⟨w.heap.size + 1, 0, none⟩ = some (.string o) := by
  unfold smW
  constructor
  · rw [World.cell?_alloc_old _ _ _ (by simp; omega), World.cell?_alloc_old _ _ _ (by simp)]; simp [go_sem]
  · rw [World.cell?_alloc_old _ _ _ (by simp)]; simp [go_sem]
def smD (p : Nat) (t o : ByteArray) : List Dmd := [
  ⟨126, #[.pointer (some ⟨p, 0, none⟩)], 5, decide (4 ≤ t.size)⟩,
  ⟨127, #[.pointer (some ⟨p, 0, none⟩), .pointer (some ⟨p + 1, 0, none⟩)], 6, decide (t.data.toList.take 4 = tailZ o.data.toList)⟩,
  ⟨128, #[.pointer (some ⟨p, 0, none⟩)], 4, decide (t.size = 4)⟩]
def smE (l : List UInt8) (o : List UInt8) : Int := if l.length < 4 then 5 else if l.take 4 ≠ tailZ o then 6 else if 4 < l.length then 4 else 0
theorem smD_first (p : Nat) (t o : ByteArray) : firstZ (smD p t o) = smE t.data.toList o.data.toList := by
  unfold smD smE
  rw [← size_data]
  simp only [firstZ, decide_eq_true_eq]
  repeat' split
  all_goals first | rfl | omega | contradiction
theorem sumFirst_is (t o : ByteArray) (w : World) (ho : o.size ≤ maxLen) {c : Int} (hc : smE t.data.toList o.data.toList = c) :
    Calls Tryz.prog 98 #[.slice (some ⟨w.heap.size + 2, 0, none⟩) 3 3] (smW t o w) fun e w' => e = .returned (.int .i64 c) ∧ Below w.heap.size w w' := by
  have hrow := smW_row t o w
  obtain ⟨ht, hm⟩ := smW_text t o w
  have hsz := smW_size t o w
  have hbl := smW_below t o w
  generalize smW t o w = W at *
  have T : ∀ V, Below W.heap.size W V → V.cell? ⟨w.heap.size, 0, none⟩ = some (.string t) := fun V hV => (hV.cell (p := ⟨w.heap.size, 0, none⟩) (by show w.heap.size < W.heap.size; omega)).trans ht
  have M : ∀ V, Below W.heap.size W V → V.cell? ⟨w.heap.size + 1, 0, none⟩ = some (.string o) := fun V hV => (hV.cell (p := ⟨w.heap.size + 1, 0, none⟩) (by show w.heap.size + 1 < W.heap.size; omega)).trans hm
  have h := broken_is (w.heap.size + 2) (smD w.heap.size t o) W (by simp [smD]) (fun i d hd => by
      match i with
      | 0 | 1 | 2 => obtain rfl := Option.some.inj hd; exact ⟨by rw [Lib.cell_of_heap hrow]; rfl, by rw [Lib.cell_of_heap hrow]; rfl⟩
      | i + 3 => simp [smD] at hd)
    (fun i d hd args V => by
      match i with
      | 0 => obtain rfl := Option.some.inj hd; exact Tryz.call126 args V
      | 1 => obtain rfl := Option.some.inj hd; exact Tryz.call127 args V
      | 2 => obtain rfl := Option.some.inj hd; exact Tryz.call128 args V
      | i + 3 => simp [smD] at hd)
    (fun i d hd hall V hV => by
      match i with
      | 0 => obtain rfl := Option.some.inj hd; exact sd1_is _ t V (T V hV)
      | 1 =>
        have h4 : 4 ≤ t.size := of_decide_eq_true (hall 0 _ (by omega) rfl)
        obtain rfl := Option.some.inj hd; exact sd2_is _ _ t o V h4 ho (T V hV) (M V hV)
      | 2 => obtain rfl := Option.some.inj hd; exact sd3_is _ t V (T V hV)
      | i + 3 => simp [smD] at hd)
  refine h.mono ?_
  rintro e w' ⟨rfl, hb⟩
  exact ⟨by rw [smD_first, hc], hbl.trans (hb.mono (by omega))⟩
end Go.Proofs.YtiiiokikmjgliaaGreatDoor
