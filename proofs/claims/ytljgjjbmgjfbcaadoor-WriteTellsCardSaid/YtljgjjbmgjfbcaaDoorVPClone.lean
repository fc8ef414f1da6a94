/-
  The library's copies: of a text, of pairs.
-/
import Derived.Test.YtljgjjbmgjfbcaaDoorMRow
import Derived.Test.YtljgjjbmgjfbcaaDoorShelf
namespace Go.Proofs.YtljgjjbmgjfbcaaDoor
open Go.RowKit Go.Shelf
set_option maxRecDepth 100000

theorem slClone_is (s : ByteArray) (w : World) (h : s.size ≤ 281474976710656) :
    Calls Tryd.prog 55 #[.string s] w fun e w' => e = .returned (.string s) ∧ Below w.heap.size w w' := Any.stringslite_Clone Tryd.laysM316 s w h
theorem sclone_is (s : ByteArray) (w : World) (h : s.size ≤ 281474976710656) :
    Calls Tryd.prog 35 #[.string s] w fun e w' => e = .returned (.string s) ∧ Below w.heap.size w w' := by
  go_enter Tryd.func35, Tryd.ntmps35
  go_wp2_with fail
  refine (slClone_is s _ h).mono ?_
  rintro e w1 ⟨rfl, hb⟩
  have Hb := Lib.hid hb
  clear hb
  go_wp2_with fail
  go_ret
  exact ⟨rfl, Hb.out⟩

set_option maxHeartbeats 4000000 in
theorem pclone_is (p : Option Addr) (cap : Nat) (ys : List Hp) (w : World) (hlen : ys.length ≤ 100000000)
    (hy : 0 < ys.length → ∃ b off, p = some ⟨b, off, none⟩ ∧ b < w.heap.size ∧ ∀ i (h : i < ys.length), HpAt w b (off + i * 7) (ys[i])) :
    Calls Tryd.prog 56 #[.slice p ys.length cap] w fun e w' => ∃ p' cap', e = .returned (.slice p' ys.length cap') ∧ OwnP w' w.heap.size p' cap' ys ∧ Below w.heap.size w w' := by
  have Hy : Hid (∀ o : Obj, 0 < ys.length → ∃ b off, p = some ⟨b, off, none⟩ ∧ ∀ i (hi : i < ys.length), HpAt (w.alloc o) b (off + i * 7) (ys[i])) := Lib.hid (fun o h => by
    obtain ⟨b, off, e, hb, hc⟩ := hy h
    exact ⟨b, off, e, fun i hi => (hc i hi).same (heap_alloc_old _ _ hb)⟩)
  have HbX : Hid (∀ o : Obj, Below w.heap.size w (w.alloc o)) := Lib.hid (fun o => (Below.refl _ w).alloc (Nat.le_refl _) _)
  cases p with
  | none =>
    have hl : ys.length = 0 := by
      rcases Nat.eq_zero_or_pos ys.length with h | h
      · exact h
      · obtain ⟨b, off, e, _⟩ := hy h; cases e
    have hys : ys = [] := List.eq_nil_of_length_eq_zero hl
    subst hys
    have hnil : ∀ W, (binOp .eql 23 (.slice none 0 cap) (.slice none 0 0)).run Tryd.prog W = .ok (.bool true) W := fun W => by kernel_rfl
    clear hy Hy
    go_enter Tryd.func56, Tryd.ntmps56
    go_wp2
    go_ret
    exact ⟨none, 0, rfl, OwnP.void w _, Below.refl _ w⟩
  | some a =>
    have hnil : ∀ W, (binOp .eql 23 (.slice (some a) ys.length cap) (.slice none 0 0)).run Tryd.prog W = .ok (.bool false) W := fun W => by kernel_rfl
    clear hy
    go_enter Tryd.func56, Tryd.ntmps56
    go_wp2_with (at_builtin; refine wpList_append_Ps rfl (.tmp 5) (.tmp 6) rfl w.heap.size _ _ [] rfl (OwnP.made w (Nat.le_refl _)) _ cap ys rfl (Hy.out _) (Nat.zero_le _) (by omega) w (HbX.out _) (by simp) ?_; intro p' cap' w2 HO2 HB2 HK2 HZ2)
    go_ret
    exact ⟨p', cap', rfl, HO2.out, HB2.out⟩
end Go.Proofs.YtljgjjbmgjfbcaaDoor
