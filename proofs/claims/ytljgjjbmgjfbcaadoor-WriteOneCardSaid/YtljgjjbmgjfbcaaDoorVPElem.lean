/-
  The program's: elements, each one plain.
-/
import Derived.Test.YtljgjjbmgjfbcaaDoorMRow
import Derived.Test.YtljgjjbmgjfbcaaDoorMZero
import Derived.Test.YtljgjjbmgjfbcaaDoorMPlain
namespace Go.Proofs.YtljgjjbmgjfbcaaDoor
open Go.RowKit
set_option maxRecDepth 100000

def PPlainC (v : Val) : Prop := ∀ (x : Hv) (w : World) (S : Nat → Prop), Rd w S x v → (∀ k, S k → k < w.heap.size) → Fit v 4000 →
  Calls Tryd.prog 16 #[.agg x.arr] w fun e w' => ∃ y : Hv, e = .returned (.agg y.arr) ∧ Rd w' (fun k => w.heap.size ≤ k) y (plainV v) ∧ Below w.heap.size w w'

set_option maxHeartbeats 4000000 in
theorem pelem_of (l : List Val) (ih : ∀ x ∈ l, PPlainC x) (hfit : ∀ x ∈ l, Fit x 4000) (hlen : l.length ≤ 4000) (sl : Sl) (w : World) (S : Nat → Prop) (hL : RdL w S sl l) (hS : ∀ k, S k → k < w.heap.size) :
  Calls Tryd.prog 36 #[.slice sl.p sl.len sl.cap] w fun e w' => ∃ p q c, e = .returned (.slice p q c) ∧ RdL w' (fun k => w.heap.size ≤ k) ⟨p, q, c⟩ (l.map plainV) ∧ Below w.heap.size w w' := by
  obtain ⟨lp, ll, lc⟩ := sl
  obtain ⟨hll, hlm⟩ := hL.len_le
  dsimp only at hll hlm
  unfold maxLen at hlm
  have hlm2 : ll ≤ 4000 := by omega
  have Hll := Lib.hid hll
  have HL := Lib.hid hL
  have HS := Lib.hid hS
  have Hih := Lib.hid ih
  have Hfit := Lib.hid hfit
  have HR0 := Lib.hid (RowV.void w w.heap.size)
  have HB0 := Lib.hid (Below.refl w.heap.size w)
  clear hL hS ih hfit hll hlen hlm
  show Calls Tryd.prog 36 #[.slice lp ll lc] w _
  go_enter Tryd.func36, Tryd.ntmps36
  go_wp2
  go_loopg [3, 8] ll (fun f s3 s8 wr => ∃ (i : Nat) (p : Option Addr) (cap : Nat) (xs : List Hv), s8 = .int .i64 i ∧ s3 = .slice p xs.length cap ∧ i ≤ ll ∧ ll ≤ f + i ∧ xs.length ≤ i ∧
    Aside (RowV wr w.heap.size p cap xs ((l.take i).map plainV)) ∧ Aside (Below w.heap.size w wr))
  case atStart => exact ⟨0, none, 0, [], rfl, rfl, Nat.zero_le _, Nat.le_refl _, Nat.le_refl _, HR0.out, HB0.out⟩
  case round =>
    obtain ⟨i, p, cap, xs, rfl, rfl, hi, hf, hxl, HR, HB⟩ := hrel
    by_cases hil : i < ll
    · obtain ⟨lb, lo, ⟨yk, yn, yg, ys, ⟨ylp, yll, ylc⟩, ⟨ydp, ydl, ydc⟩⟩, hiv, h3, h4, h5, h6⟩ := (HL.out.later (below_old HS.out HB.out)).at hil
      subst h3
      obtain ⟨e0, e1, e2, e3, e4, e5⟩ := h5
      dsimp only at e0 e1 e2 e3 e4 e5
      have hbx : ∀ o : Obj, Below wr.heap.size wr (wr.alloc o) := fun o => (Below.refl _ wr).alloc (Nat.le_refl _) _
      have Hc := Lib.hid (fun o => Hih.out _ (List.getElem_mem hiv) ⟨yk, yn, yg, ys, ⟨ylp, yll, ylc⟩, ⟨ydp, ydl, ydc⟩⟩ (wr.alloc o) S (h6.later (below_old (old_later HS.out HB.out) (hbx o))) (old_later (old_later HS.out HB.out) (hbx o)) (Hfit.out _ (List.getElem_mem hiv)))
      have HBX := Lib.hid hbx
      clear h4 h6 hbx
      go_wp2_with fail
      refine (Hc.out _).mono ?_
      rintro e w5 ⟨⟨vk, vn, vg, vs, ⟨vlp, vll, vlc⟩, ⟨vdp, vdl, vdc⟩⟩, he, hy, hb⟩
      replace he : e = .returned (.agg #[.int .i64 vk, .int .i64 vn, .int .i64 vg, .string vs, .slice vlp vll vlc, .slice vdp vdl vdc]) := he
      subst he
      have hbr : Below wr.heap.size wr w5 := (HBX.out _).trans (hb.mono (HBX.out _).size)
      have Hy : Hid (Rd w5 (fun k => wr.heap.size ≤ k) ⟨vk, vn, vg, vs, ⟨vlp, vll, vlc⟩, ⟨vdp, vdl, vdc⟩⟩ (plainV l[i])) := Lib.hid (hy.mono (fun k hk => Nat.le_trans (HBX.out _).size hk))
      have Hb := Lib.hid hbr
      have HB5 := Lib.hid (HB.out.trans (hbr.mono HB.out.size))
      clear hy hb hbr HBX e0 e1 e2 e3 e4 e5
      go_wp2_with (at_builtin; refine wpList_append_V rfl (.tmp 12) (.tmp 15) rfl w.heap.size _ _ xs rfl ((HR.out.1.later Hb.out).push rfl) ⟨vk, vn, vg, vs, ⟨vlp, vll, vlc⟩, ⟨vdp, vdl, vdc⟩⟩ w5.heap.size 1 rfl (push_new rfl) (by omega) w (below_push HB5.out HB5.out.size rfl rfl rfl rfl) (by have := HB5.out.size; simp; omega) ?_; intro g' cap' w6 HO2 HB2 HK2 HF2)
      have e : (xs ++ [(⟨vk, vn, vg, vs, ⟨vlp, vll, vlc⟩, ⟨vdp, vdl, vdc⟩⟩ : Hv)]).length = xs.length + 1 := by rw [List.length_append]; rfl
      go_roundg (ll - (i + 1))
      case measure => omega
      case rel =>
        refine ⟨i + 1, _, cap', _, by go_num, by rw [e], by omega, by omega, by rw [e]; omega, (show Aside _ from ?_), HB2.out⟩
        rw [List.take_add_one, List.getElem?_eq_getElem hiv, Option.toList_some, List.map_append]
        exact HR.out.snoc (Hb.out.alloc Hb.out.size (.cells #[.int .i64 vk, .int .i64 vn, .int .i64 vg, .string vs, .slice vlp vll vlc, .slice vdp vdl vdc] 25)) (Hy.out.bound.later (fun k hk => heap_alloc_old _ _ hk.2) |>.mono (fun _ hk => hk.1)) HB.out.size HO2.out HK2.out HF2.out
    · have htk : l.take i = l := List.take_of_length_le (by have := Hll.out; omega)
      rw [htk] at HR
      go_wp2
      go_ret
      exact ⟨p, xs.length, cap, rfl, HR.out.read, HB.out⟩
end Go.Proofs.YtljgjjbmgjfbcaaDoor
