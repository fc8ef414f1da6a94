/-
  write.Text.
-/
import Derived.Test.YtejgcnmbngdkiaaGreatDoorMVal
import Derived.Test.YtejgcnmbngdkiaaGreatDoorNWr
import Derived.Test.YtejgcnmbngdkiaaGreatDoorMCk
import Derived.Test.YtejgcnmbngdkiaaGreatDoorVPPlain
namespace Go.Proofs.YtejgcnmbngdkiaaGreatDoor
open Go.RowKit
set_option maxRecDepth 100000

/-- A value's text, and the error. -/
def writeW (v : Val) : List UInt8 × Int := if checkV v false 0 = 0 then (textV (plainV v), 0) else ([], checkV v false 0)
theorem writeW_bad {v : Val} (h : ¬ checkV v false 0 = 0) : writeW v = ([], checkV v false 0) := by unfold writeW; rw [if_neg h]
theorem writeW_ok {v : Val} (h : checkV v false 0 = 0) : writeW v = (textV (plainV v), 0) := by unfold writeW; rw [if_pos h]
theorem ok_plain {v : Val} (h : checkV v false 0 = 0) : OkV (plainV v) := ⟨0, check_plain v false 0 h⟩
theorem textV_ne {v : Val} (h : OkV v) : textV v ≠ [] := by
  obtain ⟨c, t, e, _⟩ := textV_head h
  rw [e]; simp
theorem writeW_length (v : Val) (hfit : Fit v 4000) : (writeW v).1.length ≤ 100000000 := by
  by_cases h : checkV v false 0 = 0
  · rw [writeW_ok h]
    have h1 := textV_length (plainV v) (ok_plain h) (plain_fit hfit)
    have h2 := (plain_fit hfit).1
    dsimp only
    omega
  · rw [writeW_bad h]; simp

set_option maxHeartbeats 4000000 in
theorem wtext_is (v : Val) (x : Hv) (w : World) (S : Nat → Prop) (hlaid : Laid w) (hR : Rd w S x v) (hS : ∀ k, S k → k < w.heap.size) (hfit : Fit v 4000) :
    Calls Tryz.prog 7 #[.agg x.arr] w fun e w' => e = .returned (.tuple #[.string (bytes (writeW v).1), .int .i64 (writeW v).2]) ∧ Below w.heap.size w w' := by
  obtain ⟨xk, xn, xg, xs, ⟨lp, ll, lc⟩, ⟨dp, dl, dc⟩⟩ := x
  obtain ⟨w1, hw1⟩ : ∃ w1, w.alloc (.cells #[.int .i64 xk, .int .i64 xn, .int .i64 xg, .string xs, .slice lp ll lc, .slice dp dl dc] 25) = w1 := ⟨_, rfl⟩
  have hb1 : Below w.heap.size w w1 := by rw [← hw1]; exact (Below.refl _ w).alloc (Nat.le_refl _) _
  have hv1 : VCell w1 w.heap.size ⟨xk, xn, xg, xs, ⟨lp, ll, lc⟩, ⟨dp, dl, dc⟩⟩ := by rw [← hw1]; exact heap_alloc_new w _
  have hz1 : w.heap.size < w1.heap.size := by rw [← hw1]; simp
  have hR1 := hR.later (below_old hS hb1)
  have hS1 := old_later hS hb1
  have hc := pCheck_any v false ⟨xk, xn, xg, xs, ⟨lp, ll, lc⟩, ⟨dp, dl, dc⟩⟩ w1 S hR1 hS1 hfit
  dsimp only [Hv.arr] at hc
  obtain ⟨c, hce⟩ : ∃ c, checkV v false 0 = c := ⟨_, rfl⟩
  rw [hce] at hc
  have Hc := Lib.hid hc
  have Hw1 := Lib.hid hw1
  have Hv1 := Lib.hid hv1
  have Hb1 := Lib.hid hb1
  show Calls Tryz.prog 7 #[.agg #[.int .i64 xk, .int .i64 xn, .int .i64 xg, .string xs, .slice lp ll lc, .slice dp dl dc]] w _
  by_cases h0 : c = 0
  · subst h0
    have hw := writeW_ok hce
    rw [hw]
    dsimp only
    obtain ⟨t, ht⟩ : ∃ t, textV (plainV v) = t := ⟨_, rfl⟩
    rw [ht]
    have hne : t ≠ [] := by rw [← ht]; exact textV_ne (ok_plain hce)
    have hlen : t.length ≤ 100000000 := by have := writeW_length v hfit; rwa [hw, ht] at this
    have hP := fun W (hb : Below w1.heap.size w1 W) => pplain_any v ⟨xk, xn, xg, xs, ⟨lp, ll, lc⟩, ⟨dp, dl, dc⟩⟩ W S (hR1.later (below_old hS1 hb)) (old_later hS1 hb) hfit
    dsimp only [Hv.arr] at hP
    have HP := Lib.hid hP
    have hq := fun (y : Hv) (w2 wl w3 : World) (hlw : Laid w2) (hwl : w2.alloc (.cells #[.pointer none, .slice none 0 0] 48) = wl) (hbl : Below wl.heap.size wl w3) (hRy : Rd w3 (fun k => wl.heap.size ≤ k) y (plainV v)) =>
      putv_any (plainV v) y w2 w2.heap.size (fun k => wl.heap.size ≤ k ∧ k < w3.heap.size) (.slice none 0 0) [] w3
        ⟨by rw [← hwl] at hbl; exact (LnT.new w2).later hbl, fun k hk => by simp [foot, Value.ownBlock] at hk; omega, by rw [← hwl] at hbl; exact ((Below.refl _ w2).alloc (Nat.le_refl _) _).trans (hbl.mono (by simp)), fun k hk => ⟨hk.2, fun hm => by
          have h1 : wl.heap.size = w2.heap.size + 1 := by rw [← hwl]; simp
          simp [foot, Value.ownBlock] at hm
          omega⟩⟩ hlw hRy.bound (ok_plain hce) (plain_fit hfit) (by rw [ht]; show 0 + _ ≤ _; omega)
    rw [ht] at hq
    have Hq := Lib.hid hq
    have Hlaid := Lib.hid (hlaid.later hb1)
    have Hne := Lib.hid hne
    clear hc hce hw1 hv1 hR hS hfit hw hP hq hb1 hR1 hS1 hlaid ht hne
    go_enter Tryz.func7, Tryz.ntmps7
    iterate 18 go_step
    rw [Hw1.out]
    go_wp2_with (first
      | (refine VCell.load rfl (.tmp 1) rfl w.heap.size _ rfl Hv1.out ?_)
      | (go_at_call 12; refine Hc.out.mono ?_; rintro e w2 ⟨rfl, h2⟩; have Hb2 := Lib.hid h2; have Hlx : Hid (Below w1.heap.size w1 (w2.alloc (.cells #[.pointer none, .slice none 0 0] 48))) := Lib.hid (h2.trans (((Below.refl _ w2).alloc (Nat.le_refl _) _).mono h2.size)); have Hvl := Lib.hid (Hv1.out.later Hlx.out hz1); clear h2)
      | (refine VCell.load rfl (.tmp 1) rfl w.heap.size _ rfl Hvl.out ?_)
      | (go_at_call 11; refine (HP.out _ Hlx.out).mono ?_; rintro e w3 ⟨⟨yk, yn, yg, ys, ⟨ylp, yll, ylc⟩, ⟨ydp, ydl, ydc⟩⟩, he, hy, hb3⟩; replace he : e = .returned (.agg #[.int .i64 yk, .int .i64 yn, .int .i64 yg, .string ys, .slice ylp yll ylc, .slice ydp ydl ydc]) := he; subst he; have HQ := Lib.hid (Hq.out _ w2 _ w3 (Hlaid.out.later Hb2.out) rfl hb3 hy); have Hb3 := Lib.hid hb3; clear hy hb3)
      | (go_at_call 16; refine HQ.out.mono ?_; rintro e w4 ⟨rfl, u4, h4, t4⟩; have HL4 := Lib.hid h4; clear h4 t4))
    have HE := Lib.hid (lstring_is _ _ _ _ HL4.out.1 (by simpa using Hne.out))
    refine HE.out.mono ?_
    rintro e w5 ⟨rfl, t5⟩
    have Hend : Hid (Below w.heap.size w w5) := Lib.hid (Hb1.out.trans ((Hb2.out.trans ((HL4.out.2.2.1.trans (t5.below HL4.out.2.2.1.size HL4.out.2.1)).mono Hb2.out.size)).mono Hb1.out.size))
    clear t5
    go_wp2
    exact bodyPost_ret (v := .tuple #[.string (bytes t), .int .i64 0]) (by simp [results, Tryz.results7, go_sem, bytes]) rfl ⟨rfl, Hend.out⟩
  · have hw := writeW_bad (v := v) (by rw [hce]; exact h0)
    rw [hw, hce]
    have h1 : (c != 0) = true := by simpa using h0
    clear hc hce hw1 hv1 hR hS hfit hw hb1 hR1 hS1 hlaid h0
    go_enter Tryz.func7, Tryz.ntmps7
    iterate 18 go_step
    rw [Hw1.out]
    go_wp2_with (first
      | (refine VCell.load rfl (.tmp 1) rfl w.heap.size _ rfl Hv1.out ?_)
      | (go_at_call 12; refine Hc.out.mono ?_; rintro e w2 ⟨rfl, h2⟩; have Hb2 := Lib.hid h2; clear h2))
    go_ret2
    exact ⟨rfl, Hb1.out.trans (Hb2.out.mono Hb1.out.size)⟩
end Go.Proofs.YtejgcnmbngdkiaaGreatDoor
