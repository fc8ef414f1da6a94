/-
  The contracts of the document's Need, Row, Cut, Same of fields.
-/
import Derived.Test.YtjdhpemkajijnaaFRef
import Derived.Test.YtjdhpemkajijnaaNums
namespace Go.Proofs.Ytjdhpemkajijnaa
open Go.RowKit

theorem rPutF_is (n width : Int) (w : World) (h0 : -9223372036854775808 ≤ n) (h1 : n ≤ 9223372036854775807) {u : ByteArray} {b : Int} (h : putF n width = (u.data.toList, b)) :
    Calls Try.prog 8 #[.int .i64 n, .int .i64 width] w fun e w' => e = .returned (.tuple #[.string u, .int .i64 b]) ∧ Below w.heap.size w w' := by
  have := rPutF_any n width w h0 h1
  rw [h] at this; unfold TextNum at this; rw [bytes_of] at this; exact this
theorem putF_text (n width : Int) : ∃ (u : ByteArray) (b : Int), putF n width = (u.data.toList, b) := ⟨bytes (putF n width).1, (putF n width).2, by rw [bytes_data]⟩
/-- Of a number that is none below 0, in a width that may be: it fits, or it does not. -/
theorem putF_fits {n : Int} {v : Nat} {u : ByteArray} {b : Int} (hn : 0 ≤ n) (hv : v ≤ 8) (h : putF n (v : Int) = (u.data.toList, b)) : (b = 0 ∧ widN n.toNat ≤ v) ∨ (b = 3 ∧ v < widN n.toNat) := by
  obtain ⟨m, rfl⟩ := Int.eq_ofNat_of_zero_le hn
  rw [Int.toNat_natCast]
  by_cases hm : m < 256 ^ v
  · rw [putF_ok hv hm] at h
    exact .inl ⟨(Prod.mk.inj h).2.symm, (widN_iff v m).2 hm⟩
  · rw [putF_big hv (by omega)] at h
    exact .inr ⟨(Prod.mk.inj h).2.symm, by have := mt (widN_iff v m).1 hm; omega⟩

theorem need_neg {w : Nat} {zs : List Int} {i : Nat} (hi : i < zs.length) (h : zs[i]?.getD 0 < 0) : needFrom w (zs.drop i) = -1 := by
  rw [List.drop_eq_getElem_cons hi]
  rw [List.getElem?_eq_getElem hi] at h
  unfold needFrom; rw [if_pos (by simpa using h)]
theorem need_step {w : Nat} {zs : List Int} {i : Nat} (hi : i < zs.length) (h : ¬ zs[i]?.getD 0 < 0) : needFrom w (zs.drop i) = needFrom (max w (widN (zs[i]?.getD 0).toNat)) (zs.drop (i + 1)) := by
  rw [List.drop_eq_getElem_cons hi]
  rw [List.getElem?_eq_getElem hi] at h ⊢
  simp only [Option.getD_some] at h ⊢
  rw [needFrom, if_neg h]

set_option maxRecDepth 100000 in
set_option maxHeartbeats 1000000 in
theorem rNeedF_any (p : Option Addr) (cap : Nat) (zs : List Int) (w : World) (hz : zs.length ≤ 9223372036854775807) (hi : Ints zs) (hp : Nums w p zs) :
    Calls Try.prog 13 #[.slice p zs.length cap] w fun e w' => e = .returned (.int .i64 (needF zs)) ∧ Below w.heap.size w w' := by
  have Hp := Lib.hid hp
  have Hi := Lib.hid hi
  clear hp hi
  go_enter Try.func13, Try.ntmps13
  go_wp2_with fail
  go_loopg [3, 4] zs.length (fun g s3 s4 wx => ∃ (j v : Nat), j + g = zs.length ∧ s4 = .int .i64 j ∧ s3 = .int .i64 v ∧ v ≤ 8 ∧ Aside (needF zs = needFrom v (zs.drop j)) ∧ Below w.heap.size w wx)
  case atStart => exact ⟨0, 0, by omega, rfl, rfl, by omega, rfl, Below.refl _ _⟩
  case round =>
    obtain ⟨j, v, hjg, rfl, rfl, hv, HN, hb⟩ := hrel
    have Hb := Lib.hid hb
    clear hb
    cases gk with
    | zero =>
      obtain rfl : j = zs.length := by omega
      have Hr : Hid (needF zs = v) := Lib.hid (by rw [HN.out, List.drop_length]; rfl)
      clear hjg
      go_wp2_with fail
      go_ret
      exact ⟨ret_int (by rw [Hr.out]), Hb.out⟩
    | succ g =>
      have hj : j < zs.length := by omega
      have hjz : ((j : Int) < (zs.length : Int)) := by omega
      have hpl := Hp.out.later Hb.out
      obtain ⟨b, off, rfl, hcell⟩ := hpl.at j hj
      clear hpl
      have hcells : Hid (∀ W, Below wr.heap.size wr W → W.cell? ⟨b, off + j, none⟩ = some (.int .i64 (zs[j]?.getD 0))) := Lib.hid (fun W hW => cell_later hcell hW)
      obtain ⟨n, hn⟩ : ∃ n, zs[j]?.getD 0 = n := ⟨_, rfl⟩
      have hnb := Hi.out j hj
      rw [hn] at hcell hnb
      have Hn := Lib.hid hn
      have Hjg := Lib.hid hjg
      clear hjg hn
      obtain ⟨hn0, hn1⟩ := hnb
      by_cases hneg : n < 0
      · have Hr : Hid (needF zs = -1) := Lib.hid (by rw [HN.out]; exact need_neg hj (by rw [Hn.out]; exact hneg))
        go_wp2_with fail
        go_ret
        exact ⟨ret_int (by rw [Hr.out]), Hb.out⟩
      · have Hstep : Hid (needF zs = needFrom (max v (widN n.toNat)) (zs.drop (j + 1))) := Lib.hid (by rw [HN.out, need_step hj (by rw [Hn.out]; exact hneg), Hn.out])
        have Hw8 : Hid (widN n.toNat ≤ 8) := Lib.hid (widN_8 (by omega))
        go_wp2_with fail
        go_loopg [3] (8 - v) (fun g2 s3 wy => ∃ u : Nat, u + g2 = 8 ∧ s3 = .int .i64 u ∧ Aside (v ≤ u ∧ u ≤ max v (widN n.toNat)) ∧ Below wr.heap.size wr wy)
        case atStart => exact ⟨v, by omega, rfl, ⟨Nat.le_refl _, Nat.le_max_left _ _⟩, Below.refl _ _⟩
        case round =>
          obtain ⟨u, hug, rfl, HU, hb2⟩ := hrel
          have hc2 := hcells.out _ hb2
          rw [Hn.out] at hc2
          have Hb2 := Lib.hid hb2
          clear hb2
          obtain ⟨t, e, ht⟩ := putF_text n (u : Int)
          have hu8 : u ≤ 8 := by omega
          have hfit := putF_fits (by omega) hu8 ht
          have Ht := Lib.hid ht
          clear ht
          rcases hfit with ⟨rfl, hw⟩ | ⟨rfl, hw⟩
          · have Hw := Lib.hid hw
            clear hw
            go_wp2_with fail
            refine (rPutF_is n (u : Int) _ hn0 hn1 Ht.out).mono ?_
            rintro e w3 ⟨rfl, hb3⟩
            have Hb3 := Lib.hid (Hb2.out.trans (hb3.mono Hb2.out.size))
            clear hb3
            go_wp2_with fail
            go_roundg g
            case measure => omega
            case rel => exact ⟨j + 1, u, by have := Hjg.out; omega, by go_num, rfl, hu8, by
              have h1 := HU.out; have h2 := Hw.out
              have e : max v (widN n.toNat) = u := by omega
              rw [← e]; exact Hstep.out, Hb.out.trans (Hb3.out.mono Hb.out.size)⟩
          · have Hw := Lib.hid hw
            have hlt : u < 8 := by have := Hw8.out; omega
            clear hw
            go_wp2_with fail
            refine (rPutF_is n (u : Int) _ hn0 hn1 Ht.out).mono ?_
            rintro e w3 ⟨rfl, hb3⟩
            have Hb3 := Lib.hid (Hb2.out.trans (hb3.mono Hb2.out.size))
            clear hb3
            go_wp2_with fail
            go_roundg (8 - (u + 1))
            case measure => omega
            case rel => exact ⟨u + 1, by omega, by go_num, ⟨by have := HU.out; omega, by have := Hw.out; omega⟩, Hb3.out⟩

end Go.Proofs.Ytjdhpemkajijnaa
