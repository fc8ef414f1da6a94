/-
  The law TokenAll.
-/
import Derived.Test.YtnjmapgmodoodaaTkEx
import Derived.Test.YtnjmapgmodoodaaTkTold
import Derived.Deep.QuietTactic
import Derived.BigQuiet
namespace Go.Proofs.Ytnjmapgmodoodaa
open Go.RowKit Go.Shelf
set_option maxRecDepth 100000

/-- The cells of a sign in a row. -/
theorem TRow.cells {w : World} {B g n cap : Nat} {xs : List Sg} (h : TRow w B (.slice (some ⟨g, 0, none⟩) n cap) xs) {i : Nat} {x : Sg} (hx : xs[i]? = some x) :
    w.cell? ⟨g, i * 5, none⟩ = some (.int .i64 x.kind) ∧ w.cell? ⟨g, i * 5 + 1, none⟩ = some (.int .i64 x.num) ∧ w.cell? ⟨g, i * 5 + 2, none⟩ = some (.string (bytes x.str)) ∧ w.cell? ⟨g, i * 5 + 3, none⟩ = some (.int .i64 (x.beg : Int)) ∧ w.cell? ⟨g, i * 5 + 4, none⟩ = some (.int .i64 (x.fin : Int)) := by
  obtain ⟨g', cap', cur, hv, hg, _, _, _, _, ht⟩ := h.block
  obtain rfl : g = g' := by
    injection hv with h1
    injection h1 with h1
    injection h1
  have hd := ht i x hx
  have key : ∀ j, j < 5 → w.cell? ⟨g, i * 5 + j, none⟩ = (tokC x.kind x.num (bytes x.str) (x.beg : Int) (x.fin : Int)).toList[j]? := fun j hj => by
    rw [cell_of_row _ _ _ _ _ _ hg, ← hd, List.getElem?_take, if_pos hj, List.getElem?_drop, Nat.mul_comm 5 i, Array.getElem?_toList]
  exact ⟨key 0 (by omega), key 1 (by omega), key 2 (by omega), key 3 (by omega), key 4 (by omega)⟩

set_option maxHeartbeats 4000000 in
theorem tall_walk (s : ByteArray) (w : World) (hs : s.size ≤ maxLen) :
    Calls Try.prog 4 #[.string s] w (Yes w) := by
  unfold maxLen at hs
  have HNn := Lib.hid all_not_nil
  have HFn := Lib.hid all_is_func
  by_cases hbig : (500 : Int) < (s.size : Int)
  · go_enter Try.func4, Try.ntmps4
    go_wp2_with fail
    refine (signs_any _).mono ?_
    rintro e w1 ⟨rfl, hb⟩
    have Hb := Lib.hid hb
    clear hb
    go_wp2_with fail
    refine (all_is s _).mono ?_
    rintro e w2 ⟨rfl, rfl⟩
    have hfn := HFn.out
    go_wp2_with fail
    go_ret
    exact ⟨rfl, Hb.out.alloc Hb.out.size _⟩
  · have hs2 : s.size ≤ 500 := by omega
    obtain ⟨A, hA⟩ : ∃ A, (allL s.data.toList).1 = A := ⟨_, rfl⟩
    obtain ⟨c, hc⟩ : ∃ c, (allL s.data.toList).2 = c := ⟨_, rfl⟩
    obtain ⟨n, hn⟩ : ∃ n, countS A = n := ⟨_, rfl⟩
    have hAl : A.length ≤ s.size + 1 := by
      have h := (all_good s.data.toList (s.data.toList.length + 1) 0 (by omega) (Nat.zero_le _)).1
      rw [show (allGo s.data.toList (s.data.toList.length + 1) 0).1 = A from hA, ← size_data] at h
      exact h
    have hcnt := count_all s.data.toList
    rw [hA, hc, hn] at hcnt
    have HT : Hid (∀ W, Calls Try.prog 13 #[.string s] W fun e w' => ∃ v, e = .returned (.tuple #[v, .int .i64 c]) ∧ TRow w' W.heap.size v A ∧ Below W.heap.size W w') :=
      Lib.hid fun W => by have h := told_any s W (by omega); rw [hA, hc] at h; exact h
    have HR : Hid (∀ W, Calls Try.prog 14 #[.string s] W fun e w' => ∃ v, e = .returned (.tuple #[v, .int .i64 c]) ∧ TRow w' W.heap.size v A ∧ Below W.heap.size W w') :=
      Lib.hid fun W => by have h := rAll_any s W (by omega); rw [hA, hc] at h; exact h
    have HM : Hid (∀ W, Calls Try.prog 15 #[.string s] W fun e w' => e = .returned (.tuple #[.int .i64 (n : Int), .int .i64 c]) ∧ Below W.heap.size W w') :=
      Lib.hid fun W => by have h := many_any s W (by omega); rw [hA, hc, hn] at h; exact h
    clear hA hc hn
    have Hcnt := Lib.hid hcnt
    clear hcnt
    go_enter Try.func4, Try.ntmps4
    go_wp2_with fail
    refine (signs_any _).mono ?_
    rintro e w1 ⟨rfl, hb⟩
    have Hb := Lib.hid hb
    clear hb
    go_wp2_with fail
    refine (all_is s _).mono ?_
    rintro e w2 ⟨rfl, h2⟩
    have Hb2 : Hid (Below w.heap.size w w2) := Lib.hid (h2 ▸ Hb.out.alloc Hb.out.size _)
    clear h2
    have hnn := HNn.out
    go_wp2_with fail
    refine (HT.out _).mono ?_
    rintro e w3 ⟨v, rfl, hR, hb⟩
    have Hb3 := Lib.hid (Hb2.out.trans (hb.mono Hb2.out.size))
    obtain ⟨g, cap, rfl⟩ := hR.2
    have HR3 := Lib.hid hR
    clear hb hR
    go_wp2_with fail
    refine (HR.out _).mono ?_
    rintro e w4 ⟨v, rfl, hR, hb⟩
    have Hb4 := Lib.hid (Hb3.out.trans (hb.mono Hb3.out.size))
    have HR4 := Lib.hid (HR3.out.later hb)
    obtain ⟨g2, cap2, rfl⟩ := hR.2
    have HS4 := Lib.hid hR
    clear hb hR
    go_wp2_with fail
    go_loopg [7] A.length (fun gg v7 wy => ∃ i : Nat, i + gg = A.length ∧ v7 = .int .i64 i ∧ Below w4.heap.size w4 wy)
    case atStart => exact ⟨0, by omega, rfl, Below.refl _ _⟩
    case round =>
      obtain ⟨i, hi, rfl, hbl⟩ := hrel
      have Hbl := Lib.hid hbl
      clear hbl
      cases gk with
      | zero =>
        obtain rfl : i = A.length := by omega
        have hz : ¬ ((A.length : Int) < (A.length : Int)) := by omega
        by_cases hc0 : c = 0
        · have hcb : (c == 0) = true := by simpa using hc0
          have hn1 : (n : Int) + 1 = (A.length : Int) := by have := Hcnt.out.1 hc0; omega
          have hn2 : (A.length : Int) - 1 = (n : Int) := by omega
          clear hc0
          go_wp2_with fail
          refine (HM.out _).mono ?_
          rintro e w5 ⟨rfl, hb⟩
          have Hb5 := Lib.hid ((Hb4.out.trans (Hbl.out.mono Hb4.out.size)).trans (hb.mono (by have := Hb4.out.size; have := Hbl.out.size; omega)))
          clear hb
          go_wp2_with fail
          go_ret
          exact ⟨rfl, Hb5.out⟩
        · have hcb : (c == 0) = false := by simpa using hc0
          have hn1 : (A.length : Int) = (n : Int) := by have := Hcnt.out.2 hc0; omega
          clear hc0
          go_wp2_with fail
          refine (HM.out _).mono ?_
          rintro e w5 ⟨rfl, hb⟩
          have Hb5 := Lib.hid ((Hb4.out.trans (Hbl.out.mono Hb4.out.size)).trans (hb.mono (by have := Hb4.out.size; have := Hbl.out.size; omega)))
          clear hb
          go_wp2_with fail
          go_ret
          exact ⟨rfl, Hb5.out⟩
      | succ gg =>
        have him : i < A.length := by omega
        have hz : ((i : Int) < (A.length : Int)) := by omega
        have hz0 : (0 : Int) ≤ (i : Int) := by omega
        obtain ⟨x, hx⟩ : ∃ x, A[i]? = some x := ⟨_, List.getElem?_eq_getElem him⟩
        obtain ⟨k0, k1, k2, k3, k4⟩ := (HR4.out.later Hbl.out).cells hx
        obtain ⟨j0, j1, j2, j3, j4⟩ := (HS4.out.later Hbl.out).cells hx
        clear hx
        go_wp2_with fail
        go_quiet (fail)
        go_wp2_with fail
        go_roundg gg
        case measure => omega
        case rel => exact ⟨i + 1, by omega, by go_num, below_drewN Hbl.out _⟩
end Go.Proofs.Ytnjmapgmodoodaa
