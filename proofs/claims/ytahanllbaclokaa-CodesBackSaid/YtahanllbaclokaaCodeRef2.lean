/-
  The contracts of the document's Find, Bits, Put of codes.
-/
import Derived.Test.YtahanllbaclokaaCodeRef
import Derived.Test.YtahanllbaclokaaBitRows
namespace Go.Proofs.Ytahanllbaclokaa
open Go.RowKit

theorem asZ_getD (cs : List Nat) {j : Nat} (h : j < cs.length) : (asZ cs)[j]?.getD 0 = ((cs[j] : Nat) : Int) := by
  rw [List.getElem?_eq_getElem (by rw [asZ_length]; exact h)]
  simp [asZ]
theorem findC_step {ls : List Int} {cs : List Nat} {w x j : Nat} (hl : j < ls.length) (hc : j < cs.length) :
    findC (ls.drop j) (cs.drop j) w x j = if ls[j] = (w : Int) ∧ cs[j] = x ∧ 0 < w then (j : Int) else findC (ls.drop (j + 1)) (cs.drop (j + 1)) w x (j + 1) := by
  rw [List.drop_eq_getElem_cons hl, List.drop_eq_getElem_cons hc, findC]
theorem findC_over {ls : List Int} {cs : List Nat} {w x j : Nat} (h : ¬ (j < cs.length ∧ j < ls.length)) : findC (ls.drop j) (cs.drop j) w x j = -1 := by
  by_cases hc : j < cs.length
  · rw [List.drop_of_length_le (show ls.length ≤ j by omega)]; rfl
  · rw [List.drop_of_length_le (show cs.length ≤ j by omega)]
    cases ls.drop j <;> rfl

set_option maxHeartbeats 2000000 in
theorem rFind_any (p1 p2 : Option Addr) (c1 c2 : Nat) (ls : List Int) (cs : List Nat) (wd x : Nat) (w : World) (_hz1 : ls.length ≤ 1000) (hz2 : cs.length ≤ 1000) (hw : wd ≤ 1000) (_hx : x ≤ 1000000) (hp1 : Nums w p1 ls) (hp2 : Nums w p2 (asZ cs)) :
    Calls Try.prog 34 #[.slice p1 ls.length c1, .slice p2 cs.length c2, .int .i64 (wd : Int), .int .i64 (x : Int)] w fun e w' => e = .returned (.int .i64 (findC ls cs wd x 0)) ∧ w = w' := by
  have Hp1 := Lib.hid hp1
  have Hp2 := Lib.hid hp2
  clear hp1 hp2
  go_enter Try.func34, Try.ntmps34
  go_wp2_with fail
  go_loopg [9] (ls.length + 1) (fun g s9 wx => ∃ j : Nat, j + g = ls.length + 1 ∧ s9 = .int .i64 j ∧ Aside (findC ls cs wd x 0 = findC (ls.drop j) (cs.drop j) wd x j) ∧ w = wx)
  case atStart => exact ⟨0, by omega, rfl, rfl, rfl⟩
  case round =>
    obtain ⟨j, hjg, rfl, HF, rfl⟩ := hrel
    by_cases hin : j < cs.length ∧ j < ls.length
    · obtain ⟨hc, hl⟩ := hin
      have hcz : (j : Int) < (cs.length : Int) := by omega
      have hlz : (j : Int) < (ls.length : Int) := by omega
      obtain ⟨b, off, rfl, hc1⟩ := Hp1.out.at j hl
      obtain ⟨b2, off2, rfl, hc2⟩ := Hp2.out.at j (by rw [asZ_length]; exact hc)
      rw [asZ_getD cs hc] at hc2
      rw [List.getElem?_eq_getElem hl] at hc1
      simp only [Option.getD_some] at hc1
      have hst := findC_step (w := wd) (x := x) hl hc
      obtain ⟨l, hlv⟩ : ∃ l, ls[j] = l := ⟨_, rfl⟩
      obtain ⟨c, hcv⟩ : ∃ c, cs[j] = c := ⟨_, rfl⟩
      rw [hlv] at hc1 hst
      rw [hcv] at hc2 hst
      clear hlv hcv
      by_cases h1 : l = (wd : Int)
      · have h1z : (l == (wd : Int)) = true := beq_iff_eq.2 h1
        by_cases h2 : c = x
        · have h2z : ((c : Int) == (x : Int)) = true := beq_iff_eq.2 (by rw [h2])
          by_cases h3 : 0 < wd
          · have Hr : Hid (findC ls cs wd x 0 = (j : Int)) := Lib.hid (by rw [HF.out, hst, if_pos ⟨h1, h2, h3⟩])
            have h3z : 0 < (wd : Int) := by omega
            clear hst h1 h2
            go_wp2_with fail
            go_ret
            exact ⟨ret_int (by rw [Hr.out]), rfl⟩
          · have Hn : Hid (findC ls cs wd x 0 = findC (ls.drop (j + 1)) (cs.drop (j + 1)) wd x (j + 1)) := Lib.hid (by rw [HF.out, hst, if_neg fun h => h3 h.2.2])
            have h3z : ¬ 0 < (wd : Int) := by omega
            clear hst h1 h2
            go_wp2_with fail
            go_roundg (ls.length - j)
            case measure => omega
            case rel => exact ⟨j + 1, by omega, by go_num, Hn.out, rfl⟩
        · have h2z : ((c : Int) == (x : Int)) = false := by rw [beq_eq_false_iff_ne]; omega
          have Hn : Hid (findC ls cs wd x 0 = findC (ls.drop (j + 1)) (cs.drop (j + 1)) wd x (j + 1)) := Lib.hid (by rw [HF.out, hst, if_neg fun h => h2 h.2.1])
          clear hst h1 h2
          go_wp2_with fail
          go_roundg (ls.length - j)
          case measure => omega
          case rel => exact ⟨j + 1, by omega, by go_num, Hn.out, rfl⟩
      · have h1z : (l == (wd : Int)) = false := by simpa using h1
        have Hn : Hid (findC ls cs wd x 0 = findC (ls.drop (j + 1)) (cs.drop (j + 1)) wd x (j + 1)) := Lib.hid (by rw [HF.out, hst, if_neg fun h => h1 h.1])
        clear hst h1
        go_wp2_with fail
        go_roundg (ls.length - j)
        case measure => omega
        case rel => exact ⟨j + 1, by omega, by go_num, Hn.out, rfl⟩
    · have Hr : Hid (findC ls cs wd x 0 = -1) := Lib.hid (by rw [HF.out, findC_over hin])
      have hcase : ¬ (j : Int) < (cs.length : Int) ∨ ((j : Int) < (cs.length : Int) ∧ ¬ (j : Int) < (ls.length : Int)) := by omega
      clear hin
      rcases hcase with h | ⟨h, h'⟩
      all_goals
        go_wp2_with fail
        go_ret
        exact ⟨ret_int (by rw [Hr.out]), rfl⟩

theorem bitsOf_take {s : ByteArray} {k : Nat} (h : k < s.size) : bitsOf (s.data.toList.take (k + 1)) = bitsOf (s.data.toList.take k) ++ bitsN 8 s[k].toNat := by
  rw [take_snoc s k h, bitsOf_append]
  simp [bitsOf]
set_option maxRecDepth 100000 in
set_option maxHeartbeats 2000000 in
theorem rBits_any (s : ByteArray) (w : World) (hs : s.size ≤ 100000) : Calls Try.prog 16 #[.string s] w (RowNew w (bitsOf s.data.toList)) := by
  go_enter Try.func16, Try.ntmps16
  go_wp2_with fail
  go_loopg [3, 4] s.size (fun g s3 s4 wx => ∃ k : Nat, k + g = s.size ∧ s4 = .int .i64 k ∧ Aside (Own64 wx w.heap.size s3 (asZ (bitsOf (s.data.toList.take k)))) ∧ Below w.heap.size w wx)
  case atStart => exact ⟨0, by omega, rfl, Own64.made w 0 #[] (Nat.le_refl _) (by decide) rfl, (Below.refl _ w).alloc (Nat.le_refl _) _⟩
  case round =>
    obtain ⟨k, hkg, rfl, HO, hb⟩ := hrel
    have Hb := Lib.hid hb
    clear hb
    cases gk with
    | zero =>
      obtain rfl : k = s.size := by omega
      rw [List.take_of_length_le (show s.data.toList.length ≤ s.size by rw [← size_data]; exact Nat.le_refl _)] at HO
      go_wp2_with fail
      go_ret
      exact Own64.row_new (row := bitsOf s.data.toList) HO.out Hb.out
    | succ g =>
      have hk : k < s.size := by omega
      have hkz : (k : Int) < (s.size : Int) := by omega
      have hc := s[k].toNat_lt
      have Hnext := Lib.hid (bitsOf_take hk)
      obtain ⟨c, hcv⟩ : ∃ c, s[k].toNat = c := ⟨_, rfl⟩
      rw [hcv] at Hnext hc
      go_wp2_with fail
      go_loopg [3, 5, 6] 8 (fun g5 s3 s5 s6 wx => ∃ (j x : Nat), j + g5 = 8 ∧ s6 = .int .i64 j ∧ s5 = .int .i64 x ∧ x ≤ 255 ∧ Aside (x = c / 2 ^ j ∧ Own64 wx w.heap.size s3 (asZ (bitsOf (s.data.toList.take k) ++ bitsN j c))) ∧ Below w.heap.size w wx)
      case atStart => exact ⟨0, c, by omega, rfl, rfl, by omega, ⟨by simp, by rw [bitsN, List.append_nil]; exact HO.out⟩, Hb.out⟩
      case round =>
        obtain ⟨j, x, hjg, rfl, rfl, hx, HX, hb2⟩ := hrel
        have Hb2 := Lib.hid hb2
        clear hb2
        cases gk with
        | zero =>
          obtain rfl : j = 8 := by omega
          go_wp2_with fail
          go_roundg g
          case measure => omega
          case rel => exact ⟨k + 1, by omega, by go_num, by show Own64 _ _ _ _; rw [Hnext.out]; exact HX.out.2, Hb2.out⟩
        | succ g5 =>
          have hjz : (j : Int) < 8 := by omega
          have hlen : (asZ (bitsOf (s.data.toList.take k) ++ bitsN j c)).length ≤ 1000000 := by rw [asZ_length, List.length_append, bitsN_length, bitsOf_length, List.length_take, ← size_data]; omega
          obtain ⟨r, hr2⟩ : ∃ r, x % 2 = r := ⟨_, rfl⟩
          obtain ⟨y, hy2⟩ : ∃ y, x / 2 = y := ⟨_, rfl⟩
          have hxb2 : (x : Int) % 2 = (r : Int) := by omega
          have hx2 : (x : Int) / 2 = (y : Int) := by omega
          have hyb : y ≤ 255 := by omega
          have Hn2 : Hid (y = c / 2 ^ (j + 1) ∧ bitsN (j + 1) c = bitsN j c ++ [r]) := Lib.hid (by
            rw [← hy2, ← hr2, HX.out.1]
            exact ⟨by rw [Nat.div_div_eq_div_mul, Nat.pow_succ], bitsN_snoc j c⟩)
          clear hr2 hy2
          go_wp2_with (at_builtin; refine wpList_append64 rfl (.tmp 22) (.tmp 25) rfl w.heap.size _ (asZ (bitsOf (s.data.toList.take k) ++ bitsN j c)) rfl (HX.out.2.alloc _) ⟨wr.heap.size, 0, none⟩ 1 [(r : Int)] rfl (cells_newZ _ _) (by simp) (by simp; omega) w (Hb2.out.alloc Hb2.out.size _) (by have := Hb2.out.size; simp; omega) ?_; intro v3 w3 Ho3 Hb3 _)
          go_roundg g5
          case measure => omega
          case rel => exact ⟨j + 1, y, by omega, by go_num, by go_num, hyb, ⟨Hn2.out.1, by rw [Hn2.out.2, ← List.append_assoc, asZ_snoc]; exact Ho3.out⟩, Hb3.out⟩

end Go.Proofs.Ytahanllbaclokaa
