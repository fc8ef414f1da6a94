/-
  The walk of the law FieldsBack. (Written by tools/fback_tpl.py.)
-/
import Derived.Test.YtjdhpemkajijnaaFLaws
namespace Go.Proofs.Ytjdhpemkajijnaa
open Go.RowKit

theorem row_text (ns ws : List Int) : ∃ (u : ByteArray) (b : Int), rowF ns ws = (u.data.toList, b) := ⟨bytes (rowF ns ws).1, (rowF ns ws).2, by rw [bytes_data]⟩
theorem rowF_size {ns ws : List Int} {u : List UInt8} (hn : ∀ n ∈ ns, n ≤ 9223372036854775807) (h : rowF ns ws = (u, 0)) : u.length ≤ 128 := by
  have h1 := cutF_zero (rowF_cutF hn h).1
  have h2 : ∀ (l : List Int), (∀ v ∈ l, 0 ≤ v ∧ v ≤ 8) → sumW l ≤ 8 * l.length := by
    intro l
    induction l with
    | nil => intro _; simp [sumW]
    | cons x l ih =>
      intro hl
      have := ih (fun v hv => hl v (by simp [hv]))
      have := hl x (by simp)
      simp only [sumW, List.length_cons]; omega
  have h3 := h2 ws h1.2.1
  have := h1.1
  have := h1.2.2.1
  omega

set_option maxRecDepth 100000 in
set_option maxHeartbeats 8000000 in
theorem fback_walk (p1 : Option Addr) (c1 : Nat) (ns : List Int) (p2 : Option Addr) (c2 : Nat) (ws : List Int) (s : ByteArray) (w : World) (hz1 : ns.length ≤ 9223372036854775807) (hz2 : ws.length ≤ 9223372036854775807) (hi1 : Ints ns) (hi2 : Ints ws) (hp1 : Nums w p1 ns) (hp2 : Nums w p2 ws) (hs : s.size ≤ maxLen) :
    Calls Try.prog 6 #[.slice p1 ns.length c1, .slice p2 ws.length c2, .string s] w (Yes w) := by
  have hs' := hs
  unfold maxLen at hs
  have Hi1 := Lib.hid hi1
  have Hi2 := Lib.hid hi2
  have Hp1 := Lib.hid hp1
  have Hp2 := Lib.hid hp2
  clear hi1 hi2 hp1 hp2
  by_cases hbig : (16 : Int) < (ns.length : Int) ∨ (16 : Int) < (ws.length : Int) ∨ (128 : Int) < (s.size : Int)
  · have hcase : ((16 : Int) < (ns.length : Int)) ∨ (¬ ((16 : Int) < (ns.length : Int)) ∧ (16 : Int) < (ws.length : Int)) ∨ (¬ ((16 : Int) < (ns.length : Int)) ∧ ¬ (16 : Int) < (ws.length : Int) ∧ (128 : Int) < (s.size : Int)) := by omega
    clear hbig
    rcases hcase with h | ⟨h, h'⟩ | ⟨h, h', h''⟩
    all_goals
      go_enter Try.func6, Try.ntmps6
      go_wp2_with fail
      refine (wide_any _).mono ?_
      rintro e w1 ⟨rfl, hb⟩
      have Hb := Lib.hid hb
      clear hb
      go_wp2_with fail
      go_ret
      exact ⟨rfl, Hb.out⟩
  · have h : ¬ ((16 : Int) < (ns.length : Int)) := by omega
    have h' : ¬ ((16 : Int) < (ws.length : Int)) := by omega
    have h'' : ¬ ((128 : Int) < (s.size : Int)) := by omega
    clear hbig
    obtain ⟨u, b, hr⟩ := row_text ns ws
    obtain ⟨l, c, hc⟩ : ∃ l c, cutF s.data.toList ws = (l, c) := ⟨_, _, rfl⟩
    have Hr := Lib.hid hr
    have Hc := Lib.hid hc
    clear hr hc
    have Hmax : Hid (∀ n ∈ ns, n ≤ 9223372036854775807) := Lib.hid (fun n hn => (ints_mem Hi1.out hn).2)
    by_cases hb0 : b = 0
    · subst hb0
      by_cases hc0 : c = 0
      · subst hc0
        have hcut := (rowF_cutF Hmax.out Hr.out).1
        have hus : u.size ≤ 128 := by have := rowF_size Hmax.out Hr.out; rw [size_data]; exact this
        have Hcut := Lib.hid hcut
        clear hcut
        have hrow := (cutF_rowF Hc.out).1
        have hl := (cutF_rowF Hc.out).2
        have hll : l.length ≤ 16 := by
          have h1 := cutF_zero Hc.out
          have h2 := (cut_row ws s.data.toList l h1.2.1 h1.2.2.1 h1.2.2.2).2.1
          omega
        have Hl : Hid (Ints l) := Lib.hid (ints_of fun z hz => by have := hl z hz; omega)
        have Hrow := Lib.hid hrow
        clear hrow hl
        go_enter Try.func6, Try.ntmps6
        go_wp2_with fail
        refine (fRow_is p1 c1 ns p2 c2 ws _ hz1 hz2 Hi1.out Hi2.out Hp1.out Hp2.out Hr.out).mono ?_
        rintro e w1 ⟨rfl, hb⟩
        have Hb1 := Lib.hid hb
        clear hb
        go_wp2_with fail
        refine (fCut_is u p2 c2 ws.length ws _ rfl (by unfold maxLen; omega) hz2 Hi2.out (Hp2.out.later Hb1.out) Hcut.out).mono ?_
        rintro e w2 ⟨a3, cap3, rfl, hn3, hb⟩
        have Hn3 := Lib.hid hn3
        have Hb2 := Lib.hid (Hb1.out.trans (hb.mono Hb1.out.size))
        clear hb hn3
        go_wp2_with fail
        refine (same_is a3 cap3 ns.length ns p1 c1 ns.length ns _ rfl rfl hz1 Hn3.out (Hp1.out.later Hb2.out) (b := true) (by simp)).mono ?_
        rintro e w3 ⟨rfl, q5, hq⟩
        have Hb3 : Hid (Below w.heap.size w w3) := Lib.hid (by rw [← hq]; exact below_drewN Hb2.out q5)
        clear hq Hn3
        go_wp2_with fail
        refine (fCut_is s p2 c2 ws.length ws _ rfl hs' hz2 Hi2.out (Hp2.out.later Hb3.out) Hc.out).mono ?_
        rintro e w4 ⟨a4, cap4, rfl, hn4, hb⟩
        have Hn4 := Lib.hid hn4
        have Hb4 := Lib.hid (Hb3.out.trans (hb.mono Hb3.out.size))
        clear hb hn4
        go_wp2_with fail
        refine (fRow_is a4 cap4 l p2 c2 ws _ (by omega) hz2 Hl.out Hi2.out Hn4.out (Hp2.out.later Hb4.out) Hrow.out).mono ?_
        rintro e w5 ⟨rfl, hb⟩
        have Hb5 := Lib.hid (Hb4.out.trans (hb.mono Hb4.out.size))
        clear hb Hn4
        go_wp2_with fail
        go_loopg [15] ns.length (fun g s15 wx => ∃ j : Nat, j + g = ns.length ∧ s15 = .int .i64 j ∧ Below w.heap.size w wx)
        case atStart => exact ⟨0, by omega, rfl, Hb5.out⟩
        case round =>
          obtain ⟨j, hjg, rfl, hb⟩ := hrel
          have Hb := Lib.hid hb
          clear hb
          cases gk with
          | zero =>
            obtain rfl : j = ns.length := by omega
            clear hjg
            go_wp2_with fail
            refine (wide_any _).mono ?_
            rintro e w6 ⟨rfl, hb⟩
            have Hb6 := Lib.hid (Hb.out.trans (hb.mono Hb.out.size))
            clear hb
            go_wp2_with fail
            go_ret
            exact ⟨rfl, Hb6.out⟩
          | succ g =>
            have hj : j < ns.length := by omega
            have hjz : ((j : Int) < (ns.length : Int)) := by omega
            obtain ⟨b1, o1, rfl, hc0⟩ := Hp1.out.at j hj
            obtain ⟨n, hn⟩ : ∃ n, ns[j]?.getD 0 = n := ⟨_, rfl⟩
            have hnb := Hi1.out j hj
            rw [hn] at hc0 hnb
            obtain ⟨hn0, hn1⟩ := hnb
            have Hc0 := Lib.hid hc0
            have hcr := cell_later hc0 Hb.out
            have Hjg := Lib.hid hjg
            clear hjg hn hc0
            by_cases hneg : n < 0
            · have Hneed := Lib.hid (need_less hneg)
              go_wp2_with fail
              refine (fNeed_is _ 1 1 [n] _ rfl (by simp) (ints_of (fun z hz => by simp at hz; omega)) (nums_one _ n) Hneed.out).mono ?_
              rintro e w6 ⟨rfl, hb⟩
              have Hb6 : Hid (Below w.heap.size w w6) := Lib.hid ((Hb.out.alloc Hb.out.size _).trans (hb.mono (by have := Hb.out.size; simp; omega)))
              have hc6 := cell_later Hc0.out Hb6.out
              clear hb
              go_wp2_with fail
              go_roundg g
              case measure => omega
              case rel => exact ⟨j + 1, by have := Hjg.out; omega, by go_num, Hb6.out⟩
            · obtain ⟨m, rfl⟩ := Int.eq_ofNat_of_zero_le (show 0 ≤ n by omega)
              have hm : m ≤ 9223372036854775807 := by omega
              have hv8 := widN_8 hm
              obtain ⟨v, hv⟩ : ∃ v, widN m = v := ⟨_, rfl⟩
              have hneed := need_one (show (0 : Int) ≤ (m : Int) by omega)
              rw [Int.toNat_natCast, hv] at hneed
              obtain ⟨hput, hget⟩ := put_need hm
              have hund := put_under hm
              rw [hv] at hput hget hund hv8
              obtain ⟨t, ht⟩ : ∃ t : ByteArray, t.data.toList = loN v m := ⟨bytes (loN v m), bytes_data _⟩
              rw [← ht] at hput hget
              have hts : t.size ≤ 8 := by rw [size_data, ht, loN_length]; exact hv8
              obtain ⟨t2, b2, hp2'⟩ := putF_text (m : Int) ((v : Int) - 1)
              rw [hp2'] at hund
              have hb2 : (b2 == 0) = false := beq_eq_false_iff_ne.2 hund
              have Hneed := Lib.hid hneed
              have Hput := Lib.hid hput
              have Hget := Lib.hid hget
              have Hund := Lib.hid hp2'
              clear hneed hput hget hp2' ht hv hund
              have hcmp : ((m : Int) == (m : Int)) = true := by simp
              go_wp2_with fail
              refine (fNeed_is _ 1 1 [(m : Int)] _ rfl (by simp) (ints_of (fun z hz => by simp at hz; omega)) (nums_one _ _) Hneed.out).mono ?_
              rintro e w6 ⟨rfl, hb⟩
              have Hb6 : Hid (Below w.heap.size w w6) := Lib.hid ((Hb.out.alloc Hb.out.size _).trans (hb.mono (by have := Hb.out.size; simp; omega)))
              have hc6 := cell_later Hc0.out Hb6.out
              clear hb
              go_wp2_with fail
              refine (fPut_is (m : Int) (v : Int) _ hn0 hn1 Hput.out).mono ?_
              rintro e w7 ⟨rfl, hb⟩
              have Hb7 := Lib.hid (Hb6.out.trans (hb.mono Hb6.out.size))
              have hc7 := cell_later Hc0.out Hb7.out
              clear hb hc6
              go_wp2_with fail
              refine (fGet_is t _ (by unfold maxLen; omega) Hget.out).mono ?_
              rintro e w8 ⟨rfl, hb⟩
              have Hb8 := Lib.hid (Hb7.out.trans (hb.mono Hb7.out.size))
              have hc8 := cell_later Hc0.out Hb8.out
              clear hb hc7
              go_wp2_with fail
              refine (fPut_is (m : Int) ((v : Int) - 1) _ hn0 hn1 Hund.out).mono ?_
              rintro e w9 ⟨rfl, hb⟩
              have Hb9 := Lib.hid (Hb8.out.trans (hb.mono Hb8.out.size))
              have hc9 := cell_later Hc0.out Hb9.out
              clear hb hc8
              go_wp2_with fail
              go_roundg g
              case measure => omega
              case rel => exact ⟨j + 1, by have := Hjg.out; omega, by go_num, Hb9.out⟩
      · skip
        have hcut := (rowF_cutF Hmax.out Hr.out).1
        have hus : u.size ≤ 128 := by have := rowF_size Hmax.out Hr.out; rw [size_data]; exact this
        have Hcut := Lib.hid hcut
        clear hcut
        have hcz : (c == 0) = false := beq_eq_false_iff_ne.2 hc0
        go_enter Try.func6, Try.ntmps6
        go_wp2_with fail
        refine (fRow_is p1 c1 ns p2 c2 ws _ hz1 hz2 Hi1.out Hi2.out Hp1.out Hp2.out Hr.out).mono ?_
        rintro e w1 ⟨rfl, hb⟩
        have Hb1 := Lib.hid hb
        clear hb
        go_wp2_with fail
        refine (fCut_is u p2 c2 ws.length ws _ rfl (by unfold maxLen; omega) hz2 Hi2.out (Hp2.out.later Hb1.out) Hcut.out).mono ?_
        rintro e w2 ⟨a3, cap3, rfl, hn3, hb⟩
        have Hn3 := Lib.hid hn3
        have Hb2 := Lib.hid (Hb1.out.trans (hb.mono Hb1.out.size))
        clear hb hn3
        go_wp2_with fail
        refine (same_is a3 cap3 ns.length ns p1 c1 ns.length ns _ rfl rfl hz1 Hn3.out (Hp1.out.later Hb2.out) (b := true) (by simp)).mono ?_
        rintro e w3 ⟨rfl, q5, hq⟩
        have Hb3 : Hid (Below w.heap.size w w3) := Lib.hid (by rw [← hq]; exact below_drewN Hb2.out q5)
        clear hq Hn3
        go_wp2_with fail
        refine (fCut_is s p2 c2 ws.length ws _ rfl hs' hz2 Hi2.out (Hp2.out.later Hb3.out) Hc.out).mono ?_
        rintro e w4 ⟨a4, cap4, rfl, hn4, hb⟩
        have Hn4 := Lib.hid hn4
        have Hb4 := Lib.hid (Hb3.out.trans (hb.mono Hb3.out.size))
        clear hb hn4
        go_wp2_with fail
        have Hb5 := Hb4
        go_loopg [15] ns.length (fun g s15 wx => ∃ j : Nat, j + g = ns.length ∧ s15 = .int .i64 j ∧ Below w.heap.size w wx)
        case atStart => exact ⟨0, by omega, rfl, Hb5.out⟩
        case round =>
          obtain ⟨j, hjg, rfl, hb⟩ := hrel
          have Hb := Lib.hid hb
          clear hb
          cases gk with
          | zero =>
            obtain rfl : j = ns.length := by omega
            clear hjg
            go_wp2_with fail
            refine (wide_any _).mono ?_
            rintro e w6 ⟨rfl, hb⟩
            have Hb6 := Lib.hid (Hb.out.trans (hb.mono Hb.out.size))
            clear hb
            go_wp2_with fail
            go_ret
            exact ⟨rfl, Hb6.out⟩
          | succ g =>
            have hj : j < ns.length := by omega
            have hjz : ((j : Int) < (ns.length : Int)) := by omega
            obtain ⟨b1, o1, rfl, hc0⟩ := Hp1.out.at j hj
            obtain ⟨n, hn⟩ : ∃ n, ns[j]?.getD 0 = n := ⟨_, rfl⟩
            have hnb := Hi1.out j hj
            rw [hn] at hc0 hnb
            obtain ⟨hn0, hn1⟩ := hnb
            have Hc0 := Lib.hid hc0
            have hcr := cell_later hc0 Hb.out
            have Hjg := Lib.hid hjg
            clear hjg hn hc0
            by_cases hneg : n < 0
            · have Hneed := Lib.hid (need_less hneg)
              go_wp2_with fail
              refine (fNeed_is _ 1 1 [n] _ rfl (by simp) (ints_of (fun z hz => by simp at hz; omega)) (nums_one _ n) Hneed.out).mono ?_
              rintro e w6 ⟨rfl, hb⟩
              have Hb6 : Hid (Below w.heap.size w w6) := Lib.hid ((Hb.out.alloc Hb.out.size _).trans (hb.mono (by have := Hb.out.size; simp; omega)))
              have hc6 := cell_later Hc0.out Hb6.out
              clear hb
              go_wp2_with fail
              go_roundg g
              case measure => omega
              case rel => exact ⟨j + 1, by have := Hjg.out; omega, by go_num, Hb6.out⟩
            · obtain ⟨m, rfl⟩ := Int.eq_ofNat_of_zero_le (show 0 ≤ n by omega)
              have hm : m ≤ 9223372036854775807 := by omega
              have hv8 := widN_8 hm
              obtain ⟨v, hv⟩ : ∃ v, widN m = v := ⟨_, rfl⟩
              have hneed := need_one (show (0 : Int) ≤ (m : Int) by omega)
              rw [Int.toNat_natCast, hv] at hneed
              obtain ⟨hput, hget⟩ := put_need hm
              have hund := put_under hm
              rw [hv] at hput hget hund hv8
              obtain ⟨t, ht⟩ : ∃ t : ByteArray, t.data.toList = loN v m := ⟨bytes (loN v m), bytes_data _⟩
              rw [← ht] at hput hget
              have hts : t.size ≤ 8 := by rw [size_data, ht, loN_length]; exact hv8
              obtain ⟨t2, b2, hp2'⟩ := putF_text (m : Int) ((v : Int) - 1)
              rw [hp2'] at hund
              have hb2 : (b2 == 0) = false := beq_eq_false_iff_ne.2 hund
              have Hneed := Lib.hid hneed
              have Hput := Lib.hid hput
              have Hget := Lib.hid hget
              have Hund := Lib.hid hp2'
              clear hneed hput hget hp2' ht hv hund
              have hcmp : ((m : Int) == (m : Int)) = true := by simp
              go_wp2_with fail
              refine (fNeed_is _ 1 1 [(m : Int)] _ rfl (by simp) (ints_of (fun z hz => by simp at hz; omega)) (nums_one _ _) Hneed.out).mono ?_
              rintro e w6 ⟨rfl, hb⟩
              have Hb6 : Hid (Below w.heap.size w w6) := Lib.hid ((Hb.out.alloc Hb.out.size _).trans (hb.mono (by have := Hb.out.size; simp; omega)))
              have hc6 := cell_later Hc0.out Hb6.out
              clear hb
              go_wp2_with fail
              refine (fPut_is (m : Int) (v : Int) _ hn0 hn1 Hput.out).mono ?_
              rintro e w7 ⟨rfl, hb⟩
              have Hb7 := Lib.hid (Hb6.out.trans (hb.mono Hb6.out.size))
              have hc7 := cell_later Hc0.out Hb7.out
              clear hb hc6
              go_wp2_with fail
              refine (fGet_is t _ (by unfold maxLen; omega) Hget.out).mono ?_
              rintro e w8 ⟨rfl, hb⟩
              have Hb8 := Lib.hid (Hb7.out.trans (hb.mono Hb7.out.size))
              have hc8 := cell_later Hc0.out Hb8.out
              clear hb hc7
              go_wp2_with fail
              refine (fPut_is (m : Int) ((v : Int) - 1) _ hn0 hn1 Hund.out).mono ?_
              rintro e w9 ⟨rfl, hb⟩
              have Hb9 := Lib.hid (Hb8.out.trans (hb.mono Hb8.out.size))
              have hc9 := cell_later Hc0.out Hb9.out
              clear hb hc8
              go_wp2_with fail
              go_roundg g
              case measure => omega
              case rel => exact ⟨j + 1, by have := Hjg.out; omega, by go_num, Hb9.out⟩
    · by_cases hc0 : c = 0
      · subst hc0
        have hbz : (b == 0) = false := beq_eq_false_iff_ne.2 hb0
        have hrow := (cutF_rowF Hc.out).1
        have hl := (cutF_rowF Hc.out).2
        have hll : l.length ≤ 16 := by
          have h1 := cutF_zero Hc.out
          have h2 := (cut_row ws s.data.toList l h1.2.1 h1.2.2.1 h1.2.2.2).2.1
          omega
        have Hl : Hid (Ints l) := Lib.hid (ints_of fun z hz => by have := hl z hz; omega)
        have Hrow := Lib.hid hrow
        clear hrow hl
        go_enter Try.func6, Try.ntmps6
        go_wp2_with fail
        refine (fRow_is p1 c1 ns p2 c2 ws _ hz1 hz2 Hi1.out Hi2.out Hp1.out Hp2.out Hr.out).mono ?_
        rintro e w1 ⟨rfl, hb⟩
        have Hb1 := Lib.hid hb
        clear hb
        go_wp2_with fail
        obtain ⟨w3, hw3⟩ : ∃ w3, w1 = w3 := ⟨_, rfl⟩
        subst hw3
        have Hb3 := Hb1
        refine (fCut_is s p2 c2 ws.length ws _ rfl hs' hz2 Hi2.out (Hp2.out.later Hb3.out) Hc.out).mono ?_
        rintro e w4 ⟨a4, cap4, rfl, hn4, hb⟩
        have Hn4 := Lib.hid hn4
        have Hb4 := Lib.hid (Hb3.out.trans (hb.mono Hb3.out.size))
        clear hb hn4
        go_wp2_with fail
        refine (fRow_is a4 cap4 l p2 c2 ws _ (by omega) hz2 Hl.out Hi2.out Hn4.out (Hp2.out.later Hb4.out) Hrow.out).mono ?_
        rintro e w5 ⟨rfl, hb⟩
        have Hb5 := Lib.hid (Hb4.out.trans (hb.mono Hb4.out.size))
        clear hb Hn4
        go_wp2_with fail
        go_loopg [15] ns.length (fun g s15 wx => ∃ j : Nat, j + g = ns.length ∧ s15 = .int .i64 j ∧ Below w.heap.size w wx)
        case atStart => exact ⟨0, by omega, rfl, Hb5.out⟩
        case round =>
          obtain ⟨j, hjg, rfl, hb⟩ := hrel
          have Hb := Lib.hid hb
          clear hb
          cases gk with
          | zero =>
            obtain rfl : j = ns.length := by omega
            clear hjg
            go_wp2_with fail
            refine (wide_any _).mono ?_
            rintro e w6 ⟨rfl, hb⟩
            have Hb6 := Lib.hid (Hb.out.trans (hb.mono Hb.out.size))
            clear hb
            go_wp2_with fail
            go_ret
            exact ⟨rfl, Hb6.out⟩
          | succ g =>
            have hj : j < ns.length := by omega
            have hjz : ((j : Int) < (ns.length : Int)) := by omega
            obtain ⟨b1, o1, rfl, hc0⟩ := Hp1.out.at j hj
            obtain ⟨n, hn⟩ : ∃ n, ns[j]?.getD 0 = n := ⟨_, rfl⟩
            have hnb := Hi1.out j hj
            rw [hn] at hc0 hnb
            obtain ⟨hn0, hn1⟩ := hnb
            have Hc0 := Lib.hid hc0
            have hcr := cell_later hc0 Hb.out
            have Hjg := Lib.hid hjg
            clear hjg hn hc0
            by_cases hneg : n < 0
            · have Hneed := Lib.hid (need_less hneg)
              go_wp2_with fail
              refine (fNeed_is _ 1 1 [n] _ rfl (by simp) (ints_of (fun z hz => by simp at hz; omega)) (nums_one _ n) Hneed.out).mono ?_
              rintro e w6 ⟨rfl, hb⟩
              have Hb6 : Hid (Below w.heap.size w w6) := Lib.hid ((Hb.out.alloc Hb.out.size _).trans (hb.mono (by have := Hb.out.size; simp; omega)))
              have hc6 := cell_later Hc0.out Hb6.out
              clear hb
              go_wp2_with fail
              go_roundg g
              case measure => omega
              case rel => exact ⟨j + 1, by have := Hjg.out; omega, by go_num, Hb6.out⟩
            · obtain ⟨m, rfl⟩ := Int.eq_ofNat_of_zero_le (show 0 ≤ n by omega)
              have hm : m ≤ 9223372036854775807 := by omega
              have hv8 := widN_8 hm
              obtain ⟨v, hv⟩ : ∃ v, widN m = v := ⟨_, rfl⟩
              have hneed := need_one (show (0 : Int) ≤ (m : Int) by omega)
              rw [Int.toNat_natCast, hv] at hneed
              obtain ⟨hput, hget⟩ := put_need hm
              have hund := put_under hm
              rw [hv] at hput hget hund hv8
              obtain ⟨t, ht⟩ : ∃ t : ByteArray, t.data.toList = loN v m := ⟨bytes (loN v m), bytes_data _⟩
              rw [← ht] at hput hget
              have hts : t.size ≤ 8 := by rw [size_data, ht, loN_length]; exact hv8
              obtain ⟨t2, b2, hp2'⟩ := putF_text (m : Int) ((v : Int) - 1)
              rw [hp2'] at hund
              have hb2 : (b2 == 0) = false := beq_eq_false_iff_ne.2 hund
              have Hneed := Lib.hid hneed
              have Hput := Lib.hid hput
              have Hget := Lib.hid hget
              have Hund := Lib.hid hp2'
              clear hneed hput hget hp2' ht hv hund
              have hcmp : ((m : Int) == (m : Int)) = true := by simp
              go_wp2_with fail
              refine (fNeed_is _ 1 1 [(m : Int)] _ rfl (by simp) (ints_of (fun z hz => by simp at hz; omega)) (nums_one _ _) Hneed.out).mono ?_
              rintro e w6 ⟨rfl, hb⟩
              have Hb6 : Hid (Below w.heap.size w w6) := Lib.hid ((Hb.out.alloc Hb.out.size _).trans (hb.mono (by have := Hb.out.size; simp; omega)))
              have hc6 := cell_later Hc0.out Hb6.out
              clear hb
              go_wp2_with fail
              refine (fPut_is (m : Int) (v : Int) _ hn0 hn1 Hput.out).mono ?_
              rintro e w7 ⟨rfl, hb⟩
              have Hb7 := Lib.hid (Hb6.out.trans (hb.mono Hb6.out.size))
              have hc7 := cell_later Hc0.out Hb7.out
              clear hb hc6
              go_wp2_with fail
              refine (fGet_is t _ (by unfold maxLen; omega) Hget.out).mono ?_
              rintro e w8 ⟨rfl, hb⟩
              have Hb8 := Lib.hid (Hb7.out.trans (hb.mono Hb7.out.size))
              have hc8 := cell_later Hc0.out Hb8.out
              clear hb hc7
              go_wp2_with fail
              refine (fPut_is (m : Int) ((v : Int) - 1) _ hn0 hn1 Hund.out).mono ?_
              rintro e w9 ⟨rfl, hb⟩
              have Hb9 := Lib.hid (Hb8.out.trans (hb.mono Hb8.out.size))
              have hc9 := cell_later Hc0.out Hb9.out
              clear hb hc8
              go_wp2_with fail
              go_roundg g
              case measure => omega
              case rel => exact ⟨j + 1, by have := Hjg.out; omega, by go_num, Hb9.out⟩
      · skip
        have hbz : (b == 0) = false := beq_eq_false_iff_ne.2 hb0
        have hcz : (c == 0) = false := beq_eq_false_iff_ne.2 hc0
        go_enter Try.func6, Try.ntmps6
        go_wp2_with fail
        refine (fRow_is p1 c1 ns p2 c2 ws _ hz1 hz2 Hi1.out Hi2.out Hp1.out Hp2.out Hr.out).mono ?_
        rintro e w1 ⟨rfl, hb⟩
        have Hb1 := Lib.hid hb
        clear hb
        go_wp2_with fail
        obtain ⟨w3, hw3⟩ : ∃ w3, w1 = w3 := ⟨_, rfl⟩
        subst hw3
        have Hb3 := Hb1
        refine (fCut_is s p2 c2 ws.length ws _ rfl hs' hz2 Hi2.out (Hp2.out.later Hb3.out) Hc.out).mono ?_
        rintro e w4 ⟨a4, cap4, rfl, hn4, hb⟩
        have Hn4 := Lib.hid hn4
        have Hb4 := Lib.hid (Hb3.out.trans (hb.mono Hb3.out.size))
        clear hb hn4
        go_wp2_with fail
        have Hb5 := Hb4
        go_loopg [15] ns.length (fun g s15 wx => ∃ j : Nat, j + g = ns.length ∧ s15 = .int .i64 j ∧ Below w.heap.size w wx)
        case atStart => exact ⟨0, by omega, rfl, Hb5.out⟩
        case round =>
          obtain ⟨j, hjg, rfl, hb⟩ := hrel
          have Hb := Lib.hid hb
          clear hb
          cases gk with
          | zero =>
            obtain rfl : j = ns.length := by omega
            clear hjg
            go_wp2_with fail
            refine (wide_any _).mono ?_
            rintro e w6 ⟨rfl, hb⟩
            have Hb6 := Lib.hid (Hb.out.trans (hb.mono Hb.out.size))
            clear hb
            go_wp2_with fail
            go_ret
            exact ⟨rfl, Hb6.out⟩
          | succ g =>
            have hj : j < ns.length := by omega
            have hjz : ((j : Int) < (ns.length : Int)) := by omega
            obtain ⟨b1, o1, rfl, hc0⟩ := Hp1.out.at j hj
            obtain ⟨n, hn⟩ : ∃ n, ns[j]?.getD 0 = n := ⟨_, rfl⟩
            have hnb := Hi1.out j hj
            rw [hn] at hc0 hnb
            obtain ⟨hn0, hn1⟩ := hnb
            have Hc0 := Lib.hid hc0
            have hcr := cell_later hc0 Hb.out
            have Hjg := Lib.hid hjg
            clear hjg hn hc0
            by_cases hneg : n < 0
            · have Hneed := Lib.hid (need_less hneg)
              go_wp2_with fail
              refine (fNeed_is _ 1 1 [n] _ rfl (by simp) (ints_of (fun z hz => by simp at hz; omega)) (nums_one _ n) Hneed.out).mono ?_
              rintro e w6 ⟨rfl, hb⟩
              have Hb6 : Hid (Below w.heap.size w w6) := Lib.hid ((Hb.out.alloc Hb.out.size _).trans (hb.mono (by have := Hb.out.size; simp; omega)))
              have hc6 := cell_later Hc0.out Hb6.out
              clear hb
              go_wp2_with fail
              go_roundg g
              case measure => omega
              case rel => exact ⟨j + 1, by have := Hjg.out; omega, by go_num, Hb6.out⟩
            · obtain ⟨m, rfl⟩ := Int.eq_ofNat_of_zero_le (show 0 ≤ n by omega)
              have hm : m ≤ 9223372036854775807 := by omega
              have hv8 := widN_8 hm
              obtain ⟨v, hv⟩ : ∃ v, widN m = v := ⟨_, rfl⟩
              have hneed := need_one (show (0 : Int) ≤ (m : Int) by omega)
              rw [Int.toNat_natCast, hv] at hneed
              obtain ⟨hput, hget⟩ := put_need hm
              have hund := put_under hm
              rw [hv] at hput hget hund hv8
              obtain ⟨t, ht⟩ : ∃ t : ByteArray, t.data.toList = loN v m := ⟨bytes (loN v m), bytes_data _⟩
              rw [← ht] at hput hget
              have hts : t.size ≤ 8 := by rw [size_data, ht, loN_length]; exact hv8
              obtain ⟨t2, b2, hp2'⟩ := putF_text (m : Int) ((v : Int) - 1)
              rw [hp2'] at hund
              have hb2 : (b2 == 0) = false := beq_eq_false_iff_ne.2 hund
              have Hneed := Lib.hid hneed
              have Hput := Lib.hid hput
              have Hget := Lib.hid hget
              have Hund := Lib.hid hp2'
              clear hneed hput hget hp2' ht hv hund
              have hcmp : ((m : Int) == (m : Int)) = true := by simp
              go_wp2_with fail
              refine (fNeed_is _ 1 1 [(m : Int)] _ rfl (by simp) (ints_of (fun z hz => by simp at hz; omega)) (nums_one _ _) Hneed.out).mono ?_
              rintro e w6 ⟨rfl, hb⟩
              have Hb6 : Hid (Below w.heap.size w w6) := Lib.hid ((Hb.out.alloc Hb.out.size _).trans (hb.mono (by have := Hb.out.size; simp; omega)))
              have hc6 := cell_later Hc0.out Hb6.out
              clear hb
              go_wp2_with fail
              refine (fPut_is (m : Int) (v : Int) _ hn0 hn1 Hput.out).mono ?_
              rintro e w7 ⟨rfl, hb⟩
              have Hb7 := Lib.hid (Hb6.out.trans (hb.mono Hb6.out.size))
              have hc7 := cell_later Hc0.out Hb7.out
              clear hb hc6
              go_wp2_with fail
              refine (fGet_is t _ (by unfold maxLen; omega) Hget.out).mono ?_
              rintro e w8 ⟨rfl, hb⟩
              have Hb8 := Lib.hid (Hb7.out.trans (hb.mono Hb7.out.size))
              have hc8 := cell_later Hc0.out Hb8.out
              clear hb hc7
              go_wp2_with fail
              refine (fPut_is (m : Int) ((v : Int) - 1) _ hn0 hn1 Hund.out).mono ?_
              rintro e w9 ⟨rfl, hb⟩
              have Hb9 := Lib.hid (Hb8.out.trans (hb.mono Hb8.out.size))
              have hc9 := cell_later Hc0.out Hb9.out
              clear hb hc8
              go_wp2_with fail
              go_roundg g
              case measure => omega
              case rel => exact ⟨j + 1, by have := Hjg.out; omega, by go_num, Hb9.out⟩

end Go.Proofs.Ytjdhpemkajijnaa
