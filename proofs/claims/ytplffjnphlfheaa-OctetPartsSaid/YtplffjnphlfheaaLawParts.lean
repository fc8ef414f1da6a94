/-
  The walk of the law OctetParts.
-/
import Derived.Test.YtplffjnphlfheaaLawLines
import Derived.Test.YtplffjnphlfheaaPartsPlain
namespace Go.Proofs.Ytplffjnphlfheaa
open Go.RowKit

theorem collect_own (s : ByteArray) (w : World) (hs : s.size ≤ maxLen) (hb : s.size * 8 ≤ 140737488355328) :
    Calls Try.prog 19 #[.string s] w (Holds w.heap.size w (linesN s.data.toList)) :=
  (callsIn_wide (n := 3)).1 (collect_in 3 (by omega) s hs hb w)

theorem holds_lies {B : Nat} {w : World} {ks : List Nat} {v : Value} (hr : w.ownsRow B 3 1 v ks.length (cellsOf ks)) : ∃ a cap, v = .slice a ks.length cap ∧ Lies w a ks := by
  rcases hr.2 with ⟨rfl, h0⟩ | ⟨g, cap, cur, rfl, hg, hblk, h1, h2, h3, h4⟩
  · exact ⟨none, 0, by rw [h0], .inl (List.eq_nil_of_length_eq_zero h0)⟩
  · refine ⟨some ⟨g, 0, none⟩, cap, rfl, .inr ⟨g, rfl, (Array.getElem?_eq_some_iff.1 hblk).1, fun i hi => ?_⟩⟩
    have hcell := hr.cells (g := g) rfl i (.int .i64 ((ks[i]?.getD 0 : Nat) : Int)) (by
      unfold cellsOf
      rw [List.getElem?_map, List.getElem?_eq_getElem hi]; rfl)
    have e : (⟨g, 0, none⟩ : Addr).add i = ⟨g, i, none⟩ := by unfold Addr.add; split <;> simp_all
    rw [e] at hcell
    exact hcell

theorem Lies.two {W : World} {a : Option Addr} {ks : List Nat} (h : Lies W a ks) (i : Nat) {k b : Nat} (hk : ks[i]? = some k) (hb : ks[i + 1]? = some b) :
    ∃ g, a = some ⟨g, 0, none⟩ ∧ W.cell? ⟨g, i, none⟩ = some (.int .i64 (k : Int)) ∧ W.cell? ⟨g, i + 1, none⟩ = some (.int .i64 (b : Int)) := by
  have h1 := (List.getElem?_eq_some_iff.1 hk).1
  have h2 := (List.getElem?_eq_some_iff.1 hb).1
  obtain ⟨g, rfl, _, c1⟩ := h.at i h1
  obtain ⟨g', e, _, c2⟩ := h.at (i + 1) h2
  cases e
  rw [hk] at c1
  rw [hb] at c2
  exact ⟨g, rfl, c1, c2⟩

/-- Between two cuts: no end of a line so far. -/
def NoEnd (l : List UInt8) (k0 kk : Nat) : Prop := ∀ j, k0 ≤ j → j < kk → endsN l j = 0
theorem NoEnd.start (l : List UInt8) (k0 : Nat) : NoEnd l k0 k0 := fun j h1 h2 => by omega
theorem NoEnd.step {l : List UInt8} {k0 kk : Nat} (h : NoEnd l k0 kk) (h0 : endsN l kk = 0) : NoEnd l k0 (kk + 1) := fun j h1 h2 => by
  by_cases e : j = kk
  · rw [e]; exact h0
  · exact h j h1 (by omega)
theorem end_hits {l : List UInt8} {k0 b kk : Nat} (hb : IsBehind l k0 b) (h : NoEnd l k0 kk) (h1 : k0 ≤ kk) (h2 : kk < b) (hbl : b ≤ l.length) (hp : 0 < endsN l kk) : kk + endsN l kk = b := by
  rcases hb with ⟨rfl, h0⟩ | ⟨m, hm1, hm2, hm3, hm4, rfl⟩
  · have := h0 kk h1 h2; omega
  · by_cases e : kk < m
    · have := hm3 kk h1 e; omega
    · by_cases e' : kk = m
      · rw [e']
      · have := h m hm1 (by omega); omega
theorem no_end_last {l : List UInt8} {k0 b : Nat} (hb : IsBehind l k0 b) (h : NoEnd l k0 b) : b = l.length := by
  rcases hb with ⟨rfl, h0⟩ | ⟨m, hm1, hm2, hm3, hm4, rfl⟩
  · rfl
  · have := h m hm1 (by omega); omega

set_option maxRecDepth 100000 in
set_option maxHeartbeats 4000000 in
theorem parts_walk (s : ByteArray) (w : World) (hs : s.size ≤ maxLen) :
    Calls Try.prog 6 #[.string s] w (Yes w) := by
  have hnn := func_not_nil
  have hff := func_is_func
  by_cases h : (2000 : Int) < (s.size : Int)
  · go_enter Try.func6, Try.ntmps6
    go_wp2_with fail
    refine (octets_any _).mono ?_
    rintro e w1 ⟨rfl, hb⟩
    have Hb := Lib.hid hb
    clear hb
    go_wp2_with fail
    refine (lines_is _ _).mono ?_
    rintro e w2 ⟨rfl, rfl⟩
    go_wp2_with fail
    go_ret
    exact ⟨rfl, Hb.out.alloc (by have := Hb.out.size; omega) _⟩
  · have hd : decide ((2000 : Int) < (s.size : Int)) = false := by simpa using h
    have hsz : s.data.toList.length = s.size := by simp
    have Hsz := Lib.hid hsz
    clear hsz
    obtain ⟨i0, hi, hz0, hz1, hz2⟩ := info_parts infoInt
    go_enter Try.func6, Try.ntmps6
    go_wp2_with fail
    refine (octets_any _).mono ?_
    rintro e w1 ⟨rfl, hb⟩
    have Hb := Lib.hid hb
    clear hb
    go_wp2_with fail
    refine (lines_is _ _).mono ?_
    rintro e w2 ⟨rfl, hw2⟩
    have Hb2 : Hid (Below w.heap.size w w2) := Lib.hid (by rw [← hw2]; exact Hb.out.alloc (by have := Hb.out.size; omega) _)
    clear hw2
    go_wp2_with fail
    go_loopg [3] s.size (fun g s3 wx => ∃ k : Nat, k ≤ s.size ∧ s.size ≤ k + g ∧ s3 = .int .i64 k ∧ Below w.heap.size w wx)
    case atStart => exact ⟨0, Nat.zero_le _, by omega, rfl, Hb2.out⟩
    case round =>
      obtain ⟨k, hk, hkg, rfl, hB⟩ := hrel
      have HB := Lib.hid hB
      clear hB
      by_cases hlt : k < s.size
      · have h1 := spanN_pos s k hlt
        have h2 := spanN_le s.data.toList [kindI (s[k].toNat : Int)] k
        have h3 := spanN_all s.data.toList k (by rw [Hsz.out]; omega)
        rw [Hsz.out] at h2 h3
        have hz := kindI_range (s[k].toNat : Int)
        obtain ⟨z, hzz⟩ : ∃ z, kindI (s[k].toNat : Int) = z := ⟨_, rfl⟩
        have Hz := Lib.hid hzz
        rw [hzz] at h1 h2 hz
        clear hzz
        obtain ⟨hz', hz''⟩ := hz
        obtain ⟨n, hn⟩ : ∃ n, spanN s.data.toList [z] k = n := ⟨_, rfl⟩
        have Hn : Hid (spanI s.data.toList (k : Int) [z] = (n : Int)) := Lib.hid (by rw [spanI_nat, hn])
        have Hall : Hid (spanI s.data.toList (k : Int) [0, 1, 2] = (s.size : Int) - (k : Int)) := Lib.hid (by rw [spanI_nat, h3]; omega)
        rw [hn] at h1 h2
        clear hn h3
        go_wp2_with fail
        refine (kind_any _ _).mono ?_
        rintro e w3 ⟨rfl, rfl⟩
        rw [Hz.out]
        go_wp2_with fail
        refine (span_is _ _ _ 1 1 [z] _ hs (by simp) (nums_new _ [z] _ rfl) rfl Hn.out).mono ?_
        rintro e w3 ⟨rfl, rfl⟩
        go_wp2_with fail
        refine (span_is _ _ _ 3 3 [0, 1, 2] _ hs (by decide) (nums_new _ [0, 1, 2] _ (by simp)) rfl Hall.out).mono ?_
        rintro e w3 ⟨rfl, rfl⟩
        go_wp2_with fail
        go_roundg (gk - 1)
        case measure => omega
        case rel => exact ⟨k + n, by omega, by omega, by go_num, (HB.out.alloc HB.out.size _).alloc (by have := HB.out.size; simp; omega) _⟩
      · obtain rfl : k = s.size := by omega
        clear hk hkg
        obtain ⟨L, hL⟩ : ∃ L, linesN s.data.toList = L := ⟨_, rfl⟩
        have hLl : L.length ≤ s.size := by rw [← hL]; have := linesN_le s.data.toList; simpa using this
        have hcol := fun w => collect_own s w hs (by omega)
        have hnext := cuts_next s.data.toList
        obtain ⟨C, hC⟩ : ∃ C, cutsN s.data.toList = C := ⟨_, rfl⟩
        have hCl : C = L ++ [s.size] := by rw [← hC, ← hL]; unfold cutsN; rw [Hsz.out]
        rw [hL] at hcol
        rw [hL, hC, Hsz.out] at hnext
        have HC := Lib.hid hcol
        have HN := Lib.hid hnext
        have HCl := Lib.hid hCl
        clear hcol hnext hCl hC hL
        go_wp2_with fail
        refine (HC.out _).mono ?_
        rintro e w4 ⟨v, rfl, hrow, hb4⟩
        have Hb4 : Hid (Below w.heap.size w w4) := Lib.hid (HB.out.trans (hb4.mono HB.out.size))
        have hsize := Hb4.out.size
        have hsize4 := hb4.size
        clear hb4
        go_wp2_with (at_builtin; refine wpList_append_own _ rfl _ _ 26 rfl wr.heap.size 3 i0 (.int .i64 0) 1 8 Try.underlying26 hi hz0 hz1 hz2 rfl (by decide) _ _ _ rfl (hrow.alloc _) ⟨w4.heap.size, 0, none⟩ 1 1 [.int .i64 (s.size : Int)] rfl rfl (cell_one_new _ _ _) (by simp [Value.oneCell']) (by unfold maxLen; omega) (by omega) (by simp; omega) ?_; intro v' w5 hown' hgrow hnil; clear hnil; obtain ⟨a, cap, rfl, hlies⟩ := holds_lies (ks := L ++ [s.size]) (by rw [List.length_append, cellsOf_snoc]; exact hown'))
        rw [← HCl.out] at hlies
        have HL := Lib.hid hlies
        have Hb5 : Hid (Below w.heap.size w w5) := Lib.hid ((Hb4.out.alloc (by omega) _).grown hgrow (by simp; omega) (fun j ej => by have h1 := HB.out.size; have h2 := (hrow.lt j ej).1; omega))
        clear hlies hown' hgrow hrow
        go_loopg [7] L.length (fun g s7 wx => ∃ i : Nat, i + g = L.length ∧ s7 = .int .i64 i ∧ w5 = wx)
        case atStart => exact ⟨0, by omega, rfl, rfl⟩
        case round =>
          obtain ⟨i, hig, rfl, rfl⟩ := hrel
          cases gk with
          | zero =>
            have hz : ¬ ((i : Int) < (L.length : Int)) := by omega
            have hz2 : ¬ ((i : Int) + 1 < (L.length : Int) + 1) := by omega
            have hib : i ≤ L.length := by omega
            clear hig
            go_wp2_with fail
            go_ret
            exact ⟨rfl, Hb5.out⟩
          | succ g =>
            have hz : ((i : Int) < (L.length : Int)) := by omega
            have hz2 : ((i : Int) + 1 < (L.length : Int) + 1) := by omega
            obtain ⟨k0, b, hk0, hb0, hbeh, hkl, hbl, hkb⟩ := HN.out i (by omega)
            obtain ⟨g1, rfl, c1, c2⟩ := HL.out.two i hk0 hb0
            have Hbeh := Lib.hid hbeh
            have Hig := Lib.hid hig
            clear hk0 hb0 hbeh hig
            go_wp2_with fail
            go_loopg [8, 9] (b - k0) (fun g2 s8 s9 wy => ∃ kk : Nat, kk + g2 = b ∧ k0 ≤ kk ∧ s8 = .int .i64 0 ∧ s9 = .int .i64 kk ∧ Aside (NoEnd s.data.toList k0 kk) ∧ w5 = wy)
            case atStart => exact ⟨k0, by omega, Nat.le_refl _, rfl, rfl, NoEnd.start _ _, rfl⟩
            case round =>
              obtain ⟨kk, hkg, hk0k, rfl, rfl, HE, rfl⟩ := hrel
              cases gk with
              | zero =>
                have hnot : ¬ ((kk : Int) < (b : Int)) := by omega
                have Hlast : Hid (b = s.size) := Lib.hid (by
                  have e : kk = b := by omega
                  have h1 : NoEnd s.data.toList k0 b := e ▸ HE.out
                  rw [no_end_last Hbeh.out h1, Hsz.out])
                have hlast : ¬ ((b : Int) < (s.size : Int)) := by have := Hlast.out; omega
                clear hkg
                go_wp2_with fail
                go_roundg g
                case measure => omega
                case rel => exact ⟨i + 1, by have := Hig.out; omega, by go_num, rfl⟩
              | succ g2 =>
                have hyes : ((kk : Int) < (b : Int)) := by omega
                have hkb' : kk < b := by omega
                obtain ⟨n, hn⟩ : ∃ n, endsN s.data.toList kk = n := ⟨_, rfl⟩
                have Hn : Hid (endsI s.data.toList (kk : Int) = (n : Int)) := Lib.hid (by rw [endsI_nat, hn])
                have Hkg := Lib.hid hkg
                clear hkg
                by_cases hp : 0 < n
                · have hit : kk + n = b := by
                    have h1 := end_hits Hbeh.out HE.out hk0k hkb' (by rw [Hsz.out]; exact hbl) (by rw [hn]; exact hp)
                    rw [hn] at h1; exact h1
                  have hbq : ((kk : Int) + (n : Int) == (b : Int)) = true := by rw [beq_iff_eq]; omega
                  have hkn : kk + n ≤ s.size := by omega
                  clear hit hn
                  go_wp2_with fail
                  refine (ends_is _ _ _ Hn.out).mono ?_
                  rintro e w6 ⟨rfl, rfl⟩
                  go_wp2_with fail
                  go_roundg g
                  case measure => omega
                  case rel => exact ⟨i + 1, by have := Hig.out; omega, by go_num, rfl⟩
                · obtain rfl : n = 0 := by omega
                  have H0 := Lib.hid hn
                  clear hn
                  go_wp2_with fail
                  refine (ends_is _ _ _ (r := 0) Hn.out).mono ?_
                  rintro e w6 ⟨rfl, rfl⟩
                  go_wp2_with fail
                  go_roundg g2
                  case measure => omega
                  case rel => exact ⟨kk + 1, by have := Hkg.out; omega, by omega, rfl, by go_num, HE.out.step H0.out, rfl⟩

end Go.Proofs.Ytplffjnphlfheaa
