/-
  The contract of the document's Decode of hexadecimal digits.
-/
import Derived.Test.YtjbdejkmmncmcaaHRef
import Derived.Test.YtjbdejkmmncmcaaOwn64
namespace Go.Proofs.Ytjbdejkmmncmcaa
open Go.RowKit

def asZ (ds : List Nat) : List Int := ds.map fun n : Nat => (n : Int)
theorem asZ_length (ds : List Nat) : (asZ ds).length = ds.length := by simp [asZ]
theorem asZ_snoc (ds : List Nat) (a : Nat) : asZ (ds ++ [a]) = asZ ds ++ [(a : Int)] := by simp [asZ]
theorem asZ_get (ds : List Nat) (j : Nat) (h : j < (asZ ds).length) : (asZ ds)[j] = ((ds[j]'(by rwa [asZ_length] at h) : Nat) : Int) := by simp [asZ]
theorem drop_at {s : ByteArray} {k : Nat} (h : k < s.size) : s.data.toList.drop k = s[k] :: s.data.toList.drop (k + 1) := by
  rw [List.drop_eq_getElem_cons (by rw [← size_data]; exact h)]; rfl
theorem white_drop {s : ByteArray} {k : Nat} (h : k < s.size) : (s.data.toList.drop k).all whiteB = (whiteB s[k] && (s.data.toList.drop (k + 1)).all whiteB) := by
  rw [drop_at h]; rfl
/-- What is ahead once the end was met. -/
def restH (ds : List Nat) (t : List UInt8) : List UInt8 × Int := if t.all whiteB then (pairsH ds, 0) else ([], 4)

/-- Two by two, digits become bytes: the loop's own words. -/
theorem pairs_more {ds : List Nat} {m : Nat} {l : List UInt8} (h : m + 1 < ds.length) (hl : l ++ pairsH (ds.drop m) = pairsH ds) :
    (l ++ [UInt8.ofNat (16 * ds[m] + ds[m + 1])]) ++ pairsH (ds.drop (m + 2)) = pairsH ds := by
  rw [← hl, pairsH_drop (k := m) (List.getElem?_eq_getElem (by omega)) (List.getElem?_eq_getElem h)]
  simp
theorem pair_byte (a b : Nat) : ((16 * (a : Int) + (b : Int)) % 256) = ((UInt8.ofNat (16 * a + b)).toNat : Int) := by
  rw [UInt8.toNat_ofNat']; omega

set_option maxRecDepth 100000 in
set_option maxHeartbeats 2000000 in
theorem rDecH_is (s : ByteArray) (w : World) (hs : s.size ≤ 1000000) {a : List UInt8} {b : Int} (h : decH s.data.toList = (a, b)) :
    Calls Try.prog 11 #[.string s] w fun e w' => e = .returned (.tuple #[.string (bytes a), .int .i64 b]) ∧ Below w.heap.size w w' := by
  have H := Lib.hid h
  clear h
  go_enter Try.func11, Try.ntmps11
  go_wp2_with fail
  go_loopg [4, 5, 6] s.size (fun g s4 s5 s6 wx => ∃ (i : Nat) (ds : List Nat), Aside (Own64 wx w.heap.size s4 (asZ ds)) ∧ ds.length ≤ i ∧ i ≤ s.size ∧ Aside (∀ d ∈ ds, d < 16) ∧ Below w.heap.size w wx ∧
    ((s5 = .int .i64 (-1) ∧ s6 = .int .i64 i ∧ i + g = s.size ∧ Aside (decH s.data.toList = decGo ds (s.data.toList.drop i))) ∨ (s5 = .int .i64 i ∧ s6 = .int .i64 ((i : Int) + 1) ∧ i < s.size ∧ Aside (decH s.data.toList = restH ds (s.data.toList.drop (i + 1))))))
  case atStart => exact ⟨0, [], Own64.made w 0 #[] (Nat.le_refl _) (by decide) rfl, by simp, by omega, (fun d hd => by simp at hd), (Below.refl _ w).alloc (Nat.le_refl _) _, .inl ⟨rfl, rfl, by omega, rfl⟩⟩
  case round =>
    obtain ⟨i, ds, HO, hdl, his, HD, hb, hcase⟩ := hrel
    have Hb := Lib.hid hb
    clear hb
    rcases hcase with ⟨rfl, rfl, hig, HI⟩ | ⟨rfl, rfl, hi, HI⟩
    · cases gk with
      | zero =>
        obtain rfl : i = s.size := by omega
        have Hr : Hid ((a, b) = ([], 5)) := Lib.hid (by rw [← H.out, HI.out, List.drop_of_length_le (by rw [← size_data]; exact Nat.le_refl _)]; rfl)
        clear hig his
        go_wp2_with fail
        go_ret2
        obtain ⟨rfl, rfl⟩ := Prod.mk.inj Hr.out
        exact ⟨rfl, Hb.out⟩
      | succ g =>
        have hi : i < s.size := by omega
        have hiz : (i : Int) < (s.size : Int) := by omega
        have hd := HI.out
        rw [drop_at hi] at hd
        have Hhex := Lib.hid (fun W => refHex_any (s[i].toNat : Int) W)
        by_cases h62 : s[i].toNat = 62
        · have h62' : ((s[i].toNat : Int) == 62) = true := beq_iff_eq.2 (by omega)
          rw [decGo_end h62] at hd
          have Hd := Lib.hid hd
          clear hd h62
          go_wp2_with fail
          refine (Hhex.out _).mono ?_
          rintro e w1 ⟨rfl, rfl⟩
          go_wp2_with fail
          go_roundg g
          case measure => omega
          case rel => exact ⟨i, ds, HO, hdl, his, HD, Hb.out, .inr ⟨rfl, rfl, hi, Hd.out⟩⟩
        · have h62' : ((s[i].toNat : Int) == 62) = false := beq_eq_false_iff_ne.2 (by omega)
          rcases hexI_range s[i] with hx | ⟨hx0, hx1⟩
          · have hxn : ¬ (0 : Int) ≤ -1 := by omega
            by_cases hw : kindI (s[i].toNat : Int) = 0
            · rw [decGo_white h62 (by rw [hx]; omega) hw] at hd
              have Hd := Lib.hid hd
              have Hkind := Lib.hid (fun W => refKind_any (s[i].toNat : Int) W)
              have Hhex2 := Lib.hid (fun W => by have := Hhex.out W; rwa [hx] at this)
              have Hkind2 := Lib.hid (fun W => by have := Hkind.out W; rwa [hw] at this)
              clear hd h62 hx hw Hhex Hkind
              go_wp2_with fail
              refine (Hhex2.out _).mono ?_
              rintro e w1 ⟨rfl, rfl⟩
              go_wp2_with fail
              refine (Hkind2.out _).mono ?_
              rintro e w1 ⟨rfl, rfl⟩
              go_wp2_with fail
              go_roundg g
              case measure => omega
              case rel => exact ⟨i + 1, ds, HO, by omega, by omega, HD, Hb.out, .inl ⟨rfl, by go_num, by omega, Hd.out⟩⟩
            · rw [decGo_bad h62 (by rw [hx]; omega) hw] at hd
              have Hd := Lib.hid hd
              have hwn : (kindI (s[i].toNat : Int) != 0) = true := by simpa using hw
              have Hkind := Lib.hid (fun W => refKind_any (s[i].toNat : Int) W)
              have Hhex2 := Lib.hid (fun W => by have := Hhex.out W; rwa [hx] at this)
              clear hd h62 hx hw Hhex
              go_wp2_with fail
              refine (Hhex2.out _).mono ?_
              rintro e w1 ⟨rfl, rfl⟩
              go_wp2_with fail
              refine (Hkind.out _).mono ?_
              rintro e w1 ⟨rfl, rfl⟩
              go_wp2_with fail
              go_ret2
              obtain ⟨rfl, rfl⟩ := Prod.mk.inj (H.out.symm.trans Hd.out)
              exact ⟨rfl, Hb.out⟩
          · rw [decGo_digit h62 hx0] at hd
            obtain ⟨d, hdn⟩ := Int.eq_ofNat_of_zero_le hx0
            rw [hdn, Int.toNat_natCast] at hd
            have hd16 : d < 16 := by omega
            have Hd := Lib.hid hd
            have Hhex2 := Lib.hid (fun W => by have := Hhex.out W; rwa [hdn] at this)
            have hal : (asZ ds).length ≤ 1000000 := by rw [asZ_length]; omega
            clear hd h62 hdn hx0 hx1 Hhex
            go_wp2_with fail
            refine (Hhex2.out _).mono ?_
            rintro e w1 ⟨rfl, rfl⟩
            go_wp2_with (at_builtin; refine wpList_append64 rfl (.tmp 33) (.tmp 35) rfl w.heap.size _ (asZ ds) rfl (HO.out.alloc _) ⟨wr.heap.size, 0, none⟩ 1 [(d : Int)] rfl (cells_newZ _ _) (by simp) (by simp; omega) w (Hb.out.alloc Hb.out.size _) (by have := Hb.out.size; simp; omega) ?_; intro v2 w2 Ho2 Hb2 _)
            go_roundg g
            case measure => omega
            case rel => exact ⟨i + 1, ds ++ [d], by show Own64 _ _ _ _; rw [asZ_snoc]; exact Ho2.out, by rw [List.length_append]; simp; omega, by omega, by
              intro x hx
              rcases List.mem_append.1 hx with hx | hx
              · exact HD.out x hx
              · simp at hx; omega, Hb2.out, .inl ⟨rfl, by go_num, by omega, Hd.out⟩⟩
    · have hi1 : (i : Int) + 1 < (s.size : Int) ∨ ¬ (i : Int) + 1 < (s.size : Int) := by omega
      have hin : ¬ (i : Int) < 0 := by omega
      rcases hi1 with hi1 | hi1
      all_goals
        go_wp2_with fail
        go_loopg [8] (s.size - (i + 1)) (fun g s8 wx => ∃ j : Nat, j + g = s.size ∧ s8 = .int .i64 j ∧ Aside ((s.data.toList.drop (i + 1)).all whiteB = (s.data.toList.drop j).all whiteB) ∧ wr = wx)
        case atStart => exact ⟨i + 1, by omega, by go_num, rfl, rfl⟩
        case round =>
          obtain ⟨j, hjg, rfl, HW, rfl⟩ := hrel
          cases gk with
          | succ g =>
            have hj : j < s.size := by omega
            have hjz : (j : Int) < (s.size : Int) := by omega
            have Hkind := Lib.hid (fun W => refKind_any (s[j].toNat : Int) W)
            have hw := HW.out
            rw [white_drop hj] at hw
            by_cases hk : kindI (s[j].toNat : Int) = 0
            · have hwb : whiteB s[j] = true := decide_eq_true hk
              rw [hwb, Bool.true_and] at hw
              have Hw := Lib.hid hw
              have Hkind2 := Lib.hid (fun W => by have := Hkind.out W; rwa [hk] at this)
              clear hw hwb hk Hkind
              go_wp2_with fail
              refine (Hkind2.out _).mono ?_
              rintro e w1 ⟨rfl, rfl⟩
              go_wp2_with fail
              go_roundg g
              case measure => omega
              case rel => exact ⟨j + 1, by omega, by go_num, Hw.out, rfl⟩
            · have hwb : whiteB s[j] = false := decide_eq_false hk
              rw [hwb, Bool.false_and] at hw
              have hkn : (kindI (s[j].toNat : Int) != 0) = true := by simpa using hk
              have Hr : Hid ((a, b) = ([], 4)) := Lib.hid (by rw [← H.out, HI.out]; unfold restH; rw [hw]; rfl)
              clear hw hwb hk
              go_wp2_with fail
              refine (Hkind.out _).mono ?_
              rintro e w1 ⟨rfl, rfl⟩
              go_wp2_with fail
              go_ret2
              obtain ⟨rfl, rfl⟩ := Prod.mk.inj Hr.out
              exact ⟨rfl, Hb.out⟩
          | zero =>
            obtain rfl : j = s.size := by omega
            have Hr : Hid ((a, b) = (pairsH ds, 0)) := Lib.hid (by rw [← H.out, HI.out]; unfold restH; rw [HW.out, List.drop_of_length_le (by rw [← size_data]; exact Nat.le_refl _)]; rfl)
            have hal : (asZ ds).length = ds.length := asZ_length ds
            obtain ⟨g1, cap1, hv⟩ := HO.out.2
            rw [hal] at hv
            subst hv
            clear hjg hi1 hin
            by_cases hodd : ds.length % 2 = 1
            · have ho : (((ds.length : Int) % 2) == 1) = true := beq_iff_eq.2 (by omega)
              have hlong : (asZ ds).length ≤ 1000000 := by rw [hal]; omega
              go_wp2_with (at_builtin; refine wpList_append64 rfl (.tmp 61) (.tmp 62) rfl w.heap.size _ (asZ ds) rfl (HO.out.alloc _) ⟨wr.heap.size, 0, none⟩ 1 [0] rfl (cells_newZ _ _) (by simp) (by simp; omega) w (Hb.out.alloc Hb.out.size _) (by have := Hb.out.size; simp; omega) ?_; intro v2 w2 Ho2 Hb2 hform; obtain ⟨g2, cap2, hf⟩ := hform; rw [hal] at hf; subst hf)
              have HO2 : Hid (Own64 w2 w.heap.size (.slice (some ⟨g2, 0, none⟩) (ds.length + 1) cap2) (asZ (ds ++ [0]))) := Lib.hid (by rw [asZ_snoc]; exact Ho2.out)
              have Hpad : Hid (pairsH (ds ++ [0]) = a) := Lib.hid ((pairsH_pad ds hodd).trans (Prod.mk.inj Hr.out).1.symm)
              have Hb0 : b = 0 := (Prod.mk.inj Hr.out).2
              obtain ⟨g2', cap2', hv2, hlt2, hcells⟩ := HO2.out.at
              have hG : g2 = g2' := by injection hv2 with h1 _ _; injection h1 with h1; injection h1
              subst hG
              clear hv2
              have Hcells := Lib.hid hcells
              have Hlt2 := Lib.hid hlt2
              clear hcells hlt2
              go_loopg [9, 10] (ds.length + 1) (fun g s9 s10 wx => ∃ (m : Nat) (l : List UInt8), m + g = (ds.length + 1) ∧ s10 = .int .i64 m ∧ Aside (Own8 wx w2.heap.size s9 l) ∧ Aside (m = 2 * l.length) ∧ Aside (l ++ pairsH ((ds ++ [0]).drop m) = pairsH (ds ++ [0])) ∧ Below w2.heap.size w2 wx)
              case atStart => exact ⟨0, [], by omega, rfl, Own8.made w2 0 #[] (Nat.le_refl _) (by decide) rfl, rfl, rfl, (Below.refl _ w2).alloc (Nat.le_refl _) _⟩
              case round =>
                obtain ⟨m, l, hkg, rfl, HL, HM, HP, hb3⟩ := hrel
                have Hb3 := Lib.hid hb3
                clear hb3
                cases gk with
                | zero =>
                  have hk : ¬ (m : Int) + 1 < ((ds.length + 1) : Int) := by omega
                  have hfin : l = a := by
                    have := HP.out
                    rw [List.drop_of_length_le (show (ds ++ [0]).length ≤ m by rw [List.length_append, List.length_singleton]; omega)] at this
                    rw [← Hpad.out, ← this]; exact (List.append_nil l).symm
                  subst hfin
                  have htext := HL.out.text
                  subst Hb0
                  have hkb : m ≤ 1000001 := by omega
                  clear hkg
                  go_wp2_with fail
                  go_ret2
                  exact ⟨rfl, Hb2.out.trans (Hb3.out.mono Hb2.out.size)⟩
                | succ g =>
                  have hml : m = 2 * l.length := HM.out
                  have hk1 : m + 1 < (ds.length + 1) := by omega
                  have hk : (m : Int) + 1 < ((ds.length + 1) : Int) := by omega
                  have hk0 : (m : Int) < ((ds.length + 1) : Int) := by omega
                  have q1 : ((m : Int) + 1).toNat = m + 1 := by omega
                  have q2 : 0 ≤ (m : Int) + 1 := by omega
                  have hlen2 : (ds ++ [0]).length = ds.length + 1 := by simp
                  have hx1 := Hcells.out m (by rw [asZ_length, hlen2]; omega)
                  have hx2 := Hcells.out (m + 1) (by rw [asZ_length, hlen2]; omega)
                  have hy1 := (Hb3.out.cell (p := ⟨g2, m, none⟩) Hlt2.out).trans hx1
                  have hy2 := (Hb3.out.cell (p := ⟨g2, m + 1, none⟩) Hlt2.out).trans hx2
                  have hmem : ∀ d ∈ (ds ++ [0]), d < 16 := fun d hd => by
                    rcases List.mem_append.1 hd with hd | hd
                    · exact HD.out d hd
                    · simp at hd; omega
                  have hm := Lib.hid (pairs_more (ds := ds ++ [0]) (l := l) (m := m) (by rw [hlen2]; omega) HP.out)
                  obtain ⟨x, hx⟩ : ∃ x, (ds ++ [0])[m]'(by rw [hlen2]; omega) = x := ⟨_, rfl⟩
                  obtain ⟨y, hy⟩ : ∃ y, (ds ++ [0])[m + 1]'(by rw [hlen2]; omega) = y := ⟨_, rfl⟩
                  have hx16 : x < 16 := by rw [← hx]; exact hmem _ (List.getElem_mem _)
                  have hy16 : y < 16 := by rw [← hy]; exact hmem _ (List.getElem_mem _)
                  rw [asZ_get, hx] at hy1
                  rw [asZ_get, hy] at hy2
                  rw [hx, hy] at hm
                  have hbyte := pair_byte x y
                  have q3 : IntKind.i64.wrap ((m : Int) + 1) = (m : Int) + 1 := by rw [IntKind.wrap_i64]; omega
                  have q4 : IntKind.i64.wrap (16 * (x : Int)) = 16 * (x : Int) := by rw [IntKind.wrap_i64]; omega
                  have q5 : IntKind.i64.wrap (16 * (x : Int) + (y : Int)) = 16 * (x : Int) + (y : Int) := by rw [IntKind.wrap_i64]; omega
                  have hkb : l.length ≤ 1000000 := by omega
                  clear hx1 hx2 hmem hx hy hlen2 hml
                  go_wp2_with fail
                  go_region_law (refine step_append8 rfl (.tmp 72) (.tmp 85) rfl _ _ l rfl (HL.out.drew.alloc _) ⟨wr.heap.size, 0, none⟩ 1 [UInt8.ofNat (16 * x + y)] rfl (cells_new1 _ _ _ (by first | rfl | exact hbyte | omega)) (by simp) (by simp; omega) _ (Hb3.out.drew.alloc Hb3.out.size _) (by have := Hb3.out.size; simp; omega) ?_; intro v3 w3 Ho3 Hb4 _)
                  all_goals
                    go_wp2_with fail
                    go_roundg (g - 1)
                    case measure => omega
                    case rel => exact ⟨m + 2, l ++ [UInt8.ofNat (16 * x + y)], by omega, by go_num, Ho3.out, by have := HM.out; show m + 2 = _; rw [List.length_append]; simp; omega, hm.out, Hb4.out⟩
            · have ho : (((ds.length : Int) % 2) == 1) = false := beq_eq_false_iff_ne.2 (by omega)
              have HO2 := Lib.hid HO.out
              go_wp2_with fail
              have Hpad : Hid (pairsH ds = a) := Lib.hid (Prod.mk.inj Hr.out).1.symm
              have Hb0 : b = 0 := (Prod.mk.inj Hr.out).2
              obtain ⟨g2', cap2', hv2, hlt2, hcells⟩ := HO2.out.at
              have hG : g1 = g2' := by injection hv2 with h1 _ _; injection h1 with h1; injection h1
              subst hG
              clear hv2
              have Hcells := Lib.hid hcells
              have Hlt2 := Lib.hid hlt2
              clear hcells hlt2
              go_loopg [9, 10] ds.length (fun g s9 s10 wx => ∃ (m : Nat) (l : List UInt8), m + g = ds.length ∧ s10 = .int .i64 m ∧ Aside (Own8 wx wr.heap.size s9 l) ∧ Aside (m = 2 * l.length) ∧ Aside (l ++ pairsH (ds.drop m) = pairsH ds) ∧ Below wr.heap.size wr wx)
              case atStart => exact ⟨0, [], by omega, rfl, Own8.made wr 0 #[] (Nat.le_refl _) (by decide) rfl, rfl, rfl, (Below.refl _ wr).alloc (Nat.le_refl _) _⟩
              case round =>
                obtain ⟨m, l, hkg, rfl, HL, HM, HP, hb3⟩ := hrel
                have Hb3 := Lib.hid hb3
                clear hb3
                cases gk with
                | zero =>
                  have hk : ¬ (m : Int) + 1 < (ds.length : Int) := by omega
                  have hfin : l = a := by
                    have := HP.out
                    rw [List.drop_of_length_le (show ds.length ≤ m by omega)] at this
                    rw [← Hpad.out, ← this]; exact (List.append_nil l).symm
                  subst hfin
                  have htext := HL.out.text
                  subst Hb0
                  have hkb : m ≤ 1000001 := by omega
                  clear hkg
                  go_wp2_with fail
                  go_ret2
                  exact ⟨rfl, Hb.out.trans (Hb3.out.mono Hb.out.size)⟩
                | succ g =>
                  have hml : m = 2 * l.length := HM.out
                  have hk1 : m + 1 < ds.length := by omega
                  have hk : (m : Int) + 1 < (ds.length : Int) := by omega
                  have hk0 : (m : Int) < (ds.length : Int) := by omega
                  have q1 : ((m : Int) + 1).toNat = m + 1 := by omega
                  have q2 : 0 ≤ (m : Int) + 1 := by omega
                  have hlen2 : ds.length = ds.length := rfl
                  have hx1 := Hcells.out m (by rw [asZ_length, hlen2]; omega)
                  have hx2 := Hcells.out (m + 1) (by rw [asZ_length, hlen2]; omega)
                  have hy1 := (Hb3.out.cell (p := ⟨g1, m, none⟩) Hlt2.out).trans hx1
                  have hy2 := (Hb3.out.cell (p := ⟨g1, m + 1, none⟩) Hlt2.out).trans hx2
                  have hmem : ∀ d ∈ (ds), d < 16 := HD.out
                  have hm := Lib.hid (pairs_more (ds := ds) (l := l) (m := m) (by rw [hlen2]; omega) HP.out)
                  obtain ⟨x, hx⟩ : ∃ x, (ds)[m]'(by rw [hlen2]; omega) = x := ⟨_, rfl⟩
                  obtain ⟨y, hy⟩ : ∃ y, (ds)[m + 1]'(by rw [hlen2]; omega) = y := ⟨_, rfl⟩
                  have hx16 : x < 16 := by rw [← hx]; exact hmem _ (List.getElem_mem _)
                  have hy16 : y < 16 := by rw [← hy]; exact hmem _ (List.getElem_mem _)
                  rw [asZ_get, hx] at hy1
                  rw [asZ_get, hy] at hy2
                  rw [hx, hy] at hm
                  have hbyte := pair_byte x y
                  have q3 : IntKind.i64.wrap ((m : Int) + 1) = (m : Int) + 1 := by rw [IntKind.wrap_i64]; omega
                  have q4 : IntKind.i64.wrap (16 * (x : Int)) = 16 * (x : Int) := by rw [IntKind.wrap_i64]; omega
                  have q5 : IntKind.i64.wrap (16 * (x : Int) + (y : Int)) = 16 * (x : Int) + (y : Int) := by rw [IntKind.wrap_i64]; omega
                  have hkb : l.length ≤ 1000000 := by omega
                  clear hx1 hx2 hmem hx hy hlen2 hml
                  go_wp2_with fail
                  go_region_law (refine step_append8 rfl (.tmp 72) (.tmp 85) rfl _ _ l rfl (HL.out.drew.alloc _) ⟨wr.heap.size, 0, none⟩ 1 [UInt8.ofNat (16 * x + y)] rfl (cells_new1 _ _ _ (by first | rfl | exact hbyte | omega)) (by simp) (by simp; omega) _ (Hb3.out.drew.alloc Hb3.out.size _) (by have := Hb3.out.size; simp; omega) ?_; intro v3 w3 Ho3 Hb4 _)
                  all_goals
                    go_wp2_with fail
                    go_roundg (g - 1)
                    case measure => omega
                    case rel => exact ⟨m + 2, l ++ [UInt8.ofNat (16 * x + y)], by omega, by go_num, Ho3.out, by have := HM.out; show m + 2 = _; rw [List.length_append]; simp; omega, hm.out, Hb4.out⟩

end Go.Proofs.Ytjbdejkmmncmcaa
