/-
  TkOct, TkWithin, TkText: texts merged.
-/
import Derived.Test.YtejgcnmbngdkiaaGreatDoorNSkip
import Derived.Test.YtejgcnmbngdkiaaGreatDoorNOwn
import Derived.Test.YtejgcnmbngdkiaaGreatDoorNTok
/-
  token.octals, octal.
-/
namespace Go.Proofs.YtejgcnmbngdkiaaGreatDoor
section
open Go.RowKit
set_option maxRecDepth 100000

theorem octV_snoc (l : List UInt8) (c : UInt8) : octV (l ++ [c]) = (8 * octV l + (c.toNat - 48)) % 256 := by
  unfold octV; rw [List.foldl_append]; rfl
theorem octV_lt : ∀ l : List UInt8, octV l < 256 := fun l => by
  rcases List.eq_nil_or_concat l with rfl | ⟨q, c, rfl⟩
  · decide
  · rw [List.concat_eq_append, octV_snoc]; omega
theorem or_oct {x d : Nat} (hx : x < 256) (hd : d < 8) : bits BinOp.or IntKind.u8 ((x : Int) * 8 % 256) (d : Int) = (((8 * x + d) % 256 : Nat) : Int) := by
  have : ∀ (x : Fin 256) (d : Fin 8), bits BinOp.or IntKind.u8 ((x.1 : Int) * 8 % 256) (d.1 : Int) = (((8 * x.1 + d.1) % 256 : Nat) : Int) := by decide +kernel
  exact this ⟨x, hx⟩ ⟨d, hd⟩
theorem or_octB {x : Nat} {c : UInt8} (hx : x < 256) (hc : octB c = true) : bits BinOp.or IntKind.u8 ((x : Int) * 8 % 256) (((c.toNat : Int) - 48) % 256) = (((8 * x + (c.toNat - 48)) % 256 : Nat) : Int) := by
  have h := of_decide_eq_true hc
  have e : ((c.toNat : Int) - 48) % 256 = ((c.toNat - 48 : Nat) : Int) := by omega
  rw [e]
  exact or_oct hx (by omega)
theorem octB_at {u : ByteArray} (h : u.data.toList.all octB = true) {k : Nat} (hk : k < u.size) : octB u[k] = true := List.all_eq_true.1 h _ (byte_mem u k hk)

theorem conv_one (w : World) (c : UInt8) (z : Int) (hz : z = (c.toNat : Int)) : (convert 44 9 (.slice (some ⟨w.heap.size, 0, none⟩) 1 1)).run Tryz.prog (w.alloc (.cells #[.int .u8 z] 5)) = .ok (.string (bytes [c])) (w.alloc (.cells #[.int .u8 z] 5)) :=
  run_convert_bytes_back (P := Tryz.prog) _ 44 9 5 ⟨w.heap.size, 0, none⟩ 1 [c] Tryz.underlying44 Tryz.underlying5 Tryz.underlying9 (fun j hj => cells_new1 w c z hz j hj)

set_option maxHeartbeats 1000000 in
theorem octal_any (u : ByteArray) (w : World) (hs : u.size ≤ 3) (ho : u.data.toList.all octB = true) :
    Calls Tryz.prog 107 #[.string u] w fun e w' => e = .returned (.string (bytes [UInt8.ofNat (octV u.data.toList)])) ∧ Below w.heap.size w w' := by
  have HO := Lib.hid ho
  clear ho
  go_enter Tryz.func107, Tryz.ntmps107
  go_wp2_with fail
  go_loopg [3, 7] u.size (fun g v3 v7 wx => ∃ (k x : Nat), k + g = u.size ∧ v7 = .int .i64 k ∧ v3 = .int .u8 x ∧ x < 256 ∧ Aside (octV (u.data.toList.take k) = x) ∧ w = wx)
  case atStart => exact ⟨0, 0, by omega, rfl, rfl, by decide, rfl, rfl⟩
  case round =>
    obtain ⟨k, x, hk, rfl, rfl, hx, HX, rfl⟩ := hrel
    cases gk with
    | zero =>
      obtain rfl : k = u.size := by omega
      have hz : ¬ ((u.size : Int) < (u.size : Int)) := by omega
      have HR : Hid (octV u.data.toList = x) := Lib.hid (by
        have h := HX.out
        rwa [List.take_of_length_le (by rw [← size_data]; exact Nat.le_refl _)] at h)
      have hconv := conv_one w (UInt8.ofNat x) (x : Int) (by rw [UInt8.toNat_ofNat']; omega)
      go_wp2_with fail
      go_ret
      exact ⟨by rw [HR.out]; rfl, (Below.refl _ w).alloc (Nat.le_refl _) _⟩
    | succ g =>
      have hlt : k < u.size := by omega
      have hz : (k : Int) < (u.size : Int) := by omega
      have hoc := octB_at HO.out hlt
      obtain ⟨c, hc⟩ : ∃ c, u[k] = c := ⟨_, rfl⟩
      rw [hc] at hoc
      have Hst : Hid (octV (u.data.toList.take (k + 1)) = (8 * x + (c.toNat - 48)) % 256) := Lib.hid (by rw [take_snoc u k hlt, octV_snoc, HX.out, hc])
      have Hor := Lib.hid (or_octB hx hoc)
      clear hoc
      go_wp2_with fail
      go_roundg g
      case measure => omega
      case rel => exact ⟨k + 1, (8 * x + (c.toNat - 48)) % 256, by omega, by go_num, by rw [Hor.out], by omega, Hst.out, rfl⟩

/-- Is there a digit to the base 8 at a place? -/
def octAt (l : List UInt8) (k : Nat) : Bool := match l[k]? with
  | some c => octB c
  | none => false
theorem take_while_unique {p : UInt8 → Bool} : ∀ (l : List UInt8) (n : Nat), (∀ m, m < n → ∃ c, l[m]? = some c ∧ p c = true) → (∀ c, l[n]? = some c → p c = false) → (l.takeWhile p).length = n
  | [], 0, _, _ => rfl
  | [], n + 1, h, _ => by obtain ⟨c, hc, _⟩ := h 0 (by omega); cases hc
  | c :: t, 0, _, h => by rw [List.takeWhile_cons_of_neg (by rw [h c rfl]; decide)]; rfl
  | c :: t, n + 1, h, h2 => by
    obtain ⟨d, hd, hp⟩ := h 0 (by omega)
    obtain rfl : c = d := by simpa using hd
    rw [List.takeWhile_cons_of_pos hp, List.length_cons, take_while_unique t n (fun m hm => by have := h (m + 1) (by omega); simpa using this) (fun c hc => h2 c (by simpa using hc))]
theorem octN_unique {l : List UInt8} {n : Nat} (hn : n ≤ 3) (h : ∀ m, m < n → octAt l m = true) (h2 : n < 3 → octAt l n = false) : octN l = n := by
  unfold octN
  refine take_while_unique _ n (fun m hm => ?_) (fun c hc => ?_)
  · have := h m hm
    unfold octAt at this
    cases hl : l[m]? with
    | none => rw [hl] at this; cases this
    | some c => rw [hl] at this; exact ⟨c, by rw [List.getElem?_take_of_lt (by omega)]; exact hl, this⟩
  · rw [List.getElem?_take] at hc
    split at hc
    · rename_i h3
      have := h2 h3
      unfold octAt at this
      rw [hc] at this
      exact this
    · cases hc
theorem octAt_at {u : ByteArray} {k : Nat} (h : k < u.size) : octAt u.data.toList k = octB u[k] := by unfold octAt; rw [byte_at u k h]
theorem octAt_far {l : List UInt8} {k : Nat} (h : l.length ≤ k) : octAt l k = false := by unfold octAt; rw [List.getElem?_eq_none h]

set_option maxHeartbeats 1000000 in
theorem octals_any (u : ByteArray) (w : World) (hs : u.size ≤ maxLen) :
    Calls Tryz.prog 106 #[.string u] w fun e w' => e = .returned (.int .i64 (octN u.data.toList : Nat)) ∧ w = w' := by
  unfold maxLen at hs
  have hM : ∃ M, M ≤ 3 ∧ ((3 < u.size ∧ M = 3) ∨ (¬ 3 < u.size ∧ M = u.size)) := by
    by_cases h : 3 < u.size
    · exact ⟨3, by omega, .inl ⟨h, rfl⟩⟩
    · exact ⟨u.size, by omega, .inr ⟨h, rfl⟩⟩
  obtain ⟨M, hM, hM3⟩ := hM
  have Hfar : Hid (M < 3 → octAt u.data.toList M = false) := Lib.hid (fun h => octAt_far (by rw [← size_data]; omega))
  rcases hM3 with ⟨h3, rfl⟩ | ⟨h3, rfl⟩
  all_goals
    go_enter Tryz.func106, Tryz.ntmps106
    go_wp2_with fail
  · have h3' : (3 : Int) < (u.size : Int) := by omega
    go_loopg [3] 3 (fun g v3 wx => ∃ k : Nat, k + g = 3 ∧ v3 = .int .i64 k ∧ Aside (∀ m, m < k → octAt u.data.toList m = true) ∧ w = wx)
    case atStart => exact ⟨0, by omega, rfl, fun m hm => absurd hm (by omega), rfl⟩
    case round =>
      obtain ⟨k, hk, rfl, HK, rfl⟩ := hrel
      cases gk with
      | zero =>
        obtain rfl : k = 3 := by omega
        have HR : Hid (octN u.data.toList = 3) := Lib.hid (octN_unique hM HK.out Hfar.out)
        have hz : ¬ (((3 : Nat) : Int) < ((3 : Nat) : Int)) := by omega
        go_wp2_with fail
        go_ret
        exact ⟨by rw [HR.out]; rfl, rfl⟩
      | succ g =>
        have hlt : k < u.size := by omega
        have hz : ((k : Int) < ((3 : Nat) : Int)) := by omega
        have hk3 : k ≤ 3 := by omega
        have hoc := octAt_at hlt
        obtain ⟨c, hc⟩ : ∃ c, u[k] = c := ⟨_, rfl⟩
        rw [hc] at hoc
        have Hoc := Lib.hid hoc
        clear hoc
        by_cases h1 : 48 ≤ c.toNat
        · by_cases h2 : c.toNat ≤ 55
          · have h1' : (48 : Int) ≤ (c.toNat : Int) := by omega
            have h2' : (c.toNat : Int) ≤ 55 := by omega
            have Hst : Hid (∀ m, m < k + 1 → octAt u.data.toList m = true) := Lib.hid (fun m hm => by
              by_cases e : m = k
              · rw [e, Hoc.out]; exact decide_eq_true ⟨h1, h2⟩
              · exact HK.out m (by omega))
            clear h1 h2
            go_wp2_with fail
            go_roundg g
            case measure => omega
            case rel => exact ⟨k + 1, by omega, by go_num, Hst.out, rfl⟩
          · have h1' : (48 : Int) ≤ (c.toNat : Int) := by omega
            have h2' : ¬ (c.toNat : Int) ≤ 55 := by omega
            have HR : Hid (octN u.data.toList = k) := Lib.hid (octN_unique hk3 HK.out (fun _ => by rw [Hoc.out]; exact decide_eq_false (by omega)))
            clear h1 h2
            go_wp2_with fail
            go_ret
            exact ⟨by rw [HR.out]; rfl, rfl⟩
        · have h1' : ¬ (48 : Int) ≤ (c.toNat : Int) := by omega
          have HR : Hid (octN u.data.toList = k) := Lib.hid (octN_unique hk3 HK.out (fun _ => by rw [Hoc.out]; exact decide_eq_false (by omega)))
          clear h1
          go_wp2_with fail
          go_ret
          exact ⟨by rw [HR.out]; rfl, rfl⟩
  · have h3' : ¬ (3 : Int) < (u.size : Int) := by omega
    go_loopg [3] u.size (fun g v3 wx => ∃ k : Nat, k + g = u.size ∧ v3 = .int .i64 k ∧ Aside (∀ m, m < k → octAt u.data.toList m = true) ∧ w = wx)
    case atStart => exact ⟨0, by omega, rfl, fun m hm => absurd hm (by omega), rfl⟩
    case round =>
      obtain ⟨k, hk, rfl, HK, rfl⟩ := hrel
      cases gk with
      | zero =>
        obtain rfl : k = u.size := by omega
        have HR : Hid (octN u.data.toList = u.size) := Lib.hid (octN_unique hM HK.out Hfar.out)
        have hz : ¬ (((u.size : Nat) : Int) < ((u.size : Nat) : Int)) := by omega
        go_wp2_with fail
        go_ret
        exact ⟨by rw [HR.out]; rfl, rfl⟩
      | succ g =>
        have hlt : k < u.size := by omega
        have hz : ((k : Int) < ((u.size : Nat) : Int)) := by omega
        have hk3 : k ≤ 3 := by omega
        have hoc := octAt_at hlt
        obtain ⟨c, hc⟩ : ∃ c, u[k] = c := ⟨_, rfl⟩
        rw [hc] at hoc
        have Hoc := Lib.hid hoc
        clear hoc
        by_cases h1 : 48 ≤ c.toNat
        · by_cases h2 : c.toNat ≤ 55
          · have h1' : (48 : Int) ≤ (c.toNat : Int) := by omega
            have h2' : (c.toNat : Int) ≤ 55 := by omega
            have Hst : Hid (∀ m, m < k + 1 → octAt u.data.toList m = true) := Lib.hid (fun m hm => by
              by_cases e : m = k
              · rw [e, Hoc.out]; exact decide_eq_true ⟨h1, h2⟩
              · exact HK.out m (by omega))
            clear h1 h2
            go_wp2_with fail
            go_roundg g
            case measure => omega
            case rel => exact ⟨k + 1, by omega, by go_num, Hst.out, rfl⟩
          · have h1' : (48 : Int) ≤ (c.toNat : Int) := by omega
            have h2' : ¬ (c.toNat : Int) ≤ 55 := by omega
            have HR : Hid (octN u.data.toList = k) := Lib.hid (octN_unique hk3 HK.out (fun _ => by rw [Hoc.out]; exact decide_eq_false (by omega)))
            clear h1 h2
            go_wp2_with fail
            go_ret
            exact ⟨by rw [HR.out]; rfl, rfl⟩
        · have h1' : ¬ (48 : Int) ≤ (c.toNat : Int) := by omega
          have HR : Hid (octN u.data.toList = k) := Lib.hid (octN_unique hk3 HK.out (fun _ => by rw [Hoc.out]; exact decide_eq_false (by omega)))
          clear h1
          go_wp2_with fail
          go_ret
          exact ⟨by rw [HR.out]; rfl, rfl⟩
end
end Go.Proofs.YtejgcnmbngdkiaaGreatDoor
/-
  token.escaped, within: what the bytes of a text stand for.
-/
namespace Go.Proofs.YtejgcnmbngdkiaaGreatDoor
section
open Go.RowKit
set_option maxRecDepth 100000

theorem ends_here (u : ByteArray) {n : Nat} (h : endsN u.data.toList 0 = n) (w : World) : Calls Tryz.prog 53 #[.string u, .int .i64 0] w fun e w' => e = .returned (.int .i64 (n : Int)) ∧ w = w' := by
  have := ends_any u ((0 : Nat) : Int) w
  rw [endsI_nat, h] at this
  exact this
theorem octals_is (u : ByteArray) {n : Nat} (hs : u.size ≤ maxLen) (h : octN u.data.toList = n) (w : World) : Calls Tryz.prog 106 #[.string u] w fun e w' => e = .returned (.int .i64 (n : Int)) ∧ w = w' := by
  rw [← h]; exact octals_any u w hs
theorem oct_all (l : List UInt8) : (l.take (octN l)).all octB = true := by
  have hp := List.takeWhile_prefix octB (l := l.take 3)
  have e : l.take (octN l) = (l.take 3).takeWhile octB := by
    have h1 := List.prefix_iff_eq_take.1 hp
    have h2 := (octN_le l).2
    conv => rhs; rw [h1]
    show l.take (octN l) = (l.take 3).take (octN l)
    rw [List.take_take, Nat.min_eq_left h2]
  rw [e]
  exact List.all_takeWhile
theorem first_text (u : ByteArray) (c : UInt8) (t : List UInt8) (h : u.data.toList = c :: t) : u.extract 0 1 = bytes [c] := by
  refine bytes_eq ?_
  rw [Lib.extract_data, h]; rfl
theorem rest_text (u : ByteArray) (c : UInt8) (t : List UInt8) (h : u.data.toList = c :: t) : (u.extract 1 u.size).data.toList = t := by
  rw [Lib.extract_to_end, h]; rfl
theorem esc_ends {c : UInt8} {t : List UInt8} {n : Nat} (h : endsN (c :: t) 0 = n) (h0 : 0 < n) : escL (c :: t) = ([], n) := by
  unfold escL; simp only [h, if_pos h0]
theorem esc_oct {c : UInt8} {t : List UInt8} {n : Nat} (h : endsN (c :: t) 0 = 0) (h0 : octN (c :: t) = n) (hn : 0 < n) : escL (c :: t) = ([UInt8.ofNat (octV ((c :: t).take n))], n) := by
  unfold escL; simp only [h, h0, if_pos hn, Nat.lt_irrefl, if_false]
theorem esc_one {c : UInt8} {t : List UInt8} (h : endsN (c :: t) 0 = 0) (h0 : octN (c :: t) = 0) : escL (c :: t) = ([escC c], 1) := by
  unfold escL; simp only [h, h0, Nat.lt_irrefl, if_false]

set_option maxHeartbeats 2000000 in
theorem escaped_any (u : ByteArray) (w : World) (hs : u.size ≤ maxLen) :
    Calls Tryz.prog 93 #[.string u] w fun e w' => e = .returned (.tuple #[.string (bytes (escL u.data.toList).1), .int .i64 ((escL u.data.toList).2 : Int)]) ∧ Below w.heap.size w w' := by
  have hs' := hs
  unfold maxLen at hs
  obtain ⟨r, n, hr⟩ : ∃ r n, escL u.data.toList = (r, n) := ⟨_, _, rfl⟩
  rw [hr]
  cases hl : u.data.toList with
  | nil =>
    have h0 : u.size = 0 := by rw [size_data, hl]; rfl
    obtain rfl : u = ⟨#[]⟩ := bytes_eq hl
    rw [hl] at hr
    obtain ⟨rfl, rfl⟩ : [] = r ∧ 0 = n := by injection hr with h1 h2; exact ⟨h1, h2⟩
    clear hr
    go_enter Tryz.func93, Tryz.ntmps93
    go_wp2_with fail
    go_ret2
    exact ⟨rfl, Below.refl _ _⟩
  | cons c t =>
    have h0 : 0 < u.size := by rw [size_data, hl]; simp
    have he := isEmpty_not (show ¬ u.data.toList = [] by rw [hl]; simp)
    have hne : ¬ u = ByteArray.empty := by rintro rfl; exact absurd h0 (by decide)
    have hc : u[0] = c := by have h1 := byte_at u 0 h0; rw [hl] at h1; exact (by simpa using h1.symm)
    obtain ⟨m, hm⟩ : ∃ m, endsN u.data.toList 0 = m := ⟨_, rfl⟩
    have HE := Lib.hid (fun W => ends_here u hm W)
    rcases Nat.eq_zero_or_pos m with rfl | hm0
    · obtain ⟨o, ho⟩ : ∃ o, octN u.data.toList = o := ⟨_, rfl⟩
      have HO := Lib.hid (fun W => octals_is u hs' ho W)
      have hol := octN_le u.data.toList
      rw [ho, ← size_data] at hol
      rcases Nat.eq_zero_or_pos o with rfl | ho0
      · rw [hl, esc_one (by rw [← hl]; exact hm) (by rw [← hl]; exact ho)] at hr
        obtain ⟨rfl, rfl⟩ : [escC c] = r ∧ 1 = n := by injection hr with h1 h2; exact ⟨h1, h2⟩
        have hft := first_text u c t hl
        clear hr hl hm ho
        by_cases h1 : c.toNat = 110 ∨ c.toNat = 114 ∨ c.toNat = 116 ∨ c.toNat = 98 ∨ c.toNat = 102
        · rcases h1 with h1 | h1 | h1 | h1 | h1
          all_goals
            have hz : (c.toNat : Int) = _ := congrArg Int.ofNat h1
            simp only [Int.ofNat_eq_natCast, Int.cast_ofNat_Int] at hz
            have HC := Lib.hid (show escC c = _ by unfold escC; simp only [h1]; rfl)
            clear h1
            go_enter Tryz.func93, Tryz.ntmps93
            go_wp2_with fail
            refine (HE.out _).mono ?_
            rintro e w1 ⟨rfl, rfl⟩
            go_wp2_with fail
            refine (HO.out _).mono ?_
            rintro e w1 ⟨rfl, rfl⟩
            go_wp2_with fail
            go_ret2
            exact ⟨by rw [HC.out]; rfl, Below.refl _ _⟩
        · have HC : Hid (escC c = c) := Lib.hid (by unfold escC; rw [if_neg (by omega), if_neg (by omega), if_neg (by omega), if_neg (by omega), if_neg (by omega)])
          have g1 : ((c.toNat : Int) == 110) = false := by simp; omega
          have g2 : ((c.toNat : Int) == 114) = false := by simp; omega
          have g3 : ((c.toNat : Int) == 116) = false := by simp; omega
          have g4 : ((c.toNat : Int) == 98) = false := by simp; omega
          have g5 : ((c.toNat : Int) == 102) = false := by simp; omega
          clear h1
          go_enter Tryz.func93, Tryz.ntmps93
          go_wp2_with fail
          refine (HE.out _).mono ?_
          rintro e w1 ⟨rfl, rfl⟩
          go_wp2_with fail
          refine (HO.out _).mono ?_
          rintro e w1 ⟨rfl, rfl⟩
          go_wp2_with fail
          go_ret2
          exact ⟨by rw [HC.out]; rfl, Below.refl _ _⟩
      · rw [hl, esc_oct (by rw [← hl]; exact hm) (by rw [← hl]; exact ho) ho0] at hr
        obtain ⟨h1, rfl⟩ : _ = r ∧ o = n := by injection hr with h1 h2; exact ⟨h1, h2⟩
        have hx : (u.extract 0 o).data.toList = u.data.toList.take o := by rw [Lib.extract_data, List.drop_zero, Nat.sub_zero]
        have hall : (u.extract 0 o).data.toList.all octB = true := by rw [hx, ← ho]; exact oct_all _
        have HV := Lib.hid (fun W => octal_any (u.extract 0 o) W (by rw [ByteArray.size_extract]; omega) hall)
        rw [hx, hl] at HV
        rw [h1] at HV
        clear hr hl hm ho h1 hx hall
        go_enter Tryz.func93, Tryz.ntmps93
        go_wp2_with fail
        refine (HE.out _).mono ?_
        rintro e w1 ⟨rfl, rfl⟩
        go_wp2_with fail
        refine (HO.out _).mono ?_
        rintro e w1 ⟨rfl, rfl⟩
        go_wp2_with fail
        refine (HV.out _).mono ?_
        rintro e w1 ⟨rfl, hb⟩
        have Hb := Lib.hid hb
        clear hb
        go_wp2_with fail
        go_ret2
        exact ⟨rfl, Hb.out⟩
    · rw [hl, esc_ends (by rw [← hl]; exact hm) hm0] at hr
      obtain ⟨rfl, rfl⟩ : [] = r ∧ m = n := by injection hr with h1 h2; exact ⟨h1, h2⟩
      clear hr hl hm
      go_enter Tryz.func93, Tryz.ntmps93
      go_wp2_with fail
      refine (HE.out _).mono ?_
      rintro e w1 ⟨rfl, rfl⟩
      go_wp2_with fail
      go_ret2
      exact ⟨rfl, Below.refl _ _⟩

theorem within_ends {c : UInt8} {t : List UInt8} {n : Nat} (h : endsN (c :: t) 0 = n) (h0 : 0 < n) : withinL (c :: t) = ([10], n) := by
  unfold withinL; simp only [h, if_pos h0]
theorem within_esc {c : UInt8} {t : List UInt8} (h : endsN (c :: t) 0 = 0) (h0 : c.toNat = 92) : withinL (c :: t) = ((escL t).1, 1 + (escL t).2) := by
  unfold withinL; simp only [h, if_pos h0, Nat.lt_irrefl, if_false]
theorem within_one {c : UInt8} {t : List UInt8} (h : endsN (c :: t) 0 = 0) (h0 : ¬ c.toNat = 92) : withinL (c :: t) = ([c], 1) := by
  unfold withinL; simp only [h, if_neg h0, Nat.lt_irrefl, if_false]

set_option maxHeartbeats 2000000 in
theorem within_any (u : ByteArray) (c : UInt8) (t : List UInt8) (w : World) (hs : u.size ≤ maxLen) (hl : u.data.toList = c :: t) {r : List UInt8} {n : Nat} (hr : withinL (c :: t) = (r, n)) :
    Calls Tryz.prog 77 #[.string u] w fun e w' => e = .returned (.tuple #[.string (bytes r), .int .i64 (n : Int)]) ∧ Below w.heap.size w w' := by
  have hs' := hs
  unfold maxLen at hs
  have h0 : 0 < u.size := by rw [size_data, hl]; simp
  have hc : u[0] = c := by have h1 := byte_at u 0 h0; rw [hl] at h1; exact (by simpa using h1.symm)
  have hn := (within_len (c :: t)).1
  rw [← hl, ← size_data, hl, hr] at hn
  obtain ⟨m, hm⟩ : ∃ m, endsN u.data.toList 0 = m := ⟨_, rfl⟩
  have HE := Lib.hid (fun W => ends_here u hm W)
  rcases Nat.eq_zero_or_pos m with rfl | hm0
  · by_cases h92 : c.toNat = 92
    · rw [within_esc (by rw [← hl]; exact hm) h92] at hr
      obtain ⟨rfl, rfl⟩ : (escL t).1 = r ∧ 1 + (escL t).2 = n := by injection hr with h1 h2; exact ⟨h1, h2⟩
      have HX := Lib.hid (fun W => escaped_any (u.extract 1 u.size) W (by rw [ByteArray.size_extract]; unfold maxLen; omega))
      rw [rest_text u c t hl] at HX
      obtain ⟨k, hk⟩ : ∃ k, (escL t).2 = k := ⟨_, rfl⟩
      rw [hk] at HX hn ⊢
      generalize (escL t).1 = q at HX
      have hz : (c.toNat : Int) = 92 := by omega
      clear hr hl hm h92 hk
      go_enter Tryz.func77, Tryz.ntmps77
      go_wp2_with fail
      refine (HE.out _).mono ?_
      rintro e w1 ⟨rfl, rfl⟩
      go_wp2_with fail
      refine (HX.out _).mono ?_
      rintro e w1 ⟨rfl, hb⟩
      have Hb := Lib.hid hb
      clear hb
      go_wp2_with fail
      go_ret2
      exact ⟨by rw [Int.natCast_add]; rfl, Hb.out⟩
    · rw [within_one (by rw [← hl]; exact hm) h92] at hr
      obtain ⟨rfl, rfl⟩ : [c] = r ∧ 1 = n := by injection hr with h1 h2; exact ⟨h1, h2⟩
      have hft := first_text u c t hl
      have hz : ((c.toNat : Int) == 92) = false := by simp; omega
      clear hr hl hm h92
      go_enter Tryz.func77, Tryz.ntmps77
      go_wp2_with fail
      refine (HE.out _).mono ?_
      rintro e w1 ⟨rfl, rfl⟩
      go_wp2_with fail
      go_ret2
      exact ⟨rfl, Below.refl _ _⟩
  · rw [within_ends (by rw [← hl]; exact hm) hm0] at hr
    obtain ⟨rfl, rfl⟩ : [10] = r ∧ m = n := by injection hr with h1 h2; exact ⟨h1, h2⟩
    clear hr hl hm
    go_enter Tryz.func77, Tryz.ntmps77
    go_wp2_with fail
    refine (HE.out _).mono ?_
    rintro e w1 ⟨rfl, rfl⟩
    go_wp2_with fail
    go_ret2
    exact ⟨rfl, Below.refl _ _⟩
end
end Go.Proofs.YtejgcnmbngdkiaaGreatDoor
/-
  token.text: a text in brackets.
-/
namespace Go.Proofs.YtejgcnmbngdkiaaGreatDoor
section
open Go.RowKit
set_option maxRecDepth 100000

set_option maxHeartbeats 2000000 in
theorem text_any (u : ByteArray) (w : World) (hs : u.size ≤ 100000000) (h0 : 0 < u.size) :
    Calls Tryz.prog 55 #[.string u] w fun e w' => e = .returned (textGo 1 [] 1 (u.data.toList.drop 1)).told ∧ Below w.heap.size w w' := by
  obtain ⟨r, hr⟩ : ∃ r, textGo 1 [] 1 (u.data.toList.drop 1) = r := ⟨_, rfl⟩
  rw [hr]
  have Hr := Lib.hid hr
  clear hr
  have HS0 := Lib.hid (SayAt.new w)
  unfold tokC at HS0
  go_enter Tryz.func55, Tryz.ntmps55
  go_wp2_with fail
  go_step3
  go_wp2_with fail
  go_step3
  go_wp2_with fail
  go_loopg [5, 6] (u.size - 1) (fun g v5 v6 wx => ∃ (k d : Nat) (out : List UInt8), k + g = u.size ∧ 1 ≤ d ∧ d ≤ k ∧ v5 = .int .i64 d ∧ v6 = .int .i64 k ∧ out.length ≤ 65535 ∧ Aside (textGo d out k (u.data.toList.drop k) = r) ∧ Aside (SayAt w out wx))
  case atStart => exact ⟨1, 1, [], by omega, by omega, by omega, rfl, rfl, by decide, Hr.out, HS0.out⟩
  case round =>
    obtain ⟨k, d, out, hk, hd1, hdk, rfl, rfl, ho, HR, HS⟩ := hrel
    clear Hr HS0
    cases gk with
    | zero =>
      obtain rfl : k = u.size := by omega
      have hz : ¬ ((u.size : Int) < (u.size : Int)) := by omega
      have h := HR.out
      rw [drop_end u _ (Nat.le_refl _), text_nil] at h
      subst h
      go_wp2_with (refine TokCell.store rfl rfl _ _ rfl w.heap.size (tokC 0 0 ⟨#[]⟩ 0 0) _ _ _ _ _ rfl rfl HS.out.1 rfl w.heap.size w HS.out.2.2.1 (Nat.le_refl _) ?_; intro w2 HT HB HO; clear HO)
      obtain ⟨k0, k1, k2, k3, k4⟩ := HT.out.parts
      try rw [Exit.noGoto_ret]
      exact bodyPost_ret (v := .tuple #[.agg #[.int .i64 0, .int .i64 0, .string ⟨#[]⟩, .int .i64 0, .int .i64 0], .int .i64 5]) (by simp [results, Tryz.results55, go_sem, k0, k1, k2, k3, k4]) rfl ⟨rfl, HB.out⟩
    | succ g =>
      have hlt : k < u.size := by omega
      have hz : (k : Int) < (u.size : Int) := by omega
      have hk0 : (0 : Int) ≤ (k : Int) := by omega
      have hks : ((k : Int) == (u.size : Int)) = false := by simp; omega
      obtain ⟨c, hc⟩ : ∃ c, u[k] = c := ⟨_, rfl⟩
      have h := HR.out
      rw [drop_byte u k hlt, hc] at h
      have hcut : (u.extract k u.size).data.toList = c :: u.data.toList.drop (k + 1) := by rw [Lib.extract_to_end, drop_byte u k hlt, hc]
      by_cases hend : c.toNat = 41 ∧ d = 1
      · obtain ⟨h41, rfl⟩ := hend
        rw [text_end h41 rfl] at h
        subst h
        have hc1 : (c.toNat : Int) = 41 := by omega
        clear h41 hcut
        go_wp2_with fail
        refine (say_string HS.out).mono ?_
        rintro e w1 ⟨rfl, hn⟩
        have HN := Lib.hid hn
        clear hn
        go_wp2_with (refine TokCell.store rfl rfl _ _ rfl w.heap.size (tokC 0 0 ⟨#[]⟩ 0 0) _ _ _ _ _ rfl rfl HN.out.1 rfl w.heap.size w HN.out.2.2.1 (Nat.le_refl _) ?_; intro w2 HT HB HO; clear HO)
        obtain ⟨k0, k1, k2, k3, k4⟩ := HT.out.parts
        try rw [Exit.noGoto_ret]
        exact bodyPost_ret (v := .tuple #[.agg #[.int .i64 3, .int .i64 0, .string (bytes out), .int .i64 0, .int .i64 ((k : Int) + 1)], .int .i64 0]) (by simp [results, Tryz.results55, go_sem, k0, k1, k2, k3, k4]) rfl ⟨rfl, HB.out⟩
      · obtain ⟨p, n, hw⟩ : ∃ p n, withinL (c :: u.data.toList.drop (k + 1)) = (p, n) := ⟨_, _, rfl⟩
        have HW := Lib.hid (fun W => within_any (u.extract k u.size) c _ W (by rw [ByteArray.size_extract]; unfold maxLen; omega) hcut hw)
        have hwl := within_len (c :: u.data.toList.drop (k + 1))
        have hwp := within_pos c (u.data.toList.drop (k + 1))
        rw [hw] at hwl hwp
        have hdl : (c :: u.data.toList.drop (k + 1)).length = u.size - k := by rw [← hcut, ← size_data, ByteArray.size_extract]; omega
        rw [hdl] at hwl
        simp only at hwl hwp
        obtain ⟨x, hx⟩ : ∃ x, bytes p = x := ⟨_, rfl⟩
        have hxd : x.data.toList = p := by rw [← hx, bytes_data]
        have hxs : x.size = p.length := by rw [size_data, hxd]
        rw [hx] at HW
        have hcase : (c.toNat = 40 ∧ depthT d c = d + 1) ∨ (c.toNat = 41 ∧ 2 ≤ d ∧ depthT d c = d - 1) ∨ (¬ c.toNat = 40 ∧ ¬ c.toNat = 41 ∧ depthT d c = d) := by
          unfold depthT
          by_cases h40 : c.toNat = 40
          · exact .inl ⟨h40, if_pos h40⟩
          · by_cases h41 : c.toNat = 41
            · exact .inr (.inl ⟨h41, by omega, by rw [if_neg h40, if_pos h41]⟩)
            · exact .inr (.inr ⟨h40, h41, by rw [if_neg h40, if_neg h41]⟩)
        obtain ⟨dd, hdd⟩ : ∃ dd, depthT d c = dd := ⟨_, rfl⟩
        by_cases hlong : 65535 < out.length + p.length
        · rw [text_long hend hw hlong] at h
          subst h
          have hlen : (65535 : Int) < ((out ++ x.data.toList).length : Int) := by rw [hxd, List.length_append]; omega
          have Hxs : Hid (out.length + x.size ≤ 1000000000) := Lib.hid (by omega)
          have hcase' : (c.toNat : Int) = 40 ∨ ((c.toNat : Int) = 41 ∧ ((d : Int) - 1 == 0) = false) ∨ (((c.toNat : Int) == 40) = false ∧ ((c.toNat : Int) == 41) = false) := by
            rcases hcase with h | h | h
            · exact .inl (by omega)
            · exact .inr (.inl ⟨by omega, by simp; omega⟩)
            · exact .inr (.inr ⟨by simp; omega, by simp; omega⟩)
          obtain ⟨len, hl⟩ : ∃ len, (out ++ x.data.toList).length = len := ⟨_, rfl⟩
          rw [hl] at hlen
          have Hl := Lib.hid hl
          clear hcase hcut hend hw hwl hwp hdl hx hxd hxs hdd hlong hl
          rcases hcase' with h40 | ⟨h41, hd2⟩ | ⟨h40, h41⟩
          all_goals
            go_wp2_with fail
            refine (HW.out _).mono ?_
            rintro e w1 ⟨rfl, hb⟩
            have HN := Lib.hid (HS.out.later hb)
            clear hb
            go_wp2_with fail
            refine (say_text x HN.out Hxs.out).mono ?_
            rintro e w1 ⟨rfl, hn⟩
            have HN2 := Lib.hid hn
            clear hn
            go_wp2_with fail
            refine (say_len HN2.out).mono ?_
            rintro e w1 ⟨rfl, rfl⟩
            rw [Hl.out]
            go_wp2_with (refine TokCell.store rfl rfl _ _ rfl w.heap.size (tokC 0 0 ⟨#[]⟩ 0 0) _ _ _ _ _ rfl rfl HN2.out.1 rfl w.heap.size w HN2.out.2.2.1 (Nat.le_refl _) ?_; intro w2 HT HB HO; clear HO)
            obtain ⟨k0, k1, k2, k3, k4⟩ := HT.out.parts
            try rw [Exit.noGoto_ret]
            exact bodyPost_ret (v := .tuple #[.agg #[.int .i64 0, .int .i64 0, .string ⟨#[]⟩, .int .i64 0, .int .i64 0], .int .i64 8]) (by simp [results, Tryz.results55, go_sem, k0, k1, k2, k3, k4]) rfl ⟨rfl, HB.out⟩
        · rw [text_step hend hw hlong, hdd, ← hcut, Lib.extract_to_end, List.drop_drop, ← hxd] at h
          have Hnext := Lib.hid h
          have Hlo : Hid ((out ++ x.data.toList).length ≤ 65535) := Lib.hid (by rw [hxd, List.length_append]; omega)
          have hlen : ¬ (65535 : Int) < ((out ++ x.data.toList).length : Int) := by have := Hlo.out; omega
          have Hxs : Hid (out.length + x.size ≤ 1000000000) := Lib.hid (by omega)
          have hcase' : ((c.toNat : Int) = 40 ∧ (d : Int) + 1 = (dd : Int)) ∨ ((c.toNat : Int) = 41 ∧ ((d : Int) - 1 == 0) = false ∧ (d : Int) - 1 = (dd : Int)) ∨ (((c.toNat : Int) == 40) = false ∧ ((c.toNat : Int) == 41) = false ∧ (d : Int) = (dd : Int)) := by
            rcases hcase with h | h | h
            · exact .inl ⟨by omega, by omega⟩
            · exact .inr (.inl ⟨by omega, by simp; omega, by omega⟩)
            · exact .inr (.inr ⟨by simp; omega, by simp; omega, by omega⟩)
          have hdd1 : 1 ≤ dd ∧ dd ≤ k + 1 := by rcases hcase with h | h | h <;> omega
          obtain ⟨len, hl⟩ : ∃ len, (out ++ x.data.toList).length = len := ⟨_, rfl⟩
          rw [hl] at hlen
          have Hl := Lib.hid hl
          clear h hcase hcut hend hw hdl hx hxd hxs hdd hlong hl
          rcases hcase' with ⟨h40, hde⟩ | ⟨h41, hd2, hde⟩ | ⟨h40, h41, hde⟩
          all_goals
            have Hde := Lib.hid hde
            clear hde
            go_wp2_with fail
            refine (HW.out _).mono ?_
            rintro e w1 ⟨rfl, hb⟩
            have HN := Lib.hid (HS.out.later hb)
            clear hb
            go_wp2_with fail
            refine (say_text x HN.out Hxs.out).mono ?_
            rintro e w1 ⟨rfl, hn⟩
            have HN2 := Lib.hid hn
            clear hn
            go_wp2_with fail
            refine (say_len HN2.out).mono ?_
            rintro e w1 ⟨rfl, rfl⟩
            rw [Hl.out]
            go_wp2_with fail
            go_roundg (u.size - (k + n))
            case measure => omega
            case rel => exact ⟨k + n, dd, out ++ x.data.toList, by omega, by omega, by omega, by rw [← Hde.out]; first | done | rfl | go_num, by go_num, Hlo.out, Hnext.out, HN2.out⟩
end
end Go.Proofs.YtejgcnmbngdkiaaGreatDoor
