/-
  token.octals, octal.
-/
import Derived.Test.YtnjmapgmodoodaaTkSkip
import Derived.Test.YtnjmapgmodoodaaOwn8
namespace Go.Proofs.Ytnjmapgmodoodaa
open Go.RowKit
set_option maxRecDepth 100000

theorem octV_snoc (l : List UInt8) (c : UInt8) : octV (l ++ [c]) = (8 * octV l + (c.toNat - 48)) % 256 := by
  unfold octV; rw [List.foldl_append]; rfl
theorem octV_lt : ∀ l : List UInt8, octV l < 256 := fun l => by
  rcases List.eq_nil_or_concat l with rfl | ⟨q, c, rfl⟩
  · decide
  · rw [List.concat_eq_append, octV_snoc]; omega
theorem or_oct {x d : Nat} (hx : x < 256) (hd : d < 8) : bits BinOp.or IntKind.u8 ((x : Int) * 8 % 256) (d : Int) = (((8 * x + d) % 256 : Nat) : Int) := by
  have : ∀ (x : Fin 256) (d : Fin 8), bits BinOp.or IntKind.u8 ((x.1 : Int) * 8 % 256) (d.1 : Int) = (((8 * x.1 + d.1) % 256 : Nat) : Int) := by decide +kernel
  exact this ⟨x, hx⟩ ⟨d, hd⟩
theorem or_octB {x : Nat} {c : UInt8} (hx : x < 256) (hc : octB c = true) : bits BinOp.or IntKind.u8 ((x : Int) * 8 % 256) (((c.toNat : Int) - 48) % 256) = (((8 * x + (c.toNat - 48)) % 256 : Nat) : Int) := by
  have h := of_decide_eq_true hc
  have e : ((c.toNat : Int) - 48) % 256 = ((c.toNat - 48 : Nat) : Int) := by omega
  rw [e]
  exact or_oct hx (by omega)
theorem octB_at {u : ByteArray} (h : u.data.toList.all octB = true) {k : Nat} (hk : k < u.size) : octB u[k] = true := List.all_eq_true.1 h _ (byte_mem u k hk)

theorem conv_one (w : World) (c : UInt8) (z : Int) (hz : z = (c.toNat : Int)) : (convert 52 9 (.slice (some ⟨w.heap.size, 0, none⟩) 1 1)).run Try.prog (w.alloc (.cells #[.int .u8 z] 5)) = .ok (.string (bytes [c])) (w.alloc (.cells #[.int .u8 z] 5)) :=
  run_convert_bytes_back (P := Try.prog) _ 52 9 5 ⟨w.heap.size, 0, none⟩ 1 [c] Try.underlying52 Try.underlying5 Try.underlying9 (fun j hj => cells_new1 w c z hz j hj)

set_option maxHeartbeats 1000000 in
theorem octal_any (u : ByteArray) (w : World) (hs : u.size ≤ 3) (ho : u.data.toList.all octB = true) :
    Calls Try.prog 60 #[.string u] w fun e w' => e = .returned (.string (bytes [UInt8.ofNat (octV u.data.toList)])) ∧ Below w.heap.size w w' := by
  have HO := Lib.hid ho
  clear ho
  go_enter Try.func60, Try.ntmps60
  go_wp2_with fail
  go_loopg [3, 7] u.size (fun g v3 v7 wx => ∃ (k x : Nat), k + g = u.size ∧ v7 = .int .i64 k ∧ v3 = .int .u8 x ∧ x < 256 ∧ Aside (octV (u.data.toList.take k) = x) ∧ w = wx)
  case atStart => exact ⟨0, 0, by omega, rfl, rfl, by decide, rfl, rfl⟩
  case round =>
    obtain ⟨k, x, hk, rfl, rfl, hx, HX, rfl⟩ := hrel
    cases gk with
    | zero =>
      obtain rfl : k = u.size := by omega
      have hz : ¬ ((u.size : Int) < (u.size : Int)) := by omega
      have HR : Hid (octV u.data.toList = x) := Lib.hid (by
        have h := HX.out
        rwa [List.take_of_length_le (by rw [← size_data]; exact Nat.le_refl _)] at h)
      have hconv := conv_one w (UInt8.ofNat x) (x : Int) (by rw [UInt8.toNat_ofNat']; omega)
      go_wp2_with fail
      go_ret
      exact ⟨by rw [HR.out]; rfl, (Below.refl _ w).alloc (Nat.le_refl _) _⟩
    | succ g =>
      have hlt : k < u.size := by omega
      have hz : (k : Int) < (u.size : Int) := by omega
      have hoc := octB_at HO.out hlt
      obtain ⟨c, hc⟩ : ∃ c, u[k] = c := ⟨_, rfl⟩
      rw [hc] at hoc
      have Hst : Hid (octV (u.data.toList.take (k + 1)) = (8 * x + (c.toNat - 48)) % 256) := Lib.hid (by rw [take_snoc u k hlt, octV_snoc, HX.out, hc])
      have Hor := Lib.hid (or_octB hx hoc)
      clear hoc
      go_wp2_with fail
      go_roundg g
      case measure => omega
      case rel => exact ⟨k + 1, (8 * x + (c.toNat - 48)) % 256, by omega, by go_num, by rw [Hor.out], by omega, Hst.out, rfl⟩

/-- Is there a digit to the base 8 at a place? -/
def octAt (l : List UInt8) (k : Nat) : Bool := match l[k]? with
  | some c => octB c
  | none => false
theorem take_while_unique {p : UInt8 → Bool} : ∀ (l : List UInt8) (n : Nat), (∀ m, m < n → ∃ c, l[m]? = some c ∧ p c = true) → (∀ c, l[n]? = some c → p c = false) → (l.takeWhile p).length = n
  | [], 0, _, _ => rfl
  | [], n + 1, h, _ => by obtain ⟨c, hc, _⟩ := h 0 (by omega); cases hc
  | c :: t, 0, _, h => by rw [List.takeWhile_cons_of_neg (by rw [h c rfl]; decide)]; rfl
  | c :: t, n + 1, h, h2 => by
    obtain ⟨d, hd, hp⟩ := h 0 (by omega)
    obtain rfl : c = d := by simpa using hd
    rw [List.takeWhile_cons_of_pos hp, List.length_cons, take_while_unique t n (fun m hm => by have := h (m + 1) (by omega); simpa using this) (fun c hc => h2 c (by simpa using hc))]
theorem octN_unique {l : List UInt8} {n : Nat} (hn : n ≤ 3) (h : ∀ m, m < n → octAt l m = true) (h2 : n < 3 → octAt l n = false) : octN l = n := by
  unfold octN
  refine take_while_unique _ n (fun m hm => ?_) (fun c hc => ?_)
  · have := h m hm
    unfold octAt at this
    cases hl : l[m]? with
    | none => rw [hl] at this; cases this
    | some c => rw [hl] at this; exact ⟨c, by rw [List.getElem?_take_of_lt (by omega)]; exact hl, this⟩
  · rw [List.getElem?_take] at hc
    split at hc
    · rename_i h3
      have := h2 h3
      unfold octAt at this
      rw [hc] at this
      exact this
    · cases hc
theorem octAt_at {u : ByteArray} {k : Nat} (h : k < u.size) : octAt u.data.toList k = octB u[k] := by unfold octAt; rw [byte_at u k h]
theorem octAt_far {l : List UInt8} {k : Nat} (h : l.length ≤ k) : octAt l k = false := by unfold octAt; rw [List.getElem?_eq_none h]

set_option maxHeartbeats 1000000 in
theorem octals_any (u : ByteArray) (w : World) (hs : u.size ≤ maxLen) :
    Calls Try.prog 59 #[.string u] w fun e w' => e = .returned (.int .i64 (octN u.data.toList : Nat)) ∧ w = w' := by
  unfold maxLen at hs
  have hM : ∃ M, M ≤ 3 ∧ ((3 < u.size ∧ M = 3) ∨ (¬ 3 < u.size ∧ M = u.size)) := by
    by_cases h : 3 < u.size
    · exact ⟨3, by omega, .inl ⟨h, rfl⟩⟩
    · exact ⟨u.size, by omega, .inr ⟨h, rfl⟩⟩
  obtain ⟨M, hM, hM3⟩ := hM
  have Hfar : Hid (M < 3 → octAt u.data.toList M = false) := Lib.hid (fun h => octAt_far (by rw [← size_data]; omega))
  rcases hM3 with ⟨h3, rfl⟩ | ⟨h3, rfl⟩
  all_goals
    go_enter Try.func59, Try.ntmps59
    go_wp2_with fail
  · have h3' : (3 : Int) < (u.size : Int) := by omega
    go_loopg [3] 3 (fun g v3 wx => ∃ k : Nat, k + g = 3 ∧ v3 = .int .i64 k ∧ Aside (∀ m, m < k → octAt u.data.toList m = true) ∧ w = wx)
    case atStart => exact ⟨0, by omega, rfl, fun m hm => absurd hm (by omega), rfl⟩
    case round =>
      obtain ⟨k, hk, rfl, HK, rfl⟩ := hrel
      cases gk with
      | zero =>
        obtain rfl : k = 3 := by omega
        have HR : Hid (octN u.data.toList = 3) := Lib.hid (octN_unique hM HK.out Hfar.out)
        have hz : ¬ (((3 : Nat) : Int) < ((3 : Nat) : Int)) := by omega
        go_wp2_with fail
        go_ret
        exact ⟨by rw [HR.out]; rfl, rfl⟩
      | succ g =>
        have hlt : k < u.size := by omega
        have hz : ((k : Int) < ((3 : Nat) : Int)) := by omega
        have hk3 : k ≤ 3 := by omega
        have hoc := octAt_at hlt
        obtain ⟨c, hc⟩ : ∃ c, u[k] = c := ⟨_, rfl⟩
        rw [hc] at hoc
        have Hoc := Lib.hid hoc
        clear hoc
        by_cases h1 : 48 ≤ c.toNat
        · by_cases h2 : c.toNat ≤ 55
          · have h1' : (48 : Int) ≤ (c.toNat : Int) := by omega
            have h2' : (c.toNat : Int) ≤ 55 := by omega
            have Hst : Hid (∀ m, m < k + 1 → octAt u.data.toList m = true) := Lib.hid (fun m hm => by
              by_cases e : m = k
              · rw [e, Hoc.out]; exact decide_eq_true ⟨h1, h2⟩
              · exact HK.out m (by omega))
            clear h1 h2
            go_wp2_with fail
            go_roundg g
            case measure => omega
            case rel => exact ⟨k + 1, by omega, by go_num, Hst.out, rfl⟩
          · have h1' : (48 : Int) ≤ (c.toNat : Int) := by omega
            have h2' : ¬ (c.toNat : Int) ≤ 55 := by omega
            have HR : Hid (octN u.data.toList = k) := Lib.hid (octN_unique hk3 HK.out (fun _ => by rw [Hoc.out]; exact decide_eq_false (by omega)))
            clear h1 h2
            go_wp2_with fail
            go_ret
            exact ⟨by rw [HR.out]; rfl, rfl⟩
        · have h1' : ¬ (48 : Int) ≤ (c.toNat : Int) := by omega
          have HR : Hid (octN u.data.toList = k) := Lib.hid (octN_unique hk3 HK.out (fun _ => by rw [Hoc.out]; exact decide_eq_false (by omega)))
          clear h1
          go_wp2_with fail
          go_ret
          exact ⟨by rw [HR.out]; rfl, rfl⟩
  · have h3' : ¬ (3 : Int) < (u.size : Int) := by omega
    go_loopg [3] u.size (fun g v3 wx => ∃ k : Nat, k + g = u.size ∧ v3 = .int .i64 k ∧ Aside (∀ m, m < k → octAt u.data.toList m = true) ∧ w = wx)
    case atStart => exact ⟨0, by omega, rfl, fun m hm => absurd hm (by omega), rfl⟩
    case round =>
      obtain ⟨k, hk, rfl, HK, rfl⟩ := hrel
      cases gk with
      | zero =>
        obtain rfl : k = u.size := by omega
        have HR : Hid (octN u.data.toList = u.size) := Lib.hid (octN_unique hM HK.out Hfar.out)
        have hz : ¬ (((u.size : Nat) : Int) < ((u.size : Nat) : Int)) := by omega
        go_wp2_with fail
        go_ret
        exact ⟨by rw [HR.out]; rfl, rfl⟩
      | succ g =>
        have hlt : k < u.size := by omega
        have hz : ((k : Int) < ((u.size : Nat) : Int)) := by omega
        have hk3 : k ≤ 3 := by omega
        have hoc := octAt_at hlt
        obtain ⟨c, hc⟩ : ∃ c, u[k] = c := ⟨_, rfl⟩
        rw [hc] at hoc
        have Hoc := Lib.hid hoc
        clear hoc
        by_cases h1 : 48 ≤ c.toNat
        · by_cases h2 : c.toNat ≤ 55
          · have h1' : (48 : Int) ≤ (c.toNat : Int) := by omega
            have h2' : (c.toNat : Int) ≤ 55 := by omega
            have Hst : Hid (∀ m, m < k + 1 → octAt u.data.toList m = true) := Lib.hid (fun m hm => by
              by_cases e : m = k
              · rw [e, Hoc.out]; exact decide_eq_true ⟨h1, h2⟩
              · exact HK.out m (by omega))
            clear h1 h2
            go_wp2_with fail
            go_roundg g
            case measure => omega
            case rel => exact ⟨k + 1, by omega, by go_num, Hst.out, rfl⟩
          · have h1' : (48 : Int) ≤ (c.toNat : Int) := by omega
            have h2' : ¬ (c.toNat : Int) ≤ 55 := by omega
            have HR : Hid (octN u.data.toList = k) := Lib.hid (octN_unique hk3 HK.out (fun _ => by rw [Hoc.out]; exact decide_eq_false (by omega)))
            clear h1 h2
            go_wp2_with fail
            go_ret
            exact ⟨by rw [HR.out]; rfl, rfl⟩
        · have h1' : ¬ (48 : Int) ≤ (c.toNat : Int) := by omega
          have HR : Hid (octN u.data.toList = k) := Lib.hid (octN_unique hk3 HK.out (fun _ => by rw [Hoc.out]; exact decide_eq_false (by omega)))
          clear h1
          go_wp2_with fail
          go_ret
          exact ⟨by rw [HR.out]; rfl, rfl⟩
end Go.Proofs.Ytnjmapgmodoodaa
