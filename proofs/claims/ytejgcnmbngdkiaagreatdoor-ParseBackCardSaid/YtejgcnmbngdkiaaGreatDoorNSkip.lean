/-
  TkHid, TkSkip: texts merged.
-/
import Derived.Test.YtejgcnmbngdkiaaGreatDoorNPlain
import Derived.Test.YtejgcnmbngdkiaaGreatDoorNOct
import Derived.Deep.RegionWith
import Derived.WalkSmall
import Derived.ScopeJumps
import Derived.WalkMore
/-
  token.hiddenByte: the byte that a # and two digits are.
-/
namespace Go.Proofs.YtejgcnmbngdkiaaGreatDoor
section
open Go.RowKit
set_option maxRecDepth 100000

theorem or_byteT {a d : Nat} (ha : a < 16) (hd : d < 16) : bits BinOp.or IntKind.i64 ((a : Int) * 16) (d : Int) % 256 = ((UInt8.ofNat (16 * a + d)).toNat : Int) := by
  have : ∀ a d : Fin 16, bits BinOp.or IntKind.i64 ((a.1 : Int) * 16) (d.1 : Int) % 256 = ((UInt8.ofNat (16 * a.1 + d.1)).toNat : Int) := by decide +kernel
  exact this ⟨a, ha⟩ ⟨d, hd⟩
/-- A byte, and how many bytes tell it. -/
def hidV (o : Option UInt8) : Value := match o with
  | none => .tuple #[.int .u8 0, .int .i64 0]
  | some b => .tuple #[.int .u8 (b.toNat : Int), .int .i64 3]
theorem hex_is (c : UInt8) {x : Int} (h : hexI (c.toNat : Int) = x) (w : World) : Calls Tryz.prog 80 #[.int .u8 (c.toNat : Int)] w fun e w' => e = .returned (.int .i64 x) ∧ w = w' := by
  have := c.toNat_lt
  rw [← h]; exact hex_any _ w (by omega) (by omega)
theorem hidL_short {u : ByteArray} (h : u.size < 3) : hidL u.data.toList = none := by
  have h' : u.data.toList.length < 3 := by rw [← size_data]; exact h
  match hu : u.data.toList, h' with
  | [], _ => rfl
  | [_], _ => rfl
  | [_, _], _ => rfl
  | _ :: _ :: _ :: _, h' => simp only [List.length_cons] at h'; omega
theorem hidL_at {u : ByteArray} (h : 2 < u.size) : hidL u.data.toList = if hexI (u[1].toNat : Int) < 0 ∨ hexI (u[2].toNat : Int) < 0 ∨ hexI (u[1].toNat : Int) + hexI (u[2].toNat : Int) = 0 then none else some (UInt8.ofNat (16 * (hexI (u[1].toNat : Int)).toNat + (hexI (u[2].toNat : Int)).toNat)) := by
  have h' : 2 < u.data.toList.length := by rw [← size_data]; exact h
  have e1 := byte_at u 1 (by omega)
  have e2 := byte_at u 2 h
  match hu : u.data.toList, h' with
  | [], h' => simp at h'
  | [_], h' => simp at h'
  | [_, _], h' => simp at h'
  | x :: a :: b :: r, _ =>
    rw [hu] at e1 e2
    have h1 : a = u[1] := by simpa using e1
    have h2 : b = u[2] := by simpa using e2
    rw [← h1, ← h2]
    rfl
set_option maxHeartbeats 1000000 in
theorem hidden_any (u : ByteArray) (w : World) (hs : u.size ≤ maxLen) :
    Calls Tryz.prog 75 #[.string u] w fun e w' => e = .returned (hidV (hidL u.data.toList)) ∧ Below w.heap.size w w' := by
  unfold maxLen at hs
  rcases Nat.lt_or_ge u.size 3 with h3 | h3
  · rw [hidL_short h3]
    have hlt : (u.size : Int) < 3 := by omega
    go_enter Tryz.func75, Tryz.ntmps75
    go_wp2_with fail
    go_ret2
    exact ⟨rfl, Below.refl _ _⟩
  · have hlt : ¬ (u.size : Int) < 3 := by omega
    rw [hidL_at h3]
    obtain ⟨c1, hc1⟩ : ∃ c, u[1] = c := ⟨_, rfl⟩
    obtain ⟨c2, hc2⟩ : ∃ c, u[2] = c := ⟨_, rfl⟩
    rw [hc1, hc2]
    have r1 := hexI_range c1
    have r2 := hexI_range c2
    obtain ⟨x, hx⟩ : ∃ x, hexI (c1.toNat : Int) = x := ⟨_, rfl⟩
    obtain ⟨y, hy⟩ : ∃ y, hexI (c2.toNat : Int) = y := ⟨_, rfl⟩
    have H1 := Lib.hid (hex_is c1 hx)
    have H2 := Lib.hid (hex_is c2 hy)
    rw [hx] at r1 ⊢
    rw [hy] at r2 ⊢
    clear hx hy
    obtain ⟨o, ho⟩ : ∃ o, (if x < 0 ∨ y < 0 ∨ x + y = 0 then none else some (UInt8.ofNat (16 * x.toNat + y.toNat))) = o := ⟨_, rfl⟩
    rw [ho]
    have Ho := Lib.hid ho
    clear ho
    have h1 : 1 < u.size := by omega
    have h2 : 2 < u.size := by omega
    have i1 : (1 : Int) < (u.size : Int) := by omega
    have i2 : (2 : Int) < (u.size : Int) := by omega
    have z1 : (0 : Int) ≤ 1 := by decide
    have z2 : (0 : Int) ≤ 2 := by decide
    go_enter Tryz.func75, Tryz.ntmps75
    go_wp2_with fail
    go_quiet ((first | (go_at_call_of 80 (c1.toNat : Int); first | exact calm (H1.out _) | exact calm_add (H1.out _)) | (go_at_call_of 80 (c2.toNat : Int); first | exact calm_add (H2.out _) | exact calm (H2.out _))))
    have hB : Below w.heap.size w (w.drewN nq) := below_drewN (Below.refl _ _) nq
    have HB := Lib.hid hB
    clear hB H1 H2
    by_cases hx : x < 0
    · have h := Ho.out
      rw [if_pos (Or.inl hx)] at h
      subst h
      clear Ho
      go_wp2_with fail
      go_ret2
      exact ⟨rfl, HB.out⟩
    · by_cases hy : y < 0
      · have h := Ho.out
        rw [if_pos (Or.inr (Or.inl hy))] at h
        subst h
        go_wp2_with fail
        go_ret2
        exact ⟨rfl, HB.out⟩
      · obtain ⟨a, rfl⟩ := Int.eq_ofNat_of_zero_le (show 0 ≤ x by omega)
        obtain ⟨b, rfl⟩ := Int.eq_ofNat_of_zero_le (show 0 ≤ y by omega)
        have hor := or_byteT (a := a) (d := b) (by omega) (by omega)
        have ha16 : a < 16 := by omega
        have hb16 : b < 16 := by omega
        by_cases hz : (a : Int) + (b : Int) = 0
        · have h := Ho.out
          rw [if_pos (Or.inr (Or.inr hz))] at h
          subst h
          have hz' : ((a : Int) + (b : Int) == 0) = true := by simpa using hz
          clear Ho r1 r2 hz
          go_wp2_with fail
          go_ret2
          exact ⟨rfl, HB.out⟩
        · have h := Ho.out
          rw [if_neg (by omega), Int.toNat_natCast, Int.toNat_natCast] at h
          generalize UInt8.ofNat (16 * a + b) = z at hor h
          subst h
          have hz' : ((a : Int) + (b : Int) == 0) = false := by simpa using hz
          clear Ho r1 r2 hz
          go_wp2_with fail
          go_ret2
          exact ⟨rfl, HB.out⟩
end
end Go.Proofs.YtejgcnmbngdkiaaGreatDoor
/-
  token.Skip: where the next sign begins (a goto back to a label).
-/
namespace Go.Proofs.YtejgcnmbngdkiaaGreatDoor
section
open Go.RowKit
set_option maxRecDepth 100000

theorem Code.wp_later {P : Program} {c : Code} {Q Q' : Exit → Act → World → Prop} {a : Act} {w : World} (h : c.wp P Q a w) (hq : ∀ e a w, Q e a w → Q' e a w) : c.wp P Q' a w :=
  fun b k cs => let ⟨e, a', w', q, r⟩ := h b k cs; ⟨e, a', w', hq _ _ _ q, r⟩
/-- A scope with one label to which the run comes first, and jumps back then: what holds there each time. -/
theorem wp_scope_back {P : Program} {a : Act} {w : World} {Q : Exit → Act → World → Prop} {c rest : Code} (l : Nat) (J : Act → World → Prop) (μ : Act → World → Nat) (hf : findLabel c l = some (Code.skip.seq rest))
    (first : ∀ Q', (∀ a w, J a w → rest.wp P Q' a w) → c.wp P Q' a w)
    (pass : ∀ a w, J a w → rest.wp P (Exit.jump l (fun a' w' => J a' w' ∧ μ a' w' < μ a w) Q) a w) : (Code.scope c).wp P Q a w := by
  refine wp_scope_jumps l J μ hf (first _ fun a w h => Code.wp_later (pass a w h) ?_) (fun a w h => wp_seq (wp_skip (pass a w h)))
  intro e a' w' h
  cases e with
  | goto l' => exact ⟨h.1, h.2.1⟩
  | normal => exact h
  | exit id => exact h
  | ret => exact h
  | panic ch => exact h
  | outgrown => exact h

theorem tnums_new (W : World) (zs : List Int) (n : Nat) (hn : n = W.heap.size) : Nums (W.alloc (.cells (zs.map (Value.int .i64)).toArray 3)) (some ⟨n, 0, none⟩) zs := by
  subst hn
  refine .inr ⟨W.heap.size, 0, rfl, fun i hi => ?_⟩
  have h := heap_alloc_new W (.cells (zs.map (Value.int .i64)).toArray 3)
  unfold World.cell?
  simp only [h]
  simp [List.getElem?_eq_getElem hi]
/-- How many bytes are of one kind. -/
theorem span_one (s : ByteArray) (k : Nat) (z : Int) (w : World) (hs : s.size ≤ maxLen) {n : Nat} (hn : spanN s.data.toList [z] k = n) :
    Calls Tryz.prog 52 #[.string s, .int .i64 (k : Int), .slice (some ⟨w.heap.size, 0, none⟩) 1 1] (w.alloc (.cells #[.int .i64 z] 3)) fun e w' => e = .returned (.int .i64 (n : Int)) ∧ w.alloc (.cells #[.int .i64 z] 3) = w' := by
  rw [← hn, ← spanI_nat]
  exact span_any s (k : Int) (some ⟨w.heap.size, 0, none⟩) 1 [z] _ hs (by simp) (tnums_new w [z] _ rfl)
theorem good_false {l : List UInt8} {zs : List Int} : ∀ {n k : Nat}, spanN l zs k = n → (∀ m, m < n → goodN l zs (k + m) = true)
  | n, k, h, m, hm => by
    unfold spanN at h
    unfold goodN
    have h2 : m < ((l.drop k).takeWhile fun c => zs.contains (kindI (c.toNat : Int))).length := by omega
    have h3 := List.getElem_mem h2
    have hp := List.takeWhile_prefix (fun c : UInt8 => zs.contains (kindI (c.toNat : Int))) (l := l.drop k)
    have h4 := List.all_takeWhile (p := fun c : UInt8 => zs.contains (kindI (c.toNat : Int))) (l := l.drop k)
    have h5 := List.all_eq_true.1 h4 _ h3
    obtain ⟨r, hr⟩ := hp
    have h6 : (l.drop k)[m]? = some (((l.drop k).takeWhile fun c => zs.contains (kindI (c.toNat : Int)))[m]) := by
      rw [← List.getElem?_eq_getElem h2]
      conv => lhs; rw [← hr]
      exact List.getElem?_append_left h2
    rw [List.getElem?_drop] at h6
    rw [h6]
    exact h5
theorem span_ends {l : List UInt8} {zs : List Int} {n k : Nat} (h : spanN l zs k = n) {c : UInt8} (hc : l[k + n]? = some c) : zs.contains (kindI (c.toNat : Int)) = false := by
  unfold spanN at h
  have e : l.drop k = (l.drop k).takeWhile (fun c => zs.contains (kindI (c.toNat : Int))) ++ (l.drop k).dropWhile (fun c => zs.contains (kindI (c.toNat : Int))) := List.takeWhile_append_dropWhile.symm
  have h1 : (l.drop k)[n]? = some c := by rw [List.getElem?_drop]; exact hc
  rw [e, List.getElem?_append_right (by omega), h, Nat.sub_self] at h1
  cases hd : (l.drop k).dropWhile (fun c => zs.contains (kindI (c.toNat : Int))) with
  | nil => rw [hd] at h1; cases h1
  | cons x r =>
    rw [hd] at h1
    obtain rfl : x = c := by simpa using h1
    have h2 := List.head_dropWhile_not (fun c : UInt8 => zs.contains (kindI (c.toNat : Int))) (l := l.drop k) (by rw [hd]; simp)
    simp only [hd, List.head_cons] at h2
    simpa using h2
theorem drop_byte (s : ByteArray) (k : Nat) (h : k < s.size) : s.data.toList.drop k = s[k] :: s.data.toList.drop (k + 1) := by
  rw [List.drop_eq_getElem_cons (by rw [← size_data]; exact h)]; rfl
theorem drop_end (s : ByteArray) (k : Nat) (h : s.size ≤ k) : s.data.toList.drop k = [] := List.drop_eq_nil_of_le (by rw [← size_data]; exact h)
theorem ends_byte (s : ByteArray) (k : Nat) (h : k < s.size) : endsN s.data.toList k = 0 ↔ ¬ (s[k].toNat = 10 ∨ s[k].toNat = 13) := by
  constructor
  · intro h0 h1
    cases hp : preB (s.data.toList.drop k) [13, 10]
    · have := endsN_one s k h hp (by omega); omega
    · have := endsN_two _ _ hp; omega
  · intro h1
    cases hp : preB (s.data.toList.drop k) [13, 10]
    · exact endsN_none s k h hp (by omega) (by omega)
    · exfalso
      have h2 := (of_decide_eq_true hp)
      rw [drop_byte s k h] at h2
      have h3 := List.cons_prefix_cons.1 h2
      exact h1 (.inr (by rw [← h3.1]; rfl))
/-- From a place on: passed are the white bytes; there it ends, or a note begins. -/
theorem skip_here {s : ByteArray} {k n : Nat} (hk : k ≤ s.size) (hn : spanN s.data.toList [0] k = n) :
    k + n ≤ s.size ∧ k + skipGo false (s.data.toList.drop k) = k + n + skipGo false (s.data.toList.drop (k + n)) ∧ (∀ h : k + n < s.size, ¬ kindI (s[k + n].toNat : Int) = 0) := by
  have h1 := spanN_le s.data.toList [0] k
  rw [hn, ← size_data] at h1
  have h2 := skip_span (s.data.toList.drop k) n (fun m hm => by
    have := good_false hn m hm
    unfold goodN at this ⊢
    rwa [List.getElem?_drop])
  rw [List.drop_drop] at h2
  refine ⟨by omega, by omega, fun h => ?_⟩
  have h3 := span_ends hn (byte_at s (k + n) h)
  intro h4
  rw [h4] at h3
  cases h3

set_option maxHeartbeats 2000000 in
theorem skip_any (s : ByteArray) (a : Int) (w : World) (hs : s.size ≤ maxLen) :
    Calls Tryz.prog 31 #[.string s, .int .i64 a] w fun e w' => e = .returned (.int .i64 (skipI s.data.toList a : Nat)) ∧ Below w.heap.size w w' := by
  have hs' := hs
  unfold maxLen at hs
  obtain ⟨p, hp⟩ : ∃ p, placeN s.data.toList a = p := ⟨_, rfl⟩
  have hpl : p ≤ s.size := by rw [← hp, size_data]; exact placeN_le _ _
  have hpi : (a < 0 ∧ p = 0) ∨ (¬ a < 0 ∧ ¬ (s.size : Int) < a ∧ a = (p : Int)) ∨ (¬ a < 0 ∧ (s.size : Int) < a ∧ p = s.size) := by
    have : p = (min (max a 0) (s.size : Int)).toNat := by rw [← hp, size_data]; rfl
    omega
  obtain ⟨R, hR⟩ : ∃ R, skipI s.data.toList a = R := ⟨_, rfl⟩
  rw [hR]
  unfold skipI skipN at hR
  rw [hp] at hR
  have HR := Lib.hid hR
  clear hR hp
  go_enter Tryz.func31, Tryz.ntmps31
  go_wp2_with fail
  refine wp_scope_back 0 (fun a' wx => ∃ (k : Nat) (u5 u6 u7 u8 u9 u10 u11 u12 u13 u14 u15 u16 u17 u18 u19 u20 u21 u22 u23 u24 u25 u26 u27 u28 u29 u30 u31 u32 u33 u34 u35 u36 u37 u38 : Value), a' = { tmps := #[.string s, .int .i64 k, undef, undef, .int .i64 0, u5, u6, u7, u8, u9, u10, u11, u12, u13, u14, u15, u16, u17, u18, u19, u20, u21, u22, u23, u24, u25, u26, u27, u28, u29, u30, u31, u32, u33, u34, u35, u36, u37, u38], defers := [] } ∧ k ≤ s.size ∧ Aside (k + skipGo false (s.data.toList.drop k) = R) ∧ Below w.heap.size w wx) (fun a' _ => s.size - (intOf (a'.tmps.getD 1 undef)).toNat) rfl ?_ ?_
  · intro Q' hQ
    have h0 : ¬ (s.size : Int) < 0 := by omega
    rcases hpi with ⟨h1, rfl⟩ | ⟨h1, h2, rfl⟩ | ⟨h1, h2, rfl⟩
    all_goals
      go_wp2_with fail
      go_step3
      rename_i K hK
      exact hK _ _ (hQ _ _ ⟨_, _, _, _, _, _, _, _, _, _, _, _, _, _, _, _, _, _, _, _, _, _, _, _, _, _, _, _, _, _, _, _, _, _, _, rfl, hpl, HR.out, Below.refl _ _⟩)
  · rintro a' wx ⟨k, u5, u6, u7, u8, u9, u10, u11, u12, u13, u14, u15, u16, u17, u18, u19, u20, u21, u22, u23, u24, u25, u26, u27, u28, u29, u30, u31, u32, u33, u34, u35, u36, u37, u38, rfl, hk, HK, hb⟩
    have Hb := Lib.hid hb
    clear hb
    obtain ⟨n, hn⟩ : ∃ n, spanN s.data.toList [0] k = n := ⟨_, rfl⟩
    obtain ⟨hkn, hst, hkd⟩ := skip_here hk hn
    rw [HK.out] at hst
    have HS := Lib.hid (fun W => span_one s k 0 W hs' hn)
    clear hn HK
    obtain ⟨q, hq⟩ : ∃ q, k + n = q := ⟨_, rfl⟩
    rw [hq] at hkn hst hkd
    have hqk : (k : Int) + (n : Int) = (q : Int) := by omega
    have hkq : k ≤ q := by omega
    clear hq
    rcases Nat.lt_or_ge q s.size with hlt | hge
    · by_cases h37 : s[q].toNat = 37
      · have h37' : ((s[q].toNat : Int) != 37) = false := by simp; omega
        have hne : ((q : Int) == (s.size : Int)) = false := by simp; omega
        have hst' : q + skipGo true (s.data.toList.drop q) = R := by
          rw [drop_byte s q hlt, skip_note h37] at hst
          rw [drop_byte s q hlt, skip_note h37]
          omega
        have Hq := Lib.hid ((ends_byte s q hlt).2 (by omega))
        have Hst := Lib.hid hst'
        clear hst hst' hkd h37
        go_wp2_with fail
        refine (HS.out _).mono ?_
        rintro e w1 ⟨rfl, rfl⟩
        go_wp2_with fail
        go_loopg [1] (s.size - q) (fun g v1 wy => ∃ m : Nat, m + g = s.size ∧ q ≤ m ∧ v1 = .int .i64 m ∧ Aside (m + skipGo true (s.data.toList.drop m) = R) ∧ wx.alloc (.cells #[.int .i64 0] 3) = wy)
        case atStart => exact ⟨q, by omega, Nat.le_refl _, rfl, Hst.out, rfl⟩
        case round =>
          obtain ⟨m, hm, hqm, rfl, HM, rfl⟩ := hrel
          cases gk with
          | zero =>
            obtain rfl : m = s.size := by omega
            have Hr : Hid (s.size = R) := Lib.hid (by have := HM.out; rwa [drop_end s _ (Nat.le_refl _)] at this)
            have hz : ¬ ((s.size : Int) < (s.size : Int)) := by omega
            go_wp2_with fail
            go_step3
            refine ⟨rfl, ⟨s.size, _, _, _, _, _, _, _, _, _, _, _, _, _, _, _, _, _, _, _, _, _, _, _, _, _, _, _, _, _, _, _, _, _, _, rfl, Nat.le_refl _, ?_, Hb.out.alloc Hb.out.size _⟩, ?_⟩
            · show _ = _
              rw [drop_end s _ (Nat.le_refl _)]; exact Hr.out
            · simp [intOf]; omega
          | succ g =>
            have hlm : m < s.size := by omega
            have hz : ((m : Int) < (s.size : Int)) := by omega
            have HE := Lib.hid (fun W => ends_any s (m : Int) W)
            rw [endsI_nat] at HE
            by_cases he : endsN s.data.toList m = 0
            · have he' : ((endsN s.data.toList m : Int) == 0) = true := by simp [he]
              have HM2 : Hid (m + 1 + skipGo true (s.data.toList.drop (m + 1)) = R) := Lib.hid (by
                have h1 := HM.out
                rw [drop_byte s m hlm, skip_in ((ends_byte s m hlm).1 he)] at h1
                omega)
              clear he
              generalize endsN s.data.toList m = en at he' HE
              go_wp2_with fail
              refine (HE.out _).mono ?_
              rintro e w1 ⟨rfl, rfl⟩
              go_wp2_with fail
              go_roundg g
              case measure => omega
              case rel => exact ⟨m + 1, by omega, by omega, by go_num, HM2.out, rfl⟩
            · have he' : ((endsN s.data.toList m : Int) == 0) = false := by simp [he]
              have hqm' : q < m := by
                rcases Nat.lt_or_ge q m with h | h
                · exact h
                · exfalso; obtain rfl : q = m := by omega
                  exact he Hq.out
              have HM2 : Hid (m + skipGo false (s.data.toList.drop m) = R) := Lib.hid (by
                have h1 := HM.out
                rw [drop_byte s m hlm] at h1 ⊢
                have h2 : s[m].toNat = 10 ∨ s[m].toNat = 13 := by
                  rcases Nat.decEq s[m].toNat 10 with h | h
                  · rcases Nat.decEq s[m].toNat 13 with h' | h'
                    · exact absurd ((ends_byte s m hlm).2 (by omega)) he
                    · exact .inr h'
                  · exact .inl h
                rw [skip_eol h2] at h1 ⊢
                exact h1)
              clear he
              generalize endsN s.data.toList m = en at he' HE
              go_wp2_with fail
              refine (HE.out _).mono ?_
              rintro e w1 ⟨rfl, rfl⟩
              go_wp2_with fail
              go_step3
              refine ⟨rfl, ⟨m, _, _, _, _, _, _, _, _, _, _, _, _, _, _, _, _, _, _, _, _, _, _, _, _, _, _, _, _, _, _, _, _, _, _, rfl, by omega, HM2.out, Hb.out.alloc Hb.out.size _⟩, ?_⟩
              simp [intOf]; omega
      · have hr : q = R := by rw [drop_byte s q hlt, skip_stop (hkd hlt) h37] at hst; omega
        have h37' : ((s[q].toNat : Int) != 37) = true := by simp; omega
        have hne : ((q : Int) == (s.size : Int)) = false := by simp; omega
        clear hst hkd h37
        subst hr
        go_wp2_with fail
        refine (HS.out _).mono ?_
        rintro e w1 ⟨rfl, rfl⟩
        go_wp2_with fail
        simp only [Exit.jump]
        go_ret
        exact ⟨rfl, Hb.out.alloc Hb.out.size _⟩
    · obtain rfl : q = s.size := by omega
      have hr : s.size = R := by rw [drop_end s _ (Nat.le_refl _)] at hst; exact hst.symm
      clear hst hkd
      subst hr
      go_wp2_with fail
      refine (HS.out _).mono ?_
      rintro e w1 ⟨rfl, rfl⟩
      go_wp2_with fail
      simp only [Exit.jump]
      go_ret
      exact ⟨rfl, Hb.out.alloc Hb.out.size _⟩
end
end Go.Proofs.YtejgcnmbngdkiaaGreatDoor
