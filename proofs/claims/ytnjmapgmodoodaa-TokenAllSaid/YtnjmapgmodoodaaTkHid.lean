/-
  token.hiddenByte: the byte that a # and two digits are.
-/
import Derived.Test.YtnjmapgmodoodaaTkPlain
import Derived.Test.YtnjmapgmodoodaaBytes
import Derived.Test.YtnjmapgmodoodaaRefSpan
import Derived.Deep.RegionWith
import Derived.WalkSmall
namespace Go.Proofs.Ytnjmapgmodoodaa
open Go.RowKit
set_option maxRecDepth 100000

theorem or_byteT {a d : Nat} (ha : a < 16) (hd : d < 16) : bits BinOp.or IntKind.i64 ((a : Int) * 16) (d : Int) % 256 = ((UInt8.ofNat (16 * a + d)).toNat : Int) := by
  have : ∀ a d : Fin 16, bits BinOp.or IntKind.i64 ((a.1 : Int) * 16) (d.1 : Int) % 256 = ((UInt8.ofNat (16 * a.1 + d.1)).toNat : Int) := by decide +kernel
  exact this ⟨a, ha⟩ ⟨d, hd⟩
/-- A byte, and how many bytes tell it. -/
def hidV (o : Option UInt8) : Value := match o with
  | none => .tuple #[.int .u8 0, .int .i64 0]
  | some b => .tuple #[.int .u8 (b.toNat : Int), .int .i64 3]
theorem hex_is (c : UInt8) {x : Int} (h : hexI (c.toNat : Int) = x) (w : World) : Calls Try.prog 46 #[.int .u8 (c.toNat : Int)] w fun e w' => e = .returned (.int .i64 x) ∧ w = w' := by
  have := c.toNat_lt
  rw [← h]; exact hex_any _ w (by omega) (by omega)
theorem hidL_short {u : ByteArray} (h : u.size < 3) : hidL u.data.toList = none := by
  have h' : u.data.toList.length < 3 := by rw [← size_data]; exact h
  match hu : u.data.toList, h' with
  | [], _ => rfl
  | [_], _ => rfl
  | [_, _], _ => rfl
  | _ :: _ :: _ :: _, h' => simp only [List.length_cons] at h'; omega
theorem hidL_at {u : ByteArray} (h : 2 < u.size) : hidL u.data.toList = if hexI (u[1].toNat : Int) < 0 ∨ hexI (u[2].toNat : Int) < 0 ∨ hexI (u[1].toNat : Int) + hexI (u[2].toNat : Int) = 0 then none else some (UInt8.ofNat (16 * (hexI (u[1].toNat : Int)).toNat + (hexI (u[2].toNat : Int)).toNat)) := by
  have h' : 2 < u.data.toList.length := by rw [← size_data]; exact h
  have e1 := byte_at u 1 (by omega)
  have e2 := byte_at u 2 h
  match hu : u.data.toList, h' with
  | [], h' => simp at h'
  | [_], h' => simp at h'
  | [_, _], h' => simp at h'
  | x :: a :: b :: r, _ =>
    rw [hu] at e1 e2
    have h1 : a = u[1] := by simpa using e1
    have h2 : b = u[2] := by simpa using e2
    rw [← h1, ← h2]
    rfl
set_option maxHeartbeats 1000000 in
theorem hidden_any (u : ByteArray) (w : World) (hs : u.size ≤ maxLen) :
    Calls Try.prog 38 #[.string u] w fun e w' => e = .returned (hidV (hidL u.data.toList)) ∧ Below w.heap.size w w' := by
  unfold maxLen at hs
  rcases Nat.lt_or_ge u.size 3 with h3 | h3
  · rw [hidL_short h3]
    have hlt : (u.size : Int) < 3 := by omega
    go_enter Try.func38, Try.ntmps38
    go_wp2_with fail
    go_ret2
    exact ⟨rfl, Below.refl _ _⟩
  · have hlt : ¬ (u.size : Int) < 3 := by omega
    rw [hidL_at h3]
    obtain ⟨c1, hc1⟩ : ∃ c, u[1] = c := ⟨_, rfl⟩
    obtain ⟨c2, hc2⟩ : ∃ c, u[2] = c := ⟨_, rfl⟩
    rw [hc1, hc2]
    have r1 := hexI_range c1
    have r2 := hexI_range c2
    obtain ⟨x, hx⟩ : ∃ x, hexI (c1.toNat : Int) = x := ⟨_, rfl⟩
    obtain ⟨y, hy⟩ : ∃ y, hexI (c2.toNat : Int) = y := ⟨_, rfl⟩
    have H1 := Lib.hid (hex_is c1 hx)
    have H2 := Lib.hid (hex_is c2 hy)
    rw [hx] at r1 ⊢
    rw [hy] at r2 ⊢
    clear hx hy
    obtain ⟨o, ho⟩ : ∃ o, (if x < 0 ∨ y < 0 ∨ x + y = 0 then none else some (UInt8.ofNat (16 * x.toNat + y.toNat))) = o := ⟨_, rfl⟩
    rw [ho]
    have Ho := Lib.hid ho
    clear ho
    have h1 : 1 < u.size := by omega
    have h2 : 2 < u.size := by omega
    have i1 : (1 : Int) < (u.size : Int) := by omega
    have i2 : (2 : Int) < (u.size : Int) := by omega
    have z1 : (0 : Int) ≤ 1 := by decide
    have z2 : (0 : Int) ≤ 2 := by decide
    go_enter Try.func38, Try.ntmps38
    go_wp2_with fail
    go_quiet ((first | (go_at_call_of 46 (c1.toNat : Int); first | exact calm (H1.out _) | exact calm_add (H1.out _)) | (go_at_call_of 46 (c2.toNat : Int); first | exact calm_add (H2.out _) | exact calm (H2.out _))))
    have hB : Below w.heap.size w (w.drewN nq) := below_drewN (Below.refl _ _) nq
    have HB := Lib.hid hB
    clear hB H1 H2
    by_cases hx : x < 0
    · have h := Ho.out
      rw [if_pos (Or.inl hx)] at h
      subst h
      clear Ho
      go_wp2_with fail
      go_ret2
      exact ⟨rfl, HB.out⟩
    · by_cases hy : y < 0
      · have h := Ho.out
        rw [if_pos (Or.inr (Or.inl hy))] at h
        subst h
        go_wp2_with fail
        go_ret2
        exact ⟨rfl, HB.out⟩
      · obtain ⟨a, rfl⟩ := Int.eq_ofNat_of_zero_le (show 0 ≤ x by omega)
        obtain ⟨b, rfl⟩ := Int.eq_ofNat_of_zero_le (show 0 ≤ y by omega)
        have hor := or_byteT (a := a) (d := b) (by omega) (by omega)
        have ha16 : a < 16 := by omega
        have hb16 : b < 16 := by omega
        by_cases hz : (a : Int) + (b : Int) = 0
        · have h := Ho.out
          rw [if_pos (Or.inr (Or.inr hz))] at h
          subst h
          have hz' : ((a : Int) + (b : Int) == 0) = true := by simpa using hz
          clear Ho r1 r2 hz
          go_wp2_with fail
          go_ret2
          exact ⟨rfl, HB.out⟩
        · have h := Ho.out
          rw [if_neg (by omega), Int.toNat_natCast, Int.toNat_natCast] at h
          generalize UInt8.ofNat (16 * a + b) = z at hor h
          subst h
          have hz' : ((a : Int) + (b : Int) == 0) = false := by simpa using hz
          clear Ho r1 r2 hz
          go_wp2_with fail
          go_ret2
          exact ⟨rfl, HB.out⟩
end Go.Proofs.Ytnjmapgmodoodaa
