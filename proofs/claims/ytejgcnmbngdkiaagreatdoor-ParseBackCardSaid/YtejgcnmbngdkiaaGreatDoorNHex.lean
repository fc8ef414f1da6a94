/-
  TkPut, TkHex: texts merged.
-/
import Derived.Test.YtejgcnmbngdkiaaGreatDoorNPlain
import Derived.Test.YtejgcnmbngdkiaaGreatDoorRows
import Derived.Test.YtejgcnmbngdkiaaGreatDoorNBld
import Derived.WalkKit
import Derived.WalkSpells
import Derived.WalkLawsBesides
import Derived.Lib.Hide
import Derived.Test.YtejgcnmbngdkiaaGreatDoorNSkip
import Derived.Test.YtejgcnmbngdkiaaGreatDoorNTok
/-
  token.pairing: the function that puts digits together.
-/
namespace Go.Proofs.YtejgcnmbngdkiaaGreatDoor
section
open Go.RowKit
set_option maxRecDepth 100000

theorem pairing_is (b : Nat) (w : World) :
    Calls Tryz.prog 79 #[.pointer (some ⟨b, 0, none⟩)] w fun e w' =>
      e = .returned (.func (.func 94) #[] #[.pointer (some ⟨w.heap.size + 1, 0, none⟩), .pointer (some ⟨w.heap.size, 0, none⟩)]) ∧
      (w.alloc (.cells #[.pointer (some ⟨b, 0, none⟩)] 43)).alloc (.cells #[.int .i64 (-1)] 3) = w' := by
  go_enter Tryz.func79, Tryz.ntmps79
  go_wp2_with fail
  go_ret
  exact ⟨rfl, rfl⟩

/-- A builder, the pointer to it, and the digit that waits, in blocks side by side. -/
def PairAt (B : Nat) (a : Int) (l : List UInt8) (w : World) : Prop :=
  Bld B B l w ∧ w.heap[B + 1]? = some (.cells #[.pointer (some ⟨B, 0, none⟩)] 43 (0, 0)) ∧ w.heap[B + 2]? = some (.cells #[.int .i64 a] 3 (0, 0))

theorem Bld.set {B : Nat} {l : List UInt8} {w : World} (h : Bld B B l w) {a : Int} (h2 : w.heap[B + 2]? = some (.cells #[.int .i64 a] 3 (0, 0))) (v : Value) : Bld B B l (w.setCell ⟨B + 2, 0, none⟩ v) := by
  have key : ∀ p, Lib.BuilderAtF 46 5 B B p (Lib.byteCells l) w → Lib.BuilderAtF 46 5 B B p (Lib.byteCells l) (w.setCell ⟨B + 2, 0, none⟩ v) := by
    rintro p ⟨hB, x, hb, hown, hne⟩
    refine ⟨hB, x, ?_, ?_, hne⟩
    · rw [Below.heap_setCell _ _ _ _ (by simp)]; exact hb
    · exact hown.kept (row := some (B + 2)) ⟨rfl, rfl, rfl, by simp [World.setCell], fun k _ hk => Below.heap_setCell _ _ _ _ (fun e => hk (by simp [e]))⟩ (Or.inr (Lib.ownBlock_neF hown h2 (by decide)))
  exact h.imp (key _) (key _)

theorem PairAt.set {B : Nat} {a : Int} {l : List UInt8} {w : World} (h : PairAt B a l w) (d : Int) : PairAt B d l (w.setCell ⟨B + 2, 0, none⟩ (.int .i64 d)) := by
  obtain ⟨h0, h1, h2⟩ := h
  refine ⟨h0.set h2 _, ?_, ?_⟩
  · rw [Below.heap_setCell _ _ _ _ (by simp)]; exact h1
  · simp [World.setCell, Array.getElem?_modify, h2]

set_option maxHeartbeats 1000000 in
/-- A digit where none waits: it waits. -/
theorem put_wait (B : Nat) (d : Nat) (l : List UInt8) (w : World) (h : PairAt B (-1) l w) :
    Calls Tryz.prog 94 #[.int .i64 (d : Int), .pointer (some ⟨B + 2, 0, none⟩), .pointer (some ⟨B + 1, 0, none⟩)] w fun e w' => e = .returned (.tuple #[]) ∧ PairAt B (d : Int) l w' ∧ Below B w w' := by
  have H := Lib.hid h
  obtain ⟨-, -, h2⟩ := h
  have c2 : w.cell? ⟨B + 2, 0, none⟩ = some (.int .i64 (-1)) := by rw [Lib.cell_of_heap h2]; rfl
  have f2 : w.frozen? ⟨B + 2, 0, none⟩ = false := Lib.frozen_of_heap h2 0
  clear h2
  go_enter Tryz.func94, Tryz.ntmps94
  go_wp2_with fail
  refine bodyPost_ret (v := .tuple #[]) (by simp [results, go_sem]) rfl ⟨rfl, H.out.set _, (Below.refl B w).setCell (p := ⟨B + 2, 0, none⟩) (by simp) _⟩

theorem or_byteH {a d : Nat} (ha : a < 16) (hd : d < 16) : bits BinOp.or IntKind.i64 ((a : Int) * 16) (d : Int) % 256 = ((UInt8.ofNat (16 * a + d)).toNat : Int) := by
  have : ∀ a d : Fin 16, bits BinOp.or IntKind.i64 ((a.1 : Int) * 16) (d.1 : Int) % 256 = ((UInt8.ofNat (16 * a.1 + d.1)).toNat : Int) := by decide +kernel
  exact this ⟨a, ha⟩ ⟨d, hd⟩

set_option maxHeartbeats 1000000 in
/-- A digit where one waits: a byte. -/
theorem put_pair (B : Nat) (a d : Nat) (l : List UInt8) (w : World) (h : PairAt B (a : Int) l w) (ha : a < 16) (hd : d < 16) (hl : l.length ≤ 1000000000) (hB : B ≤ w.heap.size) :
    Calls Tryz.prog 94 #[.int .i64 (d : Int), .pointer (some ⟨B + 2, 0, none⟩), .pointer (some ⟨B + 1, 0, none⟩)] w fun e w' => e = .returned (.tuple #[]) ∧ PairAt B (-1) (l ++ [UInt8.ofNat (16 * a + d)]) w' ∧ Below B w w' := by
  have H := Lib.hid h
  obtain ⟨-, h1, h2⟩ := h
  have c1 : w.cell? ⟨B + 1, 0, none⟩ = some (.pointer (some ⟨B, 0, none⟩)) := by rw [Lib.cell_of_heap h1]; rfl
  have c2 : w.cell? ⟨B + 2, 0, none⟩ = some (.int .i64 (a : Int)) := by rw [Lib.cell_of_heap h2]; rfl
  have f2 : w.frozen? ⟨B + 2, 0, none⟩ = false := Lib.frozen_of_heap h2 0
  clear h1 h2
  have hne : ¬ (a : Int) = -1 := by omega
  go_enter Tryz.func94, Tryz.ntmps94
  go_wp2_with fail
  have hor := or_byteH ha hd
  rw [hor]
  refine (wbyte_is B B l _ w H.out.1 (by omega) hB).mono ?_
  rintro e w2 ⟨rfl, hB2, hb, hk⟩
  have HB2 := Lib.hid hB2
  have Hb2 := Lib.hid hb
  have Hk2 := Lib.hid hk
  clear hB2 hb hk
  have h1 := H.out.2.1
  have h2 := H.out.2.2
  have g1 : w2.heap[B + 1]? = some (.cells #[.pointer (some ⟨B, 0, none⟩)] 43 (0, 0)) := Hk2.out _ _ h1 (by simp) (by simp)
  have g2 : w2.heap[B + 2]? = some (.cells #[.int .i64 (a : Int)] 3 (0, 0)) := Hk2.out _ _ h2 (by simp) (by simp)
  have H2 : Hid (PairAt B (a : Int) (l ++ [UInt8.ofNat (16 * a + d)]) w2) := Lib.hid ⟨HB2.out, g1, g2⟩
  have k2 : w2.cell? ⟨B + 2, 0, none⟩ = some (.int .i64 (a : Int)) := by rw [Lib.cell_of_heap g2]; rfl
  have kf2 : w2.frozen? ⟨B + 2, 0, none⟩ = false := Lib.frozen_of_heap g2 0
  clear h1 h2 g1 g2 c1 c2 f2
  go_wp2_with fail
  go_end0
  exact ⟨rfl, H2.out.set _, Hb2.out.setCell (p := ⟨B + 2, 0, none⟩) (by simp) _⟩

theorem pairsH_short : ∀ ds : List Nat, (pairsH ds).length ≤ ds.length
  | [] => Nat.le_refl _
  | [_] => Nat.le_refl _
  | a :: b :: r => by
    show (pairsH r).length + 1 ≤ r.length + 1 + 1
    have := pairsH_short r
    omega

/-- The digits that were put, one behind the other. -/
def DigAt (B : Nat) (ds : List Nat) (w : World) : Prop :=
  (ds.length % 2 = 0 ∧ PairAt B (-1) (pairsH ds) w) ∨ ∃ (p : List Nat) (d : Nat), ds = p ++ [d] ∧ p.length % 2 = 0 ∧ d < 16 ∧ PairAt B (d : Int) (pairsH p) w

theorem put_any (B : Nat) (ds : List Nat) (d : Nat) (w : World) (h : DigAt B ds w) (hd : d < 16) (hl : ds.length ≤ 1000000000) (hB : B ≤ w.heap.size) :
    Calls Tryz.prog 94 #[.int .i64 (d : Int), .pointer (some ⟨B + 2, 0, none⟩), .pointer (some ⟨B + 1, 0, none⟩)] w fun e w' => e = .returned (.tuple #[]) ∧ DigAt B (ds ++ [d]) w' ∧ Below B w w' := by
  rcases h with ⟨h0, h⟩ | ⟨p, a, rfl, h0, ha, h⟩
  · refine (put_wait B d _ w h).mono ?_
    rintro e w' ⟨he, h1, h2⟩
    exact ⟨he, Or.inr ⟨ds, d, rfl, h0, hd, h1⟩, h2⟩
  · have := pairsH_short p
    refine (put_pair B a d _ w h ha hd (by simp at hl; omega) hB).mono ?_
    rintro e w' ⟨he, h1, h2⟩
    refine ⟨he, Or.inl ⟨by simp; omega, ?_⟩, h2⟩
    rw [pairsH_snoc2 p a d h0]
    exact h1

/-- Behind a 0 all that was met is told. -/
theorem DigAt.told {B : Nat} {ds : List Nat} {w : World} (h : DigAt B (ds ++ [0]) w) : Bld B B (pairsH ds) w := by
  rcases h with ⟨h0, h⟩ | ⟨p, d, e, h0, -, h⟩
  · rw [pairsH_pad ds (by simp at h0; omega)] at h
    exact h.1
  · obtain ⟨rfl, -⟩ := List.append_inj' e rfl
    exact h.1

theorem pairsH_even : ∀ (ds : List Nat), ds.length % 2 = 0 → (pairsH ds).length = ds.length / 2
  | [], _ => rfl
  | [_], h => by simp at h
  | a :: b :: r, h => by
    show (pairsH r).length + 1 = _
    rw [pairsH_even r (by simp at h; omega)]
    simp only [List.length_cons]; omega
theorem pairsH_odd : ∀ (ds : List Nat), ds.length % 2 = 1 → (pairsH ds).length = ds.length / 2 + 1
  | [], h => by simp at h
  | [_], _ => by simp [pairsH]
  | a :: b :: r, h => by
    show (pairsH r).length + 1 = _
    rw [pairsH_odd r (by simp at h; omega)]
    simp only [List.length_cons]; omega
/-- How many bytes stand there already. -/
theorem DigAt.some {B : Nat} {ds : List Nat} {w : World} (h : DigAt B ds w) : ∃ l, Bld B B l w ∧ l.length = ds.length / 2 := by
  rcases h with ⟨h0, h⟩ | ⟨p, d, rfl, h0, -, h⟩
  · exact ⟨_, h.1, pairsH_even ds h0⟩
  · exact ⟨_, h.1, by rw [pairsH_even p h0, List.length_append, List.length_singleton]; omega⟩
end
end Go.Proofs.YtejgcnmbngdkiaaGreatDoor
/-
  token.hexText: a text of hexadecimal digits.
-/
namespace Go.Proofs.YtejgcnmbngdkiaaGreatDoor
section
open Go.RowKit
set_option maxRecDepth 100000

/-- The sign that is to be told, the digits that were put, and all else as it was. -/
def HexAt (w : World) (ds : List Nat) (wx : World) : Prop :=
  TokCell wx w.heap.size (tokC 0 0 ⟨#[]⟩ 0 0) ∧ DigAt (w.heap.size + 1) ds wx ∧ Below w.heap.size w wx ∧ w.heap.size + 4 ≤ wx.heap.size
theorem HexAt.new (w : World) : HexAt w [] ((((w.alloc (.cells (tokC 0 0 ⟨#[]⟩ 0 0) 52)).alloc (.cells #[.pointer none, .slice none 0 0] 46)).alloc (.cells #[.pointer (some ⟨w.heap.size + 1, 0, none⟩)] 43)).alloc (.cells #[.int .i64 (-1)] 3)) := by
  have h := SayAt.new w
  obtain ⟨W, hW⟩ : ∃ W, (w.alloc (.cells (tokC 0 0 ⟨#[]⟩ 0 0) 52)).alloc (.cells #[.pointer none, .slice none 0 0] 46) = W := ⟨_, rfl⟩
  have hs : W.heap.size = w.heap.size + 2 := by rw [← hW]; simp
  rw [hW] at h ⊢
  clear hW
  have h2 := (h.later (w' := W.alloc (.cells #[.pointer (some ⟨w.heap.size + 1, 0, none⟩)] 43)) ((Below.refl _ W).alloc (Nat.le_refl _) _))
  have h3 := (h2.later (w' := (W.alloc (.cells #[.pointer (some ⟨w.heap.size + 1, 0, none⟩)] 43)).alloc (.cells #[.int .i64 (-1)] 3)) ((Below.refl _ _).alloc (Nat.le_refl _) _))
  refine ⟨h3.1, .inl ⟨rfl, h3.2.1, ?_, ?_⟩, h3.2.2.1, by simp; omega⟩
  · rw [Lib.alloc_old _ _ _ (by simp; omega)]
    have := heap_alloc_new W (.cells #[.pointer (some ⟨w.heap.size + 1, 0, none⟩)] 43)
    rw [hs] at this
    exact this
  · have := heap_alloc_new (W.alloc (.cells #[.pointer (some ⟨w.heap.size + 1, 0, none⟩)] 43)) (.cells #[.int .i64 (-1)] 3)
    rw [World.size_alloc, hs] at this
    exact this
theorem hex_digit_put {w wx : World} {ds : List Nat} (d : Nat) (h : HexAt w ds wx) (hd : d < 16) (hl : ds.length ≤ 1000000000) :
    Calls Tryz.prog 94 #[.int .i64 (d : Int), .pointer (some ⟨w.heap.size + 2 + 1, 0, none⟩), .pointer (some ⟨w.heap.size + 2, 0, none⟩)] wx fun e w' => e = .returned (.tuple #[]) ∧ HexAt w (ds ++ [d]) w' :=
  (put_any (w.heap.size + 1) ds d wx h.2.1 hd hl (by have := h.2.2.2; omega)).mono fun e w' ⟨he, hn, hb⟩ =>
    ⟨he, h.1.later hb (Nat.lt_succ_self _), hn, h.2.2.1.trans (hb.mono (Nat.le_succ _)), Nat.le_trans h.2.2.2 hb.size⟩
theorem hex_len {w wx : World} {ds : List Nat} (h : HexAt w ds wx) : Calls Tryz.prog 76 #[.pointer (some ⟨w.heap.size + 1, 0, none⟩)] wx fun e w' => e = .returned (.int .i64 ((ds.length / 2 : Nat) : Int)) ∧ wx = w' := by
  obtain ⟨l, hb, hl⟩ := h.2.1.some
  rw [← hl]; exact len_is _ _ _ _ hb
theorem hex_told {w wx : World} {ds : List Nat} (h : HexAt w (ds ++ [0]) wx) : SayAt w (pairsH ds) wx := ⟨h.1, h.2.1.told, h.2.2.1, by have := h.2.2.2; omega⟩

set_option maxHeartbeats 2000000 in
theorem hexText_any (u : ByteArray) (w : World) (hs : u.size ≤ 100000000) (h0 : 0 < u.size) :
    Calls Tryz.prog 57 #[.string u] w fun e w' => e = .returned (hexGo [] 1 (u.data.toList.drop 1)).told ∧ Below w.heap.size w w' := by
  obtain ⟨r, hr⟩ : ∃ r, hexGo [] 1 (u.data.toList.drop 1) = r := ⟨_, rfl⟩
  rw [hr]
  have Hr := Lib.hid hr
  clear hr
  have HS0 := Lib.hid (HexAt.new w)
  unfold tokC at HS0
  go_enter Tryz.func57, Tryz.ntmps57
  go_wp2_with fail
  go_step3
  go_wp2_with fail
  refine (pairing_is _ _).mono ?_
  rintro e w1 ⟨rfl, rfl⟩
  go_wp2_with fail
  go_step3
  go_wp2_with fail
  go_loopg [6] (u.size - 1) (fun g v6 wx => ∃ (k : Nat) (ds : List Nat), k + g = u.size ∧ v6 = .int .i64 k ∧ ds.length ≤ k ∧ Aside (hexGo ds k (u.data.toList.drop k) = r) ∧ Aside (HexAt w ds wx))
  case atStart => exact ⟨1, [], by omega, rfl, by decide, Hr.out, HS0.out⟩
  case round =>
    obtain ⟨k, ds, hk, rfl, hdk, HR, HS⟩ := hrel
    clear Hr HS0
    cases gk with
    | zero =>
      obtain rfl : k = u.size := by omega
      have hz : ¬ ((u.size : Int) < (u.size : Int)) := by omega
      have h := HR.out
      rw [drop_end u _ (Nat.le_refl _)] at h
      obtain rfl : Sg.err 5 = r := h
      go_wp2_with (refine TokCell.store rfl rfl _ _ rfl w.heap.size (tokC 0 0 ⟨#[]⟩ 0 0) _ _ _ _ _ rfl rfl HS.out.1 rfl w.heap.size w HS.out.2.2.1 (Nat.le_refl _) ?_; intro w2 HT HB HO; clear HO)
      obtain ⟨k0, k1, k2, k3, k4⟩ := HT.out.parts
      try rw [Exit.noGoto_ret]
      exact bodyPost_ret (v := .tuple #[.agg #[.int .i64 0, .int .i64 0, .string ⟨#[]⟩, .int .i64 0, .int .i64 0], .int .i64 5]) (by simp [results, Tryz.results57, go_sem, k0, k1, k2, k3, k4]) rfl ⟨rfl, HB.out⟩
    | succ g =>
      have hlt : k < u.size := by omega
      have hz : (k : Int) < (u.size : Int) := by omega
      have hk0 : (0 : Int) ≤ (k : Int) := by omega
      obtain ⟨c, hc⟩ : ∃ c, u[k] = c := ⟨_, rfl⟩
      have h := HR.out
      rw [drop_byte u k hlt, hc] at h
      have hx := hexI_range c
      by_cases hend : c.toNat = 62
      · rw [hex_end hend] at h
        have hlen : (pairsH ds).length = (ds.length + 1) / 2 := by
          rcases Nat.mod_two_eq_zero_or_one ds.length with e | e
          · rw [pairsH_even ds e]; omega
          · rw [pairsH_odd ds e]; omega
        obtain ⟨x, hxx⟩ : ∃ x, hexI (c.toNat : Int) = x := ⟨_, rfl⟩
        have HX := Lib.hid (fun W => hex_is c hxx W)
        have hcz : (c.toNat : Int) = 62 := by omega
        rw [hcz] at HX
        obtain ⟨m, hm⟩ : ∃ m, (pairsH ds).length = m := ⟨_, rfl⟩
        have Hm := Lib.hid hm
        rw [hm] at hlen
        by_cases hlong : 65535 < m
        · rw [if_pos (by omega)] at h
          subst h
          have hlz : (65535 : Int) < (m : Int) := by omega
          clear hm hx hxx hend hlen
          go_wp2_with fail
          refine (HX.out _).mono ?_
          rintro e w1 ⟨rfl, rfl⟩
          go_wp2_with fail
          refine (hex_digit_put 0 HS.out (by decide) (by omega)).mono ?_
          rintro e w1 ⟨rfl, hn⟩
          have HN := Lib.hid (hex_told hn)
          clear hn
          go_wp2_with fail
          refine (say_len HN.out).mono ?_
          rintro e w1 ⟨rfl, rfl⟩
          rw [Hm.out]
          go_wp2_with (refine TokCell.store rfl rfl _ _ rfl w.heap.size (tokC 0 0 ⟨#[]⟩ 0 0) _ _ _ _ _ rfl rfl HN.out.1 rfl w.heap.size w HN.out.2.2.1 (Nat.le_refl _) ?_; intro w2 HT HB HO; clear HO)
          obtain ⟨k0, k1, k2, k3, k4⟩ := HT.out.parts
          try rw [Exit.noGoto_ret]
          exact bodyPost_ret (v := .tuple #[.agg #[.int .i64 0, .int .i64 0, .string ⟨#[]⟩, .int .i64 0, .int .i64 0], .int .i64 8]) (by simp [results, Tryz.results57, go_sem, k0, k1, k2, k3, k4]) rfl ⟨rfl, HB.out⟩
        · rw [if_neg (by omega)] at h
          subst h
          have hlz : ¬ (65535 : Int) < (m : Int) := by omega
          clear hm hx hxx hend hlen
          go_wp2_with fail
          refine (HX.out _).mono ?_
          rintro e w1 ⟨rfl, rfl⟩
          go_wp2_with fail
          refine (hex_digit_put 0 HS.out (by decide) (by omega)).mono ?_
          rintro e w1 ⟨rfl, hn⟩
          have HN := Lib.hid (hex_told hn)
          clear hn
          go_wp2_with fail
          refine (say_len HN.out).mono ?_
          rintro e w1 ⟨rfl, rfl⟩
          rw [Hm.out]
          go_wp2_with fail
          refine (say_string HN.out).mono ?_
          rintro e w1 ⟨rfl, hn⟩
          have HN2 := Lib.hid hn
          clear hn
          go_wp2_with (refine TokCell.store rfl rfl _ _ rfl w.heap.size (tokC 0 0 ⟨#[]⟩ 0 0) _ _ _ _ _ rfl rfl HN2.out.1 rfl w.heap.size w HN2.out.2.2.1 (Nat.le_refl _) ?_; intro w2 HT HB HO; clear HO)
          obtain ⟨k0, k1, k2, k3, k4⟩ := HT.out.parts
          try rw [Exit.noGoto_ret]
          exact bodyPost_ret (v := .tuple #[.agg #[.int .i64 3, .int .i64 0, .string (bytes (pairsH ds)), .int .i64 0, .int .i64 ((k : Int) + 1)], .int .i64 0]) (by simp [results, Tryz.results57, go_sem, k0, k1, k2, k3, k4]) rfl ⟨rfl, HB.out⟩
      · have hcz : ((c.toNat : Int) == 62) = false := by simp; omega
        by_cases hw : kindI (c.toNat : Int) = 0
        · rw [hex_white hw] at h
          have Hnext := Lib.hid h
          obtain ⟨x, hxx⟩ : ∃ x, hexI (c.toNat : Int) = x := ⟨_, rfl⟩
          have HX := Lib.hid (fun W => hex_is c hxx W)
          have HK := Lib.hid (fun W => kind_is c hw W)
          clear h hx hxx hend hw
          go_wp2_with fail
          refine (HX.out _).mono ?_
          rintro e w1 ⟨rfl, rfl⟩
          go_wp2_with fail
          refine (HK.out _).mono ?_
          rintro e w1 ⟨rfl, rfl⟩
          go_wp2_with fail
          go_roundg g
          case measure => omega
          case rel => exact ⟨k + 1, ds, by omega, by go_num, by omega, Hnext.out, HS.out⟩
        · obtain ⟨y, hy⟩ : ∃ y, kindI (c.toNat : Int) = y := ⟨_, rfl⟩
          have HK := Lib.hid (fun W => kind_is c hy W)
          have hyz : (y == 0) = false := by rw [← hy]; simpa using hw
          by_cases hh : 0 ≤ hexI (c.toNat : Int)
          · rw [hex_put hend hh] at h
            obtain ⟨d, hd⟩ : ∃ d : Nat, hexI (c.toNat : Int) = (d : Int) := ⟨(hexI (c.toNat : Int)).toNat, by omega⟩
            have HX := Lib.hid (fun W => hex_is c hd W)
            have hd16 : d < 16 := by omega
            rw [hd, Int.toNat_natCast] at h
            by_cases hlong : 65535 < (ds.length + 1) / 2
            · rw [if_pos hlong] at h
              subst h
              obtain ⟨m, hm⟩ : ∃ m, (ds ++ [d]).length / 2 = m := ⟨_, rfl⟩
              have Hm := Lib.hid hm
              have hlz : (65535 : Int) < (m : Int) := by rw [List.length_append, List.length_singleton] at hm; omega
              clear hm hx hend hw hy hh hd
              go_wp2_with fail
              refine (HX.out _).mono ?_
              rintro e w1 ⟨rfl, rfl⟩
              go_wp2_with fail
              refine (HK.out _).mono ?_
              rintro e w1 ⟨rfl, rfl⟩
              go_wp2_with fail
              refine (hex_digit_put d HS.out hd16 (by omega)).mono ?_
              rintro e w1 ⟨rfl, hn⟩
              have HN := Lib.hid hn
              clear hn
              go_wp2_with fail
              refine (hex_len HN.out).mono ?_
              rintro e w1 ⟨rfl, rfl⟩
              rw [Hm.out]
              go_wp2_with (refine TokCell.store rfl rfl _ _ rfl w.heap.size (tokC 0 0 ⟨#[]⟩ 0 0) _ _ _ _ _ rfl rfl HN.out.1 rfl w.heap.size w HN.out.2.2.1 (Nat.le_refl _) ?_; intro w2 HT HB HO; clear HO)
              obtain ⟨k0, k1, k2, k3, k4⟩ := HT.out.parts
              try rw [Exit.noGoto_ret]
              exact bodyPost_ret (v := .tuple #[.agg #[.int .i64 0, .int .i64 0, .string ⟨#[]⟩, .int .i64 0, .int .i64 0], .int .i64 8]) (by simp [results, Tryz.results57, go_sem, k0, k1, k2, k3, k4]) rfl ⟨rfl, HB.out⟩
            · rw [if_neg hlong] at h
              have Hnext := Lib.hid h
              obtain ⟨m, hm⟩ : ∃ m, (ds ++ [d]).length / 2 = m := ⟨_, rfl⟩
              have Hm := Lib.hid hm
              have hlz : ¬ (65535 : Int) < (m : Int) := by rw [List.length_append, List.length_singleton] at hm; omega
              clear h hm hx hend hw hy hh hd
              go_wp2_with fail
              refine (HX.out _).mono ?_
              rintro e w1 ⟨rfl, rfl⟩
              go_wp2_with fail
              refine (HK.out _).mono ?_
              rintro e w1 ⟨rfl, rfl⟩
              go_wp2_with fail
              refine (hex_digit_put d HS.out hd16 (by omega)).mono ?_
              rintro e w1 ⟨rfl, hn⟩
              have HN := Lib.hid hn
              clear hn
              go_wp2_with fail
              refine (hex_len HN.out).mono ?_
              rintro e w1 ⟨rfl, rfl⟩
              rw [Hm.out]
              go_wp2_with fail
              go_roundg g
              case measure => omega
              case rel => exact ⟨k + 1, ds ++ [d], by omega, by go_num, by simp; omega, Hnext.out, HN.out⟩
          · rw [hex_bad hend hh hw] at h
            subst h
            have hm1 : hexI (c.toNat : Int) = -1 := by omega
            have HX := Lib.hid (fun W => hex_is c hm1 W)
            clear hx hend hw hy hh hm1
            go_wp2_with fail
            refine (HX.out _).mono ?_
            rintro e w1 ⟨rfl, rfl⟩
            go_wp2_with fail
            refine (HK.out _).mono ?_
            rintro e w1 ⟨rfl, rfl⟩
            go_wp2_with (refine TokCell.store rfl rfl _ _ rfl w.heap.size (tokC 0 0 ⟨#[]⟩ 0 0) _ _ _ _ _ rfl rfl HS.out.1 rfl w.heap.size w HS.out.2.2.1 (Nat.le_refl _) ?_; intro w2 HT HB HO; clear HO)
            obtain ⟨k0, k1, k2, k3, k4⟩ := HT.out.parts
            try rw [Exit.noGoto_ret]
            exact bodyPost_ret (v := .tuple #[.agg #[.int .i64 0, .int .i64 0, .string ⟨#[]⟩, .int .i64 0, .int .i64 0], .int .i64 4]) (by simp [results, Tryz.results57, go_sem, k0, k1, k2, k3, k4]) rfl ⟨rfl, HB.out⟩
end
end Go.Proofs.YtejgcnmbngdkiaaGreatDoor
