/-
  PrTake, PrRow, PrRest, PrBld, PrCopy, PrDec, PrEnc: texts merged.
-/
import Derived.Test.YtiiiokikmjgliaaGreatDoorRows
import Derived.Test.YtiiiokikmjgliaaGreatDoorKPlain
import Derived.WalkKit
import Derived.WalkSpells
import Derived.WalkLawsBesides
import Derived.WalkSmall
import Derived.OwnWalk
import Derived.Lib.Hide
import Derived.Deep.LoopGhost
import Derived.Deep.QuietTactic
import Derived.Test.YtiiiokikmjgliaaGreatDoorKRows
import Derived.Deep.OwnRows
import Derived.Lib.BufferWrite
import Derived.Laws.CopyOwn
import Derived.Laws.MakeOwn
import Derived.Deep.RegionWith
import Derived.Deep.RegionHeld3
import Derived.IntWalk
import Derived.Test.YtiiiokikmjgliaaGreatDoorKHex
import Derived.Deep.DeepCutAuto
import Derived.Deep.CutRange
/-
  The contracts of package predict's small functions: whether rows can have so many columns, how far two numbers are apart, which of three is the nearest, what a kind takes.
-/
namespace Go.Proofs.YtiiiokikmjgliaaGreatDoor
section
open Go.RowKit
set_option maxRecDepth 100000
theorem width_yes (n : Nat) (w : World) (h1 : 1 ≤ n) (h2 : n ≤ 256) : Calls Tryz.prog 35 #[.int .i64 (n : Int)] w fun e w' => e = .returned (.bool true) ∧ w = w' := by
  have h1z : (1 : Int) ≤ (n : Int) := by omega
  have h2z : (n : Int) ≤ 256 := by omega
  go_enter Tryz.func35, Tryz.ntmps35
  go_wp2_with fail
  go_ret
  exact ⟨ret_bool (by simp), rfl⟩
theorem width_no (n : Int) (w : World) (h : n < 1 ∨ 256 < n) : Calls Tryz.prog 35 #[.int .i64 n] w fun e w' => e = .returned (.bool false) ∧ w = w' := by
  by_cases h1 : 1 ≤ n
  · have h2 : ¬ n ≤ 256 := by omega
    clear h
    go_enter Tryz.func35, Tryz.ntmps35
    go_wp2_with fail
    go_ret
    exact ⟨ret_bool (by simp), rfl⟩
  · clear h
    go_enter Tryz.func35, Tryz.ntmps35
    go_wp2_with fail
    go_ret
    exact ⟨ret_bool (by simp), rfl⟩
theorem apart_is (a b : Int) (w : World) (ha : -1000 ≤ a) (ha' : a ≤ 1000) (hb : -1000 ≤ b) (hb' : b ≤ 1000) :
    Calls Tryz.prog 102 #[.int .i64 a, .int .i64 b] w fun e w' => e = .returned (.int .i64 (apartP a b)) ∧ w = w' := by
  go_enter Tryz.func102, Tryz.ntmps102
  go_wp2_with fail
  all_goals go_ret
  all_goals exact ⟨ret_int (by unfold apartP; split <;> omega), rfl⟩
def aroundV (l a c : Int) : Value := .agg #[.int .i64 l, .int .i64 a, .int .i64 c]
def AroundAt (w : World) (b : Nat) (l a c : Int) : Prop := w.heap[b]? = some (.cells #[.int .i64 l, .int .i64 a, .int .i64 c] 88 (0, 0))
theorem info_around : (Tryz.prog.info? 88).map (·.size) = some 3 := by kernel_rfl
theorem AroundAt.load {ops : Array Oper} {rest : List Oper} {o : Oper} {x : Act} {w : World} {Q : Exit → Act → World → Prop} (hgd : o.guard = none) (p : Operand) (ho : o.op = .load 88 p)
    (b : Nat) (l a c : Int) (hp : x.eval p = .pointer (some ⟨b, 0, none⟩)) (hg : AroundAt w b l a c) (h : wpList Tryz.prog ops Q rest (x.put o.dst (aroundV l a c)) w) : wpList Tryz.prog ops Q (o :: rest) x w :=
  wpList_load_row hgd _ p ho b hp _ _ _ _ hg Tryz.underlying88 rfl info_around h
def leftOver (l a c : Int) (k : Nat) (m : Int) : Int :=
  if k = 0 then nearOne (l + a - c) (nearOne (l + a - c) (nearOne (l + a - c) m l) a) c
  else if k = 1 then nearOne (l + a - c) (nearOne (l + a - c) m a) c
  else if k = 2 then nearOne (l + a - c) m c else m
set_option maxHeartbeats 1000000 in
theorem nearest_is (l a c : Nat) (w : World) (hl : l < 256) (ha : a < 256) (hc : c < 256) :
    Calls Tryz.prog 75 #[aroundV l a c] w fun e w' => e = .returned (.int .i64 (guessP 4 l a c : Nat)) ∧ Below w.heap.size w w' := by
  have HR := Lib.hid (near_guess l a c)
  have HA : Hid (AroundAt (w.alloc (.cells #[.int .i64 l, .int .i64 a, .int .i64 c] 88)) w.heap.size l a c) := Lib.hid (heap_alloc_new w _)
  unfold aroundV
  go_enter Tryz.func75, Tryz.ntmps75
  go_wp2_with fail
  go_loopg [4, 6, 18] 3 (fun g s4 s6 s18 wx => ∃ (k m : Nat), k + g = 3 ∧ s18 = .int .i64 (k : Int) ∧ s4 = .int .i64 (m : Int) ∧ m < 256 ∧ Aside (leftOver l a c k m = (guessP 4 l a c : Nat)) ∧ w.alloc (.cells #[.int .i64 l, .int .i64 a, .int .i64 c] 88) = wx)
  case atStart => exact ⟨0, l, rfl, rfl, rfl, hl, HR.out, rfl⟩
  case round =>
    obtain ⟨k, m, hkg, rfl, rfl, hm, HM, rfl⟩ := hrel
    cases gk with
    | zero =>
      obtain rfl : k = 3 := by omega
      go_wp2_with fail
      go_ret
      exact ⟨ret_int HM.out, (Below.refl _ w).alloc (Nat.le_refl _) _⟩
    | succ g =>
      obtain ⟨n, hn, hn256, hnext⟩ : ∃ n : Nat, (∀ W : World, (Instr.index 88 (.agg #[.int .i64 (l : Int), .int .i64 (a : Int), .int .i64 (c : Int)]) (.int .i64 (k : Int))).run Tryz.prog W = .ok (.int .i64 (n : Int)) W) ∧ n < 256 ∧ leftOver l a c k m = leftOver l a c (k + 1) (nearOne ((l : Int) + a - c) m n) := by
        have hk : k = 0 ∨ k = 1 ∨ k = 2 := by omega
        rcases hk with rfl | rfl | rfl
        · exact ⟨l, fun W => by rfl, hl, rfl⟩
        · exact ⟨a, fun W => by rfl, ha, rfl⟩
        · exact ⟨c, fun W => by rfl, hc, rfl⟩
      have hk3 : (k : Int) < 3 := by omega
      have Hn := Lib.hid hnext
      have hlo : -1000 ≤ (l : Int) + a - c := by omega
      have hhi : (l : Int) + a - c ≤ 1000 := by omega
      have Hx := Lib.hid (fun W => apart_is (n : Int) ((l : Int) + a - c) W (by omega) (by omega) hlo hhi)
      have Hy := Lib.hid (fun W => apart_is (m : Int) ((l : Int) + a - c) W (by omega) (by omega) hlo hhi)
      obtain ⟨p, hp⟩ : ∃ p, apartP (n : Int) ((l : Int) + a - c) = p := ⟨_, rfl⟩
      obtain ⟨q, hq⟩ : ∃ q, apartP (m : Int) ((l : Int) + a - c) = q := ⟨_, rfl⟩
      have Hp : Hid (nearOne ((l : Int) + a - c) m n = if p < q then (n : Int) else m) := Lib.hid (by unfold nearOne; rw [hp, hq])
      rw [hp] at Hx
      rw [hq] at Hy
      clear hnext hlo hhi hp hq
      by_cases hpq : p < q
      · have Hz : Hid (leftOver l a c (k + 1) n = (guessP 4 l a c : Nat)) := Lib.hid (by rw [← HM.out, Hn.out, Hp.out, if_pos hpq])
        go_wp2_with fail
        refine (Hx.out _).mono ?_
        rintro e w1 ⟨rfl, rfl⟩
        go_wp2_with fail
        refine (Hy.out _).mono ?_
        rintro e w1 ⟨rfl, rfl⟩
        go_wp2_with fail
        go_roundg g
        case measure => omega
        case rel => exact ⟨k + 1, n, by omega, by go_num, rfl, hn256, Hz.out, rfl⟩
      · have Hz : Hid (leftOver l a c (k + 1) m = (guessP 4 l a c : Nat)) := Lib.hid (by rw [← HM.out, Hn.out, Hp.out, if_neg hpq])
        go_wp2_with fail
        refine (Hx.out _).mono ?_
        rintro e w1 ⟨rfl, rfl⟩
        go_wp2_with fail
        refine (Hy.out _).mono ?_
        rintro e w1 ⟨rfl, rfl⟩
        go_wp2_with fail
        go_roundg g
        case measure => omega
        case rel => exact ⟨k + 1, m, by omega, by go_num, rfl, hm, Hz.out, rfl⟩
set_option maxHeartbeats 1000000 in
theorem taken_is (l a c kind : Nat) (w : World) (hl : l < 256) (ha : a < 256) (hc : c < 256) (hk : kind = 1 ∨ kind = 2 ∨ kind = 3 ∨ kind = 4) :
    Calls Tryz.prog 60 #[aroundV l a c, .int .u8 (kind : Int)] w fun e w' => e = .returned (.int .i64 (guessP kind l a c : Nat)) ∧ Below w.heap.size w w' := by
  have HA : Hid (AroundAt (w.alloc (.cells #[.int .i64 l, .int .i64 a, .int .i64 c] 88)) w.heap.size l a c) := Lib.hid (heap_alloc_new w _)
  have Hb : Hid (Below w.heap.size w (w.alloc (.cells #[.int .i64 l, .int .i64 a, .int .i64 c] 88))) := Lib.hid ((Below.refl _ w).alloc (Nat.le_refl _) _)
  have Hn := Lib.hid (fun W => nearest_is l a c W hl ha hc)
  unfold aroundV
  rcases hk with rfl | rfl | rfl | rfl
  · go_enter Tryz.func60, Tryz.ntmps60
    go_wp2_with fail
    go_ret
    exact ⟨rfl, Hb.out⟩
  · go_enter Tryz.func60, Tryz.ntmps60
    go_wp2_with fail
    go_ret
    exact ⟨rfl, Hb.out⟩
  · go_enter Tryz.func60, Tryz.ntmps60
    go_wp2_with fail
    go_ret
    exact ⟨ret_int (by unfold guessP; simp), Hb.out⟩
  · go_enter Tryz.func60, Tryz.ntmps60
    go_wp2_with fail
    refine (Hn.out _).mono ?_
    rintro e w1 ⟨rfl, hb1⟩
    have Hb1 := Lib.hid (Hb.out.trans (hb1.mono Hb.out.size))
    clear hb1
    go_wp2_with fail
    go_ret
    exact ⟨rfl, Hb1.out⟩
end
end Go.Proofs.YtiiiokikmjgliaaGreatDoor
/-
  Rows of bytes that fill a block of the call's own.
-/
namespace Go.Proofs.YtiiiokikmjgliaaGreatDoor
section
open Go.RowKit
set_option maxRecDepth 100000
def ByteAt (w : World) (g : Nat) (l : List UInt8) : Prop := w.heap[g]? = some (.cells (cellsB l).toArray 5 (0, 0))
theorem ByteAt.cell {w : World} {g : Nat} {l : List UInt8} (h : ByteAt w g l) {j : Nat} (hj : j < l.length) : w.cell? ⟨g, j, none⟩ = some (.int .u8 (l[j].toNat : Int)) := by
  rw [cell_of_row _ _ _ _ _ _ h, List.getElem?_toArray, cellsB_at hj]
theorem ByteAt.cell' {w : World} {g : Nat} {l : List UInt8} (h : ByteAt w g l) {j : Nat} {x : UInt8} (hj : l[j]? = some x) : w.cell? ⟨g, j, none⟩ = some (.int .u8 (x.toNat : Int)) := by
  obtain ⟨h1, rfl⟩ := List.getElem?_eq_some_iff.1 hj
  exact h.cell h1
theorem ByteAt.free {w : World} {g : Nat} {l : List UInt8} (h : ByteAt w g l) (j : Nat) : w.frozen? ⟨g, j, none⟩ = false := frozen_of_row _ _ _ _ _ h
theorem ByteAt.put {w : World} {g : Nat} {l : List UInt8} (h : ByteAt w g l) (j : Nat) (x : UInt8) : ByteAt (w.setCell ⟨g, j, none⟩ (.int .u8 (x.toNat : Int))) g (l.set j x) := by
  unfold ByteAt
  rw [heap_setCell_same _ _ _ _ _ _ h, List.setIfInBounds_toArray]
  unfold cellsB
  rw [List.map_set]
theorem ByteAt.lt {w : World} {g : Nat} {l : List UInt8} (h : ByteAt w g l) : g < w.heap.size := (Array.getElem?_eq_some_iff.1 h).1
theorem ByteAt.later {w w' : World} {g : Nat} {l : List UInt8} (h : ByteAt w g l) (hb : Below w.heap.size w w') : ByteAt w' g l := (hb.block g h.lt).trans h
theorem ByteAt.other {w : World} {g : Nat} {l : List UInt8} (h : ByteAt w g l) {a : Addr} (v : Value) (hne : g ≠ a.block) : ByteAt (w.setCell a v) g l := (heap_setCell_other _ _ _ _ hne).trans h
theorem ByteAt.touch {w w' : World} {F F' : List Nat} {g : Nat} {l : List UInt8} (h : ByteAt w g l) (ht : Touches F F' w w') (hF : g ∉ F) : ByteAt w' g l := (ht.out h.lt hF).1.trans h
theorem Touches.new {F F' F'' : List Nat} {w w' : World} (h : Touches F F' w w') (hF : ∀ k ∈ F'', k ∈ F ∨ w.heap.size ≤ k) : Touches F F'' w w' := ⟨h.1, h.2.1, h.2.2.1, h.2.2.2.1, h.2.2.2.2.1, hF⟩
theorem Touches.wide {F F' G : List Nat} {w w' : World} (h : Touches F F' w w') (hF : ∀ k ∈ F, k ∈ G) : Touches G G w w' :=
  ⟨h.1, h.2.1, h.2.2.1, h.2.2.2.1, fun k hk hn => h.2.2.2.2.1 k hk fun m => hn (hF k m), fun _ hk => .inl hk⟩
theorem made_bytes (n : Nat) : madeCells (Value.int .u8 0).cells n = (cellsB (List.replicate n 0)).toArray := by
  unfold madeCells cellsB
  apply Array.ext
  · simp
  · intro i h1 h2
    simp [Value.cells, Nat.mod_one]
theorem make_bytes (n : Nat) (W : World) (h : n ≤ 100000) :
    (Instr.makeSlice 64 (.int .i64 (n : Int)) (.int .i64 (n : Int))).run Tryz.prog W = .ok (.slice (some ⟨W.heap.size, 0, none⟩) n n) (W.alloc (.cells (cellsB (List.replicate n 0)).toArray 5)) := by
  obtain ⟨i0, hi, hz0, hz1, hz2⟩ := info_parts info8
  have hr := run_make (P := Tryz.prog) W 64 5 i0 (.int .u8 0) Tryz.underlying64 hi hz0 .i64 .i64 (n : Int) (n : Int) (by omega) (by omega) (by rw [hz2]; omega) (by omega)
  rw [hz1, Int.toNat_natCast, Nat.mul_one, made_bytes] at hr
  exact hr
end
end Go.Proofs.YtiiiokikmjgliaaGreatDoor
/-
  The contract of package predict's restore: a row's bytes, by the row ahead.
-/
namespace Go.Proofs.YtiiiokikmjgliaaGreatDoor
section
open Go.RowKit
set_option maxRecDepth 100000
theorem AroundAt.cells {w : World} {b : Nat} {l a c : Int} (h : AroundAt w b l a c) : w.cell? ⟨b, 0, none⟩ = some (.int .i64 l) ∧ w.cell? ⟨b, 1, none⟩ = some (.int .i64 a) ∧ w.cell? ⟨b, 2, none⟩ = some (.int .i64 c) := by
  refine ⟨?_, ?_, ?_⟩ <;> rw [cell_of_row _ _ _ _ _ _ h] <;> rfl
theorem AroundAt.free {w : World} {b : Nat} {l a c : Int} (h : AroundAt w b l a c) (j : Nat) : w.frozen? ⟨b, j, none⟩ = false := frozen_of_row _ _ _ _ _ h
theorem AroundAt.lt {w : World} {b : Nat} {l a c : Int} (h : AroundAt w b l a c) : b < w.heap.size := (Array.getElem?_eq_some_iff.1 h).1
theorem AroundAt.later {w w' : World} {b : Nat} {l a c : Int} (h : AroundAt w b l a c) (hb : Below w.heap.size w w') : AroundAt w' b l a c := (hb.block b h.lt).trans h
theorem AroundAt.other {w : World} {b : Nat} {l a c : Int} (h : AroundAt w b l a c) {p : Addr} (v : Value) (hne : b ≠ p.block) : AroundAt (w.setCell p v) b l a c := (heap_setCell_other _ _ _ _ hne).trans h
theorem AroundAt.set0 {w : World} {b : Nat} {l a c : Int} (h : AroundAt w b l a c) (x : Int) : AroundAt (w.setCell ⟨b, 0, none⟩ (.int .i64 x)) b x a c := by
  unfold AroundAt; rw [heap_setCell_same _ _ _ _ _ _ h]; rfl
theorem AroundAt.set1 {w : World} {b : Nat} {l a c : Int} (h : AroundAt w b l a c) (x : Int) : AroundAt (w.setCell ⟨b, 1, none⟩ (.int .i64 x)) b l x c := by
  unfold AroundAt; rw [heap_setCell_same _ _ _ _ _ _ h]; rfl
theorem AroundAt.set2 {w : World} {b : Nat} {l a c : Int} (h : AroundAt w b l a c) (x : Int) : AroundAt (w.setCell ⟨b, 2, none⟩ (.int .i64 x)) b l a x := by
  unfold AroundAt; rw [heap_setCell_same _ _ _ _ _ _ h]; rfl
theorem wrap64_byte (c : UInt8) : wrap64 (c.toNat : Int) = (c.toNat : Int) := by
  have h1 := c.toNat_lt
  unfold wrap64; omega
set_option maxHeartbeats 2000000 in
theorem restore_is (gr ga n kind : Nat) (row ahead : List UInt8) (w : World) (hR : ByteAt w gr row) (hA : ByteAt w ga ahead) (hne : ga ≠ gr) (hrl : row.length = n) (hal : ahead.length = n) (hn : n ≤ 256) (hk : kind = 1 ∨ kind = 2 ∨ kind = 3 ∨ kind = 4) :
    Calls Tryz.prog 41 #[.slice (some ⟨gr, 0, none⟩) n n, .slice (some ⟨ga, 0, none⟩) n n, .int .u8 (kind : Int)] w fun e w' => e = .returned (.tuple #[]) ∧ ByteAt w' gr (restR kind ahead row) ∧ Touches [gr] [gr] w w' := by
  have HR := Lib.hid hR
  clear hR
  have HA := Lib.hid hA
  have Hne := Lib.hid hne
  have Hrl := Lib.hid hrl
  have Hal := Lib.hid hal
  obtain ⟨R, hR⟩ : ∃ R, restR kind ahead row = R := ⟨_, rfl⟩
  have HRl : Hid (R.length = row.length) := Lib.hid (by rw [← hR, restR_length])
  have HRat := Lib.hid (fun k (h : k < row.length) => restR_at (kind := kind) (ahead := ahead) h)
  rw [hR] at HRat ⊢
  have Hk := Lib.hid hk
  have H0 : Hid (AroundAt (w.alloc (.cells #[.int .i64 0, .int .i64 0, .int .i64 0] 88)) w.heap.size 0 0 0) := Lib.hid (heap_alloc_new w _)
  have Hb0 : Hid (Below w.heap.size w (w.alloc (.cells #[.int .i64 0, .int .i64 0, .int .i64 0] 88))) := Lib.hid ((Below.refl _ w).alloc (Nat.le_refl _) _)
  have Hgw : Hid (gr < w.heap.size) := Lib.hid HR.out.lt
  have Haw : Hid (ga < w.heap.size) := Lib.hid HA.out.lt
  clear hR hA hne hrl hal hk
  go_enter Tryz.func41, Tryz.ntmps41
  go_wp2_with fail
  go_loopg [7, 10] n (fun g s7 s10 wx => ∃ k : Nat, k + g = n ∧ s10 = .int .i64 (k : Int) ∧ Aside (ByteAt wx gr (R.take k ++ row.drop k) ∧ ByteAt wx ga ahead ∧ ∃ c : Int, AroundAt wx w.heap.size ((befB R k).toNat : Int) ((befB ahead k).toNat : Int) c) ∧ Aside (Touches [gr] [gr, w.heap.size] w wx))
  case atStart =>
    exact ⟨0, by omega, rfl, ⟨HR.out.later Hb0.out, HA.out.later Hb0.out, 0, H0.out⟩, (Touches.of_below Hb0.out : Touches [gr] [gr] _ _).new (by simp)⟩
  case round =>
    obtain ⟨k, hkg, rfl, HI, HT⟩ := hrel
    cases gk with
    | zero =>
      obtain rfl : k = n := by omega
      have hend := HI.out.1
      rw [List.drop_of_length_le (by rw [Hrl.out]; exact Nat.le_refl _), List.append_nil, List.take_of_length_le (by rw [HRl.out, Hrl.out]; exact Nat.le_refl _)] at hend
      have Hend := Lib.hid hend
      clear hend
      go_wp2_with fail
      exact bodyPost_end (v := .tuple #[]) (by simp [results, go_sem]) rfl ⟨rfl, Hend.out, HT.out.fewer (by simp)⟩
    | succ g =>
      have hkn : k < n := by omega
      have hknz : (k : Int) < (n : Int) := by omega
      have hkr : k < row.length := by rw [Hrl.out]; exact hkn
      have hka : k < ahead.length := by rw [Hal.out]; exact hkn
      have hRk := HRat.out k hkr
      obtain ⟨x, hx⟩ : ∃ x, row[k] = x := ⟨_, rfl⟩
      obtain ⟨av, hav⟩ : ∃ av, ahead[k]? = some av := ⟨_, List.getElem?_eq_getElem hka⟩
      have hxs := rest_get (l := R) HRl.out hkr
      rw [hx] at hxs hRk
      rw [hav, Option.getD_some] at hRk
      obtain ⟨lf, hlf⟩ : ∃ lf, befB R k = lf := ⟨_, rfl⟩
      obtain ⟨co, hco⟩ : ∃ co, befB ahead k = co := ⟨_, rfl⟩
      rw [hlf, hco] at hRk
      obtain ⟨HB1, HB2, c, HB3⟩ := HI.out
      rw [hlf, hco] at HB3
      obtain ⟨G, hG⟩ : ∃ G, guessP kind lf.toNat av.toNat co.toNat = G := ⟨_, rfl⟩
      have hG256 : G < 256 := by rw [← hG]; exact guessP_bound _ _ _ _ lf.toNat_lt av.toNat_lt co.toNat_lt
      rw [hG] at hRk
      obtain ⟨y, hy⟩ : ∃ y : UInt8, UInt8.ofNat (x.toNat + G) = y := ⟨_, rfl⟩
      have hyz : (y.toNat : Int) = ((x.toNat : Int) + (G : Int)) % 256 := by rw [← hy, UInt8.toNat_ofNat']; omega
      rw [hy] at hRk
      have Hxs := Lib.hid hxs
      have Hput := Lib.hid (rest_put HRl.out hkr hRk)
      have Hb1 := Lib.hid (befB_succ hRk)
      have Hb2 := Lib.hid (befB_succ hav)
      have hyw : IntKind.u8.wrap ((x.toNat : Int) + (G : Int)) = (y.toNat : Int) := by rw [IntKind.wrap_u8, hyz]
      have Hyk : Hid ((R.take (k + 1) ++ row.drop (k + 1))[k]? = some y) := Lib.hid (by
        rw [List.getElem?_append_left (by rw [List.length_take, HRl.out]; omega), List.getElem?_take_of_lt (by omega)]; exact hRk)
      have Hyw := Lib.hid hyw
      have HTk := Lib.hid (fun W => taken_is lf.toNat av.toNat co.toNat kind W lf.toNat_lt av.toNat_lt co.toNat_lt Hk.out)
      rw [hG] at HTk
      have K1 := Lib.hid HB1
      have K2 := Lib.hid HB2
      have K3 := Lib.hid HB3
      have ca := HB2.cell' hav
      obtain ⟨d0, d1, d2⟩ := HB3.cells
      have f1 := HB3.free 1
      have f2 := HB3.free 2
      have ca2 : ∀ v, (wr.setCell ⟨w.heap.size, 2, none⟩ v).cell? ⟨ga, k, none⟩ = some (.int .u8 (av.toNat : Int)) := fun v => (HB2.other v (by have := Haw.out; simp; omega)).cell' hav
      have ca1 : ∀ v, (wr.setCell ⟨w.heap.size, 1, none⟩ v).cell? ⟨ga, k, none⟩ = some (.int .u8 (av.toNat : Int)) := fun v => (HB2.other v (by have := Haw.out; simp; omega)).cell' hav
      have ca3 := ca2 (.int .i64 (co.toNat : Int))
      clear hyw hRk hx hxs hlf hco hG hy hyz hav hka hkr HB1 HB2 HB3
      have hav64 := wrap64_byte av
      go_wp2_with fail
      go_region
      go_wp2_with fail
      generalize hW1 : ((wr.setCell ⟨w.heap.size, 2, none⟩ (.int .i64 (co.toNat : Int))).setCell ⟨w.heap.size, 1, none⟩ (.int .i64 (av.toNat : Int))).drew = W1
      have M1 : Hid (ByteAt W1 gr (R.take k ++ row.drop k)) := Lib.hid (by rw [← hW1]; exact (K1.out.other _ (by have := Hgw.out; simp; omega)).other _ (by have := Hgw.out; simp; omega))
      have M2 : Hid (ByteAt W1 ga ahead) := Lib.hid (by rw [← hW1]; exact (K2.out.other _ (by have := Haw.out; simp; omega)).other _ (by have := Haw.out; simp; omega))
      have M3 : Hid (AroundAt W1 w.heap.size (lf.toNat : Int) (av.toNat : Int) (co.toNat : Int)) := Lib.hid (by rw [← hW1]; exact (K3.out.set2 _).set1 _)
      have MT : Hid (Touches [gr] [gr, w.heap.size] w W1) := Lib.hid (by rw [← hW1]; exact ((HT.out.setCell (by simp) _).setCell (by simp) _).drew)
      clear ca ca1 ca2 ca3 d0 d1 d2 f1 f2 hW1 hav64
      have HKp : Hid (∀ w', Below W1.heap.size W1 w' → w'.cell? ⟨gr, k, none⟩ = some (.int .u8 (x.toNat : Int)) ∧ w'.cell? ⟨w.heap.size, 0, none⟩ = some (.int .i64 (lf.toNat : Int)) ∧ w'.cell? ⟨w.heap.size, 1, none⟩ = some (.int .i64 (av.toNat : Int)) ∧ w'.cell? ⟨w.heap.size, 2, none⟩ = some (.int .i64 (co.toNat : Int)) ∧ w'.frozen? ⟨gr, k, none⟩ = false) := Lib.hid fun w' hb =>
        ⟨(M1.out.later hb).cell' Hxs.out, (M3.out.later hb).cells.1, (M3.out.later hb).cells.2.1, (M3.out.later hb).cells.2.2, (M1.out.later hb).free k⟩
      obtain ⟨e0, e1, e2, e3, e4⟩ := HKp.out _ (Below.refl _ _)
      unfold aroundV at HTk
      have hyw := Hyw.out
      have hg8 : IntKind.u8.wrap (G : Int) = (G : Int) := by rw [IntKind.wrap_u8]; omega
      go_region_with (go_at_call 60; refine (HTk.out _).mono ?_; rintro e w3 ⟨rfl, hb⟩; have Hb := Lib.hid ((below_same W1).drew.trans hb); clear hb; obtain ⟨z0, z1, z2, z3, z4⟩ := HKp.out _ Hb.out)
      all_goals
        have N1 : Hid (ByteAt (w3.setCell ⟨gr, k, none⟩ (.int .u8 (y.toNat : Int))) gr (R.take (k + 1) ++ row.drop (k + 1))) := Lib.hid (by rw [← Hput.out]; exact (M1.out.later Hb.out).put k y)
        have N2 : Hid (ByteAt (w3.setCell ⟨gr, k, none⟩ (.int .u8 (y.toNat : Int))) ga ahead) := Lib.hid ((M2.out.later Hb.out).other _ (by exact Hne.out))
        have N3 : Hid (AroundAt (w3.setCell ⟨gr, k, none⟩ (.int .u8 (y.toNat : Int))) w.heap.size (lf.toNat : Int) (av.toNat : Int) (co.toNat : Int)) := Lib.hid ((M3.out.later Hb.out).other _ (by have := Hgw.out; simp; omega))
        have NT : Hid (Touches [gr] [gr, w.heap.size] w (w3.setCell ⟨gr, k, none⟩ (.int .u8 (y.toNat : Int)))) := Lib.hid ((MT.out.trans (Touches.of_below Hb.out)).setCell (by simp) _)
        clear z0 z1 z2 z3 z4 e0 e1 e2 e3 e4
        generalize hW4 : w3.setCell ⟨gr, k, none⟩ (.int .u8 (y.toNat : Int)) = W4
        rw [hW4] at N1 N2 N3 NT
        have y0 := N1.out.cell' Hyk.out
        obtain ⟨d0, _, _⟩ := N3.out.cells
        have f0 := N3.out.free 0
        have hy64 := wrap64_byte y
        clear hW4
        go_wp2_with fail
        go_roundg g
        case measure => omega
        case rel => exact ⟨k + 1, by omega, by go_num, ⟨N1.out.other _ (by have := Hgw.out; simp; omega), N2.out.other _ (by have := Haw.out; simp; omega), _, by rw [Hb1.out, Hb2.out]; exact N3.out.set0 _⟩, NT.out.setCell (by simp) _⟩
end
end Go.Proofs.YtiiiokikmjgliaaGreatDoor
/-
  A strings.Builder beside rows of bytes of the call's own, and what its Write turns.
-/
namespace Go.Proofs.YtiiiokikmjgliaaGreatDoor
section
open Go.RowKit
set_option maxRecDepth 100000
theorem wpList_append_row8P {ops : Array Oper} {rest : List Oper} {o : Oper} {a : Act} {w : World} {Q : Exit → Act → World → Prop} (hgd : o.guard = none) (s x : Operand)
    (ho : o.op = .call { callee := .builtin .append, args := #[s, x], argTypes := #[64, 64] })
    (v : Value) (l : List UInt8) (hs : a.eval s = v) (hown : Row8 w v l)
    (ad : Addr) (n c : Nat) (news : List UInt8) (hn : news.length = n) (hx : a.eval x = .slice (some ad) n c) (hnews : ∀ j (h : j < news.length), w.cell? (ad.add j) = some (.int .u8 (news[j].toNat : Int)))
    (hm : 0 < n) (hlen : l.length + n ≤ 140737488355328)
    (h : ∀ v' w', Hid (Row8 w' v' (l ++ news)) → Hid (w.grownBy w' v.ownBlock) → Hid (∀ k, v'.ownBlock = some k → v.ownBlock = some k ∨ k = w.heap.size) → (∃ g cap, v' = .slice (some ⟨g, 0, none⟩) (l.length + n) cap) → wpList Tryz.prog ops Q rest (a.put o.dst v') w') : wpList Tryz.prog ops Q (o :: rest) a w := by
  subst hn
  obtain ⟨i0, hi, hz0, hz1, hz2⟩ := info_parts info8
  refine wpList_plain hgd fun _ hK => ?_
  refine wp_append_lies w s x 64 ho 0 5 i0 (.int .u8 0) 1 1 Tryz.underlying64 hi hz0 hz1 hz2 rfl (by decide) _ _ _ hs hown ad news.length c (cellsB news) hx (by rw [cellsB_length, Nat.mul_one]) ?_ (cellsB_one _) hm (by unfold maxLen; omega) (by omega) (Nat.zero_le _) _ rfl ?_
  · intro j u hj
    have hl : j < news.length := by
      have := (List.getElem?_eq_some_iff.1 hj).1
      rwa [cellsB_length] at this
    rw [cellsB_at hl] at hj
    rw [← hj]; exact hnews j hl
  · intro g' cap' w' hown' hgrow hblk _
    refine hK _ _ (h _ w' (Lib.hid ?_) (Lib.hid hgrow) (Lib.hid fun k hk => ?_) ⟨g', cap', rfl⟩)
    · unfold Row8
      rw [cellsB_append, List.length_append]
      exact hown'
    · obtain rfl : g' = k := by simpa [Value.ownBlock] using hk
      exact hblk
def BldT (b : Nat) (v : Value) (l : List UInt8) (w : World) : Prop :=
  (∃ p, (p = .pointer none ∨ p = .pointer (some ⟨b, 0, none⟩)) ∧ w.heap[b]? = some (.cells #[p, v] 66 (0, 0))) ∧ Row8 w v l ∧ v.ownBlock ≠ some b
theorem BldT.lt {b : Nat} {v : Value} {l : List UInt8} {w : World} (h : BldT b v l w) : b < w.heap.size := by
  obtain ⟨⟨p, _, hb⟩, _⟩ := h
  exact (Array.getElem?_eq_some_iff.1 hb).1
theorem BldT.keep {b : Nat} {v : Value} {l : List UInt8} {w w' : World} (h : BldT b v l w) (hk : ∀ k, k = b ∨ v.ownBlock = some k → w'.heap[k]? = w.heap[k]?) : BldT b v l w' := by
  obtain ⟨⟨p, hp, hb⟩, hr, hne⟩ := h
  exact ⟨⟨p, hp, (hk b (.inl rfl)).trans hb⟩, hr.move fun k e => hk k (.inr e), hne⟩
theorem BldT.later {b : Nat} {v : Value} {l : List UInt8} {w w' : World} (h : BldT b v l w) (hb : Below w.heap.size w w') : BldT b v l w' :=
  h.keep fun k hk => hb.block k (by
    rcases hk with rfl | hk
    · exact h.lt
    · exact h.2.1.lt k hk)
def foot (b : Nat) (v : Value) : List Nat := b :: v.ownBlock.toList
theorem foot_mem {b k : Nat} {v : Value} : k ∈ foot b v ↔ k = b ∨ v.ownBlock = some k := by
  unfold foot
  cases h : v.ownBlock <;> simp [eq_comm]
theorem BldT.bld {b B : Nat} {v : Value} {l : List UInt8} {w : World} (h : BldT b v l w) (hB : ∀ k ∈ foot b v, B ≤ k) : Bld B b l w := by
  obtain ⟨⟨p, hp, hb⟩, hr, hne⟩ := h
  have hr2 : w.ownsRow B 5 1 v (Lib.byteCells l).length (Lib.byteCells l) := by
    rw [Lib.byteCells_length]
    refine ⟨hr.1, ?_⟩
    rcases hr.2 with h2 | ⟨g, cap, cur, hv, _, hg⟩
    · exact .inl h2
    · exact .inr ⟨g, cap, cur, hv, hB g (foot_mem.2 (.inr (by rw [hv]; rfl))), hg⟩
  have key : Lib.BuilderAt 66 5 B b p (Lib.byteCells l) w := ⟨hB b (foot_mem.2 (.inl rfl)), v, hb, hr2, hne⟩
  refine Lib.IsBuilderF.of ?_
  rcases hp with rfl | rfl
  · exact .inl key
  · exact .inr key
theorem BldT.touch {b : Nat} {v : Value} {l : List UInt8} {w w' : World} {F F' : List Nat} (h : BldT b v l w) (ht : Touches F F' w w') (hF : ∀ k ∈ foot b v, k ∉ F) : BldT b v l w' :=
  h.keep fun k hk => (ht.out (by
    rcases hk with rfl | hk
    · exact h.lt
    · exact h.2.1.lt k hk) (hF k (foot_mem.2 hk))).1
theorem BldT.fresh (w : World) : BldT w.heap.size (.slice none 0 0) [] (w.alloc (.cells #[.pointer none, .slice none 0 0] 66)) :=
  ⟨⟨_, .inl rfl, heap_alloc_new w _⟩, Row8.nil _, by simp [Value.ownBlock]⟩
set_option maxHeartbeats 1000000 in
theorem bcheck_is (b : Nat) (v : Value) (l : List UInt8) (w : World) (h : BldT b v l w) :
    Calls Tryz.prog 53 #[.pointer (some ⟨b, 0, none⟩)] w fun e w' => e = .returned (.tuple #[]) ∧ w'.heap[b]? = some (.cells #[.pointer (some ⟨b, 0, none⟩), v] 66 (0, 0)) ∧ Row8 w' v l ∧ Touches [b] [b] w w' := by
  obtain ⟨⟨p, hp, hb⟩, hr, hne⟩ := h
  rcases hp with rfl | rfl
  · refine (Any.Builder_copyCheck_fresh { Tryz.lays167 with } Tryz.Builder_Extra_167.toX72 b w (by rw [cell_of_row _ _ _ _ _ _ hb]; rfl) (by simp [World.shape?, hb]; rfl) (frozen_of_row _ _ _ _ _ hb)).mono ?_
    rintro e w' ⟨rfl, rfl⟩
    refine ⟨rfl, by rw [heap_setCell_same _ _ _ _ _ _ hb]; rfl, hr.move fun k e => heap_setCell_other _ _ _ _ ?_, (Touches.refl [b] w).setCell (by simp) _⟩
    intro e2
    exact hne (by rw [e, e2])
  · refine (Any.Builder_copyCheck_used { Tryz.lays167 with } Tryz.Builder_Extra_167.toX72 b w (by rw [cell_of_row _ _ _ _ _ _ hb]; rfl)).mono ?_
    rintro e w' ⟨rfl, rfl⟩
    exact ⟨rfl, hb, hr, Touches.refl [b] _⟩
set_option maxHeartbeats 1000000 in
theorem write_is (b : Nat) (v : Value) (l news : List UInt8) (g n c : Nat) (w : World) (h : BldT b v l w) (hg : ByteAt w g news) (hgb : g ≠ b) (hn : news.length = n) (hm : 0 < n) (hlen : l.length + n ≤ 1000000) :
    Calls Tryz.prog 42 #[.pointer (some ⟨b, 0, none⟩), .slice (some ⟨g, 0, none⟩) n c] w fun e w' => e = .returned (.tuple #[.int .i64 (n : Int), .nilIface]) ∧ ∃ v', BldT b v' (l ++ news) w' ∧ Touches (foot b v) (foot b v') w w' := by
  have Hc := Lib.hid (bcheck_is b v l w h)
  have Hg := Lib.hid hg
  have Hgb := Lib.hid hgb
  have Hne : Hid (v.ownBlock ≠ some b) := Lib.hid h.2.2
  have Hn := Lib.hid hn
  have Hlt := Lib.hid h.lt
  clear h hg hgb hn
  go_enter Tryz.func42, Tryz.ntmps42
  go_wp2_with fail
  refine Hc.out.mono ?_
  rintro e w1 ⟨rfl, hb1, hr1, ht1⟩
  have HR1 := Lib.hid hr1
  have HT1 := Lib.hid ht1
  have HB1 := Lib.hid hb1
  have HG1 := Lib.hid (Hg.out.touch ht1 (by have := Hgb.out; simpa using this))
  have c1 : w1.cell? ⟨b, 1, none⟩ = some v := by rw [cell_of_row _ _ _ _ _ _ hb1]; rfl
  have f1 : w1.frozen? ⟨b, 1, none⟩ = false := frozen_of_row _ _ _ _ _ hb1
  have Hlt1 : Hid (b < w1.heap.size) := Lib.hid (Nat.lt_of_lt_of_le Hlt.out ht1.size)
  clear hr1 ht1 hb1
  go_wp2_with (at_builtin; refine wpList_append_row8P rfl (.tmp 12) (.tmp 13) rfl v l rfl HR1.out ⟨g, 0, none⟩ n c news Hn.out rfl (fun j hj => by
      have e : (⟨g, 0, none⟩ : Addr).add j = ⟨g, j, none⟩ := by unfold Addr.add; split <;> simp_all
      rw [e]; exact HG1.out.cell hj) hm (by omega) ?_; intro v2 w2 Hr2 Hgr2 Hk2 hf2; obtain ⟨g2, cap2, rfl⟩ := hf2; have hb2 := (Hgr2.out.block b Hlt1.out (fun e => Hne.out e.symm)).trans HB1.out; have c2 : w2.cell? ⟨b, 1, none⟩ = some v := (by rw [cell_of_row _ _ _ _ _ _ hb2]; rfl); have f2 : w2.frozen? ⟨b, 1, none⟩ = false := frozen_of_row _ _ _ _ _ hb2; have HB2 := Lib.hid hb2; clear hb2)
  have hg2 : g2 ≠ b := by
    rcases Hk2.out g2 rfl with h | h
    · intro e; exact Hne.out (by rw [h, e])
    · have := Hlt1.out; omega
  refine bodyPost_ret (v := .tuple #[.int .i64 (n : Int), .nilIface]) (by simp [results, Tryz.results42, go_sem]) rfl ⟨rfl, .slice (some ⟨g2, 0, none⟩) (l.length + n) cap2, ⟨⟨_, .inr rfl, by rw [heap_setCell_same _ _ _ _ _ _ HB2.out]; rfl⟩, Hr2.out.move fun k e => heap_setCell_other _ _ _ _ ?_, ?_⟩, ?_⟩
  · obtain rfl : g2 = k := by simpa [Value.ownBlock] using e
    exact hg2
  · simpa [Value.ownBlock] using hg2
  · refine ((HT1.out.wide (G := foot b v) (by simp [foot])).grown Hgr2.out (fun k e => foot_mem.2 (.inr e)) (F'' := foot b (.slice (some ⟨g2, 0, none⟩) (l.length + n) cap2)) fun k hk => ?_).setCell (by simp [foot]) _
    rcases foot_mem.1 hk with rfl | h
    · exact .inl (foot_mem.2 (.inl rfl))
    · rcases Hk2.out k h with h | h
      · exact .inl (foot_mem.2 (.inr h))
      · exact .inr (by omega)
end
end Go.Proofs.YtiiiokikmjgliaaGreatDoor
/-
  A text copied into a row of bytes of the call's own, as far as the row goes.
-/
namespace Go.Proofs.YtiiiokikmjgliaaGreatDoor
section
open Go.RowKit
set_option maxRecDepth 100000
theorem run_copy_cut (w : World) (ty : TypeId) (g n cap : Nat) (s : ByteArray) (old : List UInt8) (hg : ByteAt w g old) (hold : old.length = n) (hle : n ≤ s.size) :
    (Builtin.copy_ #[64, 9] ty #[.slice (some ⟨g, 0, none⟩) n cap, .string s]).run Tryz.prog w = .ok (goInt n) (w.setRow g (cellsB (s.data.toList.take n)).toArray) := by
  have hsz : s.size = s.data.toList.length := size_data s
  have hlen : (Lib.byteCells (s.data.toList.take n)).length = n := by rw [Lib.byteCells_length, List.length_take]; omega
  have hst := run_storeCells_at Tryz.prog g 0 5 (Lib.byteCells (s.data.toList.take n)) 0 (cellsB old).toArray w hg (by rw [hlen]; simp [cellsB_length, hold]) (Lib.byteCells_one _)
  have hmin : Nat.min s.size n = n := Nat.min_eq_right hle
  have htk : List.take n (List.map (fun b : UInt8 => Value.int IntKind.u8 (b.toNat : Int)) s.data.toList) = Lib.byteCells (s.data.toList.take n) := by
    rw [← List.map_take]
    rfl
  rw [hlen] at hst
  have hs : (Tryz.prog.info? 5).map (·.size) = some 1 := by kernel_rfl
  cases hq : Tryz.prog.info? 5 with
  | none => simp [hq] at hs
  | some i =>
    simp [Builtin.copy_, run_underlying Tryz.underlying64, Builtin.lenOf, Builtin.firstCells, sizeOf, typeInfo, hq, hmin]
    have e : (List.take (0 + 0) (cellsB old).toArray.toList ++ Lib.byteCells (s.data.toList.take n) ++ List.drop (0 + 0 + n) (cellsB old).toArray.toList) = cellsB (s.data.toList.take n) := by
      rw [List.drop_of_length_le (by simp [cellsB_length, hold])]
      simp [Lib.byteCells, cellsB]
    rw [htk, hst, e]
    rfl
theorem touch_row (w : World) (g : Nat) (cs : Array Value) : Touches [g] [g] w (w.setRow g cs) :=
  ⟨rfl, rfl, rfl, by simp, fun k _ hn => setRow_other _ _ _ _ (by simpa using hn), fun _ hk => .inl hk⟩
theorem wpList_copy_cut {w : World} {ops : Array Oper} {rest : List Oper} {o : Oper} {a : Act} {Q : Exit → Act → World → Prop} (hgd : o.guard = none) (d s : Operand)
    (ho : o.op = .call { callee := .builtin .copy, args := #[d, s], argTypes := #[64, 9] })
    (g n cap : Nat) (str : ByteArray) (old : List UInt8) (hd : a.eval d = .slice (some ⟨g, 0, none⟩) n cap) (hs : a.eval s = .string str) (hg : ByteAt w g old) (hold : old.length = n) (hle : n ≤ str.size)
    (h : ∀ w', Hid (ByteAt w' g (str.data.toList.take n)) → Hid (Touches [g] [g] w w') → wpList Tryz.prog ops Q rest (a.put o.dst (goInt n)) w') :
    wpList Tryz.prog ops Q (o :: rest) a w := by
  refine wpList_plain hgd fun K hK => ?_
  have hrun := run_copy_cut w o.type g n cap str old hg hold hle
  unfold Oper.wp
  simp [execOp, ho, resolve, invoke, builtin, hd, hs, hrun, Result.andThen]
  have h2 := h _ (Lib.hid (setRow_heap w g _ _ 5 _ hg)) (Lib.hid (touch_row w g _))
  exact hK _ _ h2
end
end Go.Proofs.YtiiiokikmjgliaaGreatDoor
/-
  The contract of package predict's Decode.
-/
namespace Go.Proofs.YtiiiokikmjgliaaGreatDoor
section
open Go.RowKit
set_option maxRecDepth 100000
def Told (w wx : World) (n gr ga : Nat) (v : Value) (old out : List UInt8) : Prop :=
  BldT w.heap.size v out wx ∧ (ByteAt wx gr old ∧ old.length = n) ∧ ByteAt wx ga (aheadOf n out) ∧ gr ≠ ga ∧ gr ∉ foot w.heap.size v ∧ ga ∉ foot w.heap.size v ∧ w.heap.size ≤ gr ∧ w.heap.size ≤ ga ∧ (∀ k ∈ foot w.heap.size v, w.heap.size ≤ k) ∧ Below w.heap.size w wx
theorem Told.turned {w wx w' : World} {n gr ga : Nat} {v : Value} {old row out : List UInt8} (h : Told w wx n gr ga v old out) (hr : ByteAt w' gr row) (hl : row.length = n) (ht : Touches [gr] [gr] wx w') : Told w w' n gr ga v row out := by
  obtain ⟨h1, ⟨h2, h2l⟩, h3, h4, h5, h6, h7, h8, h9, h10⟩ := h
  refine ⟨h1.touch ht fun k hk hm => ?_, ⟨hr, hl⟩, h3.touch ht (by simpa using fun e => h4 e.symm), h4, h5, h6, h7, h8, h9, h10.trans (ht.below h10.size (by simpa using h7))⟩
  obtain rfl : k = gr := by simpa using hm
  exact h5 hk
theorem Told.wrote {w wx w' : World} {n gr ga : Nat} {v v' : Value} {row out : List UInt8} (h : Told w wx n gr ga v row out) (hb : BldT w.heap.size v' (out ++ row) w') (ht : Touches (foot w.heap.size v) (foot w.heap.size v') wx w') : Told w w' n ga gr v' (aheadOf n out) (out ++ row) := by
  obtain ⟨h1, ⟨h2, h2l⟩, h3, h4, h5, h6, h7, h8, h9, h10⟩ := h
  refine ⟨hb, ⟨h3.touch ht h6, aheadOf_length _ _⟩, by rw [aheadOf_app h2l]; exact h2.touch ht h5, fun e => h4 e.symm, (ht.out h3.lt h6).2, (ht.out h2.lt h5).2, h8, h7, ht.more h10.size h9, h10.trans (ht.below h10.size h9)⟩
theorem Told.drew {w wx : World} {n gr ga : Nat} {v : Value} {old out : List UInt8} (h : Told w wx n gr ga v old out) : Told w wx.drew n gr ga v old out :=
  ⟨h.1, h.2.1, h.2.2.1, h.2.2.2.1, h.2.2.2.2.1, h.2.2.2.2.2.1, h.2.2.2.2.2.2.1, h.2.2.2.2.2.2.2.1, h.2.2.2.2.2.2.2.2.1, h.2.2.2.2.2.2.2.2.2.drew⟩
def endP (o : Option (List UInt8)) : List UInt8 × Int :=
  match o with
  | none => ([], 4)
  | some o => (o, 0)
theorem decP_end {l : List UInt8} {n : Nat} (h1 : 1 ≤ n) (h2 : n ≤ 256) (hl : l.length % (n + 1) = 0) : decP l (n : Int) = endP (decRows n (l.length / (n + 1)) [] l) := by
  unfold decP endP
  rw [if_neg (by omega), Int.toNat_natCast, if_neg (by omega)]
  cases decRows n (l.length / (n + 1)) [] l <;> rfl
theorem empty_yesP {t : ByteArray} (h : t.size = 0) : t = ByteArray.mk #[] := by
  cases t with
  | mk d => have : d = #[] := Array.eq_empty_of_size_eq_zero h
            rw [this]
theorem told_begins {w X : World} {n : Nat} (h1 : 1 ≤ n) (hf : BldT w.heap.size (.slice none 0 0) [] X) (hz : X.heap.size = w.heap.size + 1) (hb : Below w.heap.size w X) :
    Told w ((X.alloc (.cells (cellsB (List.replicate n 0)).toArray 5)).alloc (.cells (cellsB (List.replicate n 0)).toArray 5)).drew n X.heap.size (X.heap.size + 1) (.slice none 0 0) (List.replicate n 0) [] ∧
    Told w ((X.alloc (.cells (cellsB (List.replicate n 0)).toArray 5)).alloc (.cells (cellsB (List.replicate n 0)).toArray 5)).drew n (X.heap.size + 1) X.heap.size (.slice none 0 0) (List.replicate n 0) [] := by
  have b1 : Below X.heap.size X (X.alloc (.cells (cellsB (List.replicate n 0)).toArray 5)) := (Below.refl _ X).alloc (Nat.le_refl _) _
  have b2 := b1.alloc (Nat.le_trans (Nat.le_refl _) b1.size) (.cells (cellsB (List.replicate n 0)).toArray 5)
  have r1 : ByteAt ((X.alloc (.cells (cellsB (List.replicate n 0)).toArray 5)).alloc (.cells (cellsB (List.replicate n 0)).toArray 5)) X.heap.size (List.replicate n 0) := by
    have h : ByteAt (X.alloc (.cells (cellsB (List.replicate n 0)).toArray 5)) X.heap.size (List.replicate n 0) := heap_alloc_new X _
    exact h.later ((Below.refl _ _).alloc (Nat.le_refl _) _)
  have r2 : ByteAt ((X.alloc (.cells (cellsB (List.replicate n 0)).toArray 5)).alloc (.cells (cellsB (List.replicate n 0)).toArray 5)) (X.heap.size + 1) (List.replicate n 0) := by
    have h := heap_alloc_new (X.alloc (.cells (cellsB (List.replicate n 0)).toArray 5)) (.cells (cellsB (List.replicate n 0)).toArray 5)
    rwa [show (X.alloc (.cells (cellsB (List.replicate n 0)).toArray 5)).heap.size = X.heap.size + 1 by simp] at h
  have hbl := hf.later b2
  have hm : ∀ k, k ∈ foot w.heap.size (.slice none 0 0) → k = w.heap.size := fun k hk => by
    rcases foot_mem.1 hk with h | h
    · exact h
    · simp [Value.ownBlock] at h
  have n1 : X.heap.size ∉ foot w.heap.size (.slice none 0 0) := fun hk => by have := hm _ hk; omega
  have n2 : X.heap.size + 1 ∉ foot w.heap.size (.slice none 0 0) := fun hk => by have := hm _ hk; omega
  have hB := (hb.trans (b2.mono (by omega))).drew
  refine ⟨⟨hbl, ⟨r1, by simp⟩, by rw [aheadOf_nil h1]; exact r2, by omega, n1, n2, by omega, by omega, fun k hk => by have := hm _ hk; omega, hB⟩, hbl, ⟨r2, by simp⟩, by rw [aheadOf_nil h1]; exact r1, by omega, n2, n1, by omega, by omega, fun k hk => by have := hm _ hk; omega, hB⟩
set_option maxRecDepth 100000 in
set_option maxHeartbeats 4000000 in
theorem dec_is (s : ByteArray) (columns : Int) (w : World) (hs : s.size ≤ 100000) (hc0 : -9223372036854775808 ≤ columns) (hc1 : columns ≤ 9223372036854775807) {a : List UInt8} {b : Int} (h : decP s.data.toList columns = (a, b)) :
    Calls Tryz.prog 23 #[.string s, .int .i64 columns] w fun e w' => e = .returned (.tuple #[.string (bytes a), .int .i64 b]) ∧ Below w.heap.size w w' := by
  by_cases hw : columns < 1 ∨ 256 < columns
  · obtain ⟨rfl, rfl⟩ : [] = a ∧ 2 = b := by unfold decP at h; rw [if_pos hw] at h; exact Prod.mk.inj h
    have Hw := Lib.hid (fun W => width_no columns W hw)
    clear h hw
    go_enter Tryz.func23, Tryz.ntmps23
    go_wp2_with fail
    refine (Hw.out _).mono ?_
    rintro e w1 ⟨rfl, rfl⟩
    go_wp2_with fail
    go_ret2
    exact ⟨rfl, Below.refl _ _⟩
  · obtain ⟨n, rfl⟩ := Int.eq_ofNat_of_zero_le (show 0 ≤ columns by omega)
    have h1 : 1 ≤ n := by omega
    have h2 : n ≤ 256 := by omega
    have Hw := Lib.hid (fun W => width_yes n W h1 h2)
    have hsz := size_data s
    have hn0 : ¬ 1 + (n : Int) = 0 := by omega
    have hmod : (s.size : Int) % (1 + (n : Int)) = ((s.size % (n + 1) : Nat) : Int) := by
      rw [show 1 + (n : Int) = ((n + 1 : Nat) : Int) by omega]; exact (Int.natCast_emod s.size (n + 1)).symm
    have hwn : IntKind.i64.wrap (1 + (n : Int)) = 1 + (n : Int) := IntWalk.i64_in _ (by omega)
    clear hw
    by_cases hm : s.size % (n + 1) = 0
    · have hmz : ((s.size : Int) % (1 + (n : Int)) != 0) = false := by
        rw [bne_eq_false_iff_eq, hmod, hm]; rfl
      obtain ⟨M, hM⟩ : ∃ M, s.size = M * (n + 1) := ⟨s.size / (n + 1), by have := Nat.div_add_mod s.size (n + 1); rw [hm, Nat.mul_comm] at this; omega⟩
      have HD : Hid ((a, b) = endP (decRows n M [] s.data.toList)) := Lib.hid (by
        rw [← h, decP_end h1 h2 (by rw [← hsz]; exact hm), ← hsz, hM, Nat.mul_div_cancel _ (by omega)])
      have hmk1 := Lib.hid (fun W => make_bytes n W (by omega))
      have HM := Lib.hid hM
      have H1 := Lib.hid h1
      have H2 := Lib.hid h2
      have HF := Lib.hid (BldT.fresh w)
      have Hb0 : Hid (Below w.heap.size w (w.alloc (.cells #[.pointer none, .slice none 0 0] 66))) := Lib.hid ((Below.refl _ w).alloc (Nat.le_refl _) _)
      have hzs : (w.alloc (.cells #[.pointer none, .slice none 0 0] 66)).heap.size = w.heap.size + 1 := by simp
      have Hzs := Lib.hid hzs
      clear h hm hmod hsz hM hzs
      go_enter Tryz.func23, Tryz.ntmps23
      go_wp2_with fail
      refine (Hw.out _).mono ?_
      rintro e w1 ⟨rfl, rfl⟩
      go_upto_region 6 with fail
      generalize hX : w.alloc (.cells #[.pointer none, .slice none 0 0] 66) = X at *
      go_cut [7, 8] (fun s7 s8 wx => ∃ gr ga : Nat, s7 = .slice (some ⟨gr, 0, none⟩) n n ∧ s8 = .slice (some ⟨ga, 0, none⟩) n n ∧ Aside (Told w wx n gr ga (.slice none 0 0) (List.replicate n 0) []))
      case first =>
        have m1 := hmk1.out X.drew
        have m2 := hmk1.out (X.alloc (.cells (cellsB (List.replicate n 0)).toArray 5)).drew
        go_region
        all_goals
          go_wp2_with fail
          go_meet
        · exact ⟨_, _, rfl, rfl, (told_begins H1.out HF.out Hzs.out Hb0.out).1⟩
        · exact ⟨_, _, rfl, rfl, (told_begins H1.out HF.out Hzs.out Hb0.out).2⟩
      case rest =>
        obtain ⟨gr0, ga0, rfl, rfl, hT0⟩ := hcut
        have HT0 := Lib.hid hT0
        clear hT0 hX hmk1
        go_wp2_with fail
        go_loopg [0, 7, 8] M (fun g s0 s7 s8 wx => ∃ (t : ByteArray) (gr ga r : Nat) (v : Value) (old out : List UInt8), s0 = .string t ∧ s7 = .slice (some ⟨gr, 0, none⟩) n n ∧ s8 = .slice (some ⟨ga, 0, none⟩) n n ∧ Aside (t.size = g * (n + 1)) ∧ t.size ≤ 100000 ∧ Aside (Told w wx n gr ga v old out) ∧ Aside (out.length = r * n ∧ out.length + t.size ≤ 100000) ∧ Aside ((a, b) = endP (decRows n g out t.data.toList)))
        case atStart => exact ⟨s, gr0, ga0, 0, _, _, [], rfl, rfl, rfl, HM.out, hs, HT0.out, ⟨by simp, by simpa using hs⟩, HD.out⟩
        case round =>
          obtain ⟨t, gr, ga, r, v, old, out, rfl, rfl, rfl, HS, hts, HT, HL, HE⟩ := hrel
          cases gk with
          | zero =>
            have h0 : t.size = 0 := by rw [HS.out, Nat.zero_mul]
            obtain rfl := empty_yesP h0
            have Hr : Hid ((a, b) = (out, 0)) := Lib.hid HE.out
            clear h0
            go_wp2_with fail
            refine (string_is w.heap.size w.heap.size out _ (HT.out.1.bld HT.out.2.2.2.2.2.2.2.2.1) HT.out.2.2.2.2.2.2.2.2.2.size).mono ?_
            rintro e w3 ⟨rfl, -, hb3, -⟩
            have Hb3 := Lib.hid (HT.out.2.2.2.2.2.2.2.2.2.trans hb3)
            clear hb3
            go_wp2_with fail
            go_ret2
            obtain ⟨rfl, rfl⟩ := Prod.mk.inj Hr.out
            exact ⟨rfl, Hb3.out⟩
          | succ g =>
            have hsg : t.size = (g + 1) * (n + 1) := HS.out
            have hsg2 : t.size = g * (n + 1) + n + 1 := by rw [hsg, Nat.add_mul]; omega
            have hpos : 0 < t.size := by omega
            have he := isEmpty_not (show ¬ t.data.toList = [] from fun e => by rw [size_data, e] at hpos; exact absurd hpos (by decide))
            obtain ⟨t1, ht1⟩ : ∃ t1, t.extract 1 t.size = t1 := ⟨_, rfl⟩
            obtain ⟨t2, ht2⟩ : ∃ t2, t.extract (1 + n) t.size = t2 := ⟨_, rfl⟩
            have hs1 : n ≤ t1.size := by rw [← ht1, ByteArray.size_extract]; omega
            have hs2 : t2.size = g * (n + 1) := by rw [← ht2, ByteArray.size_extract]; omega
            have hd1 : t1.data.toList = t.data.toList.drop 1 := by rw [← ht1, Lib.extract_to_end]
            have hd2 : t2.data.toList = t.data.toList.drop (n + 1) := by rw [← ht2, Lib.extract_to_end, Nat.add_comm]
            obtain ⟨c, hc⟩ : ∃ c : UInt8, t[0] = c := ⟨_, rfl⟩
            have hc0 : t.data.toList[0]?.getD 0 = c := by
              have hl : 0 < t.data.toList.length := by rw [← size_data]; exact hpos
              rw [List.getElem?_eq_getElem hl, Option.getD_some, ← hc]; rfl
            have hrow := decRows_cons (n := n) (m := g) (l := t.data.toList) HL.out.1
            rw [hc0, ← hd1, ← hd2] at hrow
            obtain ⟨row, hrw⟩ : ∃ row, t1.data.toList.take n = row := ⟨_, rfl⟩
            have hrl : row.length = n := by rw [← hrw, List.length_take, ← size_data]; omega
            rw [hrw] at hrow
            have Hrow : Hid ((a, b) = endP (if 4 < c.toNat then none else decRows n g (out ++ restR c.toNat (aheadOf n out) row) t2.data.toList)) := Lib.hid (by rw [← hrow]; exact HE.out)
            have Hrw := Lib.hid hrw
            have Hrl := Lib.hid hrl
            have Hs1 := Lib.hid hs1
            have Hs2 := Lib.hid hs2
            have Hsg := Lib.hid hsg2
            have hc256 := c.toNat_lt
            have q1 : (1 : Int) + (n : Int) ≤ (t.size : Int) := by omega
            have q2 : ((1 : Int) + (n : Int)).toNat = 1 + n := by omega
            have q3 : (1 : Int) ≤ (t.size : Int) := by omega
            clear hsg hsg2 hc0 hd1 hd2 hrow hrw hrl hs1 hs2 HE
            have Hc5 : c.toNat = 0 ∨ c.toNat = 1 ∨ c.toNat = 2 ∨ c.toNat = 3 ∨ c.toNat = 4 ∨ 4 < c.toNat := by omega
            rcases Hc5 with h5 | h5 | h5 | h5 | h5 | h5
            · have Hr5 : Hid ((a, b) = endP (decRows n g (out ++ row) t2.data.toList)) := Lib.hid (by have := Hrow.out; rwa [if_neg (by omega), h5, restR_plain] at this)
              have k1 : ((c.toNat : Int) == 1) = false := beq_eq_false_iff_ne.2 (by omega)
              have k2 : ((c.toNat : Int) == 2) = false := beq_eq_false_iff_ne.2 (by omega)
              have k3 : ((c.toNat : Int) == 3) = false := beq_eq_false_iff_ne.2 (by omega)
              have k4 : ((c.toNat : Int) == 4) = false := beq_eq_false_iff_ne.2 (by omega)
              have k0 : ((c.toNat : Int) == 0) = true := beq_iff_eq.2 (by omega)
              clear h5
              go_wp2_with (refine wpList_copy_cut rfl (.tmp 29) (.tmp 31) rfl gr n n t1 old rfl rfl HT.out.2.1.1 HT.out.2.1.2 Hs1.out ?_; intro w3 Hr3 Ht3; have HT3 := Lib.hid (HT.out.turned (by rw [← Hrw.out]; exact Hr3.out) Hrl.out Ht3.out))
              refine (write_is w.heap.size v out row gr n n _ HT3.out.1 HT3.out.2.1.1 (fun e => HT3.out.2.2.2.2.1 (foot_mem.2 (.inl e))) HT3.out.2.1.2 H1.out (by have := HL.out.2; have := Hsg.out; omega)).mono ?_
              rintro e w5 ⟨rfl, v5, hb5, ht5⟩
              have HT5 := Lib.hid (HT3.out.wrote hb5 ht5)
              clear hb5 ht5
              go_wp2_with fail
              go_roundg g
              case measure => omega
              case rel =>
                have hl5 : (out ++ row).length = out.length + n := by rw [List.length_append, HT3.out.2.1.2]
                exact ⟨t2, ga, gr, r + 1, v5, _, _, rfl, rfl, rfl, Hs2.out, by have := Hs2.out; have := Hsg.out; omega, HT5.out, ⟨by rw [hl5, HL.out.1, Nat.add_mul, Nat.one_mul], by have := Hs2.out; have := Hsg.out; have := HL.out.2; omega⟩, Hr5.out⟩
            · have Hr5 : Hid ((a, b) = endP (decRows n g (out ++ restR c.toNat (aheadOf n out) row) t2.data.toList)) := Lib.hid (by have := Hrow.out; rwa [if_neg (by omega)] at this)
              have k1 : ((c.toNat : Int) == 1) = true := beq_iff_eq.2 (by omega)
              have hk5 : c.toNat = 1 ∨ c.toNat = 2 ∨ c.toNat = 3 ∨ c.toNat = 4 := by omega
              have Hk5 := Lib.hid hk5
              clear h5 hk5
              go_wp2_with (refine wpList_copy_cut rfl (.tmp 29) (.tmp 31) rfl gr n n t1 old rfl rfl HT.out.2.1.1 HT.out.2.1.2 Hs1.out ?_; intro w3 Hr3 Ht3; have HT3 := Lib.hid (HT.out.turned (by rw [← Hrw.out]; exact Hr3.out) Hrl.out Ht3.out))
              refine (restore_is gr ga n c.toNat row (aheadOf n out) _ HT3.out.2.1.1 HT3.out.2.2.1 (fun e => HT3.out.2.2.2.1 e.symm) HT3.out.2.1.2 (aheadOf_length _ _) H2.out Hk5.out).mono ?_
              rintro e w4 ⟨rfl, hr4, ht4⟩
              have HT4 := Lib.hid (HT3.out.turned hr4 (by rw [restR_length]; exact Hrl.out) ht4)
              clear hr4 ht4
              go_wp2_with fail
              refine (write_is w.heap.size v out (restR c.toNat (aheadOf n out) row) gr n n _ HT4.out.1 HT4.out.2.1.1 (fun e => HT4.out.2.2.2.2.1 (foot_mem.2 (.inl e))) HT4.out.2.1.2 H1.out (by have := HL.out.2; have := Hsg.out; omega)).mono ?_
              rintro e w5 ⟨rfl, v5, hb5, ht5⟩
              have HT5 := Lib.hid (HT4.out.wrote hb5 ht5)
              clear hb5 ht5
              go_wp2_with fail
              go_roundg g
              case measure => omega
              case rel =>
                have hl5 : (out ++ (restR c.toNat (aheadOf n out) row)).length = out.length + n := by rw [List.length_append, HT4.out.2.1.2]
                exact ⟨t2, ga, gr, r + 1, v5, _, _, rfl, rfl, rfl, Hs2.out, by have := Hs2.out; have := Hsg.out; omega, HT5.out, ⟨by rw [hl5, HL.out.1, Nat.add_mul, Nat.one_mul], by have := Hs2.out; have := Hsg.out; have := HL.out.2; omega⟩, Hr5.out⟩
            · have Hr5 : Hid ((a, b) = endP (decRows n g (out ++ restR c.toNat (aheadOf n out) row) t2.data.toList)) := Lib.hid (by have := Hrow.out; rwa [if_neg (by omega)] at this)
              have k1 : ((c.toNat : Int) == 1) = false := beq_eq_false_iff_ne.2 (by omega)
              have k2 : ((c.toNat : Int) == 2) = true := beq_iff_eq.2 (by omega)
              have hk5 : c.toNat = 1 ∨ c.toNat = 2 ∨ c.toNat = 3 ∨ c.toNat = 4 := by omega
              have Hk5 := Lib.hid hk5
              clear h5 hk5
              go_wp2_with (refine wpList_copy_cut rfl (.tmp 29) (.tmp 31) rfl gr n n t1 old rfl rfl HT.out.2.1.1 HT.out.2.1.2 Hs1.out ?_; intro w3 Hr3 Ht3; have HT3 := Lib.hid (HT.out.turned (by rw [← Hrw.out]; exact Hr3.out) Hrl.out Ht3.out))
              refine (restore_is gr ga n c.toNat row (aheadOf n out) _ HT3.out.2.1.1 HT3.out.2.2.1 (fun e => HT3.out.2.2.2.1 e.symm) HT3.out.2.1.2 (aheadOf_length _ _) H2.out Hk5.out).mono ?_
              rintro e w4 ⟨rfl, hr4, ht4⟩
              have HT4 := Lib.hid (HT3.out.turned hr4 (by rw [restR_length]; exact Hrl.out) ht4)
              clear hr4 ht4
              go_wp2_with fail
              refine (write_is w.heap.size v out (restR c.toNat (aheadOf n out) row) gr n n _ HT4.out.1 HT4.out.2.1.1 (fun e => HT4.out.2.2.2.2.1 (foot_mem.2 (.inl e))) HT4.out.2.1.2 H1.out (by have := HL.out.2; have := Hsg.out; omega)).mono ?_
              rintro e w5 ⟨rfl, v5, hb5, ht5⟩
              have HT5 := Lib.hid (HT4.out.wrote hb5 ht5)
              clear hb5 ht5
              go_wp2_with fail
              go_roundg g
              case measure => omega
              case rel =>
                have hl5 : (out ++ (restR c.toNat (aheadOf n out) row)).length = out.length + n := by rw [List.length_append, HT4.out.2.1.2]
                exact ⟨t2, ga, gr, r + 1, v5, _, _, rfl, rfl, rfl, Hs2.out, by have := Hs2.out; have := Hsg.out; omega, HT5.out, ⟨by rw [hl5, HL.out.1, Nat.add_mul, Nat.one_mul], by have := Hs2.out; have := Hsg.out; have := HL.out.2; omega⟩, Hr5.out⟩
            · have Hr5 : Hid ((a, b) = endP (decRows n g (out ++ restR c.toNat (aheadOf n out) row) t2.data.toList)) := Lib.hid (by have := Hrow.out; rwa [if_neg (by omega)] at this)
              have k1 : ((c.toNat : Int) == 1) = false := beq_eq_false_iff_ne.2 (by omega)
              have k2 : ((c.toNat : Int) == 2) = false := beq_eq_false_iff_ne.2 (by omega)
              have k3 : ((c.toNat : Int) == 3) = true := beq_iff_eq.2 (by omega)
              have hk5 : c.toNat = 1 ∨ c.toNat = 2 ∨ c.toNat = 3 ∨ c.toNat = 4 := by omega
              have Hk5 := Lib.hid hk5
              clear h5 hk5
              go_wp2_with (refine wpList_copy_cut rfl (.tmp 29) (.tmp 31) rfl gr n n t1 old rfl rfl HT.out.2.1.1 HT.out.2.1.2 Hs1.out ?_; intro w3 Hr3 Ht3; have HT3 := Lib.hid (HT.out.turned (by rw [← Hrw.out]; exact Hr3.out) Hrl.out Ht3.out))
              refine (restore_is gr ga n c.toNat row (aheadOf n out) _ HT3.out.2.1.1 HT3.out.2.2.1 (fun e => HT3.out.2.2.2.1 e.symm) HT3.out.2.1.2 (aheadOf_length _ _) H2.out Hk5.out).mono ?_
              rintro e w4 ⟨rfl, hr4, ht4⟩
              have HT4 := Lib.hid (HT3.out.turned hr4 (by rw [restR_length]; exact Hrl.out) ht4)
              clear hr4 ht4
              go_wp2_with fail
              refine (write_is w.heap.size v out (restR c.toNat (aheadOf n out) row) gr n n _ HT4.out.1 HT4.out.2.1.1 (fun e => HT4.out.2.2.2.2.1 (foot_mem.2 (.inl e))) HT4.out.2.1.2 H1.out (by have := HL.out.2; have := Hsg.out; omega)).mono ?_
              rintro e w5 ⟨rfl, v5, hb5, ht5⟩
              have HT5 := Lib.hid (HT4.out.wrote hb5 ht5)
              clear hb5 ht5
              go_wp2_with fail
              go_roundg g
              case measure => omega
              case rel =>
                have hl5 : (out ++ (restR c.toNat (aheadOf n out) row)).length = out.length + n := by rw [List.length_append, HT4.out.2.1.2]
                exact ⟨t2, ga, gr, r + 1, v5, _, _, rfl, rfl, rfl, Hs2.out, by have := Hs2.out; have := Hsg.out; omega, HT5.out, ⟨by rw [hl5, HL.out.1, Nat.add_mul, Nat.one_mul], by have := Hs2.out; have := Hsg.out; have := HL.out.2; omega⟩, Hr5.out⟩
            · have Hr5 : Hid ((a, b) = endP (decRows n g (out ++ restR c.toNat (aheadOf n out) row) t2.data.toList)) := Lib.hid (by have := Hrow.out; rwa [if_neg (by omega)] at this)
              have k1 : ((c.toNat : Int) == 1) = false := beq_eq_false_iff_ne.2 (by omega)
              have k2 : ((c.toNat : Int) == 2) = false := beq_eq_false_iff_ne.2 (by omega)
              have k3 : ((c.toNat : Int) == 3) = false := beq_eq_false_iff_ne.2 (by omega)
              have k4 : ((c.toNat : Int) == 4) = true := beq_iff_eq.2 (by omega)
              have hk5 : c.toNat = 1 ∨ c.toNat = 2 ∨ c.toNat = 3 ∨ c.toNat = 4 := by omega
              have Hk5 := Lib.hid hk5
              clear h5 hk5
              go_wp2_with (refine wpList_copy_cut rfl (.tmp 29) (.tmp 31) rfl gr n n t1 old rfl rfl HT.out.2.1.1 HT.out.2.1.2 Hs1.out ?_; intro w3 Hr3 Ht3; have HT3 := Lib.hid (HT.out.turned (by rw [← Hrw.out]; exact Hr3.out) Hrl.out Ht3.out))
              refine (restore_is gr ga n c.toNat row (aheadOf n out) _ HT3.out.2.1.1 HT3.out.2.2.1 (fun e => HT3.out.2.2.2.1 e.symm) HT3.out.2.1.2 (aheadOf_length _ _) H2.out Hk5.out).mono ?_
              rintro e w4 ⟨rfl, hr4, ht4⟩
              have HT4 := Lib.hid (HT3.out.turned hr4 (by rw [restR_length]; exact Hrl.out) ht4)
              clear hr4 ht4
              go_wp2_with fail
              refine (write_is w.heap.size v out (restR c.toNat (aheadOf n out) row) gr n n _ HT4.out.1 HT4.out.2.1.1 (fun e => HT4.out.2.2.2.2.1 (foot_mem.2 (.inl e))) HT4.out.2.1.2 H1.out (by have := HL.out.2; have := Hsg.out; omega)).mono ?_
              rintro e w5 ⟨rfl, v5, hb5, ht5⟩
              have HT5 := Lib.hid (HT4.out.wrote hb5 ht5)
              clear hb5 ht5
              go_wp2_with fail
              go_roundg g
              case measure => omega
              case rel =>
                have hl5 : (out ++ (restR c.toNat (aheadOf n out) row)).length = out.length + n := by rw [List.length_append, HT4.out.2.1.2]
                exact ⟨t2, ga, gr, r + 1, v5, _, _, rfl, rfl, rfl, Hs2.out, by have := Hs2.out; have := Hsg.out; omega, HT5.out, ⟨by rw [hl5, HL.out.1, Nat.add_mul, Nat.one_mul], by have := Hs2.out; have := Hsg.out; have := HL.out.2; omega⟩, Hr5.out⟩
            · have Hr5 : Hid ((a, b) = ([], 4)) := Lib.hid (by have := Hrow.out; rwa [if_pos h5] at this)
              have k1 : ((c.toNat : Int) == 1) = false := beq_eq_false_iff_ne.2 (by omega)
              have k2 : ((c.toNat : Int) == 2) = false := beq_eq_false_iff_ne.2 (by omega)
              have k3 : ((c.toNat : Int) == 3) = false := beq_eq_false_iff_ne.2 (by omega)
              have k4 : ((c.toNat : Int) == 4) = false := beq_eq_false_iff_ne.2 (by omega)
              have k0 : ((c.toNat : Int) == 0) = false := beq_eq_false_iff_ne.2 (by omega)
              clear h5
              go_wp2_with (refine wpList_copy_cut rfl (.tmp 29) (.tmp 31) rfl gr n n t1 old rfl rfl HT.out.2.1.1 HT.out.2.1.2 Hs1.out ?_; intro w3 Hr3 Ht3; have HT3 := Lib.hid (HT.out.turned (by rw [← Hrw.out]; exact Hr3.out) Hrl.out Ht3.out))
              go_ret2
              obtain ⟨rfl, rfl⟩ := Prod.mk.inj Hr5.out
              exact ⟨rfl, HT3.out.2.2.2.2.2.2.2.2.2⟩
    · obtain ⟨rfl, rfl⟩ : [] = a ∧ 4 = b := by
        unfold decP at h; rw [if_neg (by omega), Int.toNat_natCast, if_pos (by rw [← hsz]; exact hm)] at h; exact Prod.mk.inj h
      have hmz : ((s.size : Int) % (1 + (n : Int)) != 0) = true := by
        rw [bne_iff_ne, hmod]; omega
      clear h hm hmod hsz
      go_enter Tryz.func23, Tryz.ntmps23
      go_wp2_with fail
      refine (Hw.out _).mono ?_
      rintro e w1 ⟨rfl, rfl⟩
      go_wp2_with fail
      go_ret2
      exact ⟨rfl, Below.refl _ _⟩
end
end Go.Proofs.YtiiiokikmjgliaaGreatDoor
/-
  The contract of package predict's Encode.
-/
namespace Go.Proofs.YtiiiokikmjgliaaGreatDoor
section
open Go.RowKit
set_option maxRecDepth 100000
theorem zeros_is (n : Nat) (w : World) (hn : n ≤ 1000) :
    Calls Tryz.prog 36 #[.string ⟨#[0]⟩, .int .i64 (n : Int)] w fun e w' => e = .returned (.string (bytes (List.replicate n 0))) ∧ Below w.heap.size w w' := by
  have h := Any.strings_Repeat Tryz.lays105 Tryz.Builder_Extra_105 ⟨#[0]⟩ n w (by omega) (by show 1 * n ≤ _; omega)
  have e : Lib.repeatL (ByteArray.mk #[0]).data.toList n = List.replicate n 0 := by
    have := Lib.repeatL_replicate (0 : UInt8) 1 n
    simpa using this
  rw [e] at h
  exact h
theorem empty_yes2 {t : ByteArray} (h : t.size = 0) : t = ByteArray.mk #[] := by
  cases t with
  | mk d => have : d = #[] := Array.eq_empty_of_size_eq_zero h
            rw [this]
theorem sub_byte (x y : UInt8) : IntKind.u8.wrap ((x.toNat : Int) - (y.toNat : Int)) = ((x - y).toNat : Int) := by
  have h1 := x.toNat_lt
  have h2 := y.toNat_lt
  rw [IntKind.wrap_u8, UInt8.toNat_sub]
  omega
set_option maxRecDepth 100000 in
set_option maxHeartbeats 4000000 in
theorem enc_is (s : ByteArray) (columns : Int) (w : World) (hs : s.size ≤ 100000) (hc0 : -9223372036854775808 ≤ columns) (hc1 : columns ≤ 9223372036854775807) {a : List UInt8} {b : Int} (h : encP s.data.toList columns = (a, b)) :
    Calls Tryz.prog 19 #[.string s, .int .i64 columns] w fun e w' => e = .returned (.tuple #[.string (bytes a), .int .i64 b]) ∧ Below w.heap.size w w' := by
  by_cases hw : columns < 1 ∨ 256 < columns
  · obtain ⟨rfl, rfl⟩ : [] = a ∧ 2 = b := by unfold encP at h; rw [if_pos hw] at h; exact Prod.mk.inj h
    have Hw := Lib.hid (fun W => width_no columns W hw)
    clear h hw
    go_enter Tryz.func19, Tryz.ntmps19
    go_wp2_with fail
    refine (Hw.out _).mono ?_
    rintro e w1 ⟨rfl, rfl⟩
    go_wp2_with fail
    go_ret2
    exact ⟨rfl, Below.refl _ _⟩
  · obtain ⟨n, rfl⟩ := Int.eq_ofNat_of_zero_le (show 0 ≤ columns by omega)
    have h1 : 1 ≤ n := by omega
    have h2 : n ≤ 256 := by omega
    have Hw := Lib.hid (fun W => width_yes n W h1 h2)
    have hsz := size_data s
    have hn0 : ¬ (n : Int) = 0 := by omega
    have hmod : (s.size : Int) % (n : Int) = ((s.size % n : Nat) : Int) := (Int.natCast_emod s.size n).symm
    clear hw
    by_cases hm : s.size % n = 0
    · have hmz : ((s.size : Int) % (n : Int) != 0) = false := by
        rw [bne_eq_false_iff_eq, hmod, hm]; rfl
      obtain ⟨M, hM⟩ : ∃ M, s.size = M * n := ⟨s.size / n, by have := Nat.div_add_mod s.size n; rw [hm, Nat.mul_comm] at this; omega⟩
      have HD : Hid ((a, b) = (encUpto s.data.toList n s.size, 0)) := Lib.hid (by
        rw [← h, encP_end h1 h2 (by rw [← hsz]; exact hm), ← hsz])
      have HM := Lib.hid hM
      have Hsz := Lib.hid hsz
      have H1 := Lib.hid h1
      have H2 := Lib.hid h2
      have HF := Lib.hid (Bld.fresh w)
      have Hb0 : Hid (Below w.heap.size w (w.alloc (.cells #[.pointer none, .slice none 0 0] 66))) := Lib.hid ((Below.refl _ w).alloc (Nat.le_refl _) _)
      have Hzs := Lib.hid (fun W => zeros_is n W (by omega))
      clear h hm hmod hsz hM
      go_enter Tryz.func19, Tryz.ntmps19
      go_wp2_with fail
      refine (Hw.out _).mono ?_
      rintro e w1 ⟨rfl, rfl⟩
      go_wp2_with fail
      refine (Hzs.out _).mono ?_
      rintro e w1 ⟨rfl, hb1⟩
      have HB1 := Lib.hid (HF.out.later hb1)
      have Hb1 := Lib.hid (Hb0.out.trans (hb1.mono Hb0.out.size))
      clear hb1
      go_wp2_with fail
      go_loopg [0, 7] M (fun g s0 s7 wx => ∃ (t ah : ByteArray) (r : Nat), s0 = .string t ∧ s7 = .string ah ∧ t.size ≤ 100000 ∧ ah.size = n ∧ Aside (t.size = g * n ∧ r + g = M ∧ t.data.toList = s.data.toList.drop (r * n) ∧ ah.data.toList = aboveRow s.data.toList n r) ∧ Aside (Bld w.heap.size w.heap.size (encUpto s.data.toList n (r * n)) wx) ∧ Aside (Below w.heap.size w wx))
      case atStart => exact ⟨s, _, 0, rfl, rfl, hs, by rw [bytes_size]; simp, ⟨HM.out, by omega, by simp, by rw [bytes_data, aboveRow_zero]⟩, by rw [Nat.zero_mul]; exact HB1.out, Hb1.out⟩
      case round =>
        obtain ⟨t, ah, r, rfl, rfl, hts, has, HS, HB, hb⟩ := hrel
        have Hb := Lib.hid hb
        clear hb
        cases gk with
        | zero =>
          have h0 : t.size = 0 := by rw [HS.out.1, Nat.zero_mul]
          obtain rfl := empty_yes2 h0
          have Hr : Hid ((a, b) = (encUpto s.data.toList n (r * n), 0)) := Lib.hid (by rw [HD.out, HM.out, show r = M by have := HS.out.2.1; omega])
          clear h0
          go_wp2_with fail
          refine (string_is w.heap.size w.heap.size _ _ HB.out Hb.out.size).mono ?_
          rintro e w3 ⟨rfl, -, hb3, -⟩
          have Hb3 := Lib.hid (Hb.out.trans hb3)
          clear hb3
          go_wp2_with fail
          go_ret2
          obtain ⟨rfl, rfl⟩ := Prod.mk.inj Hr.out
          exact ⟨rfl, Hb3.out⟩
        | succ g =>
          have hsg : t.size = g * n + n := by rw [HS.out.1, Nat.add_mul, Nat.one_mul]
          have hpos : 0 < t.size := by have := H1.out; omega
          have he := isEmpty_not (show ¬ t.data.toList = [] from fun e => by rw [size_data, e] at hpos; exact absurd hpos (by decide))
          have hrb : r * n + t.size = s.size := by rw [hsg, HM.out, ← HS.out.2.1, Nat.add_mul, Nat.add_mul]; omega
          have hrow : (r + 1) * n ≤ s.data.toList.length := by rw [← Hsz.out, Nat.add_mul, Nat.one_mul]; omega
          have hlen := encPart_length s.data.toList n r n
          have Hlen : Hid (2 * (r * n) + 1 + n ≤ 1000000) := Lib.hid (by omega)
          obtain ⟨t2, ht2⟩ : ∃ t2, t.extract n t.size = t2 := ⟨_, rfl⟩
          obtain ⟨a2, ha2⟩ : ∃ a2, t.extract 0 n = a2 := ⟨_, rfl⟩
          have Hs2 : Hid (t2.size = g * n) := Lib.hid (by rw [← ht2, ByteArray.size_extract]; omega)
          have Ha2 : Hid (a2.size = n) := Lib.hid (by rw [← ha2, ByteArray.size_extract]; omega)
          have Hd2 : Hid (t2.data.toList = s.data.toList.drop ((r + 1) * n)) := Lib.hid (by rw [← ht2, Lib.extract_to_end, HS.out.2.2.1, List.drop_drop, Nat.add_mul, Nat.one_mul])
          have Hda : Hid (a2.data.toList = aboveRow s.data.toList n (r + 1)) := Lib.hid (by rw [← ha2, Lib.extract_data, HS.out.2.2.1, aboveRow_succ hrow]; simp)
          have q1 : (n : Int) ≤ (t.size : Int) := by omega
          have Hxs : Hid (∀ k (hk : k < n) (hk2 : k < t.size), s.data.toList[r * n + k]?.getD 0 = t[k]) := Lib.hid fun k hk hk2 => by
            have h5 : t.data.toList[k]? = s.data.toList[r * n + k]? := by rw [HS.out.2.2.1, List.getElem?_drop]
            rw [← h5, List.getElem?_eq_getElem (by rw [← size_data]; exact hk2)]; rfl
          have Hys : Hid (∀ k (hk : k < n) (hk2 : k < ah.size), aboveP s.data.toList n (r * n + k) = ah[k]) := Lib.hid fun k hk hk2 => by
            have h5 : ah.data.toList[k]? = some (aboveP s.data.toList n (r * n + k)) := by rw [HS.out.2.2.2, aboveRow_at hk]
            have h6 : k < ah.data.toList.length := by rw [← size_data]; exact hk2
            rw [List.getElem?_eq_getElem h6] at h5
            exact (Option.some.inj h5).symm
          have Hts := Lib.hid hts
          have Hnt : Hid (n ≤ t.size) := Lib.hid (by omega)
          clear hsg hrb hrow hlen
          go_wp2_with fail
          refine (wbyte_is w.heap.size w.heap.size _ 2 _ HB.out (by have := encUpto_length s.data.toList n (r * n); have := Hlen.out; omega) Hb.out.size).mono ?_
          rintro e w2 ⟨rfl, hB2, hb2, -⟩
          have HB2 := Lib.hid hB2
          have Hb2 := Lib.hid (Hb.out.trans hb2)
          clear hB2 hb2
          go_wp2_with fail
          go_loopg [8, 26] n (fun gi s8 s26 wx => ∃ k : Nat, k + gi = n ∧ s26 = .int .i64 (k : Int) ∧ Aside (Bld w.heap.size w.heap.size (encPart s.data.toList n r k) wx) ∧ Aside (Below w.heap.size w wx))
          case atStart => exact ⟨0, by omega, rfl, HB2.out, Hb2.out⟩
          case round =>
            obtain ⟨k, hki, rfl, HBk, hbk⟩ := hrel
            have Hbk := Lib.hid hbk
            clear hbk
            cases gk with
            | zero =>
              obtain rfl : k = n := by omega
              have HB3 : Hid (Bld w.heap.size w.heap.size (encUpto s.data.toList k ((r + 1) * k)) wr) := Lib.hid (by rw [← encPart_all H1.out]; exact HBk)
              clear hki
              go_wp2_with fail
              go_roundg g
              case measure => omega
              case rel => exact ⟨t2, a2, r + 1, rfl, rfl, by have h5 := HS.out.1; rw [Nat.add_mul, Nat.one_mul] at h5; have := Hts.out; have := Hs2.out; omega, Ha2.out, ⟨Hs2.out, by have := HS.out.2.1; omega, Hd2.out, Hda.out⟩, HB3.out, Hbk.out⟩
            | succ gi =>
              have hkn : k < n := by omega
              have hkz : (k : Int) < (n : Int) := by omega
              have hkt : k < t.size := by have := Hnt.out; omega
              have hka : k < ah.size := by omega
              have hktz : (k : Int) < (t.size : Int) := by omega
              have hkaz : (k : Int) < (ah.size : Int) := by omega
              obtain ⟨x, hx⟩ : ∃ x, t[k] = x := ⟨_, rfl⟩
              obtain ⟨y, hy⟩ : ∃ y, ah[k] = y := ⟨_, rfl⟩
              have Hnext : Hid (encPart s.data.toList n r (k + 1) = encPart s.data.toList n r k ++ [x - y]) := Lib.hid (by rw [encPart_succ, Hxs.out k hkn hkt, Hys.out k hkn hka, hx, hy])
              have hsub := sub_byte x y
              have Hk6 : Hid ((encPart s.data.toList n r k).length + 1 ≤ 140737488355328) := Lib.hid (by have := encPart_length s.data.toList n r k; have := Hlen.out; omega)
              have HWb := Lib.hid (wbyte_is w.heap.size w.heap.size (encPart s.data.toList n r k) (x - y) wr.drew (Bld.drew HBk.out) Hk6.out Hbk.out.size)
              go_wp2_with fail
              go_region_with (go_at_call 37; refine HWb.out.mono ?_; rintro e w4 ⟨rfl, hB4, hb4, -⟩)
              all_goals
                have HB4 := Lib.hid hB4
                have Hb4 := Lib.hid (Hbk.out.drew.trans hb4)
                clear hB4 hb4
                go_wp2_with fail
                go_roundg gi
                case measure => omega
                case rel => exact ⟨k + 1, by omega, by go_num, by show Bld _ _ _ _; rw [Hnext.out]; exact HB4.out, Hb4.out⟩
    · obtain ⟨rfl, rfl⟩ : [] = a ∧ 4 = b := by
        unfold encP at h; rw [if_neg (by omega), Int.toNat_natCast, if_pos (by rw [← hsz]; exact hm)] at h; exact Prod.mk.inj h
      have hmz : ((s.size : Int) % (n : Int) != 0) = true := by
        rw [bne_iff_ne, hmod]; omega
      clear h hm hmod hsz
      go_enter Tryz.func19, Tryz.ntmps19
      go_wp2_with fail
      refine (Hw.out _).mono ?_
      rintro e w1 ⟨rfl, rfl⟩
      go_wp2_with fail
      go_ret2
      exact ⟨rfl, Below.refl _ _⟩
end
end Go.Proofs.YtiiiokikmjgliaaGreatDoor
