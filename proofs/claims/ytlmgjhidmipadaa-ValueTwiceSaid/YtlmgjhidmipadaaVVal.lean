/-
  What must come at any rate: the page's example, and a link.
-/
import Derived.Test.YtlmgjhidmipadaaVLaw1
import Derived.Test.YtlmgjhidmipadaaVLaw3
import Derived.Test.YtlmgjhidmipadaaHLk
import Derived.Test.YtlmgjhidmipadaaHEq
namespace Go.Proofs.Ytlmgjhidmipadaa
open Go.RowKit
set_option maxRecDepth 100000

def vOne : Val := .mk 2 1 0 ByteArray.empty [] []
def vTwo : Val := .mk 2 2 0 ByteArray.empty [] []
def kB : ByteArray := ⟨#[66]⟩
def kA : ByteArray := ⟨#[65]⟩
def kC : ByteArray := ⟨#[67]⟩
def vD : Val := .mk 6 0 0 ByteArray.empty [] [(kB, vOne), (kA, .null), (kB, vTwo)]
def vE : Val := .mk 6 0 0 ByteArray.empty [] [(kB, vOne)]
def vL : Val := .mk 7 3 1 ByteArray.empty [] []
def vW : Val := withV vD kC vL
def vS : Val := .mk 8 0 0 ByteArray.empty [] []
theorem v_get : getV vW kC = (vL, true) := Prod.ext ((equalV_iff _ _).1 (by decide +kernel)) (by decide +kernel)
theorem v_plain : plainV vD = vE := (equalV_iff _ _).1 (by decide +kernel)
theorem v_holds : (3, 1) ∈ linksV (plainV vW) := by decide +kernel
theorem v_not : (3, 0) ∉ linksV (plainV vW) := by decide +kernel
theorem v_check : checkV vD false 0 = 11 ∧ checkV vW false 0 = 0 ∧ checkV vS false 0 = 10 := by decide +kernel
theorem v_size : depthV vD = 1 ∧ sizeV vD = 4 := by decide +kernel
theorem v_fit : Fit vD 2000 ∧ Fit vL 2000 ∧ Fit vW 4000 ∧ Fit vS 4000 ∧ Fit vE 4000 := by unfold Fit; decide +kernel
abbrev hFlat (k n g : Int) : Hv := ⟨k, n, g, ⟨#[]⟩, ⟨none, 0, 0⟩, ⟨none, 0, 0⟩⟩
abbrev hDict (b c : Nat) : Hv := ⟨6, 0, 0, ⟨#[]⟩, ⟨none, 0, 0⟩, ⟨some ⟨b, 0, none⟩, c, c⟩⟩
theorem flat_rd (W : World) (S : Nat → Prop) (k n g : Int) : Rd W S (hFlat k n g) (.mk k n g ByteArray.empty [] []) := rd_iff.2 ⟨⟨rfl, rfl, rfl, rfl⟩, RdL.nil W S none 0 (Nat.zero_le _), RdD.nil W S none 0 (Nat.zero_le _)⟩
theorem vD_rd (W : World) (S : Nat → Prop) (b : Nat) (hS : S b) (hb : W.heap[b]? = some (.cells #[.string ⟨#[66]⟩, .int .i64 2, .int .i64 1, .int .i64 0, .string ⟨#[]⟩, .slice none 0 0, .slice none 0 0, .string ⟨#[65]⟩, .int .i64 0, .int .i64 0, .int .i64 0, .string ⟨#[]⟩, .slice none 0 0, .slice none 0 0, .string ⟨#[66]⟩, .int .i64 2, .int .i64 2, .int .i64 0, .string ⟨#[]⟩, .slice none 0 0, .slice none 0 0] 50)) : Rd W S (hDict b 3) vD := by
  refine rd_iff.2 ⟨⟨rfl, rfl, rfl, rfl⟩, RdL.nil W S none 0 (Nat.zero_le _), rfl, ⟨Nat.le_refl _, show (3 : Nat) ≤ maxLen by decide⟩, b, 0, fun i => if i = 0 then ⟨kB, hFlat 2 1 0⟩ else if i = 1 then ⟨kA, hFlat 0 0 0⟩ else ⟨kB, hFlat 2 2 0⟩, fun _ => ⟨rfl, hS⟩, ?_, ?_⟩
  · intro i hi
    have hi3 : i < 3 := hi
    unfold HpAt HvAt World.cell?
    match i, hi3 with
    | 0, _ => simp [hb, kB]
    | 1, _ => simp [hb, kA]
    | 2, _ => simp [hb, kB]
  · intro i hi
    have hi3 : i < 3 := hi
    match i, hi3 with
    | 0, _ => exact ⟨rfl, flat_rd W S 2 1 0⟩
    | 1, _ => exact ⟨rfl, flat_rd W S 0 0 0⟩
    | 2, _ => exact ⟨rfl, flat_rd W S 2 2 0⟩
theorem vE_rd (W : World) (S : Nat → Prop) (b : Nat) (hS : S b) (hb : W.heap[b]? = some (.cells #[.string ⟨#[66]⟩, .int .i64 2, .int .i64 1, .int .i64 0, .string ⟨#[]⟩, .slice none 0 0, .slice none 0 0] 50)) : Rd W S (hDict b 1) vE := by
  refine rd_iff.2 ⟨⟨rfl, rfl, rfl, rfl⟩, RdL.nil W S none 0 (Nat.zero_le _), rfl, ⟨Nat.le_refl _, show (1 : Nat) ≤ maxLen by decide⟩, b, 0, fun i => ⟨kB, hFlat 2 1 0⟩, fun _ => ⟨rfl, hS⟩, ?_, ?_⟩
  · intro i hi
    have hi3 : i < 1 := hi
    unfold HpAt HvAt World.cell?
    match i, hi3 with
    | 0, _ => simp [hb, kB]
  · intro i hi
    have hi3 : i < 1 := hi
    match i, hi3 with
    | 0, _ => exact ⟨rfl, flat_rd W S 2 1 0⟩

theorem vsix {W : World} {b : Nat} {v0 v1 v2 v3 v4 v5 : Value} {ty : TypeId} (h : W.heap[b]? = some (.cells #[v0, v1, v2, v3, v4, v5] ty)) : W.cell? ⟨b, 0, none⟩ = some v0 ∧ W.cell? ⟨b, 1, none⟩ = some v1 ∧ W.cell? ⟨b, 2, none⟩ = some v2 ∧
    W.cell? ⟨b, 3, none⟩ = some v3 ∧ W.cell? ⟨b, 4, none⟩ = some v4 ∧ W.cell? ⟨b, 5, none⟩ = some v5 := six_cells h
theorem func_nil (p : Option Addr) (w : World) : (binOp .eql 42 (.func (.func 43) #[] #[.pointer p]) .nilFunc).run Try.prog w = .ok (.bool false) w := by
  kernel_rfl

set_option maxHeartbeats 4000000 in
theorem values_any : ValuesC := by
  intro w
  obtain ⟨w0, hw0⟩ : ∃ w0, w.alloc (.cells #[.int .i64 2, .int .i64 1, .int .i64 0, .string ⟨#[]⟩, .slice none 0 0, .slice none 0 0] 25) = w0 := ⟨_, rfl⟩
  obtain ⟨w1, hw1⟩ : ∃ w1, w0.alloc (.cells #[.string ⟨#[66]⟩, .int .i64 2, .int .i64 1, .int .i64 0, .string ⟨#[]⟩, .slice none 0 0, .slice none 0 0, .string ⟨#[65]⟩, .int .i64 0, .int .i64 0, .int .i64 0, .string ⟨#[]⟩, .slice none 0 0, .slice none 0 0, .string ⟨#[66]⟩, .int .i64 2, .int .i64 2, .int .i64 0, .string ⟨#[]⟩, .slice none 0 0, .slice none 0 0] 50) = w1 := ⟨_, rfl⟩
  obtain ⟨w2, hw2⟩ : ∃ w2, w1.alloc (.cells #[.int .i64 6, .int .i64 0, .int .i64 0, .string ⟨#[]⟩, .slice none 0 0, .slice (some ⟨w.heap.size + 1, 0, none⟩) 3 3] 25) = w2 := ⟨_, rfl⟩
  obtain ⟨w3, hw3⟩ : ∃ w3, w2.alloc (.cells #[.int .i64 7, .int .i64 3, .int .i64 1, .string ⟨#[]⟩, .slice none 0 0, .slice none 0 0] 25) = w3 := ⟨_, rfl⟩
  have s0 : w0.heap.size = w.heap.size + 1 := by rw [← hw0]; simp
  have s1 : w1.heap.size = w.heap.size + 1 + 1 := by rw [← hw1]; simp [s0]
  have s2 : w2.heap.size = w.heap.size + 1 + 1 + 1 := by rw [← hw2]; simp [s1]
  have s3 : w3.heap.size = w.heap.size + 1 + 1 + 1 + 1 := by rw [← hw3]; simp [s2]
  have b0 : Below w.heap.size w w0 := by rw [← hw0]; exact (Below.refl _ w).alloc (Nat.le_refl _) _
  have b1 : Below w0.heap.size w0 w1 := by rw [← hw1]; exact (Below.refl _ w0).alloc (Nat.le_refl _) _
  have b2 : Below w1.heap.size w1 w2 := by rw [← hw2]; exact (Below.refl _ w1).alloc (Nat.le_refl _) _
  have b3 : Below w2.heap.size w2 w3 := by rw [← hw3]; exact (Below.refl _ w2).alloc (Nat.le_refl _) _
  have p0 : w0.heap[w.heap.size]? = some (.cells #[.int .i64 2, .int .i64 1, .int .i64 0, .string ⟨#[]⟩, .slice none 0 0, .slice none 0 0] 25) := by rw [← hw0]; exact heap_alloc_new w _
  have p1 : w1.heap[w.heap.size + 1]? = some (.cells #[.string ⟨#[66]⟩, .int .i64 2, .int .i64 1, .int .i64 0, .string ⟨#[]⟩, .slice none 0 0, .slice none 0 0, .string ⟨#[65]⟩, .int .i64 0, .int .i64 0, .int .i64 0, .string ⟨#[]⟩, .slice none 0 0, .slice none 0 0, .string ⟨#[66]⟩, .int .i64 2, .int .i64 2, .int .i64 0, .string ⟨#[]⟩, .slice none 0 0, .slice none 0 0] 50) := by rw [← hw1, ← s0]; exact heap_alloc_new w0 _
  have p2 : w2.heap[w.heap.size + 1 + 1]? = some (.cells #[.int .i64 6, .int .i64 0, .int .i64 0, .string ⟨#[]⟩, .slice none 0 0, .slice (some ⟨w.heap.size + 1, 0, none⟩) 3 3] 25) := by rw [← hw2, ← s1]; exact heap_alloc_new w1 _
  have p3 : w3.heap[w.heap.size + 1 + 1 + 1]? = some (.cells #[.int .i64 7, .int .i64 3, .int .i64 1, .string ⟨#[]⟩, .slice none 0 0, .slice none 0 0] 25) := by rw [← hw3, ← s2]; exact heap_alloc_new w2 _
  have q0 := (b3.block _ (by omega)).trans ((b2.block _ (by omega)).trans ((b1.block _ (by omega)).trans p0))
  have q1 := (b3.block _ (by omega)).trans ((b2.block _ (by omega)).trans p1)
  have q2 := (b3.block _ (by omega)).trans p2
  have hb3 : Below w.heap.size w w3 := b0.trans ((b1.trans ((b2.trans (b3.mono (by omega))).mono (by omega))).mono (by omega))
  have hDt : Rd w3 (fun k => k < w3.heap.size) (hDict (w.heap.size + 1) 3) vD := vD_rd w3 _ _ (by omega) q1
  have hcall := pWith_any vD vL kC (hDict (w.heap.size + 1) 3) (hFlat 7 3 1) w3 (fun k => k < w3.heap.size) hDt (flat_rd w3 _ 7 3 1) (fun _ h => h) v_fit.1 v_fit.2.1 (by decide)
  have Hcall := Lib.hid hcall
  have Hw0 := Lib.hid hw0
  have Hw1 := Lib.hid hw1
  have Hw2 := Lib.hid hw2
  have Hw3 := Lib.hid hw3
  have Q0 := Lib.hid q0
  have Q2 := Lib.hid q2
  have Q3 := Lib.hid p3
  have HDt := Lib.hid hDt
  have HB3 := Lib.hid hb3
  dsimp only [Hv.arr, hDict, hFlat, kC] at Hcall
  clear hw0 hw1 hw2 hw3 s0 s1 s2 b0 b1 b2 b3 p0 p1 p2 p3 q0 q1 q2 hb3 hDt hcall
  go_enter Try.func9, Try.ntmps9
  go_wp2_with fail
  rw [Hw0.out, Hw1.out, Hw2.out, Hw3.out]
  refine Hcall.out.mono ?_
  rintro e w4 ⟨⟨zk, zn, zg, zst, ⟨zlp, zll, zlc⟩, ⟨zdp, zdl, zdc⟩⟩, he, hy, hb4⟩
  replace he : e = .returned (.agg #[.int .i64 zk, .int .i64 zn, .int .i64 zg, .string zst, .slice zlp zll zlc, .slice zdp zdl zdc]) := he
  subst he
  obtain ⟨w5, hw5⟩ : ∃ w5, w4.alloc (.cells #[.int .i64 zk, .int .i64 zn, .int .i64 zg, .string zst, .slice zlp zll zlc, .slice zdp zdl zdc] 25) = w5 := ⟨_, rfl⟩
  have hb45 : Below w4.heap.size w4 w5 := by rw [← hw5]; exact (Below.refl _ w4).alloc (Nat.le_refl _) _
  have hb35 : Below w3.heap.size w3 w5 := hb4.trans (hb45.mono hb4.size)
  have s5 : w5.heap.size = w4.heap.size + 1 := by rw [← hw5]; simp
  have p4 : VCell w5 w4.heap.size ⟨zk, zn, zg, zst, ⟨zlp, zll, zlc⟩, ⟨zdp, zdl, zdc⟩⟩ := by rw [← hw5]; exact heap_alloc_new w4 _
  have hZ5 : Rd w5 (fun k => k < w5.heap.size) ⟨zk, zn, zg, zst, ⟨zlp, zll, zlc⟩, ⟨zdp, zdl, zdc⟩⟩ vW := (hy.carry hb45).mono (fun k hk => hk.2)
  have hlk := plinks_maker vW ⟨zk, zn, zg, zst, ⟨zlp, zll, zlc⟩, ⟨zdp, zdl, zdc⟩⟩ w5 (fun k => k < w5.heap.size) hZ5 (fun _ h => h) v_fit.2.2.1
  have Hlk := Lib.hid hlk
  have HZ5 := Lib.hid hZ5
  have P4 := Lib.hid p4
  have HB4 := Lib.hid hb4
  have HB35 := Lib.hid hb35
  have Hw5 := Lib.hid hw5
  obtain ⟨k0, k1, k2, k3, k4, k5⟩ := p4.at
  simp only [Nat.zero_add] at k0 k1 k2 k3 k4 k5
  rw [← hw5] at k0 k1 k2 k3 k4 k5
  dsimp only [Hv.arr] at Hlk
  clear hw5 hb45 hb35 p4 hZ5 hlk hb4 hy
  go_wp2_with fail
  rw [Hw5.out]
  refine Hlk.out.mono ?_
  rintro e w6 ⟨rfl, hb6, -⟩
  have hz6 := HZ5.out.later (fun k hk => hb6.block k hk)
  have hS6 : ∀ k, k < w5.heap.size → k < w6.heap.size := fun k hk => Nat.lt_of_lt_of_le hk hb6.size
  have hget := pGet_any vW kC ⟨zk, zn, zg, zst, ⟨zlp, zll, zlc⟩, ⟨zdp, zdl, zdc⟩⟩ w6 (fun k => k < w5.heap.size) hz6 hS6 v_fit.2.2.1
  rw [v_get] at hget
  have Hget := Lib.hid hget
  have HB6 := Lib.hid hb6
  obtain ⟨k0, k1, k2, k3, k4, k5⟩ := (P4.out.later hb6 (by omega)).at
  simp only [Nat.zero_add] at k0 k1 k2 k3 k4 k5
  dsimp only [Hv.arr, kC] at Hget
  clear hz6 hS6 hget hb6
  have hfn := func_nil
  go_wp2_with fail
  refine Hget.out.mono ?_
  rintro e w7 ⟨⟨gk, gn, gg, gst, ⟨glp, gll, glc⟩, ⟨gdp, gdl, gdc⟩⟩, he, hy, hb7⟩
  replace he : e = .returned (.tuple #[.agg #[.int .i64 gk, .int .i64 gn, .int .i64 gg, .string gst, .slice glp gll glc, .slice gdp gdl gdc], .bool true]) := he
  subst he
  obtain ⟨w8, hw8⟩ : ∃ w8, w7.alloc (.cells #[.int .i64 gk, .int .i64 gn, .int .i64 gg, .string gst, .slice glp gll glc, .slice gdp gdl gdc] 25) = w8 := ⟨_, rfl⟩
  have hb78 : Below w7.heap.size w7 w8 := by rw [← hw8]; exact (Below.refl _ w7).alloc (Nat.le_refl _) _
  have hb68 : Below w6.heap.size w6 w8 := hb7.trans (hb78.mono hb7.size)
  have hb58 : Below w5.heap.size w5 w8 := HB6.out.trans (hb68.mono HB6.out.size)
  have hb38 : Below w3.heap.size w3 w8 := HB35.out.trans (hb58.mono HB35.out.size)
  have s8 : w8.heap.size = w7.heap.size + 1 := by rw [← hw8]; simp
  have z5 := hb58.size
  have z3 := hb38.size
  have z7 := hb7.size
  have x0 : w8.heap[w.heap.size]? = _ := (hb38.block _ (by omega)).trans Q0.out
  have x2 : w8.heap[w.heap.size + 1 + 1]? = _ := (hb38.block _ (by omega)).trans Q2.out
  have x3 : w8.heap[w.heap.size + 1 + 1 + 1]? = _ := (hb38.block _ (by omega)).trans Q3.out
  have x4 : w8.heap[w4.heap.size]? = some (.cells #[.int .i64 zk, .int .i64 zn, .int .i64 zg, .string zst, .slice zlp zll zlc, .slice zdp zdl zdc] 25) := P4.out.later hb58 (by omega)
  have x5 : w8.heap[w7.heap.size]? = some (.cells #[.int .i64 gk, .int .i64 gn, .int .i64 gg, .string gst, .slice glp gll glc, .slice gdp gdl gdc] 25) := by rw [← hw8]; exact heap_alloc_new w7 _
  have hkeep : ∀ w' : World, Below w8.heap.size w8 w' → w'.cell? ⟨w.heap.size, 0, none⟩ = some (.int .i64 2) ∧ w'.cell? ⟨w.heap.size, 1, none⟩ = some (.int .i64 1) ∧ w'.cell? ⟨w.heap.size, 2, none⟩ = some (.int .i64 0) ∧ w'.cell? ⟨w.heap.size, 3, none⟩ = some (.string ⟨#[]⟩) ∧ w'.cell? ⟨w.heap.size, 4, none⟩ = some (.slice none 0 0) ∧ w'.cell? ⟨w.heap.size, 5, none⟩ = some (.slice none 0 0) ∧ w'.cell? ⟨w.heap.size + 1 + 1, 0, none⟩ = some (.int .i64 6) ∧ w'.cell? ⟨w.heap.size + 1 + 1, 1, none⟩ = some (.int .i64 0) ∧ w'.cell? ⟨w.heap.size + 1 + 1, 2, none⟩ = some (.int .i64 0) ∧ w'.cell? ⟨w.heap.size + 1 + 1, 3, none⟩ = some (.string ⟨#[]⟩) ∧ w'.cell? ⟨w.heap.size + 1 + 1, 4, none⟩ = some (.slice none 0 0) ∧ w'.cell? ⟨w.heap.size + 1 + 1, 5, none⟩ = some (.slice (some ⟨w.heap.size + 1, 0, none⟩) 3 3) ∧ w'.cell? ⟨w.heap.size + 1 + 1 + 1, 0, none⟩ = some (.int .i64 7) ∧ w'.cell? ⟨w.heap.size + 1 + 1 + 1, 1, none⟩ = some (.int .i64 3) ∧ w'.cell? ⟨w.heap.size + 1 + 1 + 1, 2, none⟩ = some (.int .i64 1) ∧ w'.cell? ⟨w.heap.size + 1 + 1 + 1, 3, none⟩ = some (.string ⟨#[]⟩) ∧ w'.cell? ⟨w.heap.size + 1 + 1 + 1, 4, none⟩ = some (.slice none 0 0) ∧ w'.cell? ⟨w.heap.size + 1 + 1 + 1, 5, none⟩ = some (.slice none 0 0) ∧ w'.cell? ⟨w4.heap.size, 0, none⟩ = some (.int .i64 zk) ∧ w'.cell? ⟨w4.heap.size, 1, none⟩ = some (.int .i64 zn) ∧ w'.cell? ⟨w4.heap.size, 2, none⟩ = some (.int .i64 zg) ∧ w'.cell? ⟨w4.heap.size, 3, none⟩ = some (.string zst) ∧ w'.cell? ⟨w4.heap.size, 4, none⟩ = some (.slice zlp zll zlc) ∧ w'.cell? ⟨w4.heap.size, 5, none⟩ = some (.slice zdp zdl zdc) ∧ w'.cell? ⟨w7.heap.size, 0, none⟩ = some (.int .i64 gk) ∧ w'.cell? ⟨w7.heap.size, 1, none⟩ = some (.int .i64 gn) ∧ w'.cell? ⟨w7.heap.size, 2, none⟩ = some (.int .i64 gg) ∧ w'.cell? ⟨w7.heap.size, 3, none⟩ = some (.string gst) ∧ w'.cell? ⟨w7.heap.size, 4, none⟩ = some (.slice glp gll glc) ∧ w'.cell? ⟨w7.heap.size, 5, none⟩ = some (.slice gdp gdl gdc) := fun w' hb => by
    obtain ⟨a0, a1, a2, a3, a4, a5⟩ := vsix ((hb.block _ (by omega)).trans x0)
    obtain ⟨b0, b1, b2, b3, b4, b5⟩ := vsix ((hb.block _ (by omega)).trans x2)
    obtain ⟨c0, c1, c2, c3, c4, c5⟩ := vsix ((hb.block _ (by omega)).trans x3)
    obtain ⟨d0, d1, d2, d3, d4, d5⟩ := vsix ((hb.block _ (by omega)).trans x4)
    obtain ⟨e0, e1, e2, e3, e4, e5⟩ := vsix ((hb.block _ (by omega)).trans x5)
    exact ⟨a0, a1, a2, a3, a4, a5, b0, b1, b2, b3, b4, b5, c0, c1, c2, c3, c4, c5, d0, d1, d2, d3, d4, d5, e0, e1, e2, e3, e4, e5⟩
  have hS8 : ∀ W, Below w8.heap.size w8 W → ∀ k, k < w8.heap.size → k < W.heap.size := fun W hb k hk => Nat.lt_of_lt_of_le hk hb.size
  have rD : ∀ W, Below w8.heap.size w8 W → Rd W (fun k => k < w8.heap.size) (hDict (w.heap.size + 1) 3) vD := fun W hb => ((HDt.out.later (fun k hk => hb38.block k hk)).mono (fun k hk => Nat.lt_of_lt_of_le hk z3)).later (fun k hk => hb.block k hk)
  have rZ : ∀ W, Below w8.heap.size w8 W → Rd W (fun k => k < w8.heap.size) ⟨zk, zn, zg, zst, ⟨zlp, zll, zlc⟩, ⟨zdp, zdl, zdc⟩⟩ vW := fun W hb => ((HZ5.out.later (fun k hk => hb58.block k hk)).mono (fun k hk => Nat.lt_of_lt_of_le hk z5)).later (fun k hk => hb.block k hk)
  have rG : ∀ W, Below w8.heap.size w8 W → Rd W (fun k => k < w8.heap.size) ⟨gk, gn, gg, gst, ⟨glp, gll, glc⟩, ⟨gdp, gdl, gdc⟩⟩ vL := fun W hb => ((hy.carry hb78).mono (fun k hk => hk.2)).later (fun k hk => hb.block k hk)
  have wid : ∀ (W w' : World), Below w8.heap.size w8 W → Below W.heap.size W w' → Below w8.heap.size w8 w' := fun _ _ h h2 => h.trans (h2.mono h.size)
  have HP := Lib.hid (fun W (hb : Below w8.heap.size w8 W) => pplain_any vD (hDict (w.heap.size + 1) 3) W _ (rD W hb) (hS8 W hb) (v_fit.1.mono (by omega)))
  have HE2 := Lib.hid (fun W (hb : Below w8.heap.size w8 W) => (requal_any vL vL ⟨gk, gn, gg, gst, ⟨glp, gll, glc⟩, ⟨gdp, gdl, gdc⟩⟩ (hFlat 7 3 1) W _ (rG W hb) (flat_rd W _ 7 3 1) (hS8 W hb)).mono (fun e w' h => (⟨by rw [h.1, equalV_refl], wid _ _ hb h.2⟩ : e = .returned (.bool true) ∧ Below w8.heap.size w8 w')))
  have HH1 := Lib.hid (fun W (hb : Below w8.heap.size w8 W) => (pholds_any vW ⟨zk, zn, zg, zst, ⟨zlp, zll, zlc⟩, ⟨zdp, zdl, zdc⟩⟩ (3, 1) W _ (rZ W hb) (hS8 W hb) v_fit.2.2.1).mono (fun e w' h => (⟨by rw [h.1, decide_eq_true v_holds], wid _ _ hb h.2⟩ : e = .returned (.bool true) ∧ Below w8.heap.size w8 w')))
  have HH2 := Lib.hid (fun W (hb : Below w8.heap.size w8 W) => (pholds_any vW ⟨zk, zn, zg, zst, ⟨zlp, zll, zlc⟩, ⟨zdp, zdl, zdc⟩⟩ (3, 0) W _ (rZ W hb) (hS8 W hb) v_fit.2.2.1).mono (fun e w' h => (⟨by rw [h.1, decide_eq_false v_not], wid _ _ hb h.2⟩ : e = .returned (.bool false) ∧ Below w8.heap.size w8 w')))
  have HC1 := Lib.hid (fun W (hb : Below w8.heap.size w8 W) => (pCheck_any vD false (hDict (w.heap.size + 1) 3) W _ (rD W hb) (hS8 W hb) (v_fit.1.mono (by omega))).mono (fun e w' h => (⟨by rw [h.1, v_check.1], wid _ _ hb h.2⟩ : e = .returned (.int .i64 11) ∧ Below w8.heap.size w8 w')))
  have HC2 := Lib.hid (fun W (hb : Below w8.heap.size w8 W) => (pCheck_any vW false ⟨zk, zn, zg, zst, ⟨zlp, zll, zlc⟩, ⟨zdp, zdl, zdc⟩⟩ W _ (rZ W hb) (hS8 W hb) v_fit.2.2.1).mono (fun e w' h => (⟨by rw [h.1, v_check.2.1], wid _ _ hb h.2⟩ : e = .returned (.int .i64 0) ∧ Below w8.heap.size w8 w')))
  have HC3 := Lib.hid (fun W (hb : Below w8.heap.size w8 W) => (pCheck_any vS false (hFlat 8 0 0) W _ (flat_rd W _ 8 0 0) (hS8 W hb) v_fit.2.2.2.1).mono (fun e w' h => (⟨by rw [h.1, v_check.2.2], wid _ _ hb h.2⟩ : e = .returned (.int .i64 10) ∧ Below w8.heap.size w8 w')))
  have HDp := Lib.hid (fun W (hb : Below w8.heap.size w8 W) => (pdepth_any vD (hDict (w.heap.size + 1) 3) W _ (rD W hb) (hS8 W hb) (v_fit.1.mono (by omega))).mono (fun e w' h => (⟨by rw [h.1, v_size.1]; rfl, wid _ _ hb h.2⟩ : e = .returned (.int .i64 1) ∧ Below w8.heap.size w8 w')))
  have HSz := Lib.hid (fun W (hb : Below w8.heap.size w8 W) => (psize_any vD (hDict (w.heap.size + 1) 3) W _ (rD W hb) (hS8 W hb) (v_fit.1.mono (by omega))).mono (fun e w' h => (⟨by rw [h.1, v_size.2]; rfl, wid _ _ hb h.2⟩ : e = .returned (.int .i64 4) ∧ Below w8.heap.size w8 w')))
  have HSm := Lib.hid (fun W (hb : Below w8.heap.size w8 W) (y : Hv) (hy : Rd W (fun k => k < W.heap.size) y (plainV vD)) => (pSame_any vD (plainV vD) (hDict (w.heap.size + 1) 3) y W (fun k => k < W.heap.size) ((rD W hb).mono (fun k hk => Nat.lt_of_lt_of_le hk hb.size)) hy (fun _ h => h) (v_fit.1.mono (by omega)) (plain_fit (v_fit.1.mono (by omega)))).mono (fun e w' h => (⟨by rw [h.1, plain_plain, equalV_refl], wid _ _ hb h.2⟩ : e = .returned (.bool true) ∧ Below w8.heap.size w8 w')))
  obtain ⟨pD, hpD⟩ : ∃ p, plainV vD = p := ⟨_, rfl⟩
  have heq : equalV pD vE = true := by rw [← hpD, v_plain, equalV_refl]
  have Heq := Lib.hid heq
  rw [hpD] at HP HSm
  clear heq hpD
  have Hwid := Lib.hid wid
  have Hkeep := Lib.hid hkeep
  have Hw8 := Lib.hid hw8
  have Hend : Hid (∀ W, Below w8.heap.size w8 W → Below w.heap.size w W) := Lib.hid (fun W h => HB3.out.trans ((hb38.trans (h.mono z3)).mono HB3.out.size))
  dsimp only [Hv.arr, hDict, hFlat, refA] at HP HE2 HH1 HH2 HC1 HC2 HC3 HDp HSz HSm
  have hmx : Try.prog.follows .mixedOrders = true := by kernel_rfl
  clear hw8 hb78 hb68 hb58 hb38 s8 z5 z3 z7 x0 x2 x3 x4 x5 hkeep hS8 rD rZ rG wid hy hb7 hfn k0 k1 k2 k3 k4 k5
  go_wp2_with fail
  rw [Hw8.out]
  go_region_held3 (fun w' => w'.cell? ⟨w.heap.size, 0, none⟩ = some (.int .i64 2) ∧ w'.cell? ⟨w.heap.size, 1, none⟩ = some (.int .i64 1) ∧ w'.cell? ⟨w.heap.size, 2, none⟩ = some (.int .i64 0) ∧ w'.cell? ⟨w.heap.size, 3, none⟩ = some (.string ⟨#[]⟩) ∧ w'.cell? ⟨w.heap.size, 4, none⟩ = some (.slice none 0 0) ∧ w'.cell? ⟨w.heap.size, 5, none⟩ = some (.slice none 0 0) ∧ w'.cell? ⟨w.heap.size + 1 + 1, 0, none⟩ = some (.int .i64 6) ∧ w'.cell? ⟨w.heap.size + 1 + 1, 1, none⟩ = some (.int .i64 0) ∧ w'.cell? ⟨w.heap.size + 1 + 1, 2, none⟩ = some (.int .i64 0) ∧ w'.cell? ⟨w.heap.size + 1 + 1, 3, none⟩ = some (.string ⟨#[]⟩) ∧ w'.cell? ⟨w.heap.size + 1 + 1, 4, none⟩ = some (.slice none 0 0) ∧ w'.cell? ⟨w.heap.size + 1 + 1, 5, none⟩ = some (.slice (some ⟨w.heap.size + 1, 0, none⟩) 3 3) ∧ w'.cell? ⟨w.heap.size + 1 + 1 + 1, 0, none⟩ = some (.int .i64 7) ∧ w'.cell? ⟨w.heap.size + 1 + 1 + 1, 1, none⟩ = some (.int .i64 3) ∧ w'.cell? ⟨w.heap.size + 1 + 1 + 1, 2, none⟩ = some (.int .i64 1) ∧ w'.cell? ⟨w.heap.size + 1 + 1 + 1, 3, none⟩ = some (.string ⟨#[]⟩) ∧ w'.cell? ⟨w.heap.size + 1 + 1 + 1, 4, none⟩ = some (.slice none 0 0) ∧ w'.cell? ⟨w.heap.size + 1 + 1 + 1, 5, none⟩ = some (.slice none 0 0) ∧ w'.cell? ⟨w4.heap.size, 0, none⟩ = some (.int .i64 zk) ∧ w'.cell? ⟨w4.heap.size, 1, none⟩ = some (.int .i64 zn) ∧ w'.cell? ⟨w4.heap.size, 2, none⟩ = some (.int .i64 zg) ∧ w'.cell? ⟨w4.heap.size, 3, none⟩ = some (.string zst) ∧ w'.cell? ⟨w4.heap.size, 4, none⟩ = some (.slice zlp zll zlc) ∧ w'.cell? ⟨w4.heap.size, 5, none⟩ = some (.slice zdp zdl zdc) ∧ w'.cell? ⟨w7.heap.size, 0, none⟩ = some (.int .i64 gk) ∧ w'.cell? ⟨w7.heap.size, 1, none⟩ = some (.int .i64 gn) ∧ w'.cell? ⟨w7.heap.size, 2, none⟩ = some (.int .i64 gg) ∧ w'.cell? ⟨w7.heap.size, 3, none⟩ = some (.string gst) ∧ w'.cell? ⟨w7.heap.size, 4, none⟩ = some (.slice glp gll glc) ∧ w'.cell? ⟨w7.heap.size, 5, none⟩ = some (.slice gdp gdl gdc))
        (first | exact Hkeep.out _ B20.out | exact Hkeep.out _ B19.out | exact Hkeep.out _ B18.out | exact Hkeep.out _ B17.out | exact Hkeep.out _ B16.out | exact Hkeep.out _ B15.out | exact Hkeep.out _ B14.out | exact Hkeep.out _ B13.out | exact Hkeep.out _ B12.out | exact Hkeep.out _ B11.out | exact Hkeep.out _ B10.out | exact Hkeep.out _ B9.out | exact Hkeep.out _ (B9.out.alloc B9.out.size _) | exact Hkeep.out _ (below_drewN (Below.refl _ w8) 1) | exact Hkeep.out _ ((below_drewN (Below.refl _ w8) 1).alloc (Nat.le_refl _) _) | go_keep)
        (first
          | (go_simp; go_at_call 16; (with_reducible refine (HE2.out _ B10.out).mono ?_); rintro e w11 ⟨rfl, hb⟩; have B11 := Lib.hid hb; clear hb)
          | (go_simp; go_at_call 28; (with_reducible refine (HH1.out _ B11.out).mono ?_); rintro e w12 ⟨rfl, hb⟩; have B12 := Lib.hid hb; clear hb)
          | (go_simp; go_at_call 28; (with_reducible refine (HH2.out _ B12.out).mono ?_); rintro e w13 ⟨rfl, hb⟩; have B13 := Lib.hid hb; clear hb)
          | (go_simp; go_at_call 10; (with_reducible refine (HC1.out _ B13.out).mono ?_); rintro e w14 ⟨rfl, hb⟩; have B14 := Lib.hid hb; clear hb)
          | (go_simp; go_at_call 10; (with_reducible refine (HC2.out _ B14.out).mono ?_); rintro e w15 ⟨rfl, hb⟩; have B15 := Lib.hid hb; clear hb)
          | (go_simp; go_at_call 10; (with_reducible refine (HC3.out _ B15.out).mono ?_); rintro e w16 ⟨rfl, hb⟩; have B16 := Lib.hid hb; clear hb)
          | (go_simp; go_at_call 12; (with_reducible refine (HDp.out _ B16.out).mono ?_); rintro e w17 ⟨rfl, hb⟩; have B17 := Lib.hid hb; clear hb)
          | (go_simp; go_at_call 14; (with_reducible refine (HSz.out _ B17.out).mono ?_); rintro e w18 ⟨rfl, hb⟩; have B18 := Lib.hid hb; clear hb)
          | (go_simp; go_at_call 17; (with_reducible refine (HP.out _ B18.out).mono ?_); rintro e w19 ⟨⟨rk, rn, rg, rst, ⟨rlp, rll, rlc⟩, ⟨rdp, rdl, rdc⟩⟩, he, hy, hb⟩; replace he : e = .returned (.agg #[.int .i64 rk, .int .i64 rn, .int .i64 rg, .string rst, .slice rlp rll rlc, .slice rdp rdl rdc]) := he; subst he; have HA2 := Lib.hid hy; have B19 := Lib.hid (Hwid.out _ _ B18.out hb); clear hy hb)
          | (go_simp; go_at_call 17; (refine (HP.out _ (below_drewN (Below.refl _ w8) 1)).mono ?_); rintro e w9 ⟨⟨ak, an, ag, ast, ⟨alp, all, alc⟩, ⟨adp, adl, adc⟩⟩, he, hy, hb⟩; replace he : e = .returned (.agg #[.int .i64 ak, .int .i64 an, .int .i64 ag, .string ast, .slice alp all alc, .slice adp adl adc]) := he; subst he; have HA := Lib.hid hy; have B9 := Lib.hid (Hwid.out _ _ (below_drewN (Below.refl _ w8) 1) hb); clear hy hb)
          | (go_simp; go_at_call 17; (refine (HP.out _ ((below_drewN (Below.refl _ w8) 1).alloc (Nat.le_refl _) _)).mono ?_); rintro e w9 ⟨⟨ak, an, ag, ast, ⟨alp, all, alc⟩, ⟨adp, adl, adc⟩⟩, he, hy, hb⟩; replace he : e = .returned (.agg #[.int .i64 ak, .int .i64 an, .int .i64 ag, .string ast, .slice alp all alc, .slice adp adl adc]) := he; subst he; have HA := Lib.hid hy; have HEB := Lib.hid (vE_rd w9 (fun k => k < w9.heap.size) w8.heap.size (Nat.lt_of_lt_of_le (by simp) hb.size) ((hb.block _ (by simp)).trans (heap_alloc_new w8.drew _))); have B9 := Lib.hid (Hwid.out _ _ ((below_drewN (Below.refl _ w8) 1).alloc (Nat.le_refl _) _) hb); clear hy hb)
          | (go_simp; go_at_call 16; have hq := requal_any pD vE ⟨ak, an, ag, ast, ⟨alp, all, alc⟩, ⟨adp, adl, adc⟩⟩ (hDict w9.heap.size 1) (w9.alloc (.cells #[.string ⟨#[66]⟩, .int .i64 2, .int .i64 1, .int .i64 0, .string ⟨#[]⟩, .slice none 0 0, .slice none 0 0] 50)) (fun k => k < (w9.alloc (.cells #[.string ⟨#[66]⟩, .int .i64 2, .int .i64 1, .int .i64 0, .string ⟨#[]⟩, .slice none 0 0, .slice none 0 0] 50)).heap.size) ((HA.out.carry ((Below.refl _ w9).alloc (Nat.le_refl _) _)).mono (fun k hk => hk.2)) (vE_rd _ _ _ (by simp) (heap_alloc_new w9 _)) (fun _ h => h); dsimp only [Hv.arr, hDict] at hq; (with_reducible refine hq.mono ?_); rw [Heq.out]; rintro e w10 ⟨rfl, hb⟩; have B10 := Lib.hid (Hwid.out _ _ (B9.out.alloc B9.out.size _) hb); clear hb)
          | (go_simp; go_at_call 16; have hq := requal_any pD vE ⟨ak, an, ag, ast, ⟨alp, all, alc⟩, ⟨adp, adl, adc⟩⟩ (hDict w8.heap.size 1) w9 (fun k => k < w9.heap.size) (HA.out.bound.mono (fun k hk => hk.2)) HEB.out (fun _ h => h); dsimp only [Hv.arr, hDict] at hq; (with_reducible refine hq.mono ?_); rw [Heq.out]; rintro e w10 ⟨rfl, hb⟩; have B10 := Lib.hid (Hwid.out _ _ B9.out hb); clear hb)
          | (go_simp; go_at_call 19; have hsm := HSm.out _ B19.out ⟨rk, rn, rg, rst, ⟨rlp, rll, rlc⟩, ⟨rdp, rdl, rdc⟩⟩ (HA2.out.bound.mono (fun k hk => hk.2)); dsimp only at hsm; (with_reducible refine hsm.mono ?_); rintro e w20 ⟨rfl, hb⟩; have B20 := Lib.hid hb; clear hb))
  all_goals go_wp2
  all_goals go_ret
  all_goals exact ⟨rfl, Hend.out _ B20.out⟩
end Go.Proofs.Ytlmgjhidmipadaa
