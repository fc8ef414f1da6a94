/-
  The document's own, as a state: its ways; plain facts.
-/
import Derived.Test.YtnelbahohkjcnaaGreatDoorKRefJ
import Derived.Test.YtnelbahohkjcnaaGreatDoorKOwn
namespace Go.Proofs.YtnelbahohkjcnaaGreatDoor
open Go.RowKit
set_option maxRecDepth 100000
theorem bitsS_out (l : List UInt8) (x : St) (k : Nat) : (bitsS l x k).1.out = x.out := by
  unfold bitsS; split <;> rfl
theorem symS_out (l : List UInt8) (x : St) (ns : List Nat) : (symS l x ns).1.out = x.out := by
  unfold symS; split <;> rfl
theorem failS_out (x : St) (c : Bool) (e : Int) : (failS x c e).out = x.out := (failS_facts x c e).2
theorem timesS_out (l : List UInt8) (out : List Nat) (y : St) (n : Nat) : (timesS l out y n).1.out = y.out := by
  unfold timesS
  split
  · rw [bitsS_out, failS_out]
  · split
    · rw [bitsS_out]
    · split
      · rw [bitsS_out]
      · rfl
theorem rowS_out (l : List UInt8) (ls : List Nat) (many : Nat) : ∀ (f : Nat) (out : List Nat) (x : St), (rowS l ls many f out x).1.out = x.out
  | 0, out, x => by unfold rowS; split <;> rfl
  | f + 1, out, x => by
    have e : (failS (timesS l out (symS l x ls).1 (symS l x ls).2).1 (decide (many < out.length + (timesS l out (symS l x ls).1 (symS l x ls).2).2.1)) 4).out = x.out := by
      rw [failS_out, timesS_out, symS_out]
    unfold rowS
    split
    · rfl
    · simp only
      split
      · exact e
      · rw [rowS_out l ls many f]; exact e
theorem bitsS_small {l : List UInt8} {x : St} {k : Nat} (hk : k ≤ 16) (h : (bitsS l x k).1.code = 0) : (bitsS l x k).2 < 2 ^ k := by
  have h0 := bitsS_still h
  rcases bitsS_ok (l := l) h0 hk with ⟨n, h1, h2⟩ | ⟨_, h2, _, _⟩
  · rw [h2]; exact bitsP_less hk h1
  · rw [h2] at h; cases h
theorem timesP_15 {out : List Nat} {n t x z pos : Nat} {l : List UInt8} (h : timesP out n l pos = .ok ((t, x), z)) (hn : n < 19) (ho : ∀ y ∈ out, y ≤ 15) : x ≤ 15 := by
  unfold timesP at h
  split at h
  · obtain ⟨_, m1, h1, h2⟩ := pbind_ok h
    obtain ⟨a, m2, h3, h4⟩ := pbind_ok h2
    unfold pret at h4
    obtain ⟨h5, rfl⟩ := Prod.mk.inj (Except.ok.inj h4)
    obtain ⟨rfl, rfl⟩ := Prod.mk.inj h5
    cases hx : out[out.length - 1]? with
    | none => simp
    | some y => exact ho y (List.mem_of_getElem? hx)
  · split at h
    · obtain ⟨a, m2, h3, h4⟩ := pbind_ok h
      unfold pret at h4
      obtain ⟨h5, rfl⟩ := Prod.mk.inj (Except.ok.inj h4)
      obtain ⟨rfl, rfl⟩ := Prod.mk.inj h5
      omega
    · split at h
      · obtain ⟨a, m2, h3, h4⟩ := pbind_ok h
        unfold pret at h4
        obtain ⟨h5, rfl⟩ := Prod.mk.inj (Except.ok.inj h4)
        obtain ⟨rfl, rfl⟩ := Prod.mk.inj h5
        omega
      · unfold pret at h
        obtain ⟨h5, rfl⟩ := Prod.mk.inj (Except.ok.inj h)
        obtain ⟨rfl, rfl⟩ := Prod.mk.inj h5
        omega
theorem rowP_end {ls : List Nat} {many : Nat} {l : List UInt8} (hl : ls.length ≤ 19) : ∀ (f : Nat) (out : List Nat) (pos : Nat) (out' : List Nat) (z : Nat), rowP ls many f out l pos = .ok (out', z) → out.length ≤ many → (∀ y ∈ out, y ≤ 15) → out'.length = many ∧ ∀ y ∈ out', y ≤ 15
  | 0, out, pos, out', z, h, _, _ => by cases h
  | f + 1, out, pos, out', z, h, hm, ho => by
    unfold rowP at h
    split at h
    · unfold pret at h
      obtain ⟨rfl, _⟩ := Prod.mk.inj (Except.ok.inj h)
      exact ⟨by omega, ho⟩
    · obtain ⟨n, m1, h1, h2⟩ := pbind_ok h
      obtain ⟨tw, m2, h3, h4⟩ := pbind_ok h2
      obtain ⟨_, m3, h5, h6⟩ := pbind_ok h4
      obtain ⟨hc, rfl⟩ := pfail_ok h5
      obtain ⟨t, x⟩ := tw
      have hn := (symP_lt h1).1
      have hx := timesP_15 h3 (by omega) ho
      have hc2 := of_decide_eq_false hc
      simp only at hc2
      refine rowP_end hl f _ _ _ _ h6 (by rw [List.length_append, List.length_replicate]; omega) fun y hy => ?_
      rcases List.mem_append.1 hy with hy | hy
      · exact ho y hy
      · rw [(List.mem_replicate.1 hy).2]; exact hx
theorem rowS_good {l : List UInt8} {ls : List Nat} {many f : Nat} {x rx : St} {rl : List Nat} (hl : ls.length ≤ 19) (hx : x.code = 0) (hp : x.at' ≤ 8 * l.length) (hr : rowS l ls many f [] x = (rx, rl)) (hc : rx.code = 0) : rl.length = many ∧ (∀ y ∈ rl, y ≤ 15) ∧ rx.at' ≤ 8 * l.length ∧ rx.out = x.out := by
  have T := rowS_tells (l := l) (ls := ls) (many := many) f [] hx
  rw [hr] at T
  simp only at T
  cases hq : rowP ls many f [] l x.at' with
  | error e =>
    rw [hq] at T
    obtain ⟨t1, t2⟩ := T
    exact absurd hc (by rw [t1]; exact t2)
  | ok r =>
    obtain ⟨out', z⟩ := r
    rw [hq] at T
    obtain ⟨rfl, rfl⟩ := T
    obtain ⟨h1, h2⟩ := rowP_end hl f [] x.at' rl z hq (by simp) (fun y hy => by cases hy)
    have h3 := (Lefty.row _ _ _ _).le hq hp
    exact ⟨h1, h2, h3.2, rfl⟩
section
variable {l : List UInt8} {M a b c : Nat} {x xa xb xc d hx e rx g : St} {hl rl : List Nat}
theorem ownS_1 (h1 : bitsS l x 5 = (xa, a)) (h2 : bitsS l xa 5 = (xb, b)) (h3 : bitsS l xb 4 = (xc, c)) (h4 : failS xc (decide (29 < a) || decide (29 < b)) 4 = d) (hne : d.code ≠ 0) : ownS l M x = d := by
  unfold ownS
  generalize FUEL = fl
  simp only [h1, h2, h3, h4]
  rw [if_pos hne]
theorem ownS_2 (h1 : bitsS l x 5 = (xa, a)) (h2 : bitsS l xa 5 = (xb, b)) (h3 : bitsS l xb 4 = (xc, c)) (h4 : failS xc (decide (29 < a) || decide (29 < b)) 4 = d) (hz : d.code = 0) (h5 : headsS l (c + 4) 0 (List.replicate 19 0) d = (hx, hl)) (h6 : failS hx (checkZ (intsOf hl) != 0) 4 = e) (hne : e.code ≠ 0) : ownS l M x = e := by
  unfold ownS
  generalize FUEL = fl
  simp only [h1, h2, h3, h4]
  rw [if_neg (by simp [hz])]
  simp only [h5, h6]
  rw [if_pos hne]
theorem ownS_3 (h1 : bitsS l x 5 = (xa, a)) (h2 : bitsS l xa 5 = (xb, b)) (h3 : bitsS l xb 4 = (xc, c)) (h4 : failS xc (decide (29 < a) || decide (29 < b)) 4 = d) (hz : d.code = 0) (h5 : headsS l (c + 4) 0 (List.replicate 19 0) d = (hx, hl)) (h6 : failS hx (checkZ (intsOf hl) != 0) 4 = e) (hz2 : e.code = 0) (h7 : rowS l hl (a + b + 258) FUEL [] e = (rx, rl)) (hne : rx.code ≠ 0) : ownS l M x = rx := by
  unfold ownS
  revert h7
  generalize FUEL = fl
  intro h7
  simp only [h1, h2, h3, h4]
  rw [if_neg (by simp [hz])]
  simp only [h5, h6]
  rw [if_neg (by simp [hz2])]
  simp only [h7]
  rw [if_pos hne]
theorem ownS_4 (h1 : bitsS l x 5 = (xa, a)) (h2 : bitsS l xa 5 = (xb, b)) (h3 : bitsS l xb 4 = (xc, c)) (h4 : failS xc (decide (29 < a) || decide (29 < b)) 4 = d) (hz : d.code = 0) (h5 : headsS l (c + 4) 0 (List.replicate 19 0) d = (hx, hl)) (h6 : failS hx (checkZ (intsOf hl) != 0) 4 = e) (hz2 : e.code = 0) (h7 : rowS l hl (a + b + 258) FUEL [] e = (rx, rl)) (hz3 : rx.code = 0)
    (h8 : failS rx (checkZ (intsOf (rl.take (a + 257))) != 0 || (rl.take (a + 257))[256]?.getD 0 == 0 || !farB (rl.drop (a + 257))) 4 = g) (hne : g.code ≠ 0) : ownS l M x = g := by
  unfold ownS
  revert h7
  generalize FUEL = fl
  intro h7
  simp only [h1, h2, h3, h4]
  rw [if_neg (by simp [hz])]
  simp only [h5, h6]
  rw [if_neg (by simp [hz2])]
  simp only [h7]
  rw [if_neg (by simp [hz3])]
  simp only [h8]
  rw [if_pos hne]
theorem ownS_5 (h1 : bitsS l x 5 = (xa, a)) (h2 : bitsS l xa 5 = (xb, b)) (h3 : bitsS l xb 4 = (xc, c)) (h4 : failS xc (decide (29 < a) || decide (29 < b)) 4 = d) (hz : d.code = 0) (h5 : headsS l (c + 4) 0 (List.replicate 19 0) d = (hx, hl)) (h6 : failS hx (checkZ (intsOf hl) != 0) 4 = e) (hz2 : e.code = 0) (h7 : rowS l hl (a + b + 258) FUEL [] e = (rx, rl)) (hz3 : rx.code = 0)
    (h8 : failS rx (checkZ (intsOf (rl.take (a + 257))) != 0 || (rl.take (a + 257))[256]?.getD 0 == 0 || !farB (rl.drop (a + 257))) 4 = g) (hz4 : g.code = 0) : ownS l M x = codedS l (rl.take (a + 257)) (rl.drop (a + 257)) M FUEL g := by
  unfold ownS
  revert h7
  generalize FUEL = fl
  intro h7
  simp only [h1, h2, h3, h4]
  rw [if_neg (by simp [hz])]
  simp only [h5, h6]
  rw [if_neg (by simp [hz2])]
  simp only [h7]
  rw [if_neg (by simp [hz3])]
  simp only [h8]
  rw [if_neg (by simp [hz4])]
end
section
variable {w : World} {b : Nat} {s : ByteArray} {vb vo : Value} {most : Nat} {x : St}
def sixSet (w : World) (b : Nat) (s : ByteArray) (vb vo : Value) (most : Nat) (y : St) : World :=
  (((((w.setCell ⟨b, 0, none⟩ (.string s)).setCell ⟨b, 1, none⟩ vb).setCell ⟨b, 2, none⟩ (.int .i64 (y.at' : Int))).setCell ⟨b, 3, none⟩ vo).setCell ⟨b, 4, none⟩ (.int .i64 (most : Int))).setCell ⟨b, 5, none⟩ (.int .i64 y.code)
set_option maxHeartbeats 4000000 in
theorem six_facts (h : StCell w b s vb vo most x) (y : St) :
    (w.frozen? ⟨b, 0, none⟩ = false ∧ w.cell? ⟨b, 0, none⟩ = some (.string s)) ∧
    ((w.setCell ⟨b, 0, none⟩ (.string s)).frozen? ⟨b, 1, none⟩ = false ∧ (w.setCell ⟨b, 0, none⟩ (.string s)).cell? ⟨b, 1, none⟩ = some vb) ∧
    (((w.setCell ⟨b, 0, none⟩ (.string s)).setCell ⟨b, 1, none⟩ vb).frozen? ⟨b, 2, none⟩ = false ∧ ((w.setCell ⟨b, 0, none⟩ (.string s)).setCell ⟨b, 1, none⟩ vb).cell? ⟨b, 2, none⟩ = some (.int .i64 (x.at' : Int))) ∧
    ((((w.setCell ⟨b, 0, none⟩ (.string s)).setCell ⟨b, 1, none⟩ vb).setCell ⟨b, 2, none⟩ (.int .i64 (y.at' : Int))).frozen? ⟨b, 3, none⟩ = false ∧ (((w.setCell ⟨b, 0, none⟩ (.string s)).setCell ⟨b, 1, none⟩ vb).setCell ⟨b, 2, none⟩ (.int .i64 (y.at' : Int))).cell? ⟨b, 3, none⟩ = some vo) ∧
    (((((w.setCell ⟨b, 0, none⟩ (.string s)).setCell ⟨b, 1, none⟩ vb).setCell ⟨b, 2, none⟩ (.int .i64 (y.at' : Int))).setCell ⟨b, 3, none⟩ vo).frozen? ⟨b, 4, none⟩ = false ∧ ((((w.setCell ⟨b, 0, none⟩ (.string s)).setCell ⟨b, 1, none⟩ vb).setCell ⟨b, 2, none⟩ (.int .i64 (y.at' : Int))).setCell ⟨b, 3, none⟩ vo).cell? ⟨b, 4, none⟩ = some (.int .i64 (most : Int))) ∧
    ((((((w.setCell ⟨b, 0, none⟩ (.string s)).setCell ⟨b, 1, none⟩ vb).setCell ⟨b, 2, none⟩ (.int .i64 (y.at' : Int))).setCell ⟨b, 3, none⟩ vo).setCell ⟨b, 4, none⟩ (.int .i64 (most : Int))).frozen? ⟨b, 5, none⟩ = false ∧ (((((w.setCell ⟨b, 0, none⟩ (.string s)).setCell ⟨b, 1, none⟩ vb).setCell ⟨b, 2, none⟩ (.int .i64 (y.at' : Int))).setCell ⟨b, 3, none⟩ vo).setCell ⟨b, 4, none⟩ (.int .i64 (most : Int))).cell? ⟨b, 5, none⟩ = some (.int .i64 x.code)) := by
  have h1 := heap_setCell_same _ _ 0 _ _ (.string s) h
  have h2 := heap_setCell_same _ _ 1 _ _ vb h1
  have h3 := heap_setCell_same _ _ 2 _ _ (.int .i64 (y.at' : Int)) h2
  have h4 := heap_setCell_same _ _ 3 _ _ vo h3
  have h5 := heap_setCell_same _ _ 4 _ _ (.int .i64 (most : Int)) h4
  refine ⟨⟨frozen_of_row _ _ _ _ _ h, ?_⟩, ⟨frozen_of_row _ _ _ _ _ h1, ?_⟩, ⟨frozen_of_row _ _ _ _ _ h2, ?_⟩, ⟨frozen_of_row _ _ _ _ _ h3, ?_⟩, ⟨frozen_of_row _ _ _ _ _ h4, ?_⟩, ⟨frozen_of_row _ _ _ _ _ h5, ?_⟩⟩
  · rw [cell_of_row _ _ _ _ _ _ h]; rfl
  · rw [cell_of_row _ _ _ _ _ _ h1]; rfl
  · rw [cell_of_row _ _ _ _ _ _ h2]; rfl
  · rw [cell_of_row _ _ _ _ _ _ h3]; rfl
  · rw [cell_of_row _ _ _ _ _ _ h4]; rfl
  · rw [cell_of_row _ _ _ _ _ _ h5]; rfl
set_option maxHeartbeats 4000000 in
theorem six_cell (h : StCell w b s vb vo most x) (y : St) : StCell (sixSet w b s vb vo most y) b s vb vo most y := by
  have h1 := heap_setCell_same _ _ 0 _ _ (.string s) h
  have h2 := heap_setCell_same _ _ 1 _ _ vb h1
  have h3 := heap_setCell_same _ _ 2 _ _ (.int .i64 (y.at' : Int)) h2
  have h4 := heap_setCell_same _ _ 3 _ _ vo h3
  have h5 := heap_setCell_same _ _ 4 _ _ (.int .i64 (most : Int)) h4
  exact heap_setCell_same _ _ 5 _ _ (.int .i64 y.code) h5
theorem six_other (w : World) (b : Nat) (s : ByteArray) (vb vo : Value) (most : Nat) (y : St) (k : Nat) (hk : k ≠ b) : (sixSet w b s vb vo most y).heap[k]? = w.heap[k]? := by
  unfold sixSet
  rw [heap_setCell_other _ ⟨b, 5, none⟩ k _ hk, heap_setCell_other _ ⟨b, 4, none⟩ k _ hk, heap_setCell_other _ ⟨b, 3, none⟩ k _ hk, heap_setCell_other _ ⟨b, 2, none⟩ k _ hk, heap_setCell_other _ ⟨b, 1, none⟩ k _ hk, heap_setCell_other _ ⟨b, 0, none⟩ k _ hk]
theorem six_below {B : Nat} (hB : B ≤ b) (y : St) : Below B w (sixSet w b s vb vo most y) :=
  ((((((Below.refl B w).setCell (p := ⟨b, 0, none⟩) hB _).setCell (p := ⟨b, 1, none⟩) hB _).setCell (p := ⟨b, 2, none⟩) hB _).setCell (p := ⟨b, 3, none⟩) hB _).setCell (p := ⟨b, 4, none⟩) hB _).setCell (p := ⟨b, 5, none⟩) hB _
end
end Go.Proofs.YtnelbahohkjcnaaGreatDoor
