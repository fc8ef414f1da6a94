/-
  What coded reads beside the row that grows.
-/
import Derived.Test.YtjmamomnbfnngaaDoorInfRef8
namespace Go.Proofs.YtjmamomnbfnngaaDoor
open Go.RowKit

/-- Numbers that lie apart from an object's own block and from B0. -/
def Reads (w : World) (v : Value) (B0 : Nat) (a : Option Addr) (l : List Int) : Prop :=
  l = [] ∨ ∃ b off, a = some ⟨b, off, none⟩ ∧ b < w.heap.size ∧ v.ownBlock ≠ some b ∧ b ≠ B0 ∧ ∀ i, i < l.length → w.cell? ⟨b, off + i, none⟩ = some (.int .i64 (l[i]?.getD 0))
theorem Reads.nums {w : World} {v : Value} {B0 : Nat} {a : Option Addr} {l : List Int} (h : Reads w v B0 a l) : Nums w a l := by
  rcases h with h | ⟨b, off, h1, _, _, _, h5⟩
  · exact .inl h
  · exact .inr ⟨b, off, h1, h5⟩
theorem Reads.next {w w' : World} {v v' : Value} {B0 : Nat} {a : Option Addr} {l : List Int} (h : Reads w v B0 a l) (hs : w.heap.size ≤ w'.heap.size) (hk : ∀ b, b < w.heap.size → v.ownBlock ≠ some b → b ≠ B0 → w'.heap[b]? = w.heap[b]?) (hv : ∀ k, v'.ownBlock = some k → v.ownBlock = some k ∨ w.heap.size ≤ k) : Reads w' v' B0 a l := by
  rcases h with h | ⟨b, off, h1, h2, h3, h4, h5⟩
  · exact .inl h
  · refine .inr ⟨b, off, h1, by omega, ?_, h4, fun i hi => (World.cell?_of_block (w := w) (hk b h2 h3 h4)).trans (h5 i hi)⟩
    intro e
    rcases hv b e with h6 | h6
    · exact h3 h6
    · omega
theorem Reads.bits {w : World} {v : Value} {B0 g : Nat} {row : List Nat} (h : BitsAt w g row) (hv : v.ownBlock ≠ some g) (hB : g ≠ B0) : Reads w v B0 (some ⟨g, 0, none⟩) (asZ row) := by
  rcases h.nums with h1 | ⟨b, off, h1, h2⟩
  · exact .inl h1
  · injection h1 with h1
    injection h1 with e1 e2
    subst e1 e2
    exact .inr ⟨g, 0, rfl, h.1, hv, hB, h2⟩
/-- Five rows that are read while one grows. -/
def Keep5 (w : World) (v : Value) (B0 : Nat) (p1 p2 p3 p4 pb : Option Addr) (l1 l2 l3 l4 lb : List Int) : Prop :=
  Reads w v B0 p1 l1 ∧ Reads w v B0 p2 l2 ∧ Reads w v B0 p3 l3 ∧ Reads w v B0 p4 l4 ∧ Reads w v B0 pb lb
theorem Keep5.next {w w' : World} {v v' : Value} {B0 : Nat} {p1 p2 p3 p4 pb : Option Addr} {l1 l2 l3 l4 lb : List Int} (h : Keep5 w v B0 p1 p2 p3 p4 pb l1 l2 l3 l4 lb) (hs : w.heap.size ≤ w'.heap.size) (hk : ∀ b, b < w.heap.size → v.ownBlock ≠ some b → b ≠ B0 → w'.heap[b]? = w.heap[b]?) (hv : ∀ k, v'.ownBlock = some k → v.ownBlock = some k ∨ w.heap.size ≤ k) : Keep5 w' v' B0 p1 p2 p3 p4 pb l1 l2 l3 l4 lb :=
  ⟨h.1.next hs hk hv, h.2.1.next hs hk hv, h.2.2.1.next hs hk hv, h.2.2.2.1.next hs hk hv, h.2.2.2.2.next hs hk hv⟩
theorem Keep5.later {w w' : World} {v : Value} {B0 : Nat} {p1 p2 p3 p4 pb : Option Addr} {l1 l2 l3 l4 lb : List Int} (h : Keep5 w v B0 p1 p2 p3 p4 pb l1 l2 l3 l4 lb) (hb : Below w.heap.size w w') : Keep5 w' v B0 p1 p2 p3 p4 pb l1 l2 l3 l4 lb :=
  h.next hb.size (fun b h1 _ _ => hb.block b h1) fun _ hk => .inl hk
theorem Keep5.store {w w' : World} {v : Value} {B0 : Nat} {p1 p2 p3 p4 pb : Option Addr} {l1 l2 l3 l4 lb : List Int} (h : Keep5 w v B0 p1 p2 p3 p4 pb l1 l2 l3 l4 lb) (hs : w.heap.size ≤ w'.heap.size) (ho : ∀ k, k ≠ B0 → w'.heap[k]? = w.heap[k]?) : Keep5 w' v B0 p1 p2 p3 p4 pb l1 l2 l3 l4 lb :=
  h.next hs (fun b _ _ h1 => ho b h1) fun _ hk => .inl hk
theorem Keep5.touch {w w' : World} {v v' : Value} {B0 : Nat} {p1 p2 p3 p4 pb : Option Addr} {l1 l2 l3 l4 lb : List Int} (h : Keep5 w v B0 p1 p2 p3 p4 pb l1 l2 l3 l4 lb) (ht : Touches v.ownBlock.toList v'.ownBlock.toList w w') : Keep5 w' v' B0 p1 p2 p3 p4 pb l1 l2 l3 l4 lb :=
  h.next ht.size (fun b h1 h2 _ => ht.2.2.2.2.1 b h1 fun hm => h2 (by simpa using hm)) fun k hk => by
    rcases ht.2.2.2.2.2 k (by simp [hk]) with h1 | h1
    · exact .inl (by simpa using h1)
    · exact .inr h1

theorem codedS_stop {l : List UInt8} {lit dist : List Nat} {M f : Nat} {y b c : St} {n : Nat} (h0 : y.code = 0) (h1 : symS l y lit = (b, n)) (h2 : failS b (decide (285 < n)) 4 = c) (h3 : c.code ≠ 0 ∨ n = 256) : codedS l lit dist M (f + 1) y = c := by
  conv => lhs; unfold codedS
  rw [if_neg (by simp [h0])]
  simp only
  rw [h1]
  simp only
  rw [h2, if_pos h3]
theorem codedS_byte {l : List UInt8} {lit dist : List Nat} {M f : Nat} {y b c d : St} {n : Nat} (h0 : y.code = 0) (h1 : symS l y lit = (b, n)) (h2 : failS b (decide (285 < n)) 4 = c) (h3 : c.code = 0) (h4 : n < 256) (h5 : failS ⟨c.at', c.out ++ [UInt8.ofNat n], c.code⟩ (decide (M < c.out.length + 1)) 7 = d) : codedS l lit dist M (f + 1) y = codedS l lit dist M f d := by
  conv => lhs; unfold codedS
  rw [if_neg (by simp [h0])]
  simp only
  rw [h1]
  simp only
  rw [h2, if_neg (by simp [h3]; omega), if_pos h4, h5]
theorem codedS_copy {l : List UInt8} {lit dist : List Nat} {M f : Nat} {y b c d : St} {n k : Nat} (h0 : y.code = 0) (h1 : symS l y lit = (b, n)) (h2 : failS b (decide (285 < n)) 4 = c) (h3 : c.code = 0) (h4 : n = k + 257) (h5 : copiedS l dist M k c = d) : codedS l lit dist M (f + 1) y = codedS l lit dist M f d := by
  subst h4
  conv => lhs; unfold codedS
  rw [if_neg (by simp [h0])]
  simp only
  rw [h1]
  simp only
  rw [h2, if_neg (by rintro (h | h) <;> omega), if_neg (by omega), Nat.add_sub_cancel, h5]
/-- What copied does to a state that is good. -/
theorem copyS_code {f : St} {d n : Nat} (h : (copyS f d n).code = 0) : f.code = 0 ∧ (copyS f d n).out = copyB d n f.out := by
  unfold copyS at h ⊢
  by_cases h0 : f.code = 0
  · rw [if_pos h0]; exact ⟨h0, rfl⟩
  · rw [if_neg h0] at h; exact absurd h h0
theorem copiedS_room {l : List UInt8} {dist : List Nat} {M k : Nat} {x : St} (h : (copiedS l dist M k x).code = 0) : (copiedS l dist M k x).out.length ≤ M := by
  unfold copiedS at h ⊢
  simp only at h ⊢
  generalize (if k = 28 then 0 else extraN k 8 4) = wd at h ⊢
  split at h
  · rename_i h1; exact absurd h h1
  · rename_i h1
    rw [if_neg h1]
    obtain ⟨h2, h3⟩ := copyS_code h
    have h4 := failS_zero (e := 7) (by decide) h2
    rw [h3, copyB_length, h4.2.2]
    have := of_decide_eq_false h4.1
    omega
theorem copiedS_good {l : List UInt8} {dist : List Nat} {M k : Nat} {x : St} (hk : k ≤ 28) (h0 : x.code = 0) (hp : x.at' ≤ 8 * l.length) (h : (copiedS l dist M k x).code = 0) : x.at' ≤ (copiedS l dist M k x).at' ∧ (copiedS l dist M k x).at' ≤ 8 * l.length := by
  have T := copiedS_tells (l := l) (dist := dist) (M := M) hk h0
  cases hr : copiedP dist M k x.out l x.at' with
  | error e => rw [hr] at T; exact absurd (T.1.symm.trans h) T.2
  | ok r =>
    obtain ⟨o, tt⟩ := r
    rw [hr] at T
    have := (Lefty.copied dist M k x.out).le hr hp
    rw [T.2.2]
    exact this

/-- A step that handed on a state of its own, which was stored: the row may lie elsewhere now. -/
theorem Work.handed {w0 W w1 w2 : World} {F : List Nat} {s : ByteArray} {vb vo v2 : Value} {most : Nat} {y d : St} (h : Work w0 W F s vb vo most y) (ht : Touches vo.ownBlock.toList v2.ownBlock.toList W w1) (hr : Row8 w1 v2 d.out) (h1 : StCell w2 w0.heap.size s vb v2 most d) (hb : Below w0.heap.size w1 w2) (ho : ∀ k, k ≠ w0.heap.size → w2.heap[k]? = w1.heap[k]?) : Work w0 w2 F s vb v2 most d := by
  have l1 := h.1.lt
  have l2 := h.2.1.lt
  have hne : ∀ k, v2.ownBlock = some k → k ≠ w0.heap.size ∧ k ≠ w0.heap.size + 1 := fun k hk => by
    rcases ht.2.2.2.2.2 k (by simp [hk]) with e | e
    · exact h.2.2.2.2 k (by simpa using e)
    · omega
  refine ⟨h1, ?_, hr.move fun k hk => ho k (hne k hk).1, ?_, hne⟩
  · exact (ho _ (by omega)).trans ((ht.2.2.2.2.1 _ l2 fun hm => (h.2.2.2.2 _ (by simpa using hm)).2 rfl).trans h.2.1)
  · have t1 := h.2.2.2.1.trans ht
    exact ⟨hb.os.trans t1.1, hb.tape.trans t1.2.1, hb.output.trans t1.2.2.1, Nat.le_trans t1.size hb.size, fun k hk hF => (hb.block k hk).trans (t1.2.2.2.2.1 k hk hF), t1.2.2.2.2.2⟩
/-- The state's cell behind such a step, ahead of the store. -/
theorem Work.still {w0 W w1 : World} {F : List Nat} {s : ByteArray} {vb vo v2 : Value} {most : Nat} {y : St} (h : Work w0 W F s vb vo most y) (ht : Touches vo.ownBlock.toList v2.ownBlock.toList W w1) : StCell w1 w0.heap.size s vb vo most y :=
  (ht.2.2.2.2.1 _ h.1.lt fun hm => (h.2.2.2.2 _ (by simpa using hm)).1 rfl).trans h.1

end Go.Proofs.YtjmamomnbfnngaaDoor
