/-
  VMap, PaKey: texts merged.
-/
import Derived.Test.YtejgcnmbngdkiaaGreatDoorNMem
import Derived.Maps.OwnSet
import Derived.StringKeys
import Derived.Test.YtejgcnmbngdkiaaGreatDoorNNum
/-
  How often keys were met: a map from texts to numbers, of a call's own.
-/
namespace Go.Proofs.YtejgcnmbngdkiaaGreatDoor
section
open Go.RowKit Go.Maps Go.WideMaps
set_option maxRecDepth 100000

theorem mp_string : Tryz.prog.underlying 9 = some .string := by kernel_rfl
theorem mp_int : Tryz.prog.underlying 3 = some (.int .i64) := by kernel_rfl
theorem mp_map : Tryz.prog.underlying 96 = some (.map 9 3) := by kernel_rfl
theorem mp_zero (w : World) : (zeroValue 3).run Tryz.prog w = .ok (.int .i64 0) w := by kernel_rfl
theorem mp_law : Keyed Tryz.prog 9 := string_keyed mp_string
theorem lit_ne {a b : ByteArray} (h : a ≠ b) : Lit.string a.data.toList ≠ Lit.string b.data.toList := by
  intro e
  injection e with e
  apply h
  rcases a with ⟨⟨a⟩⟩; rcases b with ⟨⟨b⟩⟩
  simpa using e
/-- The map tells of each text the number. -/
def MapS (w : World) (m cnt : Nat) (f : ByteArray → Int) : Prop :=
  ∃ D : DataW Unit, w.ownsMap Tryz.prog 9 (plainElem Tryz.prog 3) m cnt D ∧ ∀ s, s.size ≤ maxLen → D.atKey (.string s.data.toList) (.lit (.int .i64 0)) = .lit (.int .i64 (f s))
theorem MapS.made (w : World) : MapS (w.alloc (.map #[] 0)) w.heap.size 0 fun _ => 0 := ⟨_, World.ownsMap_made w _ _ _, fun _ _ => rfl⟩
theorem MapS.move {w w' : World} {m cnt : Nat} {f : ByteArray → Int} (h : MapS w m cnt f) (hk : w'.heap[m]? = w.heap[m]?) : MapS w' m cnt f := by
  obtain ⟨D, h1, h2⟩ := h
  refine ⟨D, ?_, h2⟩
  obtain ⟨es, clock, h3⟩ := h1
  exact ⟨es, clock, by rw [hk]; exact h3.1, h3.2⟩
theorem MapS.lt {w : World} {m cnt : Nat} {f : ByteArray → Int} (h : MapS w m cnt f) : m < w.heap.size := by
  obtain ⟨D, h1, h2⟩ := h
  exact h1.lt
theorem MapS.look {w : World} {m cnt : Nat} {f : ByteArray → Int} (h : MapS w m cnt f) (s : ByteArray) (hs : s.size ≤ maxLen) :
    (Instr.lookup 96 (.map (some m)) (.string s) false).run Tryz.prog w = .ok (.int .i64 (f s)) w := by
  obtain ⟨D, h, ht⟩ := h
  obtain ⟨c, hr, hc, _⟩ := h.lookup_int mp_law mp_map mp_int (mp_zero w) (keyOf_string_mk mp_string hs)
  simp only [ht s hs] at hc
  simp at hc
  rw [hr, hc]
theorem MapS.store {w : World} {m cnt : Nat} {f : ByteArray → Int} (h : MapS w m cnt f) (hc : cnt ≤ 100000) (s : ByteArray) (hs : s.size ≤ maxLen) (p : Int) (hp : 0 ≤ p ∧ p ≤ 100000) :
    ∃ w', (Instr.mapUpdate 96 (.map (some m)) (.string s) (.int .i64 p)).run Tryz.prog w = .ok () w' ∧ MapS w' m (cnt + 1) (fun u => if u = s then p else f u) ∧ w.grownBy w' (some m) := by
  obtain ⟨D, h, ht⟩ := h
  have hk := keyOf_string_mk mp_string hs
  obtain ⟨w', h1, h2, h3⟩ := h.update mp_law mp_map (by unfold maxLen; omega) hk (plainElem_int mp_int (a := p) (by simp [Lit.wf, show IntKind.i64.min = -9223372036854775808 from rfl, show IntKind.i64.max = 9223372036854775807 from rfl]; omega))
  refine ⟨w', h1, ⟨_, h2, fun u hu => ?_⟩, h3⟩
  by_cases e : u = s
  · subst e
    rw [atKey_put_same h.isMap (mp_law.key hk)]
    dsimp only
    rw [if_pos rfl]
  · rw [atKey_put_other (lit_ne e), ht u hu]
    show _ = DataW.lit (Lit.int .i64 (if u = s then p else f u))
    rw [if_neg e]
end
end Go.Proofs.YtejgcnmbngdkiaaGreatDoor
/-
  keyCode: a map from texts to numbers that the call turns.
-/
namespace Go.Proofs.YtejgcnmbngdkiaaGreatDoor
section
open Go.RowKit Go.Maps Go.WideMaps
set_option maxRecDepth 100000
attribute [local go_sem] undef

theorem Beside.new {b q : Nat} {w w1 w2 : World} (h : Beside b w w1) (h' : Beside q w1 w2) (hq : w.heap.size ≤ q) : Beside b w w2 :=
  ⟨h'.1.trans h.1, h'.2.1.trans h.2.1, h'.2.2.1.trans h.2.2.1, Nat.le_trans h.size h'.size, fun k hk hn => (h'.2.2.2.2 k (Nat.lt_of_lt_of_le hk h.size) (by omega)).trans (h.2.2.2.2 k hk hn)⟩
theorem beside_grown {m : Nat} {w w' : World} (h : w.grownBy w' (some m)) : Beside m w w' := ⟨h.os, h.tape, h.output, h.size, fun k hk hn => h.block k hk (fun e => hn (by injection e with e))⟩
theorem MapS.put {w : World} {m cnt : Nat} {f : ByteArray → Int} (h : MapS w m cnt f) (hc : cnt ≤ 100000000) (s : ByteArray) (hs : s.size ≤ maxLen) (p : Int) (hp : 0 ≤ p ∧ p ≤ 100000) :
    ∃ w', (Instr.mapUpdate 96 (.map (some m)) (.string s) (.int .i64 p)).run Tryz.prog w = .ok () w' ∧ MapS w' m (cnt + 1) (fun u => if u = s then p else f u) ∧ w.grownBy w' (some m) := by
  obtain ⟨D, h, ht⟩ := h
  have hk := keyOf_string_mk mp_string hs
  obtain ⟨w', h1, h2, h3⟩ := h.update mp_law mp_map (by unfold maxLen; omega) hk (plainElem_int mp_int (a := p) (by simp [Lit.wf, show IntKind.i64.min = -9223372036854775808 from rfl, show IntKind.i64.max = 9223372036854775807 from rfl]; omega))
  refine ⟨w', h1, ⟨_, h2, fun u hu => ?_⟩, h3⟩
  by_cases e : u = s
  · subst e
    rw [atKey_put_same h.isMap (mp_law.key hk)]
    dsimp only
    rw [if_pos rfl]
  · rw [atKey_put_other (lit_ne e), ht u hu]
    show _ = DataW.lit (Lit.int .i64 (if u = s then p else f u))
    rw [if_neg e]

/-- What keyCode tells of a sign, by how often its name was met. -/
def keyI (t : Sg) (f : ByteArray → Int) : Int := if t.kind = 0 then 5 else if t.kind = 2 then (if f (bytes t.str) = 0 then 0 else 11) else 4
set_option maxHeartbeats 4000000 in
theorem keyCode_any (t : Sg) (m cnt : Nat) (f : ByteArray → Int) (w : World) (hM : MapS w m cnt f) (hcnt : cnt ≤ 100000000) (hlen : t.str.length ≤ 1000000000) (hf : f (bytes t.str) = 0 ∨ f (bytes t.str) = 1) :
    Calls Tryz.prog 98 #[.agg (tokC t.kind t.num (bytes t.str) t.beg t.fin), .map (some m)] w fun e w' => e = .returned (.int .i64 (keyI t f)) ∧ Beside m w w' ∧ (keyI t f = 0 → MapS w' m (cnt + 1) (fun u => if u = bytes t.str then 1 else f u)) := by
  obtain ⟨w1, hw1⟩ : ∃ w1, w.alloc (.cells (tokC t.kind t.num (bytes t.str) t.beg t.fin) 52) = w1 := ⟨_, rfl⟩
  have hb1 : Below w.heap.size w w1 := by rw [← hw1]; exact (Below.refl _ w).alloc (Nat.le_refl _) _
  have hlt := hM.lt
  have hs1 : w1.heap.size = w.heap.size + 1 := by rw [← hw1]; simp
  have hM1 : MapS w1 m cnt f := hM.move (hb1.block m hlt)
  have hT1 : TokCell w1 w.heap.size (tokC t.kind t.num (bytes t.str) t.beg t.fin) := by rw [← hw1]; exact TokCell.new w _
  have hsz : (bytes t.str).size ≤ maxLen := by rw [bytes_size]; unfold maxLen; omega
  have hlook1 := hM1.look (bytes t.str) hsz
  obtain ⟨c, hc⟩ : ∃ c, f (bytes t.str) = c := ⟨_, rfl⟩
  obtain ⟨R, hR⟩ : ∃ R, keyI t f = R := ⟨_, rfl⟩
  rw [hc] at hf hlook1
  rw [hR]
  unfold keyI at hR
  rw [hc] at hR
  obtain ⟨r0, r1, r2, r3, r4⟩ := hT1.parts
  have Hb1 := Lib.hid hb1
  have Hw1 := Lib.hid (show w.alloc (.cells #[.int .i64 t.kind, .int .i64 t.num, .string (bytes t.str), .int .i64 t.beg, .int .i64 t.fin] 52) = w1 from hw1)
  by_cases k0 : t.kind = 0
  · rw [if_pos k0] at hR
    subst hR
    have c0 : (t.kind == 0) = true := by simpa using k0
    clear k0 hw1 hb1 hM hM1 hT1 hlook1
    unfold tokC
    go_enter Tryz.func98, Tryz.ntmps98
    iterate 6 go_step
    rw [Hw1.out]
    go_wp2_with fail
    go_ret
    exact ⟨rfl, .of_below Hb1.out, fun h => absurd h (by decide)⟩
  · rw [if_neg k0] at hR
    have c0 : (t.kind == 0) = false := by simpa using k0
    by_cases k2 : t.kind = 2
    · rw [if_pos k2] at hR
      have c2 : (t.kind == 2) = true := by simpa using k2
      obtain ⟨w2, hupd, hM2, hg2⟩ := hM1.put hcnt (bytes t.str) hsz (c + 1) (by omega)
      have hlook2 := hM2.look (bytes t.str) hsz
      rw [if_pos rfl] at hlook2
      have hT2 := hT1.same (hg2.block w.heap.size (by omega) (by intro e; injection e with e; omega))
      obtain ⟨_, _, q2, _, _⟩ := hT2.parts
      have HM2 := Lib.hid hM2
      have HS2 := Lib.hid ((Beside.of_below (b := m) Hb1.out).trans (beside_grown hg2))
      have hwr : IntKind.i64.wrap (c + 1) = c + 1 := by rw [IntKind.wrap_i64]; omega
      rcases hf with rfl | rfl
      · rw [if_pos rfl] at hR
        subst hR
        rw [show (0 : Int) + 1 = 1 from rfl] at hupd hlook2 HM2 hwr
        clear k0 k2 hw1 hb1 hM hM1 hT1 hM2 hg2 hT2
        unfold tokC
        go_enter Tryz.func98, Tryz.ntmps98
        iterate 6 go_step
        rw [Hw1.out]
        go_wp2_with fail
        go_ret
        exact ⟨rfl, HS2.out, fun _ => HM2.out⟩
      · rw [if_neg (by decide)] at hR
        subst hR
        rw [show (1 : Int) + 1 = 2 from rfl] at hupd hlook2
        clear k0 k2 hw1 hb1 hM hM1 hT1 hM2 hg2 hT2
        unfold tokC
        go_enter Tryz.func98, Tryz.ntmps98
        iterate 6 go_step
        rw [Hw1.out]
        go_wp2_with fail
        go_ret
        exact ⟨rfl, HS2.out, fun h => absurd h (by decide)⟩
    · rw [if_neg k2] at hR
      subst hR
      have c2 : (t.kind == 2) = false := by simpa using k2
      clear k0 k2 hw1 hb1 hM hM1 hT1 hlook1
      unfold tokC
      go_enter Tryz.func98, Tryz.ntmps98
      iterate 6 go_step
      rw [Hw1.out]
      go_wp2_with fail
      go_ret
      exact ⟨rfl, .of_below Hb1.out, fun h => absurd h (by decide)⟩
end
end Go.Proofs.YtejgcnmbngdkiaaGreatDoor
