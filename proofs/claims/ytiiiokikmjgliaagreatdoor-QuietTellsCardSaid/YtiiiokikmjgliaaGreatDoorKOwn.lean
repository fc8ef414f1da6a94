/-
  InfMay, InfOwn: texts merged.
-/
import Derived.Test.YtiiiokikmjgliaaGreatDoorKLens
/-
  The contracts of package inflate's symbolsMay and distancesMay.
-/
namespace Go.Proofs.YtiiiokikmjgliaaGreatDoor
section
open Go.RowKit
set_option maxRecDepth 100000
theorem partK_nat (n : Nat) : partK (n : Int) = 0 ↔ n = 0 := by
  unfold partK
  split
  · omega
  · have : 0 < 2 ^ (15 - (n : Int).toNat) := Nat.pow_pos (by omega)
    omega
theorem kraft_none : ∀ ns : List Nat, kraft (intsOf ns) = 0 ↔ ns.sum = 0
  | [] => by simp [intsOf, kraft]
  | n :: ns => by
    have h1 := partK_nat n
    have h2 := kraft_none ns
    have e : intsOf (n :: ns) = (n : Int) :: intsOf ns := rfl
    rw [e, kraft_cons, List.sum_cons]
    omega
theorem kraft_single : ∀ ns : List Nat, ns.sum = 1 → kraft (intsOf ns) = 16384
  | [], h => by cases h
  | n :: ns, h => by
    have e : intsOf (n :: ns) = (n : Int) :: intsOf ns := rfl
    rw [List.sum_cons] at h
    rw [e, kraft_cons]
    by_cases hn : n = 0
    · subst hn
      rw [kraft_single ns (by omega), (partK_nat 0).2 rfl]
    · obtain rfl : n = 1 := by omega
      rw [(kraft_none ns).2 (by omega)]
      rfl
theorem mem_le_sum : ∀ {ns : List Nat} {n : Nat}, n ∈ ns → n ≤ ns.sum
  | a :: ns, n, h => by
    rw [List.sum_cons]
    rcases List.mem_cons.1 h with rfl | h
    · omega
    · have := mem_le_sum h; omega
theorem okL_small {ns : List Nat} (h : ns.sum ≤ 15) : (intsOf ns).all okL = true := by
  rw [List.all_eq_true]
  intro z hz
  unfold intsOf at hz
  obtain ⟨n, hn, rfl⟩ := List.mem_map.1 hz
  have := mem_le_sum hn
  unfold okL
  simp; omega
theorem may_far {ns : List Nat} (hl : ns.length ≤ 320) : farB ns = (decide (ns.sum ≤ 1) || checkZ (intsOf ns) == 0) := by
  have hl2 : ¬ 320 < (intsOf ns).length := by rw [intsOf_length]; omega
  have hk := kraft_none ns
  by_cases h0 : ns.sum = 0
  · have hc : checkZ (intsOf ns) = 12 := by unfold checkZ; rw [if_neg hl2, if_pos (okL_small (by omega)), if_pos (hk.2 h0)]
    unfold farB
    rw [hc, decide_eq_true (by omega)]; rfl
  · by_cases h1 : ns.sum = 1
    · have hk1 := kraft_single ns h1
      have hc : checkZ (intsOf ns) = 5 := by
        unfold checkZ
        rw [if_neg hl2, if_pos (okL_small (by omega)), hk1]; rfl
      unfold farB
      rw [hc, decide_eq_true (by omega), h1]; rfl
    · have h12 : (checkZ (intsOf ns) == 12) = false := by
        rw [beq_eq_false_iff_ne]
        intro hc
        unfold checkZ at hc
        rw [if_neg hl2] at hc
        split at hc
        · split at hc
          · omega
          · split at hc
            · omega
            · split at hc <;> omega
        · omega
      have hs : (ns.sum == 1) = false := by rw [beq_eq_false_iff_ne]; exact h1
      unfold farB
      rw [h12, hs, decide_eq_false (by omega)]
      simp
set_option maxHeartbeats 1000000 in
theorem symbolsMay_is (p : Option Addr) (n cap : Nat) (ns : List Nat) (w : World) (hn : n = ns.length) (hl : ns.length ≤ 320) (h257 : 257 ≤ ns.length) (h9 : ∀ n ∈ ns, n ≤ 100000) (hp : Nums w p (intsOf ns)) {b : Bool} (hb : (checkZ (intsOf ns) == 0 && decide (0 < ns[256]?.getD 0)) = b) :
    Calls Tryz.prog 173 #[.slice p n cap] w fun en w' => en = .returned (.bool b) ∧ Below w.heap.size w w' := by
  obtain ⟨e, he⟩ : ∃ e, checkZ (intsOf ns) = e := ⟨_, rfl⟩
  have HC := Lib.hid (check_is p n cap ns w hn (by omega) h9 hp he)
  rw [he] at hb
  obtain ⟨y, hy⟩ : ∃ y, ns[256]?.getD 0 = y := ⟨_, rfl⟩
  rw [hy] at hb
  have HN : Hid (∀ W, Below w.heap.size w W → ∃ g off, p = some ⟨g, off, none⟩ ∧ W.cell? ⟨g, off + 256, none⟩ = some (.int .i64 (y : Int))) := Lib.hid fun W hW => by
    obtain ⟨g, off, e1, e2⟩ := (hp.later hW).at 256 (by rw [intsOf_length]; omega)
    refine ⟨g, off, e1, ?_⟩
    rw [e2, ← hy]
    unfold intsOf
    rw [List.getElem?_map, List.getElem?_eq_getElem (show 256 < ns.length by omega)]
    rfl
  have hnz : (256 : Int) < (n : Int) := by omega
  clear hn he hy hp h9
  by_cases h0 : e = 0
  · subst h0
    have Hbv : Hid (decide (0 < y) = b) := Lib.hid hb
    clear hb
    go_enter Tryz.func173, Tryz.ntmps173
    go_wp2_with fail
    refine HC.out.mono ?_
    rintro en w1 ⟨rfl, hb⟩
    obtain ⟨g, off, rfl, c1⟩ := HN.out _ hb
    have HB := Lib.hid hb
    clear hb
    go_wp2_with fail
    go_ret
    exact ⟨by rw [← Hbv.out]; rfl, HB.out⟩
  · have hez : (e == 0) = false := by simpa using h0
    have Hbf : Hid (b = false) := Lib.hid (by rw [← hb, hez]; rfl)
    clear hb h0
    go_enter Tryz.func173, Tryz.ntmps173
    go_wp2_with fail
    refine HC.out.mono ?_
    rintro en w1 ⟨rfl, hb⟩
    have HB := Lib.hid hb
    clear hb
    go_wp2_with fail
    go_ret
    exact ⟨by rw [Hbf.out]; rfl, HB.out⟩
theorem sum_take_more {ns : List Nat} {j x : Nat} (h : ns[j]? = some x) : (ns.take (j + 1)).sum = (ns.take j).sum + x := by
  rw [List.take_add_one, h, List.sum_append]
  simp
set_option maxHeartbeats 2000000 in
theorem distancesMay_is (p : Option Addr) (n cap : Nat) (ns : List Nat) (w : World) (hn : n = ns.length) (hl : ns.length ≤ 320) (h9 : ∀ n ∈ ns, n ≤ 100000) (hp : Nums w p (intsOf ns)) {b : Bool} (hb : farB ns = b) :
    Calls Tryz.prog 174 #[.slice p n cap] w fun en w' => en = .returned (.bool b) ∧ Below w.heap.size w w' := by
  obtain ⟨e, he⟩ : ∃ e, checkZ (intsOf ns) = e := ⟨_, rfl⟩
  have HC := Lib.hid (check_is p n cap ns w hn (by omega) h9 hp he)
  rw [may_far hl, he] at hb
  have Hbb := Lib.hid hb
  have HN : Hid (∀ j x : Nat, ns[j]? = some x → ∃ g off, p = some ⟨g, off, none⟩ ∧ w.cell? ⟨g, off + j, none⟩ = some (.int .i64 (x : Int))) := Lib.hid fun j x hx => by
    have hjl := (List.getElem?_eq_some_iff.1 hx).1
    obtain ⟨g, off, e1, e2⟩ := hp.at j (by rw [intsOf_length]; exact hjl)
    refine ⟨g, off, e1, ?_⟩
    rw [e2]
    unfold intsOf
    rw [List.getElem?_map, hx]
    rfl
  have Hn := Lib.hid hn
  have H9 := Lib.hid h9
  have hn320 : n ≤ 320 := by omega
  clear hn he hp h9 hb
  go_enter Tryz.func174, Tryz.ntmps174
  go_wp2_with fail
  go_loopg [3, 8] n (fun g s3 s8 wx => ∃ j a : Nat, j + g = n ∧ s8 = .int .i64 (j : Int) ∧ s3 = .int .i64 (a : Int) ∧ a ≤ 100000 * j ∧ Aside ((ns.take j).sum = a) ∧ w = wx)
  case atStart => exact ⟨0, 0, by omega, rfl, rfl, by omega, by simp [Aside], rfl⟩
  case round =>
    obtain ⟨j, a, hjg, rfl, rfl, ha, HA, rfl⟩ := hrel
    have Ha := Lib.hid HA.out
    clear HA
    cases gk with
    | succ g =>
      have hjn : (j : Int) < (n : Int) := by omega
      obtain ⟨x, hx⟩ : ∃ x, ns[j]? = some x := ⟨_, List.getElem?_eq_getElem (by have := Hn.out; omega)⟩
      obtain ⟨gg, off, rfl, c1⟩ := HN.out j x hx
      have hx9 := H9.out x (List.mem_of_getElem? hx)
      have Hs := Lib.hid (sum_take_more hx)
      clear hx
      go_wp2_with fail
      go_roundg g
      case measure => omega
      case rel => exact ⟨j + 1, a + x, by omega, by go_num, by go_num, by omega, by show _ = _; rw [Hs.out, Ha.out], rfl⟩
    | zero =>
      obtain rfl : j = n := by omega
      have hjj : ¬ (j : Int) < (j : Int) := by omega
      have Hsum : Hid (ns.sum = a) := Lib.hid (by
        have := Ha.out
        rwa [List.take_of_length_le (by have := Hn.out; omega)] at this)
      by_cases h1 : a ≤ 1
      · have hz : (a : Int) ≤ 1 := by omega
        have Hbt : Hid (b = true) := Lib.hid (by rw [← Hbb.out, Hsum.out, decide_eq_true h1]; rfl)
        go_wp2_with fail
        go_ret
        exact ⟨by rw [Hbt.out]; rfl, below_same _⟩
      · have hz : ¬ (a : Int) ≤ 1 := by omega
        have hbe : (e == 0) = b := by rw [← Hbb.out, Hsum.out, decide_eq_false h1]; rfl
        go_wp2_with fail
        refine HC.out.mono ?_
        rintro en w1 ⟨rfl, hb⟩
        have HB := Lib.hid hb
        clear hb
        go_wp2_with fail
        go_ret
        exact ⟨rfl, HB.out⟩
end
end Go.Proofs.YtiiiokikmjgliaaGreatDoor
/-
  The contract of package inflate's ownTrees: codes of a block's own.
-/
namespace Go.Proofs.YtiiiokikmjgliaaGreatDoor
section
open Go.RowKit
set_option maxRecDepth 100000
theorem bits_both {a b : Nat} {l : List UInt8} {pos : Nat} : (∀ x z, bitsP (a + b) l pos = .ok (x, z) → bitsP a l pos = .ok (x % 2 ^ a, pos + a) ∧ bitsP b l (pos + a) = .ok (x / 2 ^ a, z)) := by
  intro x z h
  obtain ⟨h1, rfl, rfl⟩ := bitsP_ok h
  have h2 : ∀ y ∈ ((bitsOf l).drop pos).take (a + b), y < 2 := fun y hy => bitsOf_two _ y (List.mem_of_mem_drop (List.mem_of_mem_take hy))
  have hlen : (((bitsOf l).drop pos).take (a + b)).length = a + b := by rw [List.length_take, List.length_drop, bitsOf_length]; omega
  obtain ⟨e1, e2⟩ := numB_parts a _ h2 (by rw [hlen]; omega)
  rw [List.take_take, Nat.min_eq_left (by omega)] at e1
  rw [List.drop_take, List.drop_drop, show a + b - a = b by omega] at e2
  unfold bitsP
  rw [if_pos (by omega), if_pos (by omega), ← e1, ← e2, Nat.add_assoc]
  exact ⟨rfl, rfl⟩
theorem bits_two {α : Type} {a b : Nat} {F : Nat → Nat → Prs α} {l : List UInt8} {pos : Nat} : pbind (bitsP a) (fun m => pbind (bitsP b) (F m)) l pos = pbind (bitsP (a + b)) (fun x => F (x % 2 ^ a) (x / 2 ^ a)) l pos := by
  cases h : bitsP (a + b) l pos with
  | ok r =>
    obtain ⟨x, z⟩ := r
    obtain ⟨h1, h2⟩ := bits_both x z h
    rw [pbind_of h1, pbind_of h2, pbind_of h]
  | error e =>
    rw [pbind_err h]
    unfold bitsP at h
    split at h
    · cases h
    · rename_i hn
      cases h
      by_cases h1 : pos + a ≤ 8 * l.length
      · have e1 : bitsP a l pos = .ok (numB (((bitsOf l).drop pos).take a), pos + a) := by unfold bitsP; rw [if_pos h1]
        have e2 : bitsP b l (pos + a) = .error 5 := by unfold bitsP; rw [if_neg (by omega)]
        rw [pbind_of e1, pbind_err e2]
      · have e1 : bitsP a l pos = .error 5 := by unfold bitsP; rw [if_neg h1]
        rw [pbind_err e1]
theorem bits_three {α : Type} {F : Nat → Nat → Nat → Prs α} {l : List UInt8} {pos : Nat} : pbind (bitsP 5) (fun a => pbind (bitsP 5) fun b => pbind (bitsP 4) fun c => F a b c) l pos = pbind (bitsP 14) (fun x => F (x % 32) (x / 32 % 32) (x / 1024)) l pos := by
  have h : (fun a => pbind (bitsP 5) fun b => pbind (bitsP 4) fun c => F a b c) = fun a => pbind (bitsP 9) (fun y => F a (y % 32) (y / 32)) := by
    funext a l pos
    exact bits_two
  rw [h]
  have h2 := bits_two (a := 5) (b := 9) (F := fun a y => F a (y % 32) (y / 32)) (l := l) (pos := pos)
  rw [h2]
  have h3 : (fun x => F (x % 2 ^ 5) (x / 2 ^ 5 % 32) (x / 2 ^ 5 / 32)) = fun x => F (x % 32) (x / 32 % 32) (x / 1024) := by
    funext x
    rw [Nat.div_div_eq_div_mul]
  show pbind (bitsP 14) (fun x => F (x % 2 ^ 5) (x / 2 ^ 5 % 32) (x / 2 ^ 5 / 32)) l pos = _
  rw [h3]
theorem heads_err {h : Prs (List Nat)} {c : List Nat → Bool} {α : Type} {R : List Nat → Prs α} {l : List UInt8} {pos : Nat} {e : Int} (he : pbind h (fun ls => pbind (pfail (c ls) 4) fun _ => pret ls) l pos = .error e) : pbind h (fun ls => pbind (pfail (c ls) 4) fun _ => R ls) l pos = .error e := by
  cases hh : h l pos with
  | error e' => rw [pbind_err hh] at he ⊢; cases he; rfl
  | ok r =>
    obtain ⟨ls, z⟩ := r
    rw [pbind_of hh] at he ⊢
    cases hc : c ls with
    | true => rw [hc, pbind_err pfail_true] at he; rw [pbind_err pfail_true]; cases he; rfl
    | false => rw [hc, pbind_of pfail_false] at he; cases he
theorem heads_ok {h : Prs (List Nat)} {c : List Nat → Bool} {α : Type} {R : List Nat → Prs α} {l : List UInt8} {pos z : Nat} {ls : List Nat} (he : pbind h (fun ls => pbind (pfail (c ls) 4) fun _ => pret ls) l pos = .ok (ls, z)) : pbind h (fun ls => pbind (pfail (c ls) 4) fun _ => R ls) l pos = R ls l z := by
  obtain ⟨ls', z', hh, h2⟩ := pbind_ok he
  rw [pbind_of hh]
  obtain ⟨_, z2, h3, h4⟩ := pbind_ok h2
  obtain ⟨hc, rfl⟩ := pfail_ok h3
  unfold pret at h4
  obtain ⟨rfl, rfl⟩ := Prod.mk.inj (Except.ok.inj h4)
  rw [hc, pbind_of pfail_false]
theorem bitsP_less {n : Nat} {l : List UInt8} {pos x z : Nat} (_hn : n ≤ 16) (hb : bitsP n l pos = .ok (x, z)) : x < 2 ^ n := by
  obtain ⟨h0, rfl, _⟩ := bitsP_ok hb
  have h1 := numB_lt (((bitsOf l).drop pos).take n) fun b hb => bitsOf_two _ b (List.mem_of_mem_drop (List.mem_of_mem_take hb))
  have h2 : (((bitsOf l).drop pos).take n).length = n := by rw [List.length_take, List.length_drop, bitsOf_length]; omega
  rwa [h2] at h1
theorem Sure.signs (c : Nat) : Sure (pbind (headsP c 0 (List.replicate 19 0)) fun ls => pbind (pfail (checkZ (intsOf ls) != 0) 4) fun _ => pret ls) :=
  (Sure.heads _ _ _).bind fun _ => (Sure.fail _ (by decide)).bind fun _ => Sure.ret _
def treesP (fuel : Nat) : Prs (List Nat × List Nat) :=
  pbind (bitsP 5) fun a =>
  pbind (bitsP 5) fun b =>
  pbind (bitsP 4) fun c =>
  pbind (pfail (decide (29 < a) || decide (29 < b)) 4) fun _ =>
  pbind (headsP (c + 4) 0 (List.replicate 19 0)) fun l =>
  pbind (pfail (checkZ (intsOf l) != 0) 4) fun _ =>
  pbind (rowP l (a + b + 258) fuel []) fun all =>
  pbind (pfail (checkZ (intsOf (all.take (a + 257))) != 0 || (all.take (a + 257))[256]?.getD 0 == 0 || !farB (all.drop (a + 257))) 4) fun _ =>
  pret (all.take (a + 257), all.drop (a + 257))
theorem pbind_assoc {α β γ : Type} (p : Prs α) (f : α → Prs β) (g : β → Prs γ) : pbind (pbind p f) g = pbind p fun a => pbind (f a) g := by
  funext l pos
  unfold pbind
  cases p l pos with
  | error e => rfl
  | ok r => rfl
theorem pbind_ret {α β : Type} (a : α) (f : α → Prs β) : pbind (pret a) f = f a := rfl
def ownF (fuel M : Nat) (o : List UInt8) : Prs (List UInt8) :=
  pbind (bitsP 5) fun a =>
  pbind (bitsP 5) fun b =>
  pbind (bitsP 4) fun c =>
  pbind (pfail (decide (29 < a) || decide (29 < b)) 4) fun _ =>
  pbind (headsP (c + 4) 0 (List.replicate 19 0)) fun l =>
  pbind (pfail (checkZ (intsOf l) != 0) 4) fun _ =>
  pbind (rowP l (a + b + 258) fuel []) fun all =>
  pbind (pfail (checkZ (intsOf (all.take (a + 257))) != 0 || (all.take (a + 257))[256]?.getD 0 == 0 || !farB (all.drop (a + 257))) 4) fun _ =>
  codedP (all.take (a + 257)) (all.drop (a + 257)) M fuel o
theorem ownF_trees (f M : Nat) (o : List UInt8) : ownF f M o = pbind (treesP f) fun x => codedP x.1 x.2 M f o := by
  unfold ownF treesP
  simp only [pbind_assoc, pbind_ret]
theorem ownP_fuel (M : Nat) (o : List UInt8) : ownP M o = ownF FUEL M o := by
  unfold ownP ownF
  rfl
def EndsB (w : World) (T rb : Nat) (s : ByteArray) (o : List UInt8) (M : Nat) (v : Value) (p q : Option Addr) (X : List Nat) (r : Except Int ((List Nat × List Nat) × Nat)) (en : Ending) (w' : World) : Prop := match r with
  | .ok ((lit, dist), z) => ∃ b c, en = .returned (.tuple #[.agg #[.pointer (some ⟨b, 0, none⟩), .pointer (some ⟨c, 0, none⟩)], .int .i64 0]) ∧ TreeBy w' b lit (tlF T rb v) ∧ TreeBy w' c dist (tlF T rb v) ∧ refusedZ (intsOf lit) = 0 ∧ refusedZ (intsOf dist) = 0 ∧ TlIs w' T rb s z o M v p q X ∧ Touches (tlF T rb v) (tlF T rb v) w w'
  | .error e => en = .returned (.tuple #[.agg #[.pointer none, .pointer none], .int .i64 e]) ∧ Touches (tlF T rb v) (tlF T rb v) w w'
theorem EndsB.err {w w' : World} {T rb : Nat} {s : ByteArray} {o : List UInt8} {M : Nat} {v : Value} {p q : Option Addr} {X : List Nat} {r : Except Int ((List Nat × List Nat) × Nat)} {e : Int} (hr : r = .error e) (ht : Touches (tlF T rb v) (tlF T rb v) w w') : EndsB w T rb s o M v p q X r (.returned (.tuple #[.agg #[.pointer none, .pointer none], .int .i64 e])) w' := by
  subst hr; exact ⟨rfl, ht⟩
structure Owt (w0 w : World) (T rb : Nat) (s : ByteArray) (pos : Nat) (o : List UInt8) (M : Nat) (v : Value) (p q : Option Addr) (X : List Nat) : Prop where
  is : TlIs w T rb s pos o M v p q X
  ht : Touches (tlF T rb v) (tlF T rb v) w0 w
  tab : LaidBy w (tlF T rb v)
  cell : PairP w w0.heap.size none none
  far : w0.heap.size ∉ tlF T rb v ∧ w0.heap.size ∉ X
section
variable {w0 w w' : World} {T rb : Nat} {s : ByteArray} {pos pos' : Nat} {o : List UInt8} {M : Nat} {v : Value} {p q : Option Addr} {X : List Nat}
theorem Owt.step (h : Owt w0 w T rb s pos o M v p q X) (hi : TlIs w' T rb s pos' o M v p q X) (ht : Touches (tlF T rb v) (tlF T rb v) w w') : Owt w0 w' T rb s pos' o M v p q X :=
  ⟨hi, h.ht.trans ht, h.tab.touch ht, (ht.out h.cell.lt h.far.1).1.trans h.cell, h.far⟩
end
theorem PairP.zero {w : World} {R : Nat} (h : PairP w R none none) :
    w.frozen? ⟨R, 0, none⟩ = false ∧ w.cell? ⟨R, 0, none⟩ = some (.pointer none) ∧ w.cell? ⟨R, 1, none⟩ = some (.pointer none) ∧ (w.setCell ⟨R, 0, none⟩ (.pointer none)).frozen? ⟨R, 1, none⟩ = false ∧ (w.setCell ⟨R, 0, none⟩ (.pointer none)).cell? ⟨R, 1, none⟩ = some (.pointer none) ∧
      ((w.setCell ⟨R, 0, none⟩ (.pointer none)).setCell ⟨R, 1, none⟩ (.pointer none)).cell? ⟨R, 0, none⟩ = some (.pointer none) ∧ ((w.setCell ⟨R, 0, none⟩ (.pointer none)).setCell ⟨R, 1, none⟩ (.pointer none)).cell? ⟨R, 1, none⟩ = some (.pointer none) :=
  ⟨h.free 0, h.first, h.second, (h.put0 none).free 1, (h.put0 none).second, ((h.put0 none).put1 none).first, ((h.put0 none).put1 none).second⟩
theorem PairP.fill {w : World} {R : Nat} {p q : Option Addr} (h : PairP w R p q) (p' q' : Option Addr) :
    w.frozen? ⟨R, 0, none⟩ = false ∧ w.cell? ⟨R, 0, none⟩ = some (.pointer p) ∧ w.cell? ⟨R, 1, none⟩ = some (.pointer q) ∧ (w.setCell ⟨R, 0, none⟩ (.pointer p')).frozen? ⟨R, 1, none⟩ = false ∧ (w.setCell ⟨R, 0, none⟩ (.pointer p')).cell? ⟨R, 1, none⟩ = some (.pointer q) ∧
      ((w.setCell ⟨R, 0, none⟩ (.pointer p')).setCell ⟨R, 1, none⟩ (.pointer q')).cell? ⟨R, 0, none⟩ = some (.pointer p') ∧ ((w.setCell ⟨R, 0, none⟩ (.pointer p')).setCell ⟨R, 1, none⟩ (.pointer q')).cell? ⟨R, 1, none⟩ = some (.pointer q') :=
  ⟨h.free 0, h.first, h.second, (h.put0 p').free 1, (h.put0 p').second, ((h.put0 p').put1 q').first, ((h.put0 p').put1 q').second⟩
theorem may_both (z : Int) (n : Nat) (f : Bool) : (z != 0 || n == 0 || !f) = (!(z == 0 && decide (0 < n)) || !f) := by
  have : decide (0 < n) = !(n == 0) := by
    by_cases h : n = 0
    · subst h; rfl
    · have h2 : (n == 0) = false := by simpa using h
      rw [h2, decide_eq_true (by omega)]; rfl
  rw [this]
  cases h : (z == 0) <;> cases (n == 0) <;> cases f <;> simp_all
theorem far_refused {ns : List Nat} (h : farB ns = true) : refusedZ (intsOf ns) = 0 := by
  unfold farB at h
  unfold refusedZ
  by_cases h0 : checkZ (intsOf ns) = 0
  · rw [h0]; rfl
  · by_cases h12 : checkZ (intsOf ns) = 12
    · rw [h12]; rfl
    · by_cases h5 : checkZ (intsOf ns) = 5
      · rw [h5]; rfl
      · have e0 : (checkZ (intsOf ns) == 0) = false := by simpa using h0
        have e12 : (checkZ (intsOf ns) == 12) = false := by simpa using h12
        have e5 : (checkZ (intsOf ns) == 5) = false := by simpa using h5
        rw [e0, e12, e5] at h
        simp at h
theorem RowAt.part {w : World} {g : Nat} {l : List Nat} (h : RowAt w g l) (k : Nat) : Nums w (some ⟨g, 0, none⟩) (intsOf (l.take k)) ∧ Nums w (some ⟨g, k, none⟩) (intsOf (l.drop k)) := by
  refine ⟨.inr ⟨g, 0, rfl, fun i hi => ?_⟩, .inr ⟨g, k, rfl, fun i hi => ?_⟩⟩
  · rw [intsOf_length, List.length_take] at hi
    have hx := List.getElem?_eq_getElem (show i < l.length by omega)
    rw [Nat.zero_add, h.cell hx]
    unfold intsOf
    rw [List.getElem?_map, List.getElem?_take, if_pos (by omega), hx]; rfl
  · rw [intsOf_length, List.length_drop] at hi
    have hx := List.getElem?_eq_getElem (show k + i < l.length by omega)
    rw [h.cell hx]
    unfold intsOf
    rw [List.getElem?_map, List.getElem?_drop, hx]; rfl
theorem Touches.zero {F F' : List Nat} {w w' : World} {R : Nat} (h : Touches F F' w w') (hR : w.heap.size ≤ R) : Touches F F' w ((w'.setCell ⟨R, 0, none⟩ (.pointer none)).setCell ⟨R, 1, none⟩ (.pointer none)) :=
  (h.beyond (a := ⟨R, 0, none⟩) hR _).beyond (a := ⟨R, 1, none⟩) hR _
set_option maxHeartbeats 8000000 in
theorem ownTrees_is (T rb : Nat) (s : ByteArray) (pos : Nat) (o : List UInt8) (M : Nat) (v : Value) (p q : Option Addr) (X : List Nat) (w : World) (h : TlIs w T rb s pos o M v p q X) (hs : s.size ≤ 10000) (hL : LaidBy w (tlF T rb v)) (fl : Nat) (hfl : 8 * s.size + 1 ≤ fl) {r : Except Int ((List Nat × List Nat) × Nat)} (he : treesP fl s.data.toList pos = r) :
    Calls Tryz.prog 146 #[.pointer (some ⟨T, 0, none⟩)] w (EndsB w T rb s o M v p q X r) := by
  have hlt : w.heap.size ∉ tlF T rb v := fun hm => Nat.lt_irrefl _ (h.lt _ hm)
  have hltX : w.heap.size ∉ X := fun hm => Nat.lt_irrefl _ (h.fix.lt _ hm)
  have hT0 : Touches (tlF T rb v) (tlF T rb v) w (w.alloc (.cells #[.pointer none, .pointer none] 138)) := Touches.of_below ((below_same w).alloc (Nat.le_refl _) _)
  have HS : Hid (Owt w (w.alloc (.cells #[.pointer none, .pointer none] 138)) T rb s pos o M v p q X) := Lib.hid ⟨h.alloc _, hT0, hL.touch hT0, heap_alloc_new w _, hlt, hltX⟩
  unfold treesP at he
  rw [bits_three] at he
  have HPost := Lib.hid he
  have r0 := HS.out.is.cell.reader
  clear he hlt hltX hT0 h hL
  cases hb : bitsP 14 s.data.toList pos with
  | error e =>
    have HE := Lib.hid (tlGet_err T rb s pos o M v p q X _ 14 HS.out.is hs (by omega) hb)
    have Hend : Hid (r = .error 5) := Lib.hid (by rw [← HPost.out, pbind_err hb, (bitsP_err (by omega) hb).1])
    clear hb
    go_enter Tryz.func146, Tryz.ntmps146
    go_wp2_with fail
    refine HE.out.mono ?_
    rintro en w1 ⟨rfl, ht⟩
    have HT1 := Lib.hid (HS.out.ht.trans ht)
    have hc : PairP w1 w.heap.size none none := (ht.out HS.out.cell.lt HS.out.far.1).1.trans HS.out.cell
    obtain ⟨f0, c0, c1, f1, c11, k0, k1⟩ := hc.zero
    clear ht hc
    go_wp2_with fail
    refine bodyPost_ret (v := .tuple #[.agg #[.pointer none, .pointer none], .int .i64 5]) (by simp [results, Tryz.results146, go_sem, k0, k1]) rfl ?_
    exact EndsB.err Hend.out (HT1.out.zero (Nat.le_refl _))
  | ok x =>
    obtain ⟨x, z0⟩ := x
    have HE := Lib.hid (tlGet_ok T rb s pos o M v p q X _ 14 HS.out.is hs (by omega) hb)
    have hx := (bitsP_less (by omega) hb)
    rw [pbind_of hb] at HPost
    clear hb
    obtain ⟨a, ha⟩ : ∃ a, x % 32 = a := ⟨_, rfl⟩
    obtain ⟨b, hb⟩ : ∃ b, x / 32 % 32 = b := ⟨_, rfl⟩
    obtain ⟨c, hc⟩ : ∃ c, x / 1024 = c := ⟨_, rfl⟩
    rw [ha, hb, hc] at HPost
    obtain ⟨sy, hsyn⟩ : ∃ sy, a + 257 = sy := ⟨_, rfl⟩
    obtain ⟨di, hdin⟩ : ∃ di, b + 1 = di := ⟨_, rfl⟩
    obtain ⟨c4, hc4n⟩ : ∃ c4, c + 4 = c4 := ⟨_, rfl⟩
    have hq1 : (257 : Int) + (x : Int) % 32 = (sy : Int) := by omega
    have hq2 : (1 : Int) + (x : Int) / 32 % 32 = (di : Int) := by omega
    have hq3 : (4 : Int) + (x : Int) / 1024 = (c4 : Int) := by omega
    have hsy1 : 257 ≤ sy ∧ sy ≤ 288 := by omega
    have hdi1 : 1 ≤ di ∧ di ≤ 32 := by omega
    have hc41 : c4 ≤ 19 := by omega
    obtain ⟨many, hmany⟩ : ∃ many, a + b + 258 = many := ⟨_, rfl⟩
    have hmy : (sy : Int) + (di : Int) = (many : Int) := by omega
    have hab : (29 < a ∨ 29 < b) ↔ (286 < sy ∨ 30 < di) := by omega
    have hab2 : (decide (29 < a) || decide (29 < b)) = decide (286 < sy ∨ 30 < di) := by
      rw [← Bool.decide_or, decide_eq_decide]; exact hab
    rw [hsyn, hc4n, hab2, hmany] at HPost
    have Hsd : Hid (many = sy + di) := Lib.hid (by omega)
    have hm2 : 1 ≤ many ∧ many ≤ 320 := by omega
    clear ha hb hc hsyn hdin hc4n hmany hab hab2
    go_enter Tryz.func146, Tryz.ntmps146
    go_wp2_with fail
    refine HE.out.mono ?_
    rintro en w1 ⟨rfl, hi, ht⟩
    have HS1 := Lib.hid (HS.out.step hi ht)
    clear hi ht r0
    by_cases hbig : 286 < sy ∨ 30 < di
    · have Hend : Hid (r = .error 4) := Lib.hid (by
        rw [← HPost.out, decide_eq_true hbig, pbind_err pfail_true])
      have hcase : (286 : Int) < (sy : Int) ∨ (¬ (286 : Int) < (sy : Int) ∧ (30 : Int) < (di : Int)) := by omega
      clear hbig
      rcases hcase with g1 | ⟨g1, g2⟩
      all_goals
        have hc := HS1.out.cell
        obtain ⟨f0, c0, c1, f1, c11, k0, k1⟩ := hc.zero
        clear hc
        go_wp2_with fail
        refine bodyPost_ret (v := .tuple #[.agg #[.pointer none, .pointer none], .int .i64 4]) (by simp [results, Tryz.results146, go_sem, k0, k1]) rfl ?_
        exact EndsB.err Hend.out (HS1.out.ht.zero (Nat.le_refl _))
    · have g1 : ¬ (286 : Int) < (sy : Int) := by omega
      have g2 : ¬ (30 : Int) < (di : Int) := by omega
      rw [decide_eq_false hbig, pbind_of pfail_false] at HPost
      clear hbig
      cases hh : pbind (headsP c4 0 (List.replicate 19 0)) (fun ls => pbind (pfail (checkZ (intsOf ls) != 0) 4) fun _ => pret ls) s.data.toList z0 with
      | error e =>
        have HSg := Lib.hid (signs_is T rb s z0 o M v p q X w1 c4 HS1.out.is hs (by omega) HS1.out.tab hh)
        have hez : (e != 0) = true := by simpa using Sure.signs _ _ _ _ hh
        have Hend : Hid (r = .error e) := Lib.hid (by rw [← HPost.out, heads_err hh])
        clear hh
        go_wp2_with fail
        refine HSg.out.mono ?_
        rintro en w2 ⟨rfl, ht⟩
        have HT2 := Lib.hid (HS1.out.ht.trans ht)
        have hc : PairP w2 w.heap.size none none := (ht.out HS1.out.cell.lt HS1.out.far.1).1.trans HS1.out.cell
        obtain ⟨f0, c0, c1, f1, c11, k0, k1⟩ := hc.zero
        clear ht hc
        go_wp2_with fail
        refine bodyPost_ret (v := .tuple #[.agg #[.pointer none, .pointer none], .int .i64 e]) (by simp [results, Tryz.results146, go_sem, k0, k1]) rfl ?_
        exact EndsB.err Hend.out (HT2.out.zero (Nat.le_refl _))
      | ok x1 =>
        obtain ⟨ls, z1⟩ := x1
        have HSg := Lib.hid (signs_is T rb s z0 o M v p q X w1 c4 HS1.out.is hs (by omega) HS1.out.tab hh)
        rw [heads_ok hh] at HPost
        clear hh
        go_wp2_with fail
        refine HSg.out.mono ?_
        rintro en w2 ⟨tr, rfl, htr, hrf, hln, hi, ht⟩
        have HS2 := Lib.hid (HS1.out.step hi ht)
        have HTr := Lib.hid htr
        have HRf := Lib.hid hrf
        have HLn := Lib.hid hln
        clear htr hrf hln hi ht HSg
        have hf : 8 * s.size + 1 ≤ fl + z1 := by omega
        cases hrw : rowP ls many fl [] s.data.toList z1 with
        | error e =>
          have HLs := Lib.hid (lengths_is T rb s z1 o M v p q X w2 tr many fl ls HS2.out.is hs (by omega) (by omega) hf HTr.out HRf.out HLn.out HS2.out.tab hrw)
          have hez : (e != 0) = true := by simpa using Sure.row _ _ _ _ _ _ _ hrw
          have Hend : Hid (r = .error e) := Lib.hid (by rw [← HPost.out, pbind_err hrw])
          clear hrw hf
          go_wp2_with fail
          refine HLs.out.mono ?_
          rintro en w3 ⟨rfl, ht⟩
          have HT3 := Lib.hid (HS2.out.ht.trans ht)
          have hc : PairP w3 w.heap.size none none := (ht.out HS2.out.cell.lt HS2.out.far.1).1.trans HS2.out.cell
          obtain ⟨f0, c0, c1, f1, c11, k0, k1⟩ := hc.zero
          clear ht hc
          go_wp2_with fail
          refine bodyPost_ret (v := .tuple #[.agg #[.pointer none, .pointer none], .int .i64 e]) (by simp [results, Tryz.results146, go_sem, k0, k1]) rfl ?_
          exact EndsB.err Hend.out (HT3.out.zero (Nat.le_refl _))
        | ok x2 =>
          obtain ⟨out, z2⟩ := x2
          have HLs := Lib.hid (lengths_is T rb s z1 o M v p q X w2 tr many fl ls HS2.out.is hs (by omega) (by omega) hf HTr.out HRf.out HLn.out HS2.out.tab hrw)
          rw [pbind_of hrw] at HPost
          clear hrw hf
          go_wp2_with fail
          refine HLs.out.mono ?_
          rintro en w3 ⟨g, rfl, hrow, hgn, hol, h18, hi, ht⟩
          have HS3 := Lib.hid (HS2.out.step hi ht)
          have HRow := Lib.hid hrow
          have Hol := Lib.hid hol
          have H18 := Lib.hid h18
          clear hrow hgn hol h18 hi ht HLs
          rw [may_both] at HPost
          have hsd := Hsd.out
          have hds : many - sy = di := by omega
          have hms : ¬ many = sy := by omega
          have hsm : (sy : Int) ≤ (many : Int) := by omega
          have Hl1 : Hid (sy = (out.take sy).length) := Lib.hid (by rw [List.length_take, Hol.out]; omega)
          have Hl2 : Hid (di = (out.drop sy).length) := Lib.hid (by rw [List.length_drop, Hol.out]; omega)
          have Hs1 : Hid (∀ n ∈ out.take sy, n ≤ 100000) := Lib.hid fun n hn => by have := H18.out n (List.mem_of_mem_take hn); omega
          have Hs2 : Hid (∀ n ∈ out.drop sy, n ≤ 100000) := Lib.hid fun n hn => by have := H18.out n (List.mem_of_mem_drop hn); omega
          have Hp := Lib.hid (HRow.out.part sy)
          have hsy286 : sy ≤ 286 := by omega
          have hdi30 : di ≤ 30 := by omega
          clear hsd
          cases hm1 : (checkZ (intsOf (out.take sy)) == 0 && decide (0 < (out.take sy)[256]?.getD 0)) with
          | false =>
            have HM := Lib.hid (symbolsMay_is (some ⟨g, 0, none⟩) sy many (out.take sy) w3 Hl1.out (by rw [← Hl1.out]; omega) (by rw [← Hl1.out]; omega) Hs1.out Hp.out.1 hm1)
            have Hend : Hid (r = .error 4) := Lib.hid (by rw [← HPost.out, hm1]; rfl)
            clear hm1
            go_wp2_with fail
            refine HM.out.mono ?_
            rintro en w4 ⟨rfl, hb⟩
            have HS4 := Lib.hid (HS3.out.step (HS3.out.is.later hb) (Touches.of_below hb))
            have hc := HS4.out.cell
            clear hb
            obtain ⟨f0, c0, c1, f1, c11, k0, k1⟩ := hc.zero
            clear hc
            go_wp2_with fail
            refine bodyPost_ret (v := .tuple #[.agg #[.pointer none, .pointer none], .int .i64 4]) (by simp [results, Tryz.results146, go_sem, k0, k1]) rfl ?_
            exact EndsB.err Hend.out (HS4.out.ht.zero (Nat.le_refl _))
          | true =>
            have HM := Lib.hid (symbolsMay_is (some ⟨g, 0, none⟩) sy many (out.take sy) w3 Hl1.out (by rw [← Hl1.out]; omega) (by rw [← Hl1.out]; omega) Hs1.out Hp.out.1 hm1)
            rw [hm1] at HPost
            have Hg1 : Hid (refusedZ (intsOf (out.take sy)) = 0) := Lib.hid (checkZ_good (by
              have h1 := (Bool.and_eq_true_iff.1 hm1).1
              simpa using h1))
            clear hm1
            cases hm2 : farB (out.drop sy) with
            | false =>
              have HM2 := Lib.hid (fun W (hW : Below w3.heap.size w3 W) => distancesMay_is (some ⟨g, sy, none⟩) di di (out.drop sy) W Hl2.out (by rw [← Hl2.out]; omega) Hs2.out (Hp.out.2.later hW) hm2)
              have Hend : Hid (r = .error 4) := Lib.hid (by rw [← HPost.out, hm2]; rfl)
              clear hm2
              go_wp2_with fail
              refine HM.out.mono ?_
              rintro en w4 ⟨rfl, hb⟩
              have HS4 := Lib.hid (HS3.out.step (HS3.out.is.later hb) (Touches.of_below hb))
              have Hb4 := Lib.hid hb
              clear hb
              go_wp2_with fail
              refine (HM2.out _ Hb4.out).mono ?_
              rintro en w5 ⟨rfl, hb⟩
              have HS5 := Lib.hid (HS4.out.step (HS4.out.is.later hb) (Touches.of_below hb))
              have hc := HS5.out.cell
              clear hb
              obtain ⟨f0, c0, c1, f1, c11, k0, k1⟩ := hc.zero
              clear hc
              go_wp2_with fail
              refine bodyPost_ret (v := .tuple #[.agg #[.pointer none, .pointer none], .int .i64 4]) (by simp [results, Tryz.results146, go_sem, k0, k1]) rfl ?_
              exact EndsB.err Hend.out (HS5.out.ht.zero (Nat.le_refl _))
            | true =>
              have HM2 := Lib.hid (fun W (hW : Below w3.heap.size w3 W) => distancesMay_is (some ⟨g, sy, none⟩) di di (out.drop sy) W Hl2.out (by rw [← Hl2.out]; omega) Hs2.out (Hp.out.2.later hW) hm2)
              have Hg2 := Lib.hid (far_refused hm2)
              have Hend : Hid (r = .ok ((out.take sy, out.drop sy), z2)) := Lib.hid (by rw [← HPost.out, hm2]; rfl)
              clear hm2
              go_wp2_with fail
              refine HM.out.mono ?_
              rintro en w4 ⟨rfl, hb⟩
              have HS4 := Lib.hid (HS3.out.step (HS3.out.is.later hb) (Touches.of_below hb))
              have Hb4 := Lib.hid hb
              clear hb
              go_wp2_with fail
              refine (HM2.out _ Hb4.out).mono ?_
              rintro en w5 ⟨rfl, hb⟩
              have HS5 := Lib.hid (HS4.out.step (HS4.out.is.later hb) (Touches.of_below hb))
              have Hb5 := Lib.hid (Hb4.out.trans (hb.mono Hb4.out.size))
              clear hb
              have HTo := Lib.hid (treesOf_is (some ⟨g, 0, none⟩) (some ⟨g, sy, none⟩) sy di many di (out.take sy) (out.drop sy) w5.drew Hl1.out Hl2.out (Hp.out.1.later Hb5.out.drew) (Hp.out.2.later Hb5.out.drew) Hg1.out Hg2.out)
              have HC5 : Hid (PairP w5.drew w.heap.size none none) := Lib.hid HS5.out.cell
              go_wp2_with fail
              go_region_with (go_at_call 170; refine HTo.out.mono ?_; rintro e w6 ⟨b6, c6, X1, X2, rfl, t1, t2, x1, x2, hb⟩; obtain ⟨f0, c0, c1, f1, c11, k0, k1⟩ := (HC5.out.later hb).fill (some ⟨b6, 0, none⟩) (some ⟨c6, 0, none⟩))
              all_goals
                go_wp2_with fail
                refine bodyPost_ret (v := .tuple #[.agg #[.pointer (some ⟨b6, 0, none⟩), .pointer (some ⟨c6, 0, none⟩)], .int .i64 0]) (by simp [results, Tryz.results146, go_sem, k0, k1]) rfl ?_
                have hr := Hend.out
                subst hr
                have hlt := HC5.out.lt
                have HS6 := HS5.out.step (HS5.out.is.later (Below.trans (below_same w5).drew hb)) (Touches.of_below (Below.trans (below_same w5).drew hb))
                have n1 : ∀ k ∈ X1, k ∉ tlF T rb v ∧ k ≠ w.heap.size := fun k hk => by
                  have h1 := x1 k hk
                  exact ⟨fun hm => by have := HS5.out.is.drew.lt k hm; omega, by omega⟩
                have n2 : ∀ k ∈ X2, k ∉ tlF T rb v ∧ k ≠ w.heap.size := fun k hk => by
                  have h1 := x2 k hk
                  exact ⟨fun hm => by have := HS5.out.is.drew.lt k hm; omega, by omega⟩
                exact ⟨b6, c6, rfl, ⟨X1, (t1.aside (a := ⟨w.heap.size, 0, none⟩) (fun hm => (n1 _ hm).2 rfl) _).aside (a := ⟨w.heap.size, 1, none⟩) (fun hm => (n1 _ hm).2 rfl) _, fun k hk => (n1 k hk).1⟩,
                  ⟨X2, (t2.aside (a := ⟨w.heap.size, 0, none⟩) (fun hm => (n2 _ hm).2 rfl) _).aside (a := ⟨w.heap.size, 1, none⟩) (fun hm => (n2 _ hm).2 rfl) _, fun k hk => (n2 k hk).1⟩, Hg1.out, Hg2.out,
                  (HS6.is.aside (a := ⟨w.heap.size, 0, none⟩) HS5.out.far.1 HS5.out.far.2 _).aside (a := ⟨w.heap.size, 1, none⟩) HS5.out.far.1 HS5.out.far.2 _, (HS6.ht.beyond (a := ⟨w.heap.size, 0, none⟩) (Nat.le_refl _) _).beyond (a := ⟨w.heap.size, 1, none⟩) (Nat.le_refl _) _⟩
end
end Go.Proofs.YtiiiokikmjgliaaGreatDoor
