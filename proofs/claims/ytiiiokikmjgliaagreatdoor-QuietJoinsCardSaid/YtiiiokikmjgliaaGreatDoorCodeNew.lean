/-
  The contract of codes' New.
-/
import Derived.Test.YtiiiokikmjgliaaGreatDoorKCode
import Derived.Test.YtiiiokikmjgliaaGreatDoorShelf
import Derived.Deep.RegionHeld3
import Derived.Deep.MidRow
import Derived.Deep.DeepCutAuto
import Derived.Deep.CutRange
namespace Go.Proofs.YtiiiokikmjgliaaGreatDoor
open Go.RowKit
set_option maxRecDepth 100000
theorem clone_ints (p : Option Addr) (cap : Nat) (ls : List Int) (w : World) (hl : ls.length ≤ 320) (hp : Nums w p ls) :
    Calls Tryz.prog 176 #[.slice p ls.length cap] w fun e w' => ∃ v, e = .returned v ∧ Row64 w' v ls ∧ (∀ k, v.ownBlock = some k → w.heap.size ≤ k) ∧ Below w.heap.size w w' := by
  have low : ∀ (w' : World) (v : Value), w'.ownsRow w.heap.size 3 1 v ls.length (cellsZ ls) → Row64 w' v ls ∧ (∀ k, v.ownBlock = some k → w.heap.size ≤ k) := fun w' v h => by
    refine ⟨⟨h.1, ?_⟩, fun k e => (World.ownsRow.lt h k e).1⟩
    rcases h.2 with h2 | ⟨g, c, cur, hv, hB, hg, hr⟩
    · exact .inl h2
    · exact .inr ⟨g, c, cur, hv, Nat.zero_le _, hg, hr⟩
  rcases p with _ | a
  · have h0 : ls = [] := by
      rcases hp with h | ⟨b, off, e, _⟩
      · exact h
      · cases e
    subst h0
    refine (Any.slices_Clone_int_nil Tryz.laysNm215 0 cap w).mono ?_
    rintro e w' ⟨rfl, rfl⟩
    obtain ⟨h1, h2⟩ := low w' (.slice none 0 0) (World.ownsRow_nil _ _ _ _)
    exact ⟨_, rfl, h1, h2, Below.refl _ _⟩
  · by_cases h0 : ls = []
    · subst h0
      refine (Any.slices_Clone_int_zero Tryz.laysNm215 a cap w).mono ?_
      rintro e w' ⟨v, rfl, h, _, hb⟩
      obtain ⟨h1, h2⟩ := low w' v h
      exact ⟨v, rfl, h1, h2, hb⟩
    · rcases hp with h | ⟨b, off, e, hc⟩
      · exact absurd h h0
      · obtain rfl := Option.some.inj e
        refine (Any.slices_Clone_int Tryz.laysNm215 b off ls.length cap ls w (Nat.le_refl _) (by omega) (fun j hj => by
          have := hc j hj
          simpa [List.getD] using this)).mono ?_
        rintro e w' ⟨v, rfl, h, _, hb⟩
        rw [List.take_length] at h
        obtain ⟨h1, h2⟩ := low w' v h
        exact ⟨v, rfl, h1, h2, hb⟩
def Onw (w w' : World) : Prop := Below w.heap.size w w'
theorem Onw.refl (w : World) : Onw w w := Below.refl _ _
theorem Onw.trans {a b c : World} (h : Onw a b) (h' : Onw b c) : Onw a c := Below.trans h (Below.mono h' h.size)
theorem Onw.alloc {a b : World} (h : Onw a b) (o : Obj) : Onw a (b.alloc o) := Below.alloc h h.size o
theorem Onw.drew {a b : World} (h : Onw a b) : Onw a b.drew := Below.drew h
theorem Onw.undrew {a b : World} (h : Onw a.drew b) : Onw a b := Onw.trans (Onw.refl a).drew h
theorem Onw.size {a b : World} (h : Onw a b) : a.heap.size ≤ b.heap.size := Below.size h
def TreeMade (w : World) (B b4 : Nat) (ls : List Int) (f : Nat → Nat) (g gt go : Nat) (vl : Value) : Prop :=
  TreeCell w g vl gt ls.length go ls.length ls.length f 0 ∧ Row64 w vl ls ∧ RowAt w gt (codesN (natsOf ls)) ∧ RowAt w go (List.replicate ls.length 0) ∧ ArrAt w b4 f ∧
  (B ≤ g ∧ B ≤ gt ∧ B ≤ go ∧ g ≠ gt ∧ g ≠ go ∧ gt ≠ go) ∧ ∀ k, vl.ownBlock = some k → B ≤ k ∧ k ≠ g ∧ k ≠ gt ∧ k ≠ go
def row16 (f : Nat → Nat) : List Value := [.int .i64 (f 0 : Int), .int .i64 (f 1 : Int), .int .i64 (f 2 : Int), .int .i64 (f 3 : Int), .int .i64 (f 4 : Int), .int .i64 (f 5 : Int), .int .i64 (f 6 : Int), .int .i64 (f 7 : Int), .int .i64 (f 8 : Int), .int .i64 (f 9 : Int), .int .i64 (f 10 : Int), .int .i64 (f 11 : Int), .int .i64 (f 12 : Int), .int .i64 (f 13 : Int), .int .i64 (f 14 : Int), .int .i64 (f 15 : Int)]
theorem arr16_row (f : Nat → Nat) : arr16 f = (row16 f).toArray := rfl
theorem ArrAt.range {w : World} {b : Nat} {f : Nat → Nat} (h : ArrAt w b f) : w.rangeAt b 0 (row16 f) ∧ b < w.heap.size :=
  ⟨fun j v hj => by
    rw [cell_of_row _ _ _ _ _ _ h, Nat.zero_add, arr16_row, List.getElem?_toArray]; exact hj, h.lt⟩
theorem held_on {w w' : World} {b : Nat} {f : Nat → Nat} {p : Option Addr} {ls : List Int} (h : w.rangeAt b 0 (row16 f) ∧ b < w.heap.size ∧ Nums w p ls) (hb : Onw w w') : w'.rangeAt b 0 (row16 f) ∧ b < w'.heap.size ∧ Nums w' p ls :=
  ⟨fun j v hj => (Below.cell hb (p := ⟨b, 0 + j, none⟩) h.2.1).trans (h.1 j v hj), Nat.lt_of_lt_of_le h.2.1 hb.size, h.2.2.later hb⟩
theorem deal_on (p : Option Addr) (cap : Nat) (ls : List Int) (g : Nat → Nat) (w : World) (hl : ls.length ≤ 320) (hall : ∀ l ∈ ls, 0 ≤ l ∧ l ≤ 15) (hg : ∀ l, l ≤ 15 → g l ≤ 20971520) {l : List Nat} (hd : dealN (natsOf ls) g = l) (hp : Nums w p ls) :
    Calls Tryz.prog 177 #[.slice p ls.length cap, .agg (arr16 g)] w fun e w' => ∃ a, e = .returned (.slice (some ⟨a, 0, none⟩) ls.length ls.length) ∧ RowAt w' a l ∧ w.heap.size ≤ a ∧ Onw w w' := by
  subst hd; exact deal_any p cap ls g w hl hall hg hp
theorem made_is {w2 we : World} {b4 gt go cl : Nat} {al : Option Addr} {ls : List Int} {f : Nat → Nat} (hT : RowAt we gt (codesN (natsOf ls))) (hO : RowAt we go (List.replicate ls.length 0)) (hV : Row64 we (.slice al ls.length cl) ls) (hA : ArrAt we b4 f)
    (hD : w2.heap.size ≤ gt ∧ w2.heap.size ≤ go ∧ gt ≠ go ∧ gt < we.heap.size ∧ go < we.heap.size) (hDV : ∀ k, (Value.slice al ls.length cl).ownBlock = some k → w2.heap.size ≤ k ∧ k ≠ gt ∧ k ≠ go ∧ k < we.heap.size) (hAll : Onw w2 we) :
    ∃ (g gt' go' : Nat) (vl : Value), (Value.pointer (some ⟨we.heap.size, 0, none⟩)) = .pointer (some ⟨g, 0, none⟩) ∧ Aside (TreeMade (we.alloc (.cells (treeRow (.slice al ls.length cl) gt ls.length go ls.length ls.length f 0) 201)) w2.heap.size b4 ls f g gt' go' vl) ∧ Aside (Onw w2 (we.alloc (.cells (treeRow (.slice al ls.length cl) gt ls.length go ls.length ls.length f 0) 201))) := by
  have hs := hAll.size
  have hon : Onw we (we.alloc (.cells (treeRow (.slice al ls.length cl) gt ls.length go ls.length ls.length f 0) 201)) := (Onw.refl we).alloc _
  refine ⟨we.heap.size, gt, go, .slice al ls.length cl, rfl, ⟨heap_alloc_new _ _, hV.move fun k e => Below.block hon k (hV.lt k e), hT.later hon, hO.later hon, hA.later hon, ?_, ?_⟩, hAll.alloc _⟩
  · omega
  · intro k e
    have := hDV k e
    omega
theorem turned_is {w wr : World} {g gt go gp L cap j x n : Nat} {vl : Value} {ls : List Int} {f : Nat → Nat} {a a' ords pl : List Nat} (h1 : TreeCell wr g vl gt cap go cap n f L) (h2 : Row64 wr vl ls) (h3 : RowAt wr gt a) (h4 : RowAt wr go ords) (h5 : RowAt wr gp pl)
    (hD : w.heap.size ≤ g ∧ w.heap.size ≤ gt ∧ w.heap.size ≤ go ∧ g ≠ gt ∧ g ≠ go ∧ gt ≠ go ∧ gp ≠ g ∧ gp ≠ gt ∧ gp ≠ go) (hV : ∀ k, vl.ownBlock = some k → w.heap.size ≤ k ∧ k ≠ g ∧ k ≠ gt ∧ k ≠ go) (hs : a.set j x = a') (q : Nat) (hb : Below w.heap.size w wr) :
    Aside (TreeCell ((wr.drewN q).setCell ⟨gt, j, none⟩ (.int .i64 (x : Int))) g vl gt cap go cap n f L ∧ Row64 ((wr.drewN q).setCell ⟨gt, j, none⟩ (.int .i64 (x : Int))) vl ls ∧ RowAt ((wr.drewN q).setCell ⟨gt, j, none⟩ (.int .i64 (x : Int))) gt a' ∧ RowAt ((wr.drewN q).setCell ⟨gt, j, none⟩ (.int .i64 (x : Int))) go ords ∧ RowAt ((wr.drewN q).setCell ⟨gt, j, none⟩ (.int .i64 (x : Int))) gp pl) ∧
      Aside (Below w.heap.size w ((wr.drewN q).setCell ⟨gt, j, none⟩ (.int .i64 (x : Int)))) := by
  subst hs
  have e : ∀ k, k ≠ gt → ((wr.drewN q).setCell ⟨gt, j, none⟩ (.int .i64 (x : Int))).heap[k]? = wr.heap[k]? := fun k hk => heap_setCell_other (wr.drewN q) ⟨gt, j, none⟩ k _ hk
  have h3' : RowAt (wr.drewN q) gt a := h3
  exact ⟨⟨(e g (by omega)).trans h1, h2.move fun k hk => e k (hV k hk).2.2.1, h3'.put j x, (e go (by omega)).trans h4, (e gp (by omega)).trans h5⟩, (below_drewN hb q).setCell (by simp; omega) _⟩
theorem ordered_is {w wr : World} {g gt go gp L cap n : Nat} {vl : Value} {ls : List Int} {f : Nat → Nat} {a ords pl : List Nat} (h1 : TreeCell wr g vl gt cap go cap n f L) (h2 : Row64 wr vl ls) (h3 : RowAt wr gt a) (h4 : RowAt wr go ords) (h5 : RowAt wr gp pl)
    (hD : w.heap.size ≤ g ∧ w.heap.size ≤ gt ∧ w.heap.size ≤ go ∧ g ≠ gt ∧ g ≠ go ∧ gt ≠ go ∧ gp ≠ g ∧ gp ≠ gt ∧ gp ≠ go) (hV : ∀ k, vl.ownBlock = some k → w.heap.size ≤ k ∧ k ≠ g ∧ k ≠ gt ∧ k ≠ go) (p x q : Nat) (hb : Below w.heap.size w wr) :
    Aside (TreeCell ((wr.drewN q).setCell ⟨go, p, none⟩ (.int .i64 (x : Int))) g vl gt cap go cap n f L ∧ Row64 ((wr.drewN q).setCell ⟨go, p, none⟩ (.int .i64 (x : Int))) vl ls ∧ RowAt ((wr.drewN q).setCell ⟨go, p, none⟩ (.int .i64 (x : Int))) gt a ∧ RowAt ((wr.drewN q).setCell ⟨go, p, none⟩ (.int .i64 (x : Int))) go (ords.set p x) ∧ RowAt ((wr.drewN q).setCell ⟨go, p, none⟩ (.int .i64 (x : Int))) gp pl) ∧
      Aside (Below w.heap.size w ((wr.drewN q).setCell ⟨go, p, none⟩ (.int .i64 (x : Int)))) := by
  have e : ∀ k, k ≠ go → ((wr.drewN q).setCell ⟨go, p, none⟩ (.int .i64 (x : Int))).heap[k]? = wr.heap[k]? := fun k hk => heap_setCell_other (wr.drewN q) ⟨go, p, none⟩ k _ hk
  have h4' : RowAt (wr.drewN q) go ords := h4
  exact ⟨⟨(e g (by omega)).trans h1, h2.move fun k hk => e k (hV k hk).2.2.2, (e gt (by omega)).trans h3, h4'.put p x, (e gp (by omega)).trans h5⟩, (below_drewN hb q).setCell (by simp; omega) _⟩
set_option maxHeartbeats 4000000 in
theorem tNew_good (p : Option Addr) (cap n : Nat) (ls : List Int) (w : World) (hn : n = ls.length) (hp : Nums w p ls) (he : refusedZ ls = 0) :
    Calls Tryz.prog 147 #[.slice p n cap] w fun en w' => ∃ b F, en = .returned (.tuple #[.pointer (some ⟨b, 0, none⟩), .int .i64 0]) ∧ TreeAt w' b ls F ∧ (∀ k ∈ F, w.heap.size ≤ k) ∧ Below w.heap.size w w' := by
  subst hn
  obtain ⟨hl, hall, hk⟩ := refusedZ_zero he
  have Hc := Lib.hid (count_any p cap ls w (by omega) hp)
  rw [he] at Hc
  have Hn : Hid ((natsOf ls).length ≤ 320) := Lib.hid (by rw [natsOf_length]; exact hl)
  have Hst := Lib.hid (fun W => starts_any (natsOf ls) 2 W Hn.out (.inr rfl))
  have Hst1 := Lib.hid (fun W => starts_any (natsOf ls) 1 W Hn.out (.inl rfl))
  have Hp := Lib.hid hp
  have Hall := Lib.hid hall
  have Hk := Lib.hid hk
  have hcnt : ∀ en w', Counts w ls 0 en w' → en = .returned (.tuple #[.agg (arr16 (cntN (natsOf ls))), .int .i64 0]) ∧ Below w.heap.size w w' := fun en w' h => by
    have := h
    unfold Counts at this
    rwa [if_pos rfl] at this
  have Hcnt := Lib.hid hcnt
  have Hmake := Lib.hid (fun W => make_row ls.length W (by omega))
  clear hall hk he hp hcnt
  go_enter Tryz.func147, Tryz.ntmps147
  go_wp2_with fail
  refine Hc.out.mono ?_
  intro en w1 hcn
  obtain ⟨rfl, hb⟩ := Hcnt.out _ _ hcn
  have Hb := Lib.hid hb
  clear hb hcn
  have HA : Hid (ArrAt (w1.alloc (.cells (arr16 fun _ => 0) 195)) w1.heap.size fun _ => 0) := Lib.hid (heap_alloc_new w1 _)
  rw [arr16_zero] at HA
  go_upto_region 4 with (with_reducible first
    | (refine ArrAt.store rfl rfl (.tmp 4) (.tmp 13) rfl w1.heap.size _ _ rfl rfl HA.out w.heap.size w (Hb.out.alloc Hb.out.size _) Hb.out.size ?_; intro w2 H2 Hb2 _))
  obtain ⟨b4, hb4⟩ : ∃ b4, w1.heap.size = b4 := ⟨_, rfl⟩
  obtain ⟨f, hf⟩ : ∃ f, cntN (natsOf ls) = f := ⟨_, rfl⟩
  have HF := Lib.hid hf
  have HB4 : Hid (w.heap.size ≤ b4) := Lib.hid (by rw [← hb4]; exact Hb.out.size)
  rw [hb4] at H2
  rw [hf] at H2 Hst Hst1
  have hu := Tryz.underlying195
  have hi := info_per
  have hlen : (row16 f).length = 16 := rfl
  have hmake := Hmake.out
  have hS0 : w2.rangeAt b4 0 (row16 f) ∧ b4 < w2.heap.size ∧ Nums w2 p ls := ⟨H2.out.range.1, H2.out.range.2, Hp.out.later Hb2.out⟩
  rw [hb4]
  go_cut [6] (fun s6 wx => ∃ (g gt go : Nat) (vl : Value), s6 = .pointer (some ⟨g, 0, none⟩) ∧ Aside (TreeMade wx w2.heap.size b4 ls f g gt go vl) ∧ Aside (Onw w2 wx))
  case first =>
    refine wp_region_held_drew (S := fun w' => w'.rangeAt b4 0 (row16 f) ∧ b4 < w'.heap.size ∧ Nums w' p ls) (by kernel_rfl) hS0 ?_
    have ho3 : Onw w2 w2.drew := (Onw.refl w2).drew
    obtain ⟨w3, hw3⟩ : ∃ w3, w2.drew = w3 := ⟨_, rfl⟩
    rw [hw3] at ho3
    rw [hw3]
    clear hw3
    intro hS
    refine wpAnyH_take (i := 0) (v := .slice p ls.length cap) rfl (by kernel_rfl) (by kernel_rfl) (by kernel_rfl) (fun _ _ _ h => h) (Or.inl ⟨by rfl, fun w hw => by go_simp⟩) hS ?_
    simp only [Act.put, List.getElem_toArray, List.getElem_cons_zero, List.setIfInBounds_toArray, List.set_cons_zero, List.set_cons_succ]
    refine wpAnyH_take (i := 2) (v := .slice p ls.length cap) rfl (by kernel_rfl) (by kernel_rfl) (by kernel_rfl) (fun _ _ _ h => h) (Or.inl ⟨by rfl, fun w hw => by go_simp⟩) hS ?_
    simp only [Act.put, List.getElem_toArray, List.getElem_cons_zero, List.getElem_cons_succ, List.setIfInBounds_toArray, List.set_cons_zero, List.set_cons_succ]
    refine wpAnyH_take (i := 3) (v := .agg (arr16 f)) rfl (by kernel_rfl) (by kernel_rfl) (by kernel_rfl) (fun _ _ _ h => h) (yieldsIf_load_mid (by rfl) _ _ rfl b4 0 rfl (row16 f) _ (fun w hw => hw.1) hu rfl (by rw [hlen]; exact hi)) hS ?_
    simp only [Act.put, List.getElem_toArray, List.getElem_cons_zero, List.getElem_cons_succ, List.setIfInBounds_toArray, List.set_cons_zero, List.set_cons_succ]
    refine wpAnyH_take (i := 6) (v := .agg #[.int .i64 (f 0 : Int), .int .i64 (f 1 : Int), .int .i64 (f 2 : Int), .int .i64 (f 3 : Int), .int .i64 (f 4 : Int), .int .i64 (f 5 : Int), .int .i64 (f 6 : Int), .int .i64 (f 7 : Int), .int .i64 (f 8 : Int), .int .i64 (f 9 : Int), .int .i64 (f 10 : Int), .int .i64 (f 11 : Int), .int .i64 (f 12 : Int), .int .i64 (f 13 : Int), .int .i64 (f 14 : Int), .int .i64 (f 15 : Int)]) rfl (by kernel_rfl) (by kernel_rfl) (by kernel_rfl) (fun _ _ _ h => h) (yieldsIf_load_mid (by rfl) _ _ rfl b4 0 rfl (row16 f) _ (fun w hw => hw.1) hu rfl (by rw [hlen]; exact hi)) hS ?_
    simp only [Act.put, List.getElem_toArray, List.getElem_cons_zero, List.getElem_cons_succ, List.setIfInBounds_toArray, List.set_cons_zero, List.set_cons_succ]
    refine wpAnyH_take (i := 7) (v := .slice p ls.length cap) rfl (by kernel_rfl) (by kernel_rfl) (by kernel_rfl) (fun _ _ _ h => h) (Or.inl ⟨by rfl, fun w hw => by go_simp⟩) hS ?_
    simp only [Act.put, List.getElem_toArray, List.getElem_cons_zero, List.getElem_cons_succ, List.setIfInBounds_toArray, List.set_cons_zero, List.set_cons_succ]
    refine wpAnyH_take (i := 8) (v := .int .i64 (ls.length : Int)) rfl (by kernel_rfl) (by kernel_rfl) (by kernel_rfl) (fun _ _ _ h => h) (Or.inl ⟨by rfl, fun w hw => by go_simp⟩) hS ?_
    simp only [Act.put, List.getElem_toArray, List.getElem_cons_zero, List.getElem_cons_succ, List.setIfInBounds_toArray, List.set_cons_zero, List.set_cons_succ]
    refine wpAnyH_ready (rs := [1, 9]) (by kernel_rfl) (by simp) ?_
    refine AllReadyH.cons rfl (fun K hK => ?_) (AllReadyH.cons rfl (fun K hK => ?_) AllReadyH.nil)
    · simp only [List.getElem_toArray, List.getElem_cons_zero, List.getElem_cons_succ]
      go_simp
      go_at_call 176
      refine (clone_ints p cap ls _ hl hS.2.2).mono ?_
      rintro e wc ⟨vl, rfl, hvl, hvb, hoc⟩
      obtain ⟨al, cl, rfl, _⟩ := hvl.form
      refine hK.out _ _ (held_on hS hoc) ?_
      clear hS hK
      intro hS
      try simp only [Act.put, List.setIfInBounds_toArray, List.set_cons_zero, List.set_cons_succ, List.getElem_toArray, List.getElem_cons_zero, List.getElem_cons_succ]
      refine wpAnyH_ready (rs := [4, 9]) (by kernel_rfl) (by simp) ?_
      refine AllReadyH.cons rfl (fun K hK => ?_) (AllReadyH.cons rfl (fun K hK => ?_) AllReadyH.nil)
      · simp only [List.getElem_toArray, List.getElem_cons_zero, List.getElem_cons_succ]
        go_simp
        go_at_call 178
        refine (Hst.out _).mono ?_
        rintro e ws ⟨rfl, hos⟩
        refine hK.out _ _ (held_on hS hos) ?_
        clear hS hK
        intro hS
        try simp only [Act.put, List.setIfInBounds_toArray, List.set_cons_zero, List.set_cons_succ, List.getElem_toArray, List.getElem_cons_zero, List.getElem_cons_succ]
        refine wpAnyH_ready (rs := [5, 9]) (by kernel_rfl) (by simp) ?_
        refine AllReadyH.cons rfl (fun K hK => ?_) (AllReadyH.cons rfl (fun K hK => ?_) AllReadyH.nil)
        · simp only [List.getElem_toArray, List.getElem_cons_zero, List.getElem_cons_succ]
          go_simp
          go_at_call 177
          refine (deal_on p cap ls _ _ hl Hall.out (fun l hl => startN_bound Hn.out (.inr rfl) hl) (dealN_two _) hS.2.2).mono ?_
          rintro e wd ⟨gt, rfl, hrd, hgd, hod⟩
          refine hK.out _ _ (held_on hS hod) ?_
          clear hS hK
          intro hS
          try simp only [Act.put, List.setIfInBounds_toArray, List.set_cons_zero, List.set_cons_succ, List.getElem_toArray, List.getElem_cons_zero, List.getElem_cons_succ]
          refine wpAnyH_ready (rs := [9]) (by kernel_rfl) (by simp) ?_
          refine AllReadyH.cons rfl (fun K hK => ?_) AllReadyH.nil
          simp only [List.getElem_toArray, List.getElem_cons_zero, List.getElem_cons_succ]
          go_simp
          refine hK.out _ _ (held_on hS ((Onw.refl _).alloc _)) ?_
          have hom : Onw wd (wd.alloc (.cells (cellsZ (asZ (List.replicate ls.length 0))).toArray 3)) := (Onw.refl _).alloc _
          have hrm : RowAt (wd.alloc (.cells (cellsZ (asZ (List.replicate ls.length 0))).toArray 3)) wd.heap.size (List.replicate ls.length 0) := heap_alloc_new _ _
          have hgm : (wd.alloc (.cells (cellsZ (asZ (List.replicate ls.length 0))).toArray 3)).heap.size = wd.heap.size + 1 := by simp
          obtain ⟨wm, hwm⟩ : ∃ wm, (wd.alloc (.cells (cellsZ (asZ (List.replicate ls.length 0))).toArray 3)) = wm := ⟨_, rfl⟩
          rw [hwm] at hom hrm hgm
          rw [hwm]
          obtain ⟨go, hgo⟩ : ∃ go, wd.heap.size = go := ⟨_, rfl⟩
          rw [hgo] at hrm hgm
          rw [hgo]
          clear hS hK
          intro hS
          try simp only [Act.put, List.setIfInBounds_toArray, List.set_cons_zero, List.set_cons_succ, List.getElem_toArray, List.getElem_cons_zero, List.getElem_cons_succ]
          have hAll : Onw w2 wm := Onw.trans ho3 (Onw.trans hoc (Onw.trans hos (Onw.trans hod hom)))
          have hV : Row64 wm (.slice al ls.length cl) ls := hvl.move fun k e => (Onw.trans hos (Onw.trans hod hom)).block k (hvl.lt k e)
          have hT : RowAt wm gt (codesN (natsOf ls)) := hrd.later hom
          have hO : RowAt wm go (List.replicate ls.length 0) := hrm.later (Onw.refl _)
          have zc := Onw.size hoc
          have zs := Onw.size hos
          have zd := Onw.size hod
          have zm := Onw.size hom
          have hvt := hvl.lt
          have htt := hrd.lt
          have hot := hrm.lt
          have z3 := Onw.size ho3
          have hD : w2.heap.size ≤ gt ∧ w2.heap.size ≤ go ∧ gt ≠ go ∧ gt < wm.heap.size ∧ go < wm.heap.size := by omega
          have hDV : ∀ k, (Value.slice al ls.length cl).ownBlock = some k → w2.heap.size ≤ k ∧ k ≠ gt ∧ k ≠ go ∧ k < wm.heap.size := fun k e => by
            have h1 := hvb k e
            have h2 := hvt k e
            omega
          clear hvl hvb hrd hgd hrm hgm hwm hgo hvt htt hot hoc hos hod hom zc zs zd zm z3
          obtain ⟨we, hwe⟩ : ∃ we, wm = we := ⟨_, rfl⟩
          rw [hwe] at hAll hV hT hO hD hDV hS
          rw [hwe]
          clear hwe
          refine wpAnyH_take (i := 10) (v := .agg (treeRow (.slice al ls.length cl) gt ls.length go ls.length ls.length f 0)) rfl (by kernel_rfl) (by kernel_rfl) (by kernel_rfl) (fun _ _ _ h => h) (Or.inl ⟨by rfl, fun w hw => ?_⟩) hS ?_
          · go_simp
            rfl
          simp only [Act.put, List.setIfInBounds_toArray, List.set_cons_zero, List.set_cons_succ, List.getElem_toArray, List.getElem_cons_zero, List.getElem_cons_succ]
          refine wpAnyH_ready (rs := [11]) (by kernel_rfl) (by simp) ?_
          refine AllReadyH.cons rfl (fun K hK => ?_) AllReadyH.nil
          simp only [List.getElem_toArray, List.getElem_cons_zero, List.getElem_cons_succ]
          go_simp
          refine hK.out _ _ (held_on hS ((Onw.refl _).alloc _)) ?_
          clear hK
          intro hS
          try simp only [Act.put, List.setIfInBounds_toArray, List.set_cons_zero, List.set_cons_succ, List.getElem_toArray, List.getElem_cons_zero, List.getElem_cons_succ]
          refine wpAnyH_take (i := 12) (v := .pointer (some ⟨we.heap.size, 0, none⟩)) rfl (by kernel_rfl) (by kernel_rfl) (by kernel_rfl) (fun _ _ _ h => h) (Or.inl ⟨by rfl, fun w hw => by go_simp⟩) hS ?_
          try simp only [Act.put, List.setIfInBounds_toArray, List.set_cons_zero, List.set_cons_succ, List.getElem_toArray, List.getElem_cons_zero, List.getElem_cons_succ]
          refine wpAnyH_done (by kernel_rfl) ?_ _
          go_wp2_with fail
          go_meet
          exact made_is hT hO hV (H2.out.later hAll) hD hDV hAll
        · simp only [List.getElem_toArray, List.getElem_cons_zero, List.getElem_cons_succ]
          go_simp
          refine hK.out _ _ (held_on hS ((Onw.refl _).alloc _)) ?_
          have hom : Onw ws (ws.alloc (.cells (cellsZ (asZ (List.replicate ls.length 0))).toArray 3)) := (Onw.refl _).alloc _
          have hrm : RowAt (ws.alloc (.cells (cellsZ (asZ (List.replicate ls.length 0))).toArray 3)) ws.heap.size (List.replicate ls.length 0) := heap_alloc_new _ _
          have hgm : (ws.alloc (.cells (cellsZ (asZ (List.replicate ls.length 0))).toArray 3)).heap.size = ws.heap.size + 1 := by simp
          obtain ⟨wm, hwm⟩ : ∃ wm, (ws.alloc (.cells (cellsZ (asZ (List.replicate ls.length 0))).toArray 3)) = wm := ⟨_, rfl⟩
          rw [hwm] at hom hrm hgm
          rw [hwm]
          obtain ⟨go, hgo⟩ : ∃ go, ws.heap.size = go := ⟨_, rfl⟩
          rw [hgo] at hrm hgm
          rw [hgo]
          clear hS hK
          intro hS
          try simp only [Act.put, List.setIfInBounds_toArray, List.set_cons_zero, List.set_cons_succ, List.getElem_toArray, List.getElem_cons_zero, List.getElem_cons_succ]
          refine wpAnyH_ready (rs := [5]) (by kernel_rfl) (by simp) ?_
          refine AllReadyH.cons rfl (fun K hK => ?_) AllReadyH.nil
          simp only [List.getElem_toArray, List.getElem_cons_zero, List.getElem_cons_succ]
          go_simp
          go_at_call 177
          refine (deal_on p cap ls _ _ hl Hall.out (fun l hl => startN_bound Hn.out (.inr rfl) hl) (dealN_two _) hS.2.2).mono ?_
          rintro e wd ⟨gt, rfl, hrd, hgd, hod⟩
          refine hK.out _ _ (held_on hS hod) ?_
          clear hS hK
          intro hS
          try simp only [Act.put, List.setIfInBounds_toArray, List.set_cons_zero, List.set_cons_succ, List.getElem_toArray, List.getElem_cons_zero, List.getElem_cons_succ]
          have hAll : Onw w2 wd := Onw.trans ho3 (Onw.trans hoc (Onw.trans hos (Onw.trans hom hod)))
          have hV : Row64 wd (.slice al ls.length cl) ls := hvl.move fun k e => (Onw.trans hos (Onw.trans hom hod)).block k (hvl.lt k e)
          have hT : RowAt wd gt (codesN (natsOf ls)) := hrd.later (Onw.refl _)
          have hO : RowAt wd go (List.replicate ls.length 0) := hrm.later hod
          have zc := Onw.size hoc
          have zs := Onw.size hos
          have zd := Onw.size hod
          have zm := Onw.size hom
          have hvt := hvl.lt
          have htt := hrd.lt
          have hot := hrm.lt
          have z3 := Onw.size ho3
          have hD : w2.heap.size ≤ gt ∧ w2.heap.size ≤ go ∧ gt ≠ go ∧ gt < wd.heap.size ∧ go < wd.heap.size := by omega
          have hDV : ∀ k, (Value.slice al ls.length cl).ownBlock = some k → w2.heap.size ≤ k ∧ k ≠ gt ∧ k ≠ go ∧ k < wd.heap.size := fun k e => by
            have h1 := hvb k e
            have h2 := hvt k e
            omega
          clear hvl hvb hrd hgd hrm hgm hwm hgo hvt htt hot hoc hos hod hom zc zs zd zm z3
          obtain ⟨we, hwe⟩ : ∃ we, wd = we := ⟨_, rfl⟩
          rw [hwe] at hAll hV hT hO hD hDV hS
          rw [hwe]
          clear hwe
          refine wpAnyH_take (i := 10) (v := .agg (treeRow (.slice al ls.length cl) gt ls.length go ls.length ls.length f 0)) rfl (by kernel_rfl) (by kernel_rfl) (by kernel_rfl) (fun _ _ _ h => h) (Or.inl ⟨by rfl, fun w hw => ?_⟩) hS ?_
          · go_simp
            rfl
          simp only [Act.put, List.setIfInBounds_toArray, List.set_cons_zero, List.set_cons_succ, List.getElem_toArray, List.getElem_cons_zero, List.getElem_cons_succ]
          refine wpAnyH_ready (rs := [11]) (by kernel_rfl) (by simp) ?_
          refine AllReadyH.cons rfl (fun K hK => ?_) AllReadyH.nil
          simp only [List.getElem_toArray, List.getElem_cons_zero, List.getElem_cons_succ]
          go_simp
          refine hK.out _ _ (held_on hS ((Onw.refl _).alloc _)) ?_
          clear hK
          intro hS
          try simp only [Act.put, List.setIfInBounds_toArray, List.set_cons_zero, List.set_cons_succ, List.getElem_toArray, List.getElem_cons_zero, List.getElem_cons_succ]
          refine wpAnyH_take (i := 12) (v := .pointer (some ⟨we.heap.size, 0, none⟩)) rfl (by kernel_rfl) (by kernel_rfl) (by kernel_rfl) (fun _ _ _ h => h) (Or.inl ⟨by rfl, fun w hw => by go_simp⟩) hS ?_
          try simp only [Act.put, List.setIfInBounds_toArray, List.set_cons_zero, List.set_cons_succ, List.getElem_toArray, List.getElem_cons_zero, List.getElem_cons_succ]
          refine wpAnyH_done (by kernel_rfl) ?_ _
          go_wp2_with fail
          go_meet
          exact made_is hT hO hV (H2.out.later hAll) hD hDV hAll
      · simp only [List.getElem_toArray, List.getElem_cons_zero, List.getElem_cons_succ]
        go_simp
        refine hK.out _ _ (held_on hS ((Onw.refl _).alloc _)) ?_
        have hom : Onw wc (wc.alloc (.cells (cellsZ (asZ (List.replicate ls.length 0))).toArray 3)) := (Onw.refl _).alloc _
        have hrm : RowAt (wc.alloc (.cells (cellsZ (asZ (List.replicate ls.length 0))).toArray 3)) wc.heap.size (List.replicate ls.length 0) := heap_alloc_new _ _
        have hgm : (wc.alloc (.cells (cellsZ (asZ (List.replicate ls.length 0))).toArray 3)).heap.size = wc.heap.size + 1 := by simp
        obtain ⟨wm, hwm⟩ : ∃ wm, (wc.alloc (.cells (cellsZ (asZ (List.replicate ls.length 0))).toArray 3)) = wm := ⟨_, rfl⟩
        rw [hwm] at hom hrm hgm
        rw [hwm]
        obtain ⟨go, hgo⟩ : ∃ go, wc.heap.size = go := ⟨_, rfl⟩
        rw [hgo] at hrm hgm
        rw [hgo]
        clear hS hK
        intro hS
        try simp only [Act.put, List.setIfInBounds_toArray, List.set_cons_zero, List.set_cons_succ, List.getElem_toArray, List.getElem_cons_zero, List.getElem_cons_succ]
        refine wpAnyH_ready (rs := [4]) (by kernel_rfl) (by simp) ?_
        refine AllReadyH.cons rfl (fun K hK => ?_) AllReadyH.nil
        simp only [List.getElem_toArray, List.getElem_cons_zero, List.getElem_cons_succ]
        go_simp
        go_at_call 178
        refine (Hst.out _).mono ?_
        rintro e ws ⟨rfl, hos⟩
        refine hK.out _ _ (held_on hS hos) ?_
        clear hS hK
        intro hS
        try simp only [Act.put, List.setIfInBounds_toArray, List.set_cons_zero, List.set_cons_succ, List.getElem_toArray, List.getElem_cons_zero, List.getElem_cons_succ]
        refine wpAnyH_ready (rs := [5]) (by kernel_rfl) (by simp) ?_
        refine AllReadyH.cons rfl (fun K hK => ?_) AllReadyH.nil
        simp only [List.getElem_toArray, List.getElem_cons_zero, List.getElem_cons_succ]
        go_simp
        go_at_call 177
        refine (deal_on p cap ls _ _ hl Hall.out (fun l hl => startN_bound Hn.out (.inr rfl) hl) (dealN_two _) hS.2.2).mono ?_
        rintro e wd ⟨gt, rfl, hrd, hgd, hod⟩
        refine hK.out _ _ (held_on hS hod) ?_
        clear hS hK
        intro hS
        try simp only [Act.put, List.setIfInBounds_toArray, List.set_cons_zero, List.set_cons_succ, List.getElem_toArray, List.getElem_cons_zero, List.getElem_cons_succ]
        have hAll : Onw w2 wd := Onw.trans ho3 (Onw.trans hoc (Onw.trans hom (Onw.trans hos hod)))
        have hV : Row64 wd (.slice al ls.length cl) ls := hvl.move fun k e => (Onw.trans hom (Onw.trans hos hod)).block k (hvl.lt k e)
        have hT : RowAt wd gt (codesN (natsOf ls)) := hrd.later (Onw.refl _)
        have hO : RowAt wd go (List.replicate ls.length 0) := hrm.later (Onw.trans hos hod)
        have zc := Onw.size hoc
        have zs := Onw.size hos
        have zd := Onw.size hod
        have zm := Onw.size hom
        have hvt := hvl.lt
        have htt := hrd.lt
        have hot := hrm.lt
        have z3 := Onw.size ho3
        have hD : w2.heap.size ≤ gt ∧ w2.heap.size ≤ go ∧ gt ≠ go ∧ gt < wd.heap.size ∧ go < wd.heap.size := by omega
        have hDV : ∀ k, (Value.slice al ls.length cl).ownBlock = some k → w2.heap.size ≤ k ∧ k ≠ gt ∧ k ≠ go ∧ k < wd.heap.size := fun k e => by
          have h1 := hvb k e
          have h2 := hvt k e
          omega
        clear hvl hvb hrd hgd hrm hgm hwm hgo hvt htt hot hoc hos hod hom zc zs zd zm z3
        obtain ⟨we, hwe⟩ : ∃ we, wd = we := ⟨_, rfl⟩
        rw [hwe] at hAll hV hT hO hD hDV hS
        rw [hwe]
        clear hwe
        refine wpAnyH_take (i := 10) (v := .agg (treeRow (.slice al ls.length cl) gt ls.length go ls.length ls.length f 0)) rfl (by kernel_rfl) (by kernel_rfl) (by kernel_rfl) (fun _ _ _ h => h) (Or.inl ⟨by rfl, fun w hw => ?_⟩) hS ?_
        · go_simp
          rfl
        simp only [Act.put, List.setIfInBounds_toArray, List.set_cons_zero, List.set_cons_succ, List.getElem_toArray, List.getElem_cons_zero, List.getElem_cons_succ]
        refine wpAnyH_ready (rs := [11]) (by kernel_rfl) (by simp) ?_
        refine AllReadyH.cons rfl (fun K hK => ?_) AllReadyH.nil
        simp only [List.getElem_toArray, List.getElem_cons_zero, List.getElem_cons_succ]
        go_simp
        refine hK.out _ _ (held_on hS ((Onw.refl _).alloc _)) ?_
        clear hK
        intro hS
        try simp only [Act.put, List.setIfInBounds_toArray, List.set_cons_zero, List.set_cons_succ, List.getElem_toArray, List.getElem_cons_zero, List.getElem_cons_succ]
        refine wpAnyH_take (i := 12) (v := .pointer (some ⟨we.heap.size, 0, none⟩)) rfl (by kernel_rfl) (by kernel_rfl) (by kernel_rfl) (fun _ _ _ h => h) (Or.inl ⟨by rfl, fun w hw => by go_simp⟩) hS ?_
        try simp only [Act.put, List.setIfInBounds_toArray, List.set_cons_zero, List.set_cons_succ, List.getElem_toArray, List.getElem_cons_zero, List.getElem_cons_succ]
        refine wpAnyH_done (by kernel_rfl) ?_ _
        go_wp2_with fail
        go_meet
        exact made_is hT hO hV (H2.out.later hAll) hD hDV hAll
    · simp only [List.getElem_toArray, List.getElem_cons_zero, List.getElem_cons_succ]
      go_simp
      refine hK.out _ _ (held_on hS ((Onw.refl _).alloc _)) ?_
      have hom : Onw w3 (w3.alloc (.cells (cellsZ (asZ (List.replicate ls.length 0))).toArray 3)) := (Onw.refl _).alloc _
      have hrm : RowAt (w3.alloc (.cells (cellsZ (asZ (List.replicate ls.length 0))).toArray 3)) w3.heap.size (List.replicate ls.length 0) := heap_alloc_new _ _
      have hgm : (w3.alloc (.cells (cellsZ (asZ (List.replicate ls.length 0))).toArray 3)).heap.size = w3.heap.size + 1 := by simp
      obtain ⟨wm, hwm⟩ : ∃ wm, (w3.alloc (.cells (cellsZ (asZ (List.replicate ls.length 0))).toArray 3)) = wm := ⟨_, rfl⟩
      rw [hwm] at hom hrm hgm
      rw [hwm]
      obtain ⟨go, hgo⟩ : ∃ go, w3.heap.size = go := ⟨_, rfl⟩
      rw [hgo] at hrm hgm
      rw [hgo]
      clear hS hK
      intro hS
      try simp only [Act.put, List.setIfInBounds_toArray, List.set_cons_zero, List.set_cons_succ, List.getElem_toArray, List.getElem_cons_zero, List.getElem_cons_succ]
      refine wpAnyH_ready (rs := [1]) (by kernel_rfl) (by simp) ?_
      refine AllReadyH.cons rfl (fun K hK => ?_) AllReadyH.nil
      simp only [List.getElem_toArray, List.getElem_cons_zero, List.getElem_cons_succ]
      go_simp
      go_at_call 176
      refine (clone_ints p cap ls _ hl hS.2.2).mono ?_
      rintro e wc ⟨vl, rfl, hvl, hvb, hoc⟩
      obtain ⟨al, cl, rfl, _⟩ := hvl.form
      refine hK.out _ _ (held_on hS hoc) ?_
      clear hS hK
      intro hS
      try simp only [Act.put, List.setIfInBounds_toArray, List.set_cons_zero, List.set_cons_succ, List.getElem_toArray, List.getElem_cons_zero, List.getElem_cons_succ]
      refine wpAnyH_ready (rs := [4]) (by kernel_rfl) (by simp) ?_
      refine AllReadyH.cons rfl (fun K hK => ?_) AllReadyH.nil
      simp only [List.getElem_toArray, List.getElem_cons_zero, List.getElem_cons_succ]
      go_simp
      go_at_call 178
      refine (Hst.out _).mono ?_
      rintro e ws ⟨rfl, hos⟩
      refine hK.out _ _ (held_on hS hos) ?_
      clear hS hK
      intro hS
      try simp only [Act.put, List.setIfInBounds_toArray, List.set_cons_zero, List.set_cons_succ, List.getElem_toArray, List.getElem_cons_zero, List.getElem_cons_succ]
      refine wpAnyH_ready (rs := [5]) (by kernel_rfl) (by simp) ?_
      refine AllReadyH.cons rfl (fun K hK => ?_) AllReadyH.nil
      simp only [List.getElem_toArray, List.getElem_cons_zero, List.getElem_cons_succ]
      go_simp
      go_at_call 177
      refine (deal_on p cap ls _ _ hl Hall.out (fun l hl => startN_bound Hn.out (.inr rfl) hl) (dealN_two _) hS.2.2).mono ?_
      rintro e wd ⟨gt, rfl, hrd, hgd, hod⟩
      refine hK.out _ _ (held_on hS hod) ?_
      clear hS hK
      intro hS
      try simp only [Act.put, List.setIfInBounds_toArray, List.set_cons_zero, List.set_cons_succ, List.getElem_toArray, List.getElem_cons_zero, List.getElem_cons_succ]
      have hAll : Onw w2 wd := Onw.trans ho3 (Onw.trans hom (Onw.trans hoc (Onw.trans hos hod)))
      have hV : Row64 wd (.slice al ls.length cl) ls := hvl.move fun k e => (Onw.trans hos hod).block k (hvl.lt k e)
      have hT : RowAt wd gt (codesN (natsOf ls)) := hrd.later (Onw.refl _)
      have hO : RowAt wd go (List.replicate ls.length 0) := hrm.later (Onw.trans hoc (Onw.trans hos hod))
      have zc := Onw.size hoc
      have zs := Onw.size hos
      have zd := Onw.size hod
      have zm := Onw.size hom
      have hvt := hvl.lt
      have htt := hrd.lt
      have hot := hrm.lt
      have z3 := Onw.size ho3
      have hD : w2.heap.size ≤ gt ∧ w2.heap.size ≤ go ∧ gt ≠ go ∧ gt < wd.heap.size ∧ go < wd.heap.size := by omega
      have hDV : ∀ k, (Value.slice al ls.length cl).ownBlock = some k → w2.heap.size ≤ k ∧ k ≠ gt ∧ k ≠ go ∧ k < wd.heap.size := fun k e => by
        have h1 := hvb k e
        have h2 := hvt k e
        omega
      clear hvl hvb hrd hgd hrm hgm hwm hgo hvt htt hot hoc hos hod hom zc zs zd zm z3
      obtain ⟨we, hwe⟩ : ∃ we, wd = we := ⟨_, rfl⟩
      rw [hwe] at hAll hV hT hO hD hDV hS
      rw [hwe]
      clear hwe
      refine wpAnyH_take (i := 10) (v := .agg (treeRow (.slice al ls.length cl) gt ls.length go ls.length ls.length f 0)) rfl (by kernel_rfl) (by kernel_rfl) (by kernel_rfl) (fun _ _ _ h => h) (Or.inl ⟨by rfl, fun w hw => ?_⟩) hS ?_
      · go_simp
        rfl
      simp only [Act.put, List.setIfInBounds_toArray, List.set_cons_zero, List.set_cons_succ, List.getElem_toArray, List.getElem_cons_zero, List.getElem_cons_succ]
      refine wpAnyH_ready (rs := [11]) (by kernel_rfl) (by simp) ?_
      refine AllReadyH.cons rfl (fun K hK => ?_) AllReadyH.nil
      simp only [List.getElem_toArray, List.getElem_cons_zero, List.getElem_cons_succ]
      go_simp
      refine hK.out _ _ (held_on hS ((Onw.refl _).alloc _)) ?_
      clear hK
      intro hS
      try simp only [Act.put, List.setIfInBounds_toArray, List.set_cons_zero, List.set_cons_succ, List.getElem_toArray, List.getElem_cons_zero, List.getElem_cons_succ]
      refine wpAnyH_take (i := 12) (v := .pointer (some ⟨we.heap.size, 0, none⟩)) rfl (by kernel_rfl) (by kernel_rfl) (by kernel_rfl) (fun _ _ _ h => h) (Or.inl ⟨by rfl, fun w hw => by go_simp⟩) hS ?_
      try simp only [Act.put, List.setIfInBounds_toArray, List.set_cons_zero, List.set_cons_succ, List.getElem_toArray, List.getElem_cons_zero, List.getElem_cons_succ]
      refine wpAnyH_done (by kernel_rfl) ?_ _
      go_wp2_with fail
      go_meet
      exact made_is hT hO hV (H2.out.later hAll) hD hDV hAll
  case rest =>
    obtain ⟨g, gt, go, vl, rfl, HM, HO⟩ := hcut
    obtain ⟨pl, hpl⟩ : ∃ pl, dealN (natsOf ls) (startN (natsOf ls) 1) = pl := ⟨_, rfl⟩
    have Hpl := Lib.hid hpl
    clear hS0 hmake hi hlen hu hpl hb4
    have Hb3 : Hid (Below w.heap.size w wc) := Lib.hid (Hb2.out.trans (Below.mono HO.out Hb2.out.size))
    have HA4 : Hid (ArrAt wc b4 f) := Lib.hid HM.out.2.2.2.2.1
    go_wp2_with (with_reducible first
      | refine ArrAt.load rfl (.tmp 4) rfl b4 _ rfl HA4.out ?_)
    refine (Hst1.out _).mono ?_
    rintro en w5 ⟨rfl, ho5⟩
    have Ho5 : Hid (Onw wc w5) := Lib.hid ho5
    clear ho5
    go_wp2_with fail
    refine (deal_on p cap ls _ _ hl Hall.out (fun l hl => startN_bound Hn.out (.inl rfl) hl) Hpl.out (Hp.out.later (Hb3.out.trans (Below.mono Ho5.out Hb3.out.size)))).mono ?_
    rintro en w6 ⟨gp, rfl, hrp, hgp, ho6⟩
    have Ho6 : Hid (Onw wc w6) := Lib.hid (Ho5.out.trans ho6)
    have Hb6 : Hid (Below w.heap.size w w6) := Lib.hid (Hb3.out.trans (Below.mono Ho6.out Hb3.out.size))
    have Hrp := Lib.hid hrp
    have HM6 : Hid (TreeCell w6 g vl gt ls.length go ls.length ls.length f 0 ∧ Row64 w6 vl ls ∧ RowAt w6 gt (codesN (natsOf ls)) ∧ RowAt w6 go (List.replicate ls.length 0)) := Lib.hid
      ⟨(Below.block Ho6.out g HM.out.1.lt).trans HM.out.1, HM.out.2.1.move fun k e => Below.block Ho6.out k (HM.out.2.1.lt k e), HM.out.2.2.1.later Ho6.out, HM.out.2.2.2.1.later Ho6.out⟩
    have HD : Hid ((w.heap.size ≤ g ∧ w.heap.size ≤ gt ∧ w.heap.size ≤ go ∧ g ≠ gt ∧ g ≠ go ∧ gt ≠ go ∧ gp ≠ g ∧ gp ≠ gt ∧ gp ≠ go) ∧ ∀ k, vl.ownBlock = some k → w.heap.size ≤ k ∧ k ≠ g ∧ k ≠ gt ∧ k ≠ go) := Lib.hid (by
      have z2 := Hb2.out.size
      have z5 := Ho5.out.size
      have d := HM.out.2.2.2.2.2.1
      have l1 := HM.out.1.lt
      have l2 := HM.out.2.2.1.lt
      have l3 := HM.out.2.2.2.1.lt
      refine ⟨by omega, fun k e => ?_⟩
      have := HM.out.2.2.2.2.2.2 k e
      omega)
    clear hrp hgp ho6
    go_wp2_with fail
    go_loopg [36] ls.length (fun gg s36 wx => ∃ (j L : Nat) (ords : List Nat), j + gg = ls.length ∧ s36 = .int .i64 (j : Int) ∧ Aside (TreeCell wx g vl gt ls.length go ls.length ls.length f L ∧ Row64 wx vl ls ∧ RowAt wx gt (turnN (natsOf ls) j) ∧ RowAt wx go ords ∧ RowAt wx gp pl ∧ Ordered (natsOf ls) j ords ∧ longZ (ls.take j) = (L : Int) ∧ L ≤ 15) ∧ Aside (Below w.heap.size w wx))
    case atStart =>
      refine ⟨0, 0, List.replicate ls.length 0, by omega, rfl, ⟨HM6.out.1, HM6.out.2.1, by rw [turnN_none]; exact HM6.out.2.2.1, HM6.out.2.2.2, Hrp.out, ?_, rfl, by omega⟩, Hb6.out⟩
      have := ordered_none (natsOf ls)
      rwa [natsOf_length] at this
    case round =>
      obtain ⟨j, L, ords, hjg, rfl, HI, Hb⟩ := hrel
      cases gk with
      | zero =>
        obtain rfl : j = ls.length := by omega
        go_wp2_with fail
        go_ret2
        refine ⟨g, treeF g gt go vl, rfl, ⟨vl, gt, ls.length, go, ls.length, L, ords, rfl, ⟨by rw [HF.out]; exact HI.out.1, HI.out.2.1, HI.out.2.2.1, HI.out.2.2.2.1⟩, HI.out.2.2.2.2.2.1, ?_⟩, fun k hk => ?_, Hb.out⟩
        · have := HI.out.2.2.2.2.2.2.1
          rwa [List.take_length] at this
        · have d := HD.out.1
          rcases treeF_mem hk with rfl | rfl | rfl | hk
          · exact d.1
          · exact d.2.1
          · exact d.2.2.1
          · exact (HD.out.2 k hk).1
      | succ gg =>
        have hj : j < ls.length := by omega
        have hjz : (j : Int) < (ls.length : Int) := by omega
        obtain ⟨b, off, rfl, hc⟩ := (Hp.out.later Hb.out).at j hj
        obtain ⟨v, hv⟩ : ∃ v, ls[j]?.getD 0 = v := ⟨_, rfl⟩
        rw [hv] at hc
        have hv0 : 0 ≤ v ∧ v ≤ 15 := by
          have h1 := hv
          rw [List.getElem?_eq_getElem hj] at h1
          simp only [Option.getD_some] at h1
          have := Hall.out _ (List.getElem_mem hj)
          rwa [h1] at this
        obtain ⟨n, rfl⟩ := Int.eq_ofNat_of_zero_le hv0.1
        have hjn : j < (natsOf ls).length := by rw [natsOf_length]; exact hj
        have hns : (natsOf ls)[j]? = some n := by
          have := natsOf_at hj
          rw [hv, Int.toNat_natCast, List.getElem?_eq_getElem hjn] at this
          rw [List.getElem?_eq_getElem hjn]
          simpa using this
        have hlong : longZ (ls.take (j + 1)) = max (L : Int) (n : Int) := by rw [take_more hj hv, longZ_snoc, HI.out.2.2.2.2.2.2.1]
        by_cases hn0 : n = 0
        · subst hn0
          have HI2 : Hid (RowAt wr gt (turnN (natsOf ls) (j + 1)) ∧ Ordered (natsOf ls) (j + 1) ords ∧ longZ (ls.take (j + 1)) = (L : Int)) := Lib.hid
            ⟨by rw [turnN_skip hns]; exact HI.out.2.2.1, HI.out.2.2.2.2.2.1.skip hns, by rw [hlong]; omega⟩
          clear hlong hns hjn hv0 hv
          go_wp2_with fail
          go_roundg gg
          case measure => omega
          case rel => exact ⟨j + 1, L, ords, by omega, by go_num, ⟨HI.out.1, HI.out.2.1, HI2.out.1, HI.out.2.2.2.1, HI.out.2.2.2.2.1, HI2.out.2.1, HI2.out.2.2, HI.out.2.2.2.2.2.2.2⟩, Hb.out⟩
        · obtain ⟨m, rfl⟩ : ∃ m, n = m + 1 := ⟨n - 1, by omega⟩
          have hnz : (((m + 1 : Nat) : Int) == 0) = false := by rw [beq_eq_false_iff_ne]; omega
          obtain ⟨hm15, hcl⟩ := codeAt_lt Hall.out Hk.out hns
          have Hns := Lib.hid hns
          obtain ⟨x, hx⟩ : ∃ x, codeAt (natsOf ls) j = x := ⟨_, rfl⟩
          have Hx := Lib.hid hx
          have hcx : (turnN (natsOf ls) j)[j]? = some x := by rw [turnN_at hjn]; unfold turnAt; rw [if_neg (by omega), hx]
          have hcl2 : x < 2 ^ (m + 1) := by rw [← hx]; exact hcl
          obtain ⟨l, hl1⟩ : ∃ l, m + 1 = l := ⟨_, rfl⟩
          have hplace : pl[j]? = some (placeAt (natsOf ls) j) := by rw [← Hpl.out]; unfold dealN; rw [List.getElem?_map, List.getElem?_range hjn]; rfl
          have hpl2 := placeAt_lt hns
          rw [natsOf_length] at hpl2
          rw [hl1] at hnz hm15 hcl2 hc hlong
          have Htu := Lib.hid (fun W => turn_any x l W (by omega) hcl2)
          have Hcell := Lib.hid hcx
          have Hplace := Lib.hid hplace
          have Hset : Hid ((turnN (natsOf ls) j).set j (revN l x) = turnN (natsOf ls) (j + 1)) := Lib.hid (by rw [← hx, ← hl1]; exact turnN_set hns)
          have Hlong := Lib.hid hlong
          have Hl1 := Lib.hid hl1
          have t1 := HI.out.1.turned
          have t2 := HI.out.2.2.1.cell hcx
          have f2 := HI.out.2.2.1.free j
          clear hlong hns hjn hv0 hv hcl hcl2 hx hcx hplace hl1 hn0
          go_upto_region 10 with fail
          go_cut [] (fun wx => Aside (TreeCell wx g vl gt ls.length go ls.length ls.length f L ∧ Row64 wx vl ls ∧ RowAt wx gt (turnN (natsOf ls) (j + 1)) ∧ RowAt wx go ords ∧ RowAt wx gp pl) ∧ Aside (Below w.heap.size w wx))
          case first =>
            go_region_with (go_at_call 179; refine (Htu.out _).mono ?_; rintro e w7 ⟨rfl, q, rfl⟩)
            all_goals
              go_wp2_with fail
              go_meet
              exact turned_is HI.out.1 HI.out.2.1 HI.out.2.2.1 HI.out.2.2.2.1 HI.out.2.2.2.2.1 HD.out.1 HD.out.2 Hset.out _ Hb.out
          case rest =>
            obtain ⟨HI2, Hb2'⟩ := hcut
            obtain ⟨pj, hpj⟩ : ∃ pj, placeAt (natsOf ls) j = pj := ⟨_, rfl⟩
            rw [hpj] at hpl2 Hplace
            have hol : ords.length = ls.length := by rw [HI.out.2.2.2.2.2.1.1, natsOf_length]
            obtain ⟨y, hy⟩ : ∃ y, ords[pj]? = some y := ⟨_, List.getElem?_eq_getElem (by rw [hol]; exact hpl2)⟩
            have k1 := HI2.out.1.ordered
            have k2 := HI2.out.2.2.2.2.cell Hplace.out
            have k3 := HI2.out.2.2.2.1.cell hy
            have k4 := HI2.out.2.2.2.1.free pj
            have Hord : Hid (Ordered (natsOf ls) (j + 1) (ords.set pj j)) := Lib.hid (by rw [← hpj]; exact HI.out.2.2.2.2.2.1.more Hns.out)
            have hpz : (pj : Int) < (ls.length : Int) := by omega
            clear hpj hol hy t1 t2 f2
            go_upto_region 11 with fail
            go_cut [] (fun wx => Aside (TreeCell wx g vl gt ls.length go ls.length ls.length f L ∧ Row64 wx vl ls ∧ RowAt wx gt (turnN (natsOf ls) (j + 1)) ∧ RowAt wx go (ords.set pj j) ∧ RowAt wx gp pl) ∧ Aside (Below w.heap.size w wx))
            case first =>
              go_region
              all_goals
                go_wp2_with fail
                go_meet
                exact ordered_is HI2.out.1 HI2.out.2.1 HI2.out.2.2.1 HI2.out.2.2.2.1 HI2.out.2.2.2.2 HD.out.1 HD.out.2 pj j 1 Hb2'.out
            case rest =>
              obtain ⟨HI3, Hb3'⟩ := hcut
              obtain ⟨L2, hL2⟩ : ∃ L2 : Nat, max (L : Int) (l : Int) = (L2 : Int) := ⟨max L l, by omega⟩
              have hL15 : L2 ≤ 15 := by have := HI.out.2.2.2.2.2.2.2; omega
              have HL2 : Hid (longZ (ls.take (j + 1)) = (L2 : Int)) := Lib.hid (by rw [Hlong.out, hL2])
              have q1 := HI3.out.1.longest
              have q2 := HI3.out.1.free 18
              have hmax : IntKind.i64.wrap (max (L : Int) (l : Int)) = (L2 : Int) := by rw [hL2]; exact IntWalk.i64_in _ (by omega)
              clear k1 k2 k3 k4
              go_wp2_with fail
              go_roundg gg
              case measure => omega
              case rel =>
                have e : ∀ k, k ≠ g → (wc.setCell ⟨g, 18, none⟩ (.int .i64 (L2 : Int))).heap[k]? = wc.heap[k]? := fun k hk => heap_setCell_other wc ⟨g, 18, none⟩ k _ hk
                have d := HD.out.1
                exact ⟨j + 1, L2, ords.set pj j, by omega, by go_num, ⟨HI3.out.1.more L2, HI3.out.2.1.move fun k hk => e k (HD.out.2 k hk).2.1, (e gt (by omega)).trans HI3.out.2.2.1, (e go (by omega)).trans HI3.out.2.2.2.1, (e gp (by omega)).trans HI3.out.2.2.2.2, Hord.out, HL2.out, hL15⟩, Hb3'.out.setCell (by simp; omega) _⟩
end Go.Proofs.YtiiiokikmjgliaaGreatDoor
