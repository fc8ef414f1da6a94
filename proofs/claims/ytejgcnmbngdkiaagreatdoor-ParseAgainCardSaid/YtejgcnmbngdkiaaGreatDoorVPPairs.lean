/-
  The program's: pairs by rising keys, plain, of one key the first one, without null.
-/
import Derived.Test.YtejgcnmbngdkiaaGreatDoorNEl
import Derived.Test.YtejgcnmbngdkiaaGreatDoorNCm
import Derived.Test.YtejgcnmbngdkiaaGreatDoorNRPl
import Derived.Deep.RegionLaw
namespace Go.Proofs.YtejgcnmbngdkiaaGreatDoor
open Go.RowKit
set_option maxRecDepth 100000

/-- One pair is put behind a row's, as a step of a region that draws. -/
theorem step_append_P {ops : Array Oper} {o : Oper} {a : Act} {w : World} {K : Act → World → Prop} {Q : Exit → Act → World → Prop} {E : Prop} (hgd : o.guard = none) (s x : Operand)
    (ho : o.op = .call { callee := .builtin .append, args := #[s, x], argTypes := #[23, 23] })
    (B : Nat) (p : Option Addr) (cap : Nat) (xs : List Hp) (hs : a.eval s = .slice p xs.length cap) (hown : OwnP w B p cap xs) (y : Hp) (b c : Nat) (hx : a.eval x = .slice (some ⟨b, 0, none⟩) 1 c)
    (hy : w.heap[b]? = some (.cells y.arr 42 (0, 0))) (hlen : xs.length ≤ 100000000) (W0 : World) (hb : Below B W0 w) (hB : B ≤ w.heap.size)
    (h : ∀ g cap' w', Hid (OwnP w' B (some ⟨g, 0, none⟩) cap' (xs ++ [y])) → Hid (Below B W0 w') → Hid (∀ k, k < w.heap.size → (∀ q, p = some q → k ≠ q.block) → w'.heap[k]? = w.heap[k]?) → Hid ((p = some ⟨g, 0, none⟩ ∨ g = w.heap.size) ∧ w.heap.size ≤ w'.heap.size) →
      K (a.put o.dst (.slice (some ⟨g, 0, none⟩) (xs.length + 1) cap')) w') : if Region.wanted o (yielded ops a.tmps) = true then Oper.wp Tryz.prog o a w K Q else E := by
  obtain ⟨i0, hi, hz0, hz1, hz2⟩ := info_parts infoP
  refine step_append_lies w hgd s x 23 ho B 42 i0 _ 7 104 Tryz.underlying23 hi hz0 hz1 hz2 rfl (by decide) _ _ _ hs hown ⟨b, 0, none⟩ 1 c y.cells hx rfl (fun j u hu => World.news_of_block hy j u (by rw [show y.arr.toList = y.cells from rfl]; exact hu)) y.one (by decide) (by unfold maxLen; omega) (by omega) hB _ rfl ?_
  intro g' cap' w' hown' hgrow hat hlt
  have e : xs.length + 1 = (xs ++ [y]).length := by rw [List.length_append]; rfl
  refine h g' cap' w' (Lib.hid ?_) (Lib.hid (hb.grown hgrow hB (fun k ek => (World.ownsRow.lt hown k ek).1))) (Lib.hid fun k hk hne => hgrow.block k hk (fun e => ?_)) (Lib.hid ⟨?_, hgrow.size⟩)
  · unfold OwnP
    rw [flatP_snoc, ← e]
    exact hown'
  · cases p with
    | none => cases e
    | some q => exact hne q rfl (by injection e with e)
  · rcases hat with hat | hat
    · left
      rcases hown.2 with ⟨h2, _⟩ | ⟨g2, c2, cur, hv, _⟩
      · rw [h2] at hat; cases hat
      · injection hv with e1 _ _
        rw [e1] at hat ⊢
        have : g2 = g' := by injection hat
        rw [this]
    · exact .inr hat

/-- Nothing is sorted. -/
theorem stable_none (w : World) : Calls Tryz.prog 37 #[.slice none 0 0, .func (.func 38) #[] #[]] w fun e w' => e = .returned (.tuple #[]) ∧ Below w.heap.size w w' := by
  have h70 : ∀ W, Calls Tryz.prog 86 #[.slice none 0 0, .int .i64 0, .int .i64 0, .func (.func 38) #[] #[]] W fun e w' => e = .returned (.tuple #[]) ∧ Below W.heap.size W w' := fun W => by
    go_enter Tryz.func86, Tryz.ntmps86
    go_wp2_with fail
    refine wp_loop_once ?_
    go_wp2_with fail
    go_end0
    exact ⟨rfl, Below.refl _ _⟩
  have H70 := Lib.hid h70
  clear h70
  have h67 : ∀ W, Calls Tryz.prog 62 #[.slice none 0 0, .int .i64 0, .func (.func 38) #[] #[]] W fun e w' => e = .returned (.tuple #[]) ∧ Below W.heap.size W w' := fun W => by
    go_enter Tryz.func62, Tryz.ntmps62
    go_wp2_with fail
    refine wp_loop_once ?_
    go_wp2_with fail
    refine (H70.out W).mono ?_
    rintro e w1 ⟨rfl, hb⟩
    have Hb := Lib.hid hb
    clear hb
    go_wp2_with fail
    refine wp_loop_once ?_
    go_wp2_with fail
    go_end0
    exact ⟨rfl, Hb.out⟩
  have H67 := Lib.hid h67
  clear h67
  go_enter Tryz.func37, Tryz.ntmps37
  go_wp2_with fail
  refine (H67.out w).mono ?_
  rintro e w1 ⟨rfl, hb⟩
  have Hb := Lib.hid hb
  clear hb
  go_wp2_with fail
  go_end0
  exact ⟨rfl, Hb.out⟩
/-- Nothing is compacted. -/
theorem compact_none (w : World) : Calls Tryz.prog 40 #[.slice none 0 0, .func (.func 41) #[] #[]] w fun e w' => e = .returned (.slice none 0 0) ∧ Below w.heap.size w w' := by
  go_enter Tryz.func40, Tryz.ntmps40
  go_wp2
  go_ret
  exact ⟨rfl, Below.refl _ _⟩

theorem rise_sub {d : Prs} {p : ByteArray × Val} (h : p ∈ riseD d) : p ∈ d := by
  obtain ⟨a, x⟩ := p
  have h6 := rise_first (riseD_rise _) h
  rw [riseD_first] at h6
  exact firstD_mem h6
theorem rise_len (d : Prs) : (riseD d).length ≤ d.length := by
  have h := fold_length d []
  simpa [riseD] using h
/-- The row sorted, as the library does it. -/
theorem psort_is {w : World} {B g cap : Nat} {ys : List Hp} (hO : OwnP w B (some ⟨g, 0, none⟩) cap ys) (hlen : ys.length ≤ 100000000) :
    Calls Tryz.prog 37 #[.slice (some ⟨g, 0, none⟩) ys.length cap, .func (.func 38) #[] #[]] w fun e w' => e = .returned (.tuple #[]) ∧
      ∃ d1, Go.Sort.PermIn 0 (tagd ys).size (tagd ys) d1 ∧ Go.Sort.SortedIn (lx (Go.Proofs.ltOf cfK) Prod.fst) 0 (tagd ys).size d1 ∧ SWK elCells 7 w g 0 d1 w' := by
  have h := sortStable_K sortL Tryz.ins86 elCells cfK Prod.fst swo_cfK 38 #[] g 0 cap (tagd ys) w (fun args W => Tryz.call38 args W) (cmp_lays g 0 _ w) hO.rowK (by rw [tagd_size]; omega) (tagd_up ys)
  rw [tagd_size ys] at h ⊢
  exact h
/-- Compacted, as the library does it. -/
theorem pcompact_is {w w1 : World} {B g cap : Nat} {ys : List Hp} {d1 : Array El} (hO : OwnP w B (some ⟨g, 0, none⟩) cap ys) (hlen : ys.length ≤ 100000000) (hsz : d1.size = ys.length) (h1 : SWK elCells 7 w g 0 d1 w1) :
    Calls Tryz.prog 40 #[.slice (some ⟨g, 0, none⟩) ys.length cap, .func (.func 41) #[] #[]] w1 fun e w' => e = .returned (.slice (some ⟨g, 0, none⟩) (cpU efK d1 d1.size).length cap) ∧
      ∃ d2, d2.size = d1.size ∧ (∀ j, j < (cpU efK d1 d1.size).length → (cpU efK d1 d1.size)[j]? = some d2[j]!) ∧ SWK elCells 7 w1 g 0 d2 w' := by
  have R := hO.rowK
  have R1 : RowK elCells 7 w1 g 0 d1 := ⟨R.hk, R.h1, h1.holds R.hblk R.hH (by rw [hsz, tagd_size]), h1.lt R.hblk⟩
  have h := compact_K compL efK (0, ⟨⟨#[]⟩, Hv.nil⟩) (fun W => by kernel_rfl) 41 #[] cap d1 w1 (fun args W => Tryz.call41 args W) (fun x y W => cmp2_any x.2 y.2 W) R1 (by rw [hsz]; omega) (by rw [hsz]; exact hO.form.1.1)
  rw [hsz] at h ⊢
  exact h

set_option maxHeartbeats 8000000 in
theorem ppairs_of (d : Prs) (ih : ∀ p ∈ d, PPlainC p.2) (hfit : ∀ p ∈ d, Fit p.2 4000 ∧ p.1.size ≤ 100000) (hlen : d.length ≤ 4000) (sl : Sl) (w : World) (S : Nat → Prop) (hD : RdD w S sl d) (hS : ∀ k, S k → k < w.heap.size) :
    Calls Tryz.prog 23 #[.slice sl.p sl.len sl.cap] w fun e w' => ∃ p q c, e = .returned (.slice p q c) ∧ RdD w' (fun k => w.heap.size ≤ k) ⟨p, q, c⟩ (pairsV (mapD plainV d)) ∧ Below w.heap.size w w' := by
  obtain ⟨dp, dl, dc⟩ := sl
  obtain ⟨ys, hyl, hyd, hyc, hyr⟩ := hD.list
  subst hyl
  have hys : ys.length ≤ 4000 := by omega
  have Hyd := Lib.hid hyd
  have Hyr := Lib.hid hyr
  have HS := Lib.hid hS
  have Hih := Lib.hid ih
  have Hfit := Lib.hid hfit
  have Hcl := Lib.hid (pclone_is dp dc ys w (by omega) (fun h => by
    obtain ⟨b, off, e, hb, hc⟩ := hyc h
    exact ⟨b, off, e, hS _ hb, hc⟩))
  have Hlen := Lib.hid hlen
  rw [pairsV_mapD]
  clear hD hS ih hfit hlen hyc hyd hyr
  show Calls Tryz.prog 23 #[.slice dp ys.length dc] w _
  go_enter Tryz.func23, Tryz.ntmps23
  go_wp2_with fail
  refine Hcl.out.mono ?_
  rintro e w1 ⟨p1, cap1, rfl, hO1, hb1⟩
  have HO1 := Lib.hid hO1
  have Hb1 := Lib.hid hb1
  clear Hcl hb1
  cases p1 with
  | none =>
    obtain ⟨hf1, g, hf2, -⟩ := hO1.form
    have hl0 : ys.length = 0 := by
      rcases Nat.eq_zero_or_pos ys.length with h | h
      · exact h
      · have := (hf2 (by omega)).1; cases this
    have hd0 : d = [] := List.eq_nil_of_length_eq_zero (by rw [← Hyd.out, hl0])
    have hc0 : cap1 = 0 := by
      rcases hO1.2 with ⟨h2, _⟩ | ⟨g2, c2, cur, hv, _⟩
      · injection h2
      · injection hv with e1; cases e1
    have hy0 : ys = [] := List.eq_nil_of_length_eq_zero hl0
    subst hd0 hc0 hy0
    clear hO1 hf1 hf2 hl0 hys
    have H2 := Lib.hid (stable_none w1)
    go_wp2_with fail
    refine H2.out.mono ?_
    rintro e w2 ⟨rfl, hb2⟩
    have Hb2 := Lib.hid hb2
    have H3 := Lib.hid (compact_none w2)
    clear hb2
    go_wp2_with fail
    refine H3.out.mono ?_
    rintro e w3 ⟨rfl, hb3⟩
    have Hb3 := Lib.hid hb3
    clear hb3
    go_wp2_with fail
    refine wp_loop_once ?_
    go_wp2_with fail
    go_ret
    exact ⟨none, 0, 0, rfl, RdD.nil _ _ none 0 (Nat.zero_le _), Hb1.out.trans ((Hb2.out.trans (Hb3.out.mono Hb2.out.size)).mono Hb1.out.size)⟩
  | some a =>
    have ha : ∃ g, a = ⟨g, 0, none⟩ := by
      rcases hO1.2 with ⟨h2, _⟩ | ⟨g2, c2, cur, hv, _⟩
      · cases h2
      · injection hv with e1; injection e1 with e1; exact ⟨g2, e1⟩
    obtain ⟨g, rfl⟩ := ha
    have hcap := hO1.form.1
    have Hcap := Lib.hid hcap
    have H2 := Lib.hid (psort_is hO1 (by omega))
    clear hO1 hcap
    go_wp2_with fail
    refine H2.out.mono ?_
    rintro e w2 ⟨rfl, d1, hperm, hsort, hk1⟩
    have hsz1 : d1.size = ys.length := by rw [hperm.1, tagd_size]
    have H3 := Lib.hid (pcompact_is HO1.out (by omega) hsz1 hk1)
    obtain ⟨n, hn⟩ : ∃ n, (cpU efK d1 d1.size).length = n := ⟨_, rfl⟩
    rw [hn] at H3
    have Hperm := Lib.hid hperm
    have Hsort := Lib.hid hsort
    have Hk1 := Lib.hid hk1
    have Hn := Lib.hid hn
    have Hsz1 := Lib.hid hsz1
    clear hperm hsort hk1 hn hsz1 H2
    go_wp2_with fail
    refine H3.out.mono ?_
    rintro e w3 ⟨rfl, d2, hd2, hlow, hk2⟩
    have hgl : w.heap.size ≤ g ∧ g < w1.heap.size := HO1.out.lt _ rfl
    have hbs2 := (swk_below Hk1.out w.heap.size hgl.1 Hb1.out.size).1
    have hbs3 := (swk_below hk2 w.heap.size hgl.1 (Nat.le_trans Hb1.out.size hbs2.size)).1
    have hBw : Below w.heap.size w w3 := Hb1.out.trans (hbs2.trans hbs3)
    have hnle : n ≤ ys.length := by
      rw [← Hn.out, ← Hsz1.out]
      unfold cpU
      rw [List.length_map]
      exact Nat.le_trans (List.length_filter_le _ _) (by simp)
    have hRD : RdD w3 (fun k => S k ∨ k = g) ⟨some ⟨g, 0, none⟩, n, cap1⟩ (riseD d) :=
      compacted HO1.out Hyd.out (fun i h h' => ⟨(Hyr.out i h h').1, (Hyr.out i h h').2.later (below_old HS.out Hb1.out)⟩) (fun k hk => ⟨Nat.lt_of_lt_of_le (HS.out k hk) Hb1.out.size, by have := HS.out k hk; omega⟩) Hperm.out Hsort.out Hk1.out Hn.out hd2 hlow hk2 (by have := Hcap.out.1; omega) Hcap.out.2
    have hg3 : g < w3.heap.size := Nat.lt_of_lt_of_le hgl.2 (Nat.le_trans Hk1.out.le hk2.le)
    have hS3 : ∀ k, S k ∨ k = g → k < w3.heap.size := fun k hk => hk.elim (fun h => Nat.lt_of_lt_of_le (HS.out k h) hBw.size) (fun h => h ▸ hg3)
    have hih2 : ∀ p ∈ riseD d, PPlainC p.2 := fun p hp => Hih.out p (rise_sub hp)
    have hfit2 : ∀ p ∈ riseD d, Fit p.2 4000 ∧ p.1.size ≤ 100000 := fun p hp => Hfit.out p (rise_sub hp)
    obtain ⟨R, hR⟩ : ∃ R, riseD d = R := ⟨_, rfl⟩
    rw [hR] at hRD hih2 hfit2
    obtain ⟨hrl, -⟩ := hRD.len_le
    dsimp only at hrl
    have hn4 : n ≤ 4000 := by omega
    have HR := Lib.hid hR
    have HRD := Lib.hid hRD
    have HS3 := Lib.hid hS3
    have Hih2 := Lib.hid hih2
    have Hfit2 := Lib.hid hfit2
    have Hrl := Lib.hid hrl
    have HBw := Lib.hid hBw
    have HX0 := Lib.hid (RowP.void w3 w3.heap.size)
    have HB0 := Lib.hid (Below.refl w3.heap.size w3)
    clear hd2 hlow hk2 hgl hbs2 hbs3 hBw hnle hRD hg3 hS3 hih2 hfit2 hR hrl Hih Hfit HO1 Hyr Hperm Hsort Hk1 Hn H3 Hcap hys
    go_wp2_with fail
    go_loopg [4, 16] n (fun f s4 s16 wr => ∃ (i : Nat) (p : Option Addr) (cap : Nat) (xs : List Hp), s16 = .int .i64 i ∧ s4 = .slice p xs.length cap ∧ i ≤ n ∧ n ≤ f + i ∧ xs.length ≤ i ∧
      Aside (RowP wr w3.heap.size p cap xs ((mapD plainV (R.take i)).filter (fun p => some0 p.2))) ∧ Aside (Below w3.heap.size w3 wr))
    case atStart => exact ⟨0, none, 0, [], rfl, rfl, Nat.zero_le _, Nat.le_refl _, Nat.le_refl _, HX0.out, HB0.out⟩
    case round =>
      obtain ⟨i, p, cap, xs, rfl, rfl, hi, hf, hxl, HX, HB⟩ := hrel
      by_cases hil : i < n
      · obtain ⟨lb, lo, ⟨zk, ⟨yk, yn, yg, yt, ⟨ylp, yll, ylc⟩, ⟨ydp, ydl, ydc⟩⟩⟩, hiv, h3, h4, ⟨e0, h5⟩, hky, h6⟩ := (HRD.out.later (below_old HS3.out HB.out)).at hil
        injection h3 with h3
        injection h3 with h3a h3b
        subst h3a h3b
        obtain ⟨e1, e2, e3, e4, e5, e6⟩ := h5
        dsimp only at e0 e1 e2 e3 e4 e5 e6 h6 hky
        simp only [Nat.zero_add, Nat.add_assoc, Nat.reduceAdd] at e0 e1 e2 e3 e4 e5 e6
        have hbx : ∀ o : Obj, Below wr.heap.size wr (wr.alloc o) := fun o => (Below.refl _ wr).alloc (Nat.le_refl _) _
        have Hc := Lib.hid (fun o => Hih2.out _ (List.getElem_mem hiv) ⟨yk, yn, yg, yt, ⟨ylp, yll, ylc⟩, ⟨ydp, ydl, ydc⟩⟩ (wr.alloc o) _ (h6.later (below_old (old_later HS3.out HB.out) (hbx o))) (old_later (old_later HS3.out HB.out) (hbx o)) (Hfit2.out _ (List.getElem_mem hiv)).1)
        have hzk : zk.size ≤ 100000 := by rw [hky]; exact (Hfit2.out _ (List.getElem_mem hiv)).2
        obtain ⟨q, hq⟩ : ∃ q, q = R[i] := ⟨_, rfl⟩
        rw [← hq] at Hc hky
        have Htk : Hid (mapD plainV (R.take (i + 1)) = mapD plainV (R.take i) ++ [(zk, plainV q.2)]) := Lib.hid (by
          rw [List.take_add_one, List.getElem?_eq_getElem hiv, ← hq, Option.toList_some, hky]
          unfold mapD
          rw [List.map_append]
          rfl)
        have HBX := Lib.hid hbx
        clear h4 h6 hbx hky hq
        go_wp2_with fail
        obtain ⟨wb, hwb⟩ : ∃ wb, wr.alloc (.cells #[.string zk, .int .i64 yk, .int .i64 yn, .int .i64 yg, .string yt, .slice ylp yll ylc, .slice ydp ydl ydc] 42) = wb := ⟨_, rfl⟩
        have hkb : wb.cell? ⟨wr.heap.size, 0, none⟩ = some (.string zk) := by rw [← hwb, World.cell?_alloc_new]; rfl
        have hbb : Below wr.heap.size wr wb := by rw [← hwb]; exact HBX.out _
        have hltb : wr.heap.size < wb.heap.size := by rw [← hwb]; simp
        have hcb := Hc.out (.cells #[.string zk, .int .i64 yk, .int .i64 yn, .int .i64 yg, .string yt, .slice ylp yll ylc, .slice ydp ydl ydc] 42)
        rw [hwb] at hcb ⊢
        refine hcb.mono ?_
        rintro e w5 ⟨⟨vk, vn, vg, vs, ⟨vlp, vll, vlc⟩, ⟨vdp, vdl, vdc⟩⟩, he, hy, hb5⟩
        replace he : e = .returned (.agg #[.int .i64 vk, .int .i64 vn, .int .i64 vg, .string vs, .slice vlp vll vlc, .slice vdp vdl vdc]) := he
        subst he
        have hb5r : Below wr.heap.size wr w5 := hbb.trans (hb5.mono hbb.size)
        have hk5 : w5.cell? ⟨wr.heap.size, 0, none⟩ = some (.string zk) := (hb5.cell (p := ⟨wr.heap.size, 0, none⟩) hltb).trans hkb
        have hlt5 : wr.heap.size < w5.heap.size := Nat.lt_of_lt_of_le hltb hb5.size
        have HY : Hid (Rd w5 (fun k => wr.heap.size ≤ k) ⟨vk, vn, vg, vs, ⟨vlp, vll, vlc⟩, ⟨vdp, vdl, vdc⟩⟩ (plainV q.2)) := Lib.hid (hy.mono (fun k hk => Nat.le_trans hbb.size hk))
        have hvk : vk = (plainV q.2).kind := (rd_iff.1 hy).1.1
        obtain ⟨w6, hw6⟩ : ∃ w6, w5.alloc (.cells #[.int .i64 vk, .int .i64 vn, .int .i64 vg, .string vs, .slice vlp vll vlc, .slice vdp vdl vdc] 25) = w6 := ⟨_, rfl⟩
        have hb6 : Below w5.heap.size w5 w6 := by rw [← hw6]; exact (Below.refl _ _).alloc (Nat.le_refl _) _
        have hv6 : VCell w6 w5.heap.size ⟨vk, vn, vg, vs, ⟨vlp, vll, vlc⟩, ⟨vdp, vdl, vdc⟩⟩ := by rw [← hw6]; exact heap_alloc_new w5 _
        have hk6 : w6.cell? ⟨wr.heap.size, 0, none⟩ = some (.string zk) := (hb6.cell (p := ⟨wr.heap.size, 0, none⟩) hlt5).trans hk5
        have hb6r : Below wr.heap.size wr w6 := hb5r.trans (hb6.mono hb5r.size)
        have HY6 : Hid (Rd w6 (fun k => wr.heap.size ≤ k) ⟨vk, vn, vg, vs, ⟨vlp, vll, vlc⟩, ⟨vdp, vdl, vdc⟩⟩ (plainV q.2)) := Lib.hid ((HY.out.carry hb6).mono (fun k hk => hk.1))
        have HB6 := Lib.hid (HB.out.trans (hb6r.mono HB.out.size))
        have Hb6r := Lib.hid hb6r
        have HW6 := Lib.hid hw6
        have Hv6 := Lib.hid hv6
        have Hvk := Lib.hid hvk
        have hlt6 : wr.heap.size < w6.heap.size := Nat.lt_of_lt_of_le hlt5 hb6.size
        have hltv : w5.heap.size < w6.heap.size := by rw [← hw6]; simp
        clear hwb hkb hbb hltb hcb hy hb5 hb5r hw6 hb6 hv6 hb6r hvk HY Hc HBX e0 e1 e2 e3 e4 e5 e6
        by_cases hz : vk = 0
        · have hs0 : some0 (plainV q.2) = false := by unfold some0; rw [← Hvk.out, hz]; rfl
          have Hnew : Hid ((mapD plainV (R.take (i + 1))).filter (fun p => some0 p.2) = (mapD plainV (R.take i)).filter (fun p => some0 p.2)) := Lib.hid (by
            rw [Htk.out, List.filter_append, List.filter_cons, if_neg (by dsimp only; rw [hs0]; decide), List.filter_nil, List.append_nil])
          subst hz
          clear hs0 Hvk
          go_wp2
          go_roundg (n - (i + 1))
          case measure => omega
          case rel => exact ⟨i + 1, p, cap, xs, by go_num, rfl, by omega, by omega, by omega, (show Aside _ from by rw [Hnew.out, HW6.out]; exact HX.out.later Hb6r.out), (show Aside _ from by rw [HW6.out]; exact HB6.out)⟩
        · have hs1 : some0 (plainV q.2) = true := by unfold some0; rw [← Hvk.out]; exact decide_eq_true hz
          have Hnew : Hid ((mapD plainV (R.take (i + 1))).filter (fun p => some0 p.2) = (mapD plainV (R.take i)).filter (fun p => some0 p.2) ++ [(zk, plainV q.2)]) := Lib.hid (by
            rw [Htk.out, List.filter_append, List.filter_cons, if_pos (by dsimp only; exact hs1), List.filter_nil])
          have hz' : (vk != 0) = true := by simpa using hz
          have Hcl := Lib.hid (fun W => sclone_is zk W (by omega))
          have hcells : ∀ W : World, W.heap[w5.heap.size]? = w6.heap[w5.heap.size]? → W.cell? ⟨w5.heap.size, 0, none⟩ = some (.int .i64 vk) ∧ W.cell? ⟨w5.heap.size, 1, none⟩ = some (.int .i64 vn) ∧ W.cell? ⟨w5.heap.size, 2, none⟩ = some (.int .i64 vg) ∧ W.cell? ⟨w5.heap.size, 3, none⟩ = some (.string vs) ∧ W.cell? ⟨w5.heap.size, 4, none⟩ = some (.slice vlp vll vlc) ∧ W.cell? ⟨w5.heap.size, 5, none⟩ = some (.slice vdp vdl vdc) := fun W hW => (Hv6.out.same hW).at
          have Hcells := Lib.hid hcells
          obtain ⟨f0, f1, f2, f3, f4, f5⟩ := hcells w6.drew rfl
          have hk6d : w6.drew.cell? ⟨wr.heap.size, 0, none⟩ = some (.string zk) := hk6
          clear hs1 hz Hvk hk5 hcells
          go_wp2_with fail
          rw [HW6.out]
          go_region_law (first
            | (refine step_append_P rfl (.tmp 26) (.tmp 32) rfl w3.heap.size p cap xs rfl ((HX.out.1.later Hbr7.out).alloc _) ⟨zk, ⟨vk, vn, vg, vs, ⟨vlp, vll, vlc⟩, ⟨vdp, vdl, vdc⟩⟩⟩ w7.heap.size 1 rfl (heap_alloc_new w7 _) (by omega) w3 (HB7.out.alloc HB7.out.size _) (by have := HB7.out.size; simp; omega) ?_
               intro g' cap' w8 HO8 HB8 HK8 HF8)
            | (go_simp
               go_at_call 21
               refine (Hcl.out w6.drew).mono ?_
               rintro e w7 ⟨rfl, hb7d⟩
               have hb7 : Below w6.heap.size w6 w7 := ⟨hb7d.os, hb7d.tape, hb7d.output, hb7d.size, hb7d.block⟩
               have HB7 := Lib.hid (HB6.out.trans (hb7.mono HB6.out.size))
               have Hbr7 := Lib.hid (Hb6r.out.trans (hb7.mono Hb6r.out.size))
               have Hb67 := Lib.hid hb7
               obtain ⟨x0, x1, x2, x3, x4, x5⟩ := Hcells.out w7 (hb7.block _ hltv)
               clear hb7d hb7))
          all_goals
            go_wp2
            have e : (xs ++ [(⟨zk, ⟨vk, vn, vg, vs, ⟨vlp, vll, vlc⟩, ⟨vdp, vdl, vdc⟩⟩⟩ : Hp)]).length = xs.length + 1 := by rw [List.length_append]; rfl
            go_roundg (n - (i + 1))
            case measure => omega
            case rel =>
              refine ⟨i + 1, _, cap', _, by go_num, by rw [e], by omega, by omega, by rw [e]; omega, (show Aside _ from ?_), HB8.out⟩
              rw [Hnew.out]
              have hal : Below w7.heap.size w7 (w7.alloc (.cells #[.string zk, .int .i64 vk, .int .i64 vn, .int .i64 vg, .string vs, .slice vlp vll vlc, .slice vdp vdl vdc] 42)) := (Below.refl _ _).alloc (Nat.le_refl _) _
              exact HX.out.snoc (Hbr7.out.trans (hal.mono Hbr7.out.size)) (y := ⟨zk, ⟨vk, vn, vg, vs, ⟨vlp, vll, vlc⟩, ⟨vdp, vdl, vdc⟩⟩⟩) (u := (zk, plainV q.2)) ⟨rfl, (((HY6.out.carry Hb67.out).mono (fun k hk => hk.1)).carry hal).mono (fun k hk => hk.1)⟩ HB.out.size HO8.out HK8.out HF8.out
      · have htk : R.take i = R := List.take_of_length_le (by have := Hrl.out; omega)
        rw [htk, ← HR.out] at HX
        go_wp2
        go_ret
        exact ⟨p, xs.length, cap, rfl, HX.out.read.mono (fun k hk => Nat.le_trans HBw.out.size hk), HBw.out.trans (HB.out.mono HBw.out.size)⟩
end Go.Proofs.YtejgcnmbngdkiaaGreatDoor
