/-
  The walk of CodesBack.
-/
import Derived.Test.YtahanllbaclokaaCodeLaws4
import Derived.Test.YtahanllbaclokaaCodeLaws5
import Derived.Maps.AppendAt
namespace Go.Proofs.Ytahanllbaclokaa
open Go.RowKit

/-- A symbol has a code. -/
def hasC (ls : List Int) (k : Int) : Bool := decide (0 ≤ k ∧ 0 < ls[k.toNat]?.getD 0)
/-- The bits of symbols that have codes. -/
def rowC (ls : List Int) : List Int → List Nat
  | [] => []
  | k :: r => codeBits (ls[k.toNat]?.getD 0).toNat (codeAt (natsOf ls) k.toNat) ++ rowC ls r
theorem rowC_append (ls : List Int) : ∀ a b : List Int, rowC ls (a ++ b) = rowC ls a ++ rowC ls b
  | [], _ => rfl
  | k :: r, b => by rw [List.cons_append, rowC, rowC, rowC_append ls r b, List.append_assoc]
theorem writeC_has {ls : List Int} {row : List Nat} {k : Int} (h : hasC ls k = true) : writeC ls row k = (row ++ rowC ls [k], 0) := by
  unfold hasC at h
  unfold writeC
  rw [if_pos (by simpa using h), rowC, rowC, List.append_nil]
theorem writeC_none {ls : List Int} {row : List Nat} {k : Int} (h : hasC ls k = false) : writeC ls row k = (row, 12) := by
  unfold hasC at h
  unfold writeC
  rw [if_neg (by simpa using h)]
theorem hasC_at {ls : List Int} {k : Int} (h : hasC ls k = true) : ∃ i n : Nat, k = (i : Int) ∧ ls[i]? = some ((n + 1 : Nat) : Int) := by
  unfold hasC at h
  obtain ⟨h0, h1⟩ := of_decide_eq_true h
  obtain ⟨i, rfl⟩ := Int.eq_ofNat_of_zero_le h0
  rw [Int.toNat_natCast] at h1
  rcases Nat.lt_or_ge i ls.length with hi | hi
  · rw [List.getElem?_eq_getElem hi, Option.getD_some] at h1
    refine ⟨i, ls[i].toNat - 1, rfl, ?_⟩
    rw [List.getElem?_eq_getElem hi]
    congr 1; omega
  · rw [List.getElem?_eq_none hi] at h1
    exact absurd h1 (by decide)
theorem le_foldl {ls : List Int} : ∀ (m : Int), m ≤ ls.foldl max m ∧ ∀ l ∈ ls, l ≤ ls.foldl max m := by
  induction ls with
  | nil => intro m; exact ⟨Int.le_refl _, fun l h => by cases h⟩
  | cons a r ih =>
    intro m
    obtain ⟨h1, h2⟩ := ih (max m a)
    rw [List.foldl_cons]
    refine ⟨by omega, fun l hl => ?_⟩
    rcases List.mem_cons.1 hl with rfl | hl
    · omega
    · exact h2 l hl
/-- What is written is read. -/
theorem read_next {ls : List Int} (hg : ls.length ≤ 320 ∧ (∀ l ∈ ls, 0 ≤ l ∧ l ≤ 15) ∧ kraft ls ≤ 32768) {L : Nat} (hL : longZ ls = (L : Int)) {bs : List Nat} {a b : List Int} {k : Int} {tail : List Nat} (hbs : bs = rowC ls (a ++ k :: b) ++ tail) (hk : hasC ls k = true) :
    readC ls (codesN (natsOf ls)) L 0 0 (bs.drop (rowC ls a).length) = (k, (rowC ls [k]).length, 0) := by
  obtain ⟨i, n, rfl, hi⟩ := hasC_at hk
  have hnL : n + 1 ≤ L := by
    have := (le_foldl (ls := ls) 0).2 _ (List.mem_of_getElem? hi)
    unfold longZ at hL
    omega
  have e : rowC ls [(i : Int)] = codeBits (n + 1) (codeAt (natsOf ls) i) := by
    rw [rowC, rowC, List.append_nil, Int.toNat_natCast, hi, Option.getD_some, Int.toNat_natCast]
  rw [hbs, rowC_append, show (i : Int) :: b = [(i : Int)] ++ b from rfl, rowC_append, List.append_assoc, List.append_assoc, List.drop_left, e, codeBits_length]
  exact read_whole hg.2.1 hg.2.2 hi hnL _
theorem rowC_two (ls : List Int) : ∀ (a : List Int), ∀ x ∈ rowC ls a, x < 2
  | [], x, h => by cases h
  | k :: r, x, h => by
    rw [rowC] at h
    rcases List.mem_append.1 h with h | h
    · exact codeBits_two _ _ x h
    · exact rowC_two ls r x h
theorem rowC_le {ls : List Int} (hl : ∀ l ∈ ls, 0 ≤ l ∧ l ≤ 15) : ∀ (a : List Int), (rowC ls a).length ≤ 15 * a.length
  | [] => by simp [rowC]
  | k :: r => by
    have ih := rowC_le hl r
    rw [rowC, List.length_append, codeBits_length, List.length_cons]
    rcases Nat.lt_or_ge k.toNat ls.length with hk | hk
    · have := hl _ (List.getElem_mem hk)
      rw [List.getElem?_eq_getElem hk, Option.getD_some]; omega
    · rw [List.getElem?_eq_none hk, Option.getD_none]
      simp; omega

/-- Numbers that a call gathered, behind whichever block they lie. -/
def Rows64 (w : World) (B : Nat) (v : Value) (l : List Int) : Prop := w.ownsRow B 3 1 v l.length (cellsZ l)
theorem Rows64.nil (w : World) (B : Nat) : Rows64 w B (.slice none 0 0) [] := World.ownsRow_nil _ _ _ _
theorem Rows64.move {w w' : World} {B : Nat} {v : Value} {l : List Int} (h : Rows64 w B v l) (hk : ∀ k, v.ownBlock = some k → w'.heap[k]? = w.heap[k]?) : Rows64 w' B v l := owns_move h hk
theorem Rows64.lt {w : World} {B : Nat} {v : Value} {l : List Int} (h : Rows64 w B v l) : ∀ k, v.ownBlock = some k → B ≤ k ∧ k < w.heap.size := fun k e => World.ownsRow.lt h k e
theorem Rows64.form {w : World} {B : Nat} {v : Value} {l : List Int} (h : Rows64 w B v l) : ∃ a cap, v = .slice a l.length cap ∧ Nums w a l := by
  have h' := h
  rcases h.2 with ⟨rfl, h0⟩ | ⟨g, cap, cur, rfl, _⟩
  · exact ⟨none, 0, by rw [h0], .inl (List.eq_nil_of_length_eq_zero h0)⟩
  · refine ⟨some ⟨g, 0, none⟩, cap, rfl, .inr ⟨g, 0, rfl, fun i hi => ?_⟩⟩
    have hcell := World.ownsRow.cells h' (g := g) rfl i (.int .i64 (l[i]?.getD 0)) (by
      rw [cellsZ_at hi, List.getElem?_eq_getElem hi]; rfl)
    have e : (⟨g, 0, none⟩ : Addr).add i = ⟨g, 0 + i, none⟩ := by unfold Addr.add; split <;> simp_all
    rw [e] at hcell
    exact hcell
theorem wpList_append_rows {ops : Array Oper} {rest : List Oper} {o : Oper} {a : Act} {w : World} {Q : Exit → Act → World → Prop} (hgd : o.guard = none) (s x : Operand)
    (ho : o.op = .call { callee := .builtin .append, args := #[s, x], argTypes := #[22, 22] })
    (B : Nat) (v : Value) (l : List Int) (hs : a.eval s = v) (hown : Rows64 w B v l)
    (ad : Addr) (c : Nat) (k : Int) (hx : a.eval x = .slice (some ad) 1 c) (hnews : ∀ j (h : j < [k].length), w.cell? (ad.add j) = some (.int .i64 ([k][j] : Int)))
    (hlen : l.length + 1 ≤ 1000000) (hB : B ≤ w.heap.size)
    (h : ∀ v' w', Hid (Rows64 w' B v' (l ++ [k])) → Hid (w.grownBy w' v.ownBlock) → Hid (v'.ownBlock = v.ownBlock ∨ v'.ownBlock = some w.heap.size) → wpList Try.prog ops Q rest (a.put o.dst v') w') : wpList Try.prog ops Q (o :: rest) a w := by
  obtain ⟨i0, hi, hz0, hz1, hz2⟩ := info_parts info64
  refine wpList_append_own_at w hgd s x 22 ho B 3 i0 (.int .i64 0) 1 8 Try.underlying22 hi hz0 hz1 hz2 rfl (by decide) v l.length (cellsZ l) hs hown ad 1 c (cellsZ [k]) hx rfl ?_ (cellsZ_one _) (by unfold maxLen; omega) (by omega) hB ?_
  · intro j u hj
    have hl : j < [k].length := by
      have := (List.getElem?_eq_some_iff.1 hj).1
      rwa [cellsZ_length] at this
    rw [cellsZ_at hl] at hj
    rw [← hj]; exact hnews j hl
  · intro v' w' hown' hgrow _ hat
    refine h v' w' (Lib.hid ?_) (Lib.hid hgrow) (Lib.hid hat)
    unfold Rows64
    rw [cellsZ_append, List.length_append]
    exact hown'


theorem filter_has {ls ks : List Int} {i : Nat} {v : Int} (hi : i < ks.length) (hv : ks[i]?.getD 0 = v) (h : hasC ls v = true) : (ks.take (i + 1)).filter (hasC ls) = (ks.take i).filter (hasC ls) ++ [v] := by
  rw [take_more hi hv, List.filter_append]
  simp [h]
theorem filter_none {ls ks : List Int} {i : Nat} {v : Int} (hi : i < ks.length) (hv : ks[i]?.getD 0 = v) (h : hasC ls v = false) : (ks.take (i + 1)).filter (hasC ls) = (ks.take i).filter (hasC ls) := by
  rw [take_more hi hv, List.filter_append]
  simp [h]
theorem filter_len (ls ks : List Int) (i : Nat) : ((ks.take i).filter (hasC ls)).length ≤ i := by
  have h1 := List.length_filter_le (hasC ls) (ks.take i)
  rw [List.length_take] at h1
  omega
/-- A writer that is put to, and what was put, side by side. -/
def Putting (w : World) (b B : Nat) (ls puts : List Int) (v : Value) (F : List Nat) : Prop :=
  WriterAt w b (rowC ls puts) F ∧ Rows64 w B v puts ∧ (∀ k, v.ownBlock = some k → k ∉ F) ∧ ∀ k ∈ F, B ≤ k

set_option maxRecDepth 100000 in
set_option maxHeartbeats 4000000 in
theorem cback_walk (p1 p2 : Option Addr) (cap1 cap2 : Nat) (ls ks : List Int) (w : World) (hz1 : ls.length ≤ 9223372036854775807) (hz2 : ks.length ≤ 9223372036854775807) (hi1 : Ints ls) (hi2 : Ints ks) (hp1 : Nums w p1 ls) (hp2 : Nums w p2 ks) :
    Calls Try.prog 6 #[.slice p1 ls.length cap1, .slice p2 ks.length cap2] w (Yes w) := by
  have Hp1 := Lib.hid hp1
  have Hp2 := Lib.hid hp2
  have Hi1 := Lib.hid hi1
  have Hi2 := Lib.hid hi2
  clear hp1 hp2 hi1 hi2
  by_cases hbig : (320 : Int) < (ls.length : Int)
  · go_enter Try.func6, Try.ntmps6
    go_wp2_with fail
    refine (trees_any _).mono ?_
    rintro e w1 ⟨rfl, hb⟩
    have Hb1 := Lib.hid hb
    clear hb
    go_wp2_with fail
    go_ret
    exact ⟨rfl, Hb1.out⟩
  · by_cases hbig2 : (60 : Int) < (ks.length : Int)
    · go_enter Try.func6, Try.ntmps6
      go_wp2_with fail
      refine (trees_any _).mono ?_
      rintro e w1 ⟨rfl, hb⟩
      have Hb1 := Lib.hid hb
      clear hb
      go_wp2_with fail
      go_ret
      exact ⟨rfl, Hb1.out⟩
    · have hl : ls.length ≤ 320 := by omega
      have hlk : ks.length ≤ 60 := by omega
      obtain ⟨e, he⟩ : ∃ e, refusedZ ls = e := ⟨_, rfl⟩
      by_cases hz0 : e = 0
      · subst hz0
        have He := Lib.hid he
        have Hg := Lib.hid (refusedZ_zero he)
        obtain ⟨L, hL, hL15⟩ := longZ_nat Hg.out.2.1
        have HL := Lib.hid hL
        clear he hL
        go_enter Try.func6, Try.ntmps6
        go_wp2_with fail
        refine (tNew_good _ cap1 ls.length ls _ rfl Hp1.out He.out).mono ?_
        rintro e w2 ⟨t, T, rfl, ht, hT, hb⟩
        have Hb2 := Lib.hid hb
        have Ht2 := Lib.hid ht
        have Hp22 := Lib.hid (Hp2.out.later hb)
        clear ht hT hb
        go_wp2_with fail
        go_loopg [8, 9] ks.length (fun gg s8 s9 wx => ∃ (i : Nat) (F : List Nat), i + gg = ks.length ∧ s9 = .int .i64 (i : Int) ∧ Aside (Putting wx w2.heap.size w2.heap.size ls ((ks.take i).filter (hasC ls)) s8 F) ∧ Aside (Below w2.heap.size w2 wx))
        case atStart =>
          refine ⟨0, [w2.heap.size], by omega, rfl, (⟨writer_new w2, Rows64.nil _ _, ?_, ?_⟩ : Putting _ _ _ _ _ _ _), (Below.refl _ w2).alloc (Nat.le_refl _) _⟩
          · intro k h; cases h
          · intro k hk; rw [mem_one hk]; exact Nat.le_refl _
        case round =>
          obtain ⟨i, F, hig, rfl, HP, Hb⟩ := hrel
          obtain ⟨puts, hputs⟩ : ∃ puts, (ks.take i).filter (hasC ls) = puts := ⟨_, rfl⟩
          have hpl : puts.length ≤ i := by rw [← hputs]; exact filter_len ls ks i
          rw [hputs] at HP
          have hrl := rowC_le Hg.out.2.1 puts
          cases gk with
          | succ gg =>
            have hi : i < ks.length := by omega
            have hiz : (i : Int) < (ks.length : Int) := by omega
            obtain ⟨b, off, rfl, hc⟩ := (Hp22.out.later Hb.out).at i hi
            obtain ⟨v, hv⟩ : ∃ v, ks[i]?.getD 0 = v := ⟨_, rfl⟩
            have hvi := Hi2.out i hi
            rw [hv] at hc hvi
            have hv0 := hvi.1
            have hv1 := hvi.2
            have hdis : ∀ k ∈ T, k ∉ F := fun k hk hm => by have := HP.out.2.2.2 k hm; have := Ht2.out.lt k hk; omega
            cases hh : hasC ls v
            · have Hf : Hid ((ks.take (i + 1)).filter (hasC ls) = puts) := Lib.hid (by rw [filter_none hi hv hh, hputs])
              have Hw := Lib.hid (tWrite_is t _ T w2.heap.size _ F v wr He.out (Ht2.out.later Hb.out) HP.out.1 (rowC_two ls puts) (by omega) hdis hv0 hv1 (writeC_none hh))
              clear hv hvi hh hdis hputs hrl
              go_wp2_with fail
              refine Hw.out.mono ?_
              rintro e w4 ⟨rfl, F4, hw, ht⟩
              have Hb4 : Hid (Below w2.heap.size w2 w4) := Lib.hid (Hb.out.trans (ht.below Hb.out.size HP.out.2.2.2))
              have HP4 : Hid (Putting w4 w2.heap.size w2.heap.size ls puts u8 F4) := Lib.hid
                ⟨hw, HP.out.2.1.move fun k hk => (ht.out (HP.out.2.1.lt k hk).2 (HP.out.2.2.1 k hk)).1, fun k hk => (ht.out (HP.out.2.1.lt k hk).2 (HP.out.2.2.1 k hk)).2, ht.more Hb.out.size HP.out.2.2.2⟩
              clear hw ht Hw
              go_wp2_with fail
              go_roundg gg
              case measure => omega
              case rel => exact ⟨i + 1, F4, by omega, by go_num, by rw [Hf.out]; exact HP4.out, Hb4.out⟩
            · have Hf : Hid ((ks.take (i + 1)).filter (hasC ls) = puts ++ [v]) := Lib.hid (by rw [filter_has hi hv hh, hputs])
              have Hw := Lib.hid (tWrite_is t _ T w2.heap.size _ F v wr He.out (Ht2.out.later Hb.out) HP.out.1 (rowC_two ls puts) (by omega) hdis hv0 hv1 (writeC_has hh))
              have hv2 := hv
              clear hv hvi hh hdis hputs hrl
              go_wp2_with fail
              refine Hw.out.mono ?_
              rintro e w4 ⟨rfl, F4, hw, ht⟩
              have Hb4 : Hid (Below w2.heap.size w2 w4) := Lib.hid (Hb.out.trans (ht.below Hb.out.size HP.out.2.2.2))
              have HP4 : Hid (WriterAt w4 w2.heap.size (rowC ls puts ++ rowC ls [v]) F4 ∧ Rows64 w4 w2.heap.size u8 puts ∧ (∀ k, u8.ownBlock = some k → k ∉ F4) ∧ ∀ k ∈ F4, w2.heap.size ≤ k) := Lib.hid
                ⟨hw, HP.out.2.1.move fun k hk => (ht.out (HP.out.2.1.lt k hk).2 (HP.out.2.2.1 k hk)).1, fun k hk => (ht.out (HP.out.2.1.lt k hk).2 (HP.out.2.2.1 k hk)).2, ht.more Hb.out.size HP.out.2.2.2⟩
              have hc4 : w4.cell? ⟨b, off + i, none⟩ = some (.int .i64 v) := by rw [cell_nums (Hp22.out.later Hb4.out) i hi, hv2]
              have hs4 : w4.heap.size = w4.heap.size := rfl
              clear hw ht Hw hc hv2
              go_wp2_with (at_builtin; refine wpList_append_rows rfl (.tmp 48) (.tmp 53) rfl w2.heap.size u8 puts rfl (HP4.out.2.1.move fun k hk => Below.heap_alloc _ _ k (HP4.out.2.1.lt k hk).2) ⟨w4.heap.size, 0, none⟩ 1 v rfl (cells_newZ _ _) (by omega) (by have := Hb4.out.size; simp; omega) ?_; intro v5 w5 Hr5 Hg5 Ho5)
              have hsz : (w4.alloc (.cells #[.int .i64 v] 3)).heap.size = w4.heap.size + 1 := by simp
              have hF5 : ∀ k ∈ F4, w5.heap[k]? = w4.heap[k]? := fun k hk => by
                have hlt := HP4.out.1.lt k hk
                rw [Hg5.out.block k (by omega) (fun e => HP4.out.2.2.1 k e.symm hk)]
                exact Below.heap_alloc _ _ k hlt
              have HP5 : Hid (Putting w5 w2.heap.size w2.heap.size ls (puts ++ [v]) v5 F4) := Lib.hid (by
                refine ⟨?_, Hr5.out, fun k hk => ?_, HP4.out.2.2.2⟩
                · rw [rowC_append]
                  exact HP4.out.1.move (by have := Hg5.out.size; omega) hF5
                · rcases Ho5.out with e | e
                  · exact HP4.out.2.2.1 k (e ▸ hk)
                  · intro hm
                    have := HP4.out.1.lt k hm
                    rw [e] at hk
                    have := Option.some.inj hk
                    omega)
              have Hb5 : Hid (Below w2.heap.size w2 w5) := Lib.hid ((Hb4.out.alloc Hb4.out.size _).grown Hg5.out (by have := Hb4.out.size; omega) (fun k ek => (HP4.out.2.1.lt k ek).1))
              clear hsz hF5 hs4
              go_wp2_with fail
              go_roundg gg
              case measure => omega
              case rel => exact ⟨i + 1, F4, by omega, by go_num, by rw [Hf.out]; exact HP5.out, Hb5.out⟩
          | zero =>
            obtain rfl : i = ks.length := by omega
            obtain ⟨a8, c8, hv8, hn8⟩ := HP.out.2.1.form
            have Hn8 := Lib.hid hn8
            have H8lt : Hid (∀ k, u8.ownBlock = some k → k < wr.heap.size) := Lib.hid fun k hk => (HP.out.2.1.lt k hk).2
            subst hv8
            have hall : Hid (∀ k ∈ puts, hasC ls k = true) := Lib.hid fun k hk => by rw [← hputs] at hk; exact (List.mem_filter.1 hk).2
            have hpl2 : puts.length ≤ 60 := by omega
            obtain ⟨row, hrow⟩ : ∃ row, rowC ls puts = row := ⟨_, rfl⟩
            have Hrow := Lib.hid hrow
            have HW : Hid (WriterAt wr w2.heap.size row F) := Lib.hid (by rw [← hrow]; exact HP.out.1)
            have h2 : Hid (∀ x ∈ row, x < 2) := Lib.hid (by rw [← hrow]; exact rowC_two ls puts)
            rw [hrow] at hrl
            have hrl9 : row.length ≤ 900 := by omega
            obtain ⟨u, hu⟩ : ∃ u : ByteArray, textB row = u.data.toList := ⟨⟨(textB row).toArray⟩, by simp⟩
            have hus : 8 * u.size = row.length + padN row.length := by rw [size_data, ← hu, textB_length]
            have hup : padN row.length < 8 := by unfold padN; omega
            have hbs : bitsOf u.data.toList = row ++ List.replicate (padN row.length) 0 := by rw [← hu, bitsOf_textB h2.out]; rfl
            have Hbs := Lib.hid hbs
            clear hputs hrow hrl hn8 hbs
            go_wp2_with fail
            refine (wText_is w2.heap.size row F _ HW.out h2.out (by omega) hu).mono ?_
            rintro e w4 ⟨rfl, hb⟩
            have Hb4 : Hid (Below w2.heap.size w2 w4) := Lib.hid (Hb.out.trans (hb.mono Hb.out.size))
            have HW4 := Lib.hid (HW.out.later hb)
            have Hn4 := Lib.hid (Hn8.out.later hb)
            clear hb hu
            go_wp2_with fail
            refine (rNew_is u _ (by omega)).mono ?_
            rintro e w5 ⟨r, G, rfl, hr, hG, hb⟩
            have Hb5 := Lib.hid hb
            have Hr5 := Lib.hid hr
            have HG5 := Lib.hid hG
            clear hr hG hb
            go_wp2_with fail
            go_loopg [11] puts.length (fun gg s11 wx => ∃ (j : Nat) (F' : List Nat), j + gg = puts.length ∧ s11 = .int .i64 (j : Int) ∧ Aside (ReaderAt wx r u (rowC ls (puts.take j)).length F' ∧ ∀ k ∈ F', w4.heap.size ≤ k) ∧ Aside (Below w4.heap.size w4 wx))
            case atStart => exact ⟨0, G, by omega, rfl, ⟨Hr5.out, HG5.out⟩, Hb5.out⟩
            case round =>
              obtain ⟨j, F', hjg, rfl, HR, Hb6⟩ := hrel
              cases gk with
              | zero =>
                obtain rfl : j = puts.length := by omega
                have HR2 : Hid (ReaderAt wr r u row.length F') := Lib.hid (by have := HR.out.1; rwa [List.take_length, Hrow.out] at this)
                have hpos : row.length ≤ 8 * u.size := by omega
                go_wp2_with fail
                refine (rAt_is r u row.length F' _ HR2.out hpos (by omega)).mono ?_
                rintro e w7 ⟨rfl, hb⟩
                have Hb7 : Hid (Below w4.heap.size w4 w7) := Lib.hid (Hb6.out.trans (hb.mono Hb6.out.size))
                clear hb
                go_wp2_with fail
                refine (wLen_is w2.heap.size row F _ (HW4.out.later Hb7.out) (by omega)).mono ?_
                rintro e w8 ⟨rfl, hb⟩
                have Hb8 : Hid (Below w4.heap.size w4 w8) := Lib.hid (Hb7.out.trans (hb.mono Hb7.out.size))
                clear hb
                go_wp2_with fail
                refine (trees_any _).mono ?_
                rintro e w9 ⟨rfl, hb⟩
                have Hb9 : Hid (Below w4.heap.size w4 w9) := Lib.hid (Hb8.out.trans (hb.mono Hb8.out.size))
                clear hb
                go_wp2_with fail
                go_ret
                exact ⟨rfl, Hb2.out.trans ((Hb4.out.trans (Hb9.out.mono Hb4.out.size)).mono Hb2.out.size)⟩
              | succ gg =>
                have hj : j < puts.length := by omega
                have hjz : (j : Int) < (puts.length : Int) := by omega
                obtain ⟨b, off, rfl, _⟩ := Hn4.out.at j hj
                obtain ⟨v, hv⟩ : ∃ v, puts[j]?.getD 0 = v := ⟨_, rfl⟩
                have hsplit : puts = puts.take j ++ v :: puts.drop (j + 1) := by
                  rw [List.getElem?_eq_getElem hj, Option.getD_some] at hv
                  rw [← hv, ← List.drop_eq_getElem_cons hj, List.take_append_drop]
                have hvc : hasC ls v = true := hall.out v (by rw [hsplit]; simp)
                have hrd := read_next Hg.out HL.out (bs := bitsOf u.data.toList) (a := puts.take j) (b := puts.drop (j + 1)) (k := v) (tail := List.replicate (padN row.length) 0) (by rw [← hsplit, Hrow.out]; exact Hbs.out) hvc
                have hnext : (rowC ls (puts.take j)).length + (rowC ls [v]).length = (rowC ls (puts.take (j + 1))).length := by rw [take_more hj hv, rowC_append, List.length_append]
                have hpos : (rowC ls (puts.take j)).length ≤ 8 * u.size := by
                  have h1 : row.length = (rowC ls (puts.take j)).length + (rowC ls (v :: puts.drop (j + 1))).length := by rw [← Hrow.out, ← List.length_append, ← rowC_append, ← hsplit]
                  omega
                have Htr := Lib.hid (tRead_is t ls T r u _ F' wr He.out (Ht2.out.later (Hb4.out.trans (Hb6.out.mono Hb4.out.size))) HR.out.1 hpos (by omega) (fun k hk hm => by have h1 := HR.out.2 k hm; have h2 := Ht2.out.lt k hk; have h3 := Hb4.out.size; omega) HL.out hrd)
                have Hnext := Lib.hid hnext
                have Hv := Lib.hid hv
                clear hsplit hvc hrd hnext hpos hv
                go_wp2_with fail
                refine Htr.out.mono ?_
                rintro e w7 ⟨rfl, F7, hr, ht⟩
                have Hb7 : Hid (Below w4.heap.size w4 w7) := Lib.hid (Hb6.out.trans (ht.below Hb6.out.size HR.out.2))
                have HR7 : Hid (ReaderAt w7 r u (rowC ls (puts.take (j + 1))).length F7 ∧ ∀ k ∈ F7, w4.heap.size ≤ k) := Lib.hid ⟨by rw [← Hnext.out]; exact hr, ht.more Hb6.out.size HR.out.2⟩
                have hc7 : w7.cell? ⟨b, off + j, none⟩ = some (.int .i64 v) := by rw [cell_nums (Hn4.out.later Hb7.out) j hj, Hv.out]
                clear hr ht Htr
                go_wp2_with fail
                go_roundg gg
                case measure => omega
                case rel => exact ⟨j + 1, F7, by omega, by go_num, HR7.out, Hb7.out⟩
      · have He := Lib.hid he
        have Hne := Lib.hid hz0
        have hez2 : (e != 0) = true := by simpa using hz0
        clear he hz0
        go_enter Try.func6, Try.ntmps6
        go_wp2_with fail
        refine (tNew_bad _ cap1 ls _ (by omega) Hi1.out Hp1.out He.out Hne.out).mono ?_
        rintro e w1 ⟨rfl, hb⟩
        have Hb1 := Lib.hid hb
        clear hb
        go_wp2_with fail
        refine (trees_any _).mono ?_
        rintro e w7 ⟨rfl, hb⟩
        have Hb7 := Lib.hid (Hb1.out.trans (hb.mono Hb1.out.size))
        clear hb
        go_wp2_with fail
        go_ret
        exact ⟨rfl, Hb7.out⟩

end Go.Proofs.Ytahanllbaclokaa
