/-
  The contracts of the document's Put and Read of codes.
-/
import Derived.Test.YtahanllbaclokaaCodeRef2
import Derived.Laws.OwnMore
namespace Go.Proofs.Ytahanllbaclokaa
open Go.RowKit

theorem cellsZ_set (l : List Int) (j : Nat) (v : Int) : (cellsZ l).set j (.int .i64 v) = cellsZ (l.set j v) := by unfold cellsZ; rw [List.map_set]
theorem Own64.set {w : World} {B g n cap : Nat} {l : List Int} (h : Own64 w B (.slice (some ⟨g, 0, none⟩) n cap) l) (j : Nat) (v : Int) : Own64 (w.setCell ⟨g, j, none⟩ (.int .i64 v)) B (.slice (some ⟨g, 0, none⟩) n cap) (l.set j v) := by
  obtain ⟨h1, g', cap', hv⟩ := h
  have hn : n = l.length := by injection hv
  subst hn
  have h2 := (World.ownsRow.stored h1 j (.int .i64 v)).1
  rw [cellsZ_set] at h2
  unfold Own64
  rw [List.length_set]
  exact ⟨h2, _, _, rfl⟩
theorem Own64.there {w : World} {B g n cap : Nat} {l : List Int} (h : Own64 w B (.slice (some ⟨g, 0, none⟩) n cap) l) {j : Nat} (hj : j < l.length) : ∃ v, w.cell? ⟨g, j, none⟩ = some (.int .i64 v) ∧ w.frozen? ⟨g, j, none⟩ = false ∧ B ≤ g := by
  obtain ⟨g', cap', hv, _, hc⟩ := h.at
  obtain ⟨h1, _⟩ := h
  have hg : g = g' := by injection hv with e1 _ _; injection e1 with e1; injection e1
  have hn : n = l.length := by injection hv
  subst hg hn
  exact ⟨_, hc j hj, World.ownsRow.frozenAt h1 j, (h1.lt g rfl).1⟩
theorem asZ_set (l : List Nat) (j v : Nat) : (asZ l).set j (v : Int) = asZ (l.set j v) := by unfold asZ; rw [List.map_set]
theorem asZ_append (a b : List Nat) : asZ (a ++ b) = asZ a ++ asZ b := by simp [asZ]

/-- A row whose last so many places were filled. -/
def partly (row : List Nat) (wd code t : Nat) : List Nat := row ++ (List.replicate (wd - t) 0 ++ (bitsN t code).reverse)
theorem partly_length {row : List Nat} {wd code t : Nat} (h : t ≤ wd) : (partly row wd code t).length = row.length + wd := by
  unfold partly
  rw [List.length_append, List.length_append, List.length_replicate, List.length_reverse, bitsN_length]; omega
theorem partly_step {row : List Nat} {wd code t : Nat} (h : t < wd) : (partly row wd code t).set (row.length + (wd - (t + 1))) (code / 2 ^ t % 2) = partly row wd code (t + 1) := by
  unfold partly
  rw [bitsN_snoc, List.reverse_append, List.set_append_right _ _ (by omega), Nat.add_sub_cancel_left]
  congr 1
  rw [show wd - t = (wd - (t + 1)) + 1 by omega, List.replicate_succ', List.append_assoc, List.set_append_right _ _ (by rw [List.length_replicate]; exact Nat.le_refl _), List.length_replicate, Nat.sub_self]
  rfl
theorem partly_end (row : List Nat) (wd code : Nat) : partly row wd code wd = row ++ codeBits wd code := by
  unfold partly codeBits
  rw [Nat.sub_self]; rfl

set_option maxRecDepth 100000 in
set_option maxHeartbeats 2000000 in
theorem rPutC_any (g c : Nat) (row : List Nat) (wd code : Nat) (w : World) (hr : BitsAt w g row) (hl : row.length ≤ 1000000) (hw : wd ≤ 15) (hc : code ≤ 1000000) :
    Calls Try.prog 21 #[.slice (some ⟨g, 0, none⟩) row.length c, .int .i64 (wd : Int), .int .i64 (code : Int)] w (RowNew w (row ++ codeBits wd code)) := by
  have Hin := Lib.hid hr
  have Hal := Lib.hid (asZ_length row)
  clear hr
  go_enter Try.func21, Try.ntmps21
  go_wp2_with (at_builtin; refine wpList_append64_any rfl (.tmp 11) (.tmp 12) rfl w.heap.size _ [] rfl (Own64.made w 0 #[] (Nat.le_refl _) (by decide) rfl) ⟨g, 0, none⟩ c (asZ row) (by rw [Hal.out]; rfl) (Hin.out.news_alloc _) (by rw [Hal.out]; simp; omega) w ((Below.refl _ w).alloc (Nat.le_refl _) _) (by simp) ?_; intro v2 w2 Ho2 Hb2 hf2; obtain ⟨g2, cap2, hf⟩ := hf2; rw [show ([] : List Int).length + (asZ row).length = row.length by rw [Hal.out]; simp] at hf; subst hf)
  go_loopg [7, 9] wd (fun gg s7 s9 wx => ∃ k : Nat, k + gg = wd ∧ s9 = .int .i64 k ∧ Aside (Own64 wx w.heap.size s7 (asZ (row ++ List.replicate k 0))) ∧ Below w.heap.size w wx)
  case atStart => exact ⟨0, by omega, rfl, by show Own64 _ _ _ _; simpa using Ho2.out, Hb2.out⟩
  case round =>
    obtain ⟨k, hkg, rfl, HO, hb⟩ := hrel
    have Hb := Lib.hid hb
    clear hb
    cases gk with
    | succ gg =>
      have hkz : (k : Int) < (wd : Int) := by omega
      have hlen : (asZ (row ++ List.replicate k 0)).length ≤ 2000000 := by rw [asZ_length, List.length_append, List.length_replicate]; omega
      go_wp2_with (at_builtin; refine wpList_append64 rfl (.tmp 21) (.tmp 22) rfl w.heap.size _ (asZ (row ++ List.replicate k 0)) rfl (HO.out.alloc _) ⟨wr.heap.size, 0, none⟩ 1 [0] rfl (cells_newZ _ _) (by simp) (by simp; omega) w (Hb.out.alloc Hb.out.size _) (by have := Hb.out.size; simp; omega) ?_; intro v3 w3 Ho3 Hb3 _)
      go_roundg gg
      case measure => omega
      case rel => exact ⟨k + 1, by omega, by go_num, by show Own64 _ _ _ _; rw [List.replicate_succ', ← List.append_assoc, asZ_snoc]; exact Ho3.out, Hb3.out⟩
    | zero =>
      obtain rfl : k = wd := by omega
      obtain ⟨g3, cap3, hv⟩ := HO.out.2
      rw [asZ_length, List.length_append, List.length_replicate] at hv
      subst hv
      clear hkg
      go_wp2_with fail
      go_loopg [2, 10] k (fun gg s2 s10 wx => ∃ x : Nat, gg ≤ k ∧ s10 = .int .i64 ((gg : Int) - 1) ∧ s2 = .int .i64 x ∧ x ≤ 1000000 ∧ Aside (x = code / 2 ^ (k - gg) ∧ Own64 wx w.heap.size (.slice (some ⟨g3, 0, none⟩) (row.length + k) cap3) (asZ (partly row k code (k - gg)))) ∧ Below w.heap.size w wx)
      case atStart => exact ⟨code, Nat.le_refl _, rfl, rfl, hc, ⟨by simp, by rw [Nat.sub_self]; unfold partly; simpa [bitsN] using HO.out⟩, Hb.out⟩
      case round =>
        obtain ⟨x, hgk, rfl, rfl, hx, HX, hb2⟩ := hrel
        have Hb2 := Lib.hid hb2
        clear hb2
        cases gk with
        | zero =>
          have hfin : Own64 wr w.heap.size (.slice (some ⟨g3, 0, none⟩) (row.length + k) cap3) (asZ (row ++ codeBits k code)) := by have := HX.out.2; rwa [Nat.sub_zero, partly_end] at this
          have Hfin := Lib.hid hfin
          clear hfin
          go_wp2_with fail
          go_ret
          exact Own64.row_new Hfin.out Hb2.out
        | succ gg =>
          have hgz : 0 ≤ ((gg + 1 : Nat) : Int) - 1 := by omega
          obtain ⟨v0, hcell, hfz, hBg⟩ := HX.out.2.there (j := row.length + gg) (by rw [asZ_length, partly_length (by omega)]; omega)
          obtain ⟨r, hr2⟩ : ∃ r, x % 2 = r := ⟨_, rfl⟩
          obtain ⟨y, hy2⟩ : ∃ y, x / 2 = y := ⟨_, rfl⟩
          have hxb2 : (x : Int) % 2 = (r : Int) := by omega
          have hx2 : (x : Int) / 2 = (y : Int) := by omega
          have hyb : y ≤ 1000000 := by omega
          have q1 : ((row.length : Int) + (gg : Int)).toNat = row.length + gg := by omega
          have q2 : (row.length : Int) + (gg : Int) < (row.length : Int) + (k : Int) := by omega
          have hset := HX.out.2.set (row.length + gg) (r : Int)
          have hps := partly_step (row := row) (wd := k) (code := code) (t := k - (gg + 1)) (by omega)
          rw [show k - (k - (gg + 1) + 1) = gg by omega, show k - (gg + 1) + 1 = k - gg by omega, ← HX.out.1, hr2] at hps
          rw [asZ_set, hps] at hset
          have Hset := Lib.hid hset
          have Hy : Hid (y = code / 2 ^ (k - gg)) := Lib.hid (by rw [← hy2, HX.out.1, Nat.div_div_eq_div_mul, ← Nat.pow_succ, show (k - (gg + 1)).succ = k - gg by omega])
          clear hr2 hy2 hset hps
          go_wp2_with fail
          go_roundg gg
          case measure => omega
          case rel => exact ⟨y, by omega, by go_num, by go_num, hyb, ⟨Hy.out, Hset.out⟩, Hb2.out.setCell hBg _⟩

/-- The same, so many bits on. -/
def onC (n : Nat) (r : Int × Nat × Int) : Int × Nat × Int := (r.1, r.2.1 + n, r.2.2)
theorem readC_end {ls : List Int} {cs : List Nat} {n code : Nat} {r : List Nat} : readC ls cs 0 n code r = (0, 0, 4) := rfl
theorem readC_short {ls : List Int} {cs : List Nat} {k n code : Nat} : readC ls cs (k + 1) n code [] = (0, 0, 5) := rfl
theorem readC_hit {ls : List Int} {cs : List Nat} {k n code b : Nat} {r : List Nat} (h : 0 ≤ findC ls cs (n + 1) (2 * code + b) 0) : readC ls cs (k + 1) n code (b :: r) = (findC ls cs (n + 1) (2 * code + b) 0, 1, 0) := by rw [readC, if_pos h]
theorem readC_miss {ls : List Int} {cs : List Nat} {k n code b : Nat} {r : List Nat} (h : ¬ 0 ≤ findC ls cs (n + 1) (2 * code + b) 0) : readC ls cs (k + 1) n code (b :: r) = onC 1 (readC ls cs k (n + 1) (2 * code + b) r) := by rw [readC, if_neg h]; rfl
theorem onC_onC (a b : Nat) (r : Int × Nat × Int) : onC a (onC b r) = onC (a + b) r := by unfold onC; simp; omega
theorem onC_zero (r : Int × Nat × Int) : onC 0 r = r := rfl

set_option maxRecDepth 100000 in
set_option maxHeartbeats 2000000 in
theorem rRead_is (p1 p2 p3 : Option Addr) (c1 c2 c3 : Nat) (ls : List Int) (cs bs : List Nat) (pos L : Nat) (w : World) (hz1 : ls.length ≤ 1000) (hz2 : cs.length ≤ 1000) (hz3 : bs.length ≤ 1000000) (hL : longZ ls = (L : Int)) (hL15 : L ≤ 15) (hb2 : ∀ b ∈ bs, b < 2) (hpos : pos ≤ bs.length)
    (hp1 : Nums w p1 ls) (hp2 : Nums w p2 (asZ cs)) (hp3 : Nums w p3 (asZ bs)) {sy e : Int} {m : Nat} (h : readC ls cs L 0 0 (bs.drop pos) = (sy, m, e)) :
    Calls Try.prog 18 #[.slice p1 ls.length c1, .slice p2 cs.length c2, .slice p3 bs.length c3, .int .i64 (pos : Int)] w fun en w' => en = .returned (.tuple #[.int .i64 sy, .int .i64 ((pos + m : Nat) : Int), .int .i64 e]) ∧ w = w' := by
  have Hp1 := Lib.hid hp1
  have Hp2 := Lib.hid hp2
  have Hp3 := Lib.hid hp3
  have H := Lib.hid h
  have Hlong := Lib.hid (rLong_any p1 c1 ls w (by omega) hp1)
  have Hb2 := Lib.hid hb2
  rw [hL] at Hlong
  clear hp1 hp2 hp3 h hb2
  go_enter Try.func18, Try.ntmps18
  go_wp2_with fail
  refine Hlong.out.mono ?_
  rintro e w1 ⟨rfl, rfl⟩
  go_wp2_with fail
  go_loopg [3, 11, 13] L (fun g s3 s11 s13 wx => ∃ (n code : Nat), n + g = L ∧ s13 = .int .i64 ((n : Int) + 1) ∧ s3 = .int .i64 ((pos : Int) + n) ∧ s11 = .int .i64 code ∧ Aside (code < 2 ^ n) ∧ pos + n ≤ bs.length ∧ Aside ((sy, m, e) = onC n (readC ls cs g n code (bs.drop (pos + n)))) ∧ w = wx)
  case atStart => exact ⟨0, 0, by omega, rfl, by go_num, rfl, by show 0 < 1; omega, by omega, by show _ = _; rw [onC_zero]; exact H.out.symm, rfl⟩
  case round =>
    obtain ⟨n, code, hng, rfl, rfl, rfl, HC, hpn, HR, rfl⟩ := hrel
    have hcode : code ≤ 32768 := by
      have h1 := HC.out
      have h2 : (2 : Nat) ^ n ≤ 2 ^ 15 := Nat.pow_le_pow_right (by omega) (by omega)
      omega
    cases gk with
    | zero =>
      have Hr : Hid ((sy, m, e) = (0, n, 4)) := Lib.hid (by rw [HR.out, readC_end]; unfold onC; simp)
      have hnz : ¬ (n : Int) + 1 ≤ (L : Int) := by omega
      go_wp2_with fail
      go_ret3
      simp only [Prod.mk.injEq] at Hr
      obtain ⟨rfl, rfl, rfl⟩ := Hr.out
      exact ⟨rfl, rfl⟩
    | succ g =>
      have hnz : (n : Int) + 1 ≤ (L : Int) := by omega
      by_cases hend : pos + n < bs.length
      · have hez : ¬ (bs.length : Int) ≤ (pos : Int) + (n : Int) := by omega
        obtain ⟨b3, off3, rfl, hc3⟩ := Hp3.out.at (pos + n) (by rw [asZ_length]; exact hend)
        rw [asZ_getD bs hend] at hc3
        have hbb := Hb2.out _ (List.getElem_mem hend)
        have hr := HR.out
        rw [List.drop_eq_getElem_cons hend] at hr
        obtain ⟨b, hb⟩ : ∃ b, bs[pos + n] = b := ⟨_, rfl⟩
        rw [hb] at hc3 hbb hr
        obtain ⟨code2, hcd⟩ : ∃ x, 2 * code + b = x := ⟨_, rfl⟩
        have hcz : 2 * (code : Int) + (b : Int) = (code2 : Int) := by omega
        have hc2b : code2 ≤ 65537 := by omega
        have Hlt : Hid (code2 < 2 ^ (n + 1)) := Lib.hid (by have := HC.out; rw [Nat.pow_succ]; omega)
        have q1 : ((pos : Int) + (n : Int)).toNat = pos + n := by omega
        have q2 : (pos : Int) + (n : Int) < (bs.length : Int) := by omega
        have Hfind := Lib.hid (rFind_any p1 p2 c1 c2 ls cs (n + 1) code2 w hz1 hz2 (by omega) (by omega) Hp1.out Hp2.out)
        rw [Int.natCast_add] at Hfind
        obtain ⟨fv, hfv⟩ : ∃ fv, findC ls cs (n + 1) code2 0 = fv := ⟨_, rfl⟩
        rw [hfv] at Hfind
        by_cases hhit : 0 ≤ fv
        · have Hr : Hid ((sy, m, e) = (fv, 1 + n, 0)) := Lib.hid (by
            rw [hr, readC_hit (by rw [hcd, hfv]; exact hhit), hcd, hfv]; rfl)
          clear hr hb hcd hfv hend hbb
          go_wp2_with fail
          refine Hfind.out.mono ?_
          rintro e w1 ⟨rfl, rfl⟩
          go_wp2_with fail
          go_ret3
          simp only [Prod.mk.injEq] at Hr
          obtain ⟨rfl, rfl, rfl⟩ := Hr.out
          exact ⟨by rw [show ((pos + (1 + n) : Nat) : Int) = (pos : Int) + (n : Int) + 1 by omega]; rfl, rfl⟩
        · have Hr : Hid ((sy, m, e) = onC (n + 1) (readC ls cs g (n + 1) code2 (bs.drop (pos + (n + 1))))) := Lib.hid (by
            rw [hr, readC_miss (by rw [hcd, hfv]; exact hhit), hcd, onC_onC]; rfl)
          clear hr hb hcd hfv hbb
          go_wp2_with fail
          refine Hfind.out.mono ?_
          rintro e w1 ⟨rfl, rfl⟩
          go_wp2_with fail
          go_roundg g
          case measure => omega
          case rel => exact ⟨n + 1, code2, by omega, by go_num, by go_num, by first | rfl | go_num, Hlt.out, by omega, Hr.out, rfl⟩
      · have hez : (bs.length : Int) ≤ (pos : Int) + (n : Int) := by omega
        have Hr : Hid ((sy, m, e) = (0, n, 5)) := Lib.hid (by rw [HR.out, List.drop_of_length_le (by omega), readC_short]; unfold onC; simp)
        clear hend
        go_wp2_with fail
        go_ret3
        simp only [Prod.mk.injEq] at Hr
        obtain ⟨rfl, rfl, rfl⟩ := Hr.out
        exact ⟨rfl, rfl⟩
end Go.Proofs.Ytahanllbaclokaa
