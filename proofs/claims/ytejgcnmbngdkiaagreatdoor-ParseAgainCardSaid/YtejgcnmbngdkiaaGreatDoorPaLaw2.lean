/-
  The law ParseAgain.
-/
import Derived.Test.YtejgcnmbngdkiaaGreatDoorPaEx
import Derived.Test.YtejgcnmbngdkiaaGreatDoorNPb
import Derived.Test.YtejgcnmbngdkiaaGreatDoorWrText
namespace Go.Proofs.YtejgcnmbngdkiaaGreatDoor
open Go.RowKit
set_option maxRecDepth 100000
attribute [local go_sem] undef Hv.arr

theorem whole_null {l : List UInt8} (h : ¬ (wholeV l).2 = 0) : (wholeV l).1 = .null := by
  unfold wholeV at h ⊢
  split
  · rfl
  · split
    · rfl
    · split
      · rfl
      · rename_i h1 h2 h3
        rw [if_neg h1, if_neg h2, if_neg h3] at h
        exact absurd rfl h
/-- What a text is told to be may be, and is plain; and it is few. -/
theorem whole_good {l : List UInt8} (h : (wholeV l).2 = 0) (hl : l.length ≤ 3000) : checkV (wholeV l).1 false 0 = 0 ∧ plainV (wholeV l).1 = (wholeV l).1 ∧ Fit (wholeV l).1 4000 := by
  have hr : (readP l (2 * l.length + 1) 0 0).code = 0 ∧ (wholeV l).1 = plainV (readP l (2 * l.length + 1) 0 0).v := by
    by_cases e : (readP l (2 * l.length + 1) 0 0).code = 0
    · refine ⟨e, ?_⟩
      unfold wholeV at h ⊢
      rw [value_ok e] at h ⊢
      dsimp only at h ⊢
      rw [if_neg (by decide)] at h ⊢
      split
      · rename_i h1; rw [if_pos h1] at h; exact absurd h h1
      · rename_i h1
        rw [if_neg h1] at h
        split
        · rename_i h2; rw [if_pos h2] at h; exact absurd h (by decide)
        · rfl
    · unfold wholeV at h
      rw [value_err e] at h
      rw [if_pos (show ¬ (Ps.err _).code = 0 from e)] at h
      exact absurd h e
  have hf := read_fine (Nat.zero_le _) hr.1
  have hc : checkV (readP l (2 * l.length + 1) 0 0).v false 0 = 0 := hf.check
  rw [hr.2]
  exact ⟨check_plain _ false 0 hc, plain_plain _, plain_fit (read_fit (Nat.zero_le _) hr.1 hl)⟩
def noteL : List UInt8 := [32, 37, 32, 97, 32, 110, 111, 116, 101, 10]
theorem note_back {v : Val} (hc : checkV v false 0 = 0) (hp : plainV v = v) : wholeV (noteL ++ (textV v ++ [32])) = (v, 0) ∧ readP (noteL ++ (textV v ++ [32])) (2 * (noteL ++ (textV v ++ [32])).length + 1) 0 0 = ⟨v, 10 + (textV v).length, 0⟩ := by
  have hk : nextN (noteL ++ (textV v ++ [32])) 0 = nextN (noteL ++ (textV v ++ [32])) noteL.length := next_note (q := [32, 97, 32, 110, 111, 116, 101]) (s := textV v ++ [32]) rfl (by decide)
  refine ⟨?_, read_written hc rfl halt_blank hk⟩
  rw [whole_written hc rfl (.inr rfl) hk, hp]

theorem flat12 {a b c d e f g h i j k l : Prop} (x : (a ∧ b ∧ c ∧ d ∧ e ∧ f) ∧ (g ∧ h ∧ i ∧ j ∧ k ∧ l)) : a ∧ b ∧ c ∧ d ∧ e ∧ f ∧ g ∧ h ∧ i ∧ j ∧ k ∧ l :=
  ⟨x.1.1, x.1.2.1, x.1.2.2.1, x.1.2.2.2.1, x.1.2.2.2.2.1, x.1.2.2.2.2.2, x.2⟩
set_option maxHeartbeats 16000000 in
theorem again_law (s : ByteArray) (w : World) (hlaid : Laid w) : Calls Tryz.prog 4 #[.string s] w fun e w' => e = .returned (.bool true) ∧ Below w.heap.size w w' := by
  by_cases hbig : (1000 : Int) < (s.size : Int)
  · go_enter Tryz.func4, Tryz.ntmps4
    go_wp2_with fail
    refine (parsed_any w).mono ?_
    rintro e w1 ⟨rfl, hb⟩
    have Hb := Lib.hid hb
    clear hb
    go_wp2_with fail
    go_ret
    exact ⟨rfl, Hb.out⟩
  have hs1 : s.size ≤ 1000 := by omega
  have hl1 : s.data.toList.length ≤ 3000 := by rw [← size_data]; omega
  have hv := fun W => pwhole_any s W (by omega) (fun h => read_fit (Nat.zero_le _) h hl1)
  have hnull := @whole_null s.data.toList
  have hgood := fun h => whole_good (l := s.data.toList) h hl1
  unfold WhoC at hv
  obtain ⟨R, hR⟩ : ∃ R, wholeV s.data.toList = R := ⟨_, rfl⟩
  rw [hR] at hv hnull hgood
  obtain ⟨V, c⟩ := R
  dsimp only at hv hnull hgood
  have H1 := Lib.hid hv
  clear hv hR
  by_cases hc : c = 0
  · subst hc
    obtain ⟨hck, hpl, hfit⟩ := hgood rfl
    clear hnull hgood
    have hok : OkV V := ⟨_, hck⟩
    have hw : writeW V = (textV V, 0) := by rw [writeW_ok hck, hpl]
    have hlen : (textV V).length ≤ 80000000 := by
      have h1 := textV_length V hok hfit
      have h2 := hfit.1
      omega
    obtain ⟨T, hT⟩ : ∃ T, bytes (textV V) = T := ⟨_, rfl⟩
    have hTd : T.data.toList = textV V := by rw [← hT, bytes_data]
    have hTs : T.size ≤ 80000000 := by rw [size_data, hTd]; exact hlen
    have hnote := note_back hck hpl
    obtain ⟨N, hN⟩ : ∃ N, (⟨#[32, 37, 32, 97, 32, 110, 111, 116, 101, 10]⟩ : ByteArray) ++ T ++ ⟨#[32]⟩ = N := ⟨_, rfl⟩
    have hNd : N.data.toList = noteL ++ (textV V ++ [32]) := by rw [← hN, app_data, app_data, hTd, List.append_assoc]; rfl
    have hNs : N.size ≤ 100000000 := by rw [size_data, hNd]; simp [noteL]; omega
    rw [← hNd] at hnote
    have h2 := fun W => pwhole_any N W hNs (fun _ => by rw [hnote.2]; exact hfit)
    unfold WhoC at h2
    rw [hnote.1] at h2
    have H2 := Lib.hid h2
    have Hlaid := Lib.hid hlaid
    clear h2 hnote hNd hNs hlen hTd
    go_enter Tryz.func4, Tryz.ntmps4
    go_wp2_with fail
    refine (H1.out w).mono ?_
    rintro e w1 ⟨⟨yk, yn, yg, ys, ⟨ylp, yll, ylc⟩, ⟨ydp, ydl, ydc⟩⟩, he, hy1, hb1⟩
    replace he : e = .returned (.tuple #[.agg #[.int .i64 yk, .int .i64 yn, .int .i64 yg, .string ys, .slice ylp yll ylc, .slice ydp ydl ydc], .int .i64 0]) := he
    subst he
    go_wp2_with (first
      | (refine VCell.store rfl rfl (.tmp 3) (.tmp 16) rfl w1.heap.size .nil ⟨yk, yn, yg, ys, ⟨ylp, yll, ylc⟩, ⟨ydp, ydl, ydc⟩⟩ rfl rfl (VCell.new w1 .nil) ?_; intro w2 HC2 HK2 HB2 HZ2; have hb2 : Below w1.heap.size w1 w2 := ((Below.refl _ w1).alloc (Nat.le_refl _) _).trans HB2.out)
      | (refine VCell.load rfl (.tmp 3) rfl w1.heap.size _ rfl HC2.out ?_))
    have hr2 := (hy1.bound.later (fun k hk => hb2.block k hk.2)).bound
    have hbw2 := hb1.trans (hb2.mono hb1.size)
    have ht := wtext_is V ⟨yk, yn, yg, ys, ⟨ylp, yll, ylc⟩, ⟨ydp, ydl, ydc⟩⟩ w2 (fun k => k < w2.heap.size) (Hlaid.out.later hbw2) (hr2.mono (fun k hk => hk.2)) (fun _ h => h) hfit
    rw [hw] at ht
    dsimp only [Hv.arr] at ht
    rw [hT] at ht
    refine ht.mono ?_
    rintro e w3 ⟨rfl, hb3⟩
    have hbw3 := hbw2.trans (hb3.mono hbw2.size)
    have HC3 := Lib.hid (HC2.out.later hb3 HC2.out.lt)
    have Hr3 := Lib.hid (hr2.later (fun k hk => hb3.block k hk.2)).bound
    have Hbw3 := Lib.hid hbw3
    have HN := Lib.hid hN
    clear hy1 hb1 hb2 hb3 hbw2 hbw3 hr2 ht hw hT hN
    go_wp2_with fail
    rw [HN.out]
    refine (H2.out w3).mono ?_
    rintro e w4 ⟨⟨zk, zn, zg, zs, ⟨zlp, zll, zlc⟩, ⟨zdp, zdl, zdc⟩⟩, he, hy4, hb4⟩
    replace he : e = .returned (.tuple #[.agg #[.int .i64 zk, .int .i64 zn, .int .i64 zg, .string zs, .slice zlp zll zlc, .slice zdp zdl zdc], .int .i64 0]) := he
    subst he
    have hbw4 := Hbw3.out.trans (hb4.mono Hbw3.out.size)
    have HC4 := Lib.hid (HC3.out.later hb4 HC3.out.lt)
    have hr4 := (Hr3.out.later (fun k hk => hb4.block k hk.2)).bound
    go_wp2_with (refine VCell.store rfl rfl (.tmp 7) (.tmp 36) rfl w4.heap.size .nil ⟨zk, zn, zg, zs, ⟨zlp, zll, zlc⟩, ⟨zdp, zdl, zdc⟩⟩ rfl rfl (VCell.new w4 .nil) ?_; intro w5 HC5 HK5 HB5 HZ5; have hb5 : Below w4.heap.size w4 w5 := ((Below.refl _ w4).alloc (Nat.le_refl _) _).trans HB5.out)
    have hbw5 := hbw4.trans (hb5.mono hbw4.size)
    have HV5 := Lib.hid (HC4.out.later hb5 HC4.out.lt)
    have hr5 := (hr4.later (fun k hk => hb5.block k hk.2)).bound
    have hz5 := ((hy4.bound.later (fun k hk => hb5.block k hk.2)).bound)
    have Hrv : Hid (∀ W, Below w5.heap.size w5 W → Rd W (fun k => k < W.heap.size) ⟨yk, yn, yg, ys, ⟨ylp, yll, ylc⟩, ⟨ydp, ydl, ydc⟩⟩ V ∧ VCell W w1.heap.size ⟨yk, yn, yg, ys, ⟨ylp, yll, ylc⟩, ⟨ydp, ydl, ydc⟩⟩) := Lib.hid fun W hb => ⟨(hr5.later (fun k hk => hb.block k hk.2)).mono (fun k hk => Nat.lt_of_lt_of_le hk.2 hb.size), HV5.out.later hb HV5.out.lt⟩
    have Hrz : Hid (∀ W, Below w5.heap.size w5 W → Rd W (fun k => k < W.heap.size) ⟨zk, zn, zg, zs, ⟨zlp, zll, zlc⟩, ⟨zdp, zdl, zdc⟩⟩ V ∧ VCell W w4.heap.size ⟨zk, zn, zg, zs, ⟨zlp, zll, zlc⟩, ⟨zdp, zdl, zdc⟩⟩) := Lib.hid fun W hb => ⟨(hz5.later (fun k hk => hb.block k hk.2)).mono (fun k hk => Nat.lt_of_lt_of_le hk.2 hb.size), HC5.out.later hb HC5.out.lt⟩
    have Hbw5 := Lib.hid hbw5
    have Hcells : Hid (∀ W, Below w5.heap.size w5 W → (W.cell? ⟨w1.heap.size, 0, none⟩ = some (.int .i64 yk) ∧ W.cell? ⟨w1.heap.size, 1, none⟩ = some (.int .i64 yn) ∧ W.cell? ⟨w1.heap.size, 2, none⟩ = some (.int .i64 yg) ∧ W.cell? ⟨w1.heap.size, 3, none⟩ = some (.string ys) ∧ W.cell? ⟨w1.heap.size, 4, none⟩ = some (.slice ylp yll ylc) ∧ W.cell? ⟨w1.heap.size, 5, none⟩ = some (.slice ydp ydl ydc)) ∧ (W.cell? ⟨w4.heap.size, 0, none⟩ = some (.int .i64 zk) ∧ W.cell? ⟨w4.heap.size, 1, none⟩ = some (.int .i64 zn) ∧ W.cell? ⟨w4.heap.size, 2, none⟩ = some (.int .i64 zg) ∧ W.cell? ⟨w4.heap.size, 3, none⟩ = some (.string zs) ∧ W.cell? ⟨w4.heap.size, 4, none⟩ = some (.slice zlp zll zlc) ∧ W.cell? ⟨w4.heap.size, 5, none⟩ = some (.slice zdp zdl zdc))) := Lib.hid fun W hb => ⟨⟨(Hrv.out W hb).2.cell 0, (Hrv.out W hb).2.cell 1, (Hrv.out W hb).2.cell 2, (Hrv.out W hb).2.cell 3, (Hrv.out W hb).2.cell 4, (Hrv.out W hb).2.cell 5⟩, ⟨(Hrz.out W hb).2.cell 0, (Hrz.out W hb).2.cell 1, (Hrz.out W hb).2.cell 2, (Hrz.out W hb).2.cell 3, (Hrz.out W hb).2.cell 4, (Hrz.out W hb).2.cell 5⟩⟩
    have K0 := Lib.hid (Hcells.out w5 (Below.refl _ _))
    have hchk := fun W (hb : Below w5.heap.size w5 W) => pCheck_any V false ⟨yk, yn, yg, ys, ⟨ylp, yll, ylc⟩, ⟨ydp, ydl, ydc⟩⟩ W (fun k => k < W.heap.size) (Hrv.out W hb).1 (fun _ h => h) hfit
    rw [hck] at hchk
    have hplain := fun W (hb : Below w5.heap.size w5 W) => pplain_any V ⟨yk, yn, yg, ys, ⟨ylp, yll, ylc⟩, ⟨ydp, ydl, ydc⟩⟩ W (fun k => k < W.heap.size) (Hrv.out W hb).1 (fun _ h => h) hfit
    rw [hpl] at hplain
    have heq1 := fun (x : Hv) W (hb : Below w5.heap.size w5 W) (hx : Rd W (fun k => k < W.heap.size) x V) => requal_any V V x ⟨yk, yn, yg, ys, ⟨ylp, yll, ylc⟩, ⟨ydp, ydl, ydc⟩⟩ W (fun k => k < W.heap.size) hx (Hrv.out W hb).1 (fun _ h => h)
    have heq2 := fun W (hb : Below w5.heap.size w5 W) => requal_any V V ⟨yk, yn, yg, ys, ⟨ylp, yll, ylc⟩, ⟨ydp, ydl, ydc⟩⟩ ⟨zk, zn, zg, zs, ⟨zlp, zll, zlc⟩, ⟨zdp, zdl, zdc⟩⟩ W (fun k => k < W.heap.size) (Hrv.out W hb).1 (Hrz.out W hb).1 (fun _ h => h)
    rw [equalV_refl] at heq1 heq2
    dsimp only [Hv.arr] at hchk hplain heq1 heq2
    have HCk := Lib.hid hchk
    have HPl := Lib.hid hplain
    have HE1 := Lib.hid heq1
    have HE2 := Lib.hid heq2
    clear hy4 hb4 hbw4 hr4 hb5 hbw5 hr5 hz5 hchk hplain heq1 heq2
    obtain ⟨⟨c0, c1, c2, c3, c4, c5⟩, ⟨d0, d1, d2, d3, d4, d5⟩⟩ := K0.out
    go_region_held3 (fun w' => w'.cell? ⟨w1.heap.size, 0, none⟩ = some (.int .i64 yk) ∧ w'.cell? ⟨w1.heap.size, 1, none⟩ = some (.int .i64 yn) ∧ w'.cell? ⟨w1.heap.size, 2, none⟩ = some (.int .i64 yg) ∧ w'.cell? ⟨w1.heap.size, 3, none⟩ = some (.string ys) ∧ w'.cell? ⟨w1.heap.size, 4, none⟩ = some (.slice ylp yll ylc) ∧ w'.cell? ⟨w1.heap.size, 5, none⟩ = some (.slice ydp ydl ydc) ∧ w'.cell? ⟨w4.heap.size, 0, none⟩ = some (.int .i64 zk) ∧ w'.cell? ⟨w4.heap.size, 1, none⟩ = some (.int .i64 zn) ∧ w'.cell? ⟨w4.heap.size, 2, none⟩ = some (.int .i64 zg) ∧ w'.cell? ⟨w4.heap.size, 3, none⟩ = some (.string zs) ∧ w'.cell? ⟨w4.heap.size, 4, none⟩ = some (.slice zlp zll zlc) ∧ w'.cell? ⟨w4.heap.size, 5, none⟩ = some (.slice zdp zdl zdc))
      (first | exact KA.out | exact KB.out | exact KC.out | exact KD.out | exact K1.out | go_keep)
      (first
        | (go_simp; go_at_call 12; (with_reducible refine (HCk.out w5.drew (Below.refl _ w5).drew).mono ?_); rintro e w6 ⟨rfl, hb⟩; have B6 := Lib.hid (show Below w5.heap.size w5 w6 from (Below.refl _ w5).drew.trans hb); have K1 := Lib.hid (flat12 (Hcells.out w6 B6.out)); clear hb)
        | (go_simp; go_at_call 11; (with_reducible refine (HPl.out w6 B6.out).mono ?_); rintro e w7 ⟨⟨uk, un, ug, us, ⟨ulp, ull, ulc⟩, ⟨udp, udl, udc⟩⟩, he, hu, hb⟩; replace he : e = .returned (.agg #[.int .i64 uk, .int .i64 un, .int .i64 ug, .string us, .slice ulp ull ulc, .slice udp udl udc]) := he; subst he; have B7 := Lib.hid (B6.out.trans (hb.mono B6.out.size)); have Hu := Lib.hid (hu.bound.mono (fun k hk => hk.2) : Rd w7 (fun k => k < w7.heap.size) ⟨uk, un, ug, us, ⟨ulp, ull, ulc⟩, ⟨udp, udl, udc⟩⟩ V); have KA := Lib.hid (flat12 (Hcells.out w7 B7.out)); clear hb hu)
        | (go_simp; go_at_call_of 10 (Value.agg #[.int .i64 uk, .int .i64 un, .int .i64 ug, .string us, .slice ulp ull ulc, .slice udp udl udc]); (with_reducible refine (HE1.out ⟨uk, un, ug, us, ⟨ulp, ull, ulc⟩, ⟨udp, udl, udc⟩⟩ w7 B7.out Hu.out).mono ?_); rintro e w8 ⟨rfl, hb⟩; have B8 := Lib.hid (B7.out.trans (hb.mono B7.out.size)); have KB := Lib.hid (flat12 (Hcells.out w8 B8.out)); clear hb)
        | (go_simp; go_at_call 10; (with_reducible refine (HE2.out w8 B8.out).mono ?_); rintro e w9 ⟨rfl, hb⟩; have B9 := Lib.hid (B8.out.trans (hb.mono B8.out.size)); have KC := Lib.hid (flat12 (Hcells.out w9 B9.out)); clear hb)
        | (go_simp; go_at_call 6; (with_reducible refine (parsed_any w9).mono ?_); rintro e wa ⟨rfl, hb⟩; have Ba := Lib.hid (B9.out.trans (hb.mono B9.out.size)); have KD := Lib.hid (flat12 (Hcells.out wa Ba.out)); clear hb))
    go_wp2_with fail
    go_ret
    exact ⟨rfl, Hbw5.out.trans (Ba.out.mono Hbw5.out.size)⟩
  · have hV := hnull hc
    subst hV
    have hcd : (c != 0) = true := by simpa using hc
    clear hnull hgood
    go_enter Tryz.func4, Tryz.ntmps4
    go_wp2_with fail
    refine (H1.out w).mono ?_
    rintro e w1 ⟨⟨yk, yn, yg, ys, ⟨ylp, yll, ylc⟩, ⟨ydp, ydl, ydc⟩⟩, he, hy1, hb1⟩
    replace he : e = .returned (.tuple #[.agg #[.int .i64 yk, .int .i64 yn, .int .i64 yg, .string ys, .slice ylp yll ylc, .slice ydp ydl ydc], .int .i64 c]) := he
    subst he
    clear hc
    go_wp2_with (first
      | (refine VCell.store rfl rfl (.tmp 3) (.tmp 16) rfl w1.heap.size .nil ⟨yk, yn, yg, ys, ⟨ylp, yll, ylc⟩, ⟨ydp, ydl, ydc⟩⟩ rfl rfl (VCell.new w1 .nil) ?_; intro w2 HC2 HK2 HB2 HZ2; have hb2 : Below w1.heap.size w1 w2 := ((Below.refl _ w1).alloc (Nat.le_refl _) _).trans HB2.out)
      | (refine VCell.load rfl (.tmp 3) rfl w1.heap.size _ rfl HC2.out ?_))
    have hr2 := (hy1.bound.later (fun k hk => hb2.block k hk.2)).bound
    have hbw2 := hb1.trans (hb2.mono hb1.size)
    have hq := requal_any .null .null ⟨yk, yn, yg, ys, ⟨ylp, yll, ylc⟩, ⟨ydp, ydl, ydc⟩⟩ ⟨0, 0, 0, ⟨#[]⟩, ⟨none, 0, 0⟩, ⟨none, 0, 0⟩⟩ w2 (fun k => k < w2.heap.size) (hr2.mono (fun k hk => hk.2)) (Rd.null _ _) (fun _ h => h)
    rw [equalV_refl] at hq
    dsimp only [Hv.arr] at hq
    refine hq.mono ?_
    rintro e w3 ⟨rfl, hb3⟩
    have Hbw3 := Lib.hid (hbw2.trans (hb3.mono hbw2.size))
    clear hy1 hb1 hb2 hb3 hbw2 hr2 hq
    go_wp2_with (go_at_call 6; refine (parsed_any w3).mono ?_; rintro e w4 ⟨rfl, hb⟩; have Hbw4 := Lib.hid (Hbw3.out.trans (hb.mono Hbw3.out.size)); clear hb)
    go_ret
    exact ⟨rfl, Hbw4.out⟩
end Go.Proofs.YtejgcnmbngdkiaaGreatDoor
