/-
  The law ParseBack.
-/
import Derived.Test.YtejgcnmbngdkiaaGreatDoorPaLaw2
import Derived.Test.YtejgcnmbngdkiaaGreatDoorMLow
namespace Go.Proofs.YtejgcnmbngdkiaaGreatDoor
open Go.RowKit
set_option maxRecDepth 100000
attribute [local go_sem] undef Hv.arr

theorem flat18 {a b c d e f g h i j k l m n o p q r : Prop} (x : (a ∧ b ∧ c ∧ d ∧ e ∧ f) ∧ (g ∧ h ∧ i ∧ j ∧ k ∧ l) ∧ (m ∧ n ∧ o ∧ p ∧ q ∧ r)) : a ∧ b ∧ c ∧ d ∧ e ∧ f ∧ g ∧ h ∧ i ∧ j ∧ k ∧ l ∧ m ∧ n ∧ o ∧ p ∧ q ∧ r :=
  ⟨x.1.1, x.1.2.1, x.1.2.2.1, x.1.2.2.2.1, x.1.2.2.2.2.1, x.1.2.2.2.2.2, x.2.1.1, x.2.1.2.1, x.2.1.2.2.1, x.2.1.2.2.2.1, x.2.1.2.2.2.2.1, x.2.1.2.2.2.2.2, x.2.2⟩
theorem place_len (l : List UInt8) (k : Nat) (h : k ≤ l.length) : placeN l (k : Int) = k := by unfold placeN; omega

set_option maxHeartbeats 16000000 in
theorem back_law (a : ByteArray) (v : Val) (x : Hv) (w : World) (S : Nat → Prop) (hlaid : Laid w) (hR : Rd w S x v) (hS : ∀ k, S k → k < w.heap.size) :
    Calls Tryz.prog 3 #[.string a, .agg x.arr] w fun e w' => e = .returned (.bool true) ∧ Below w.heap.size w w' := by
  obtain ⟨xk, xn, xg, xs, ⟨xlp, xll, xlc⟩, ⟨xdp, xdl, xdc⟩⟩ := x
  obtain ⟨w1, hw1⟩ : ∃ w1, w.alloc (.cells #[.int .i64 xk, .int .i64 xn, .int .i64 xg, .string xs, .slice xlp xll xlc, .slice xdp xdl xdc] 25) = w1 := ⟨_, rfl⟩
  have hb1 : Below w.heap.size w w1 := by rw [← hw1]; exact (Below.refl _ w).alloc (Nat.le_refl _) _
  have hv1 : VCell w1 w.heap.size ⟨xk, xn, xg, xs, ⟨xlp, xll, xlc⟩, ⟨xdp, xdl, xdc⟩⟩ := by rw [← hw1]; exact heap_alloc_new w _
  have hr1 := hR.later (below_old hS hb1)
  have hS1 := old_later hS hb1
  have Hw1 := Lib.hid hw1
  have HB1 := Lib.hid hb1
  have HL1 := Lib.hid (hlaid.later hb1)
  have Hx : Hid (∀ W, Below w1.heap.size w1 W → Rd W (fun k => k < W.heap.size) ⟨xk, xn, xg, xs, ⟨xlp, xll, xlc⟩, ⟨xdp, xdl, xdc⟩⟩ v ∧ VCell W w.heap.size ⟨xk, xn, xg, xs, ⟨xlp, xll, xlc⟩, ⟨xdp, xdl, xdc⟩⟩) := Lib.hid fun W hb => ⟨(hr1.later (fun k hk => hb.block k (hS1 k hk))).mono (fun k hk => Nat.lt_of_lt_of_le (hS1 k hk) hb.size), hv1.later hb hv1.lt⟩
  have hfew := few_any v ⟨xk, xn, xg, xs, ⟨xlp, xll, xlc⟩, ⟨xdp, xdl, xdc⟩⟩ w1 (fun k => k < w1.heap.size) 500 (Hx.out w1 (Below.refl _ _)).1 (fun _ h => h) (by omega)
  clear hw1 hb1 hv1 hr1 hS1 hR hS hlaid
  show Calls Tryz.prog 3 #[.string a, .agg #[.int .i64 xk, .int .i64 xn, .int .i64 xg, .string xs, .slice xlp xll xlc, .slice xdp xdl xdc]] w _
  dsimp only [Hv.arr] at hfew
  rw [show ((500 : Nat) : Int) = 500 from rfl] at hfew
  cases hfx : fewV v 500
  · rw [hfx] at hfew
    have HF := Lib.hid hfew
    clear hfew hfx
    go_enter Tryz.func3, Tryz.ntmps3
    iterate 8 go_step
    rw [Hw1.out]
    go_wp2_with (first
      | (refine VCell.load rfl (.tmp 3) rfl w.heap.size _ rfl (Hx.out w1 (Below.refl _ _)).2 ?_)
      | (go_at_call 5; refine HF.out.mono ?_; rintro e w2 ⟨rfl, hb⟩; have B2 := Lib.hid (HB1.out.trans (hb.mono HB1.out.size)); clear hb)
      | (go_at_call 6; refine (parsed_any w2).mono ?_; rintro e w3 ⟨rfl, hb⟩; have B3 := Lib.hid (B2.out.trans (hb.mono B2.out.size)); clear hb))
    go_ret
    exact ⟨rfl, B3.out⟩
  rw [hfx] at hfew
  have hfit : Fit v 500 := few_fit hfx
  have HF := Lib.hid hfew
  clear hfew hfx
  by_cases hbig : (1000 : Int) < (a.size : Int)
  · go_enter Tryz.func3, Tryz.ntmps3
    iterate 8 go_step
    rw [Hw1.out]
    go_wp2_with (first
      | (refine VCell.load rfl (.tmp 3) rfl w.heap.size _ rfl (Hx.out w1 (Below.refl _ _)).2 ?_)
      | (go_at_call 5; refine HF.out.mono ?_; rintro e w2 ⟨rfl, hb⟩; have B2 := Lib.hid (HB1.out.trans (hb.mono HB1.out.size)); clear hb)
      | (go_at_call 6; refine (parsed_any w2).mono ?_; rintro e w3 ⟨rfl, hb⟩; have B3 := Lib.hid (B2.out.trans (hb.mono B2.out.size)); clear hb))
    go_ret
    exact ⟨rfl, B3.out⟩
  have has : a.size ≤ 1000 := by omega
  have ht := fun W (hb : Below w1.heap.size w1 W) => wtext_is v ⟨xk, xn, xg, xs, ⟨xlp, xll, xlc⟩, ⟨xdp, xdl, xdc⟩⟩ W (fun k => k < W.heap.size) (HL1.out.later hb) (Hx.out W hb).1 (fun _ h => h) (hfit.mono (by omega))
  dsimp only [Hv.arr] at ht
  by_cases hc : checkV v false 0 = 0
  · have hw : writeW v = (textV (plainV v), 0) := writeW_ok hc
    rw [hw] at ht
    have hpc : checkV (plainV v) false 0 = 0 := check_plain v false 0 hc
    have hpf : Fit (plainV v) 500 := plain_fit hfit
    have hpp := plain_plain v
    have hpl := fun W (hb : Below w1.heap.size w1 W) => pplain_any v ⟨xk, xn, xg, xs, ⟨xlp, xll, xlc⟩, ⟨xdp, xdl, xdc⟩⟩ W (fun k => k < W.heap.size) (Hx.out W hb).1 (fun _ h => h) (hfit.mono (by omega))
    obtain ⟨V, hV⟩ : ∃ V, plainV v = V := ⟨_, rfl⟩
    rw [hV] at ht hpc hpf hpp hpl
    have hok : OkV V := ⟨_, hpc⟩
    have hlen : (textV V).length ≤ 20000000 := by
      have h1 := textV_length V hok hpf
      have h2 := hpf.1
      omega
    dsimp only at ht
    obtain ⟨T, hT⟩ : ∃ T, bytes (textV V) = T := ⟨_, rfl⟩
    rw [hT] at ht
    have hTd : T.data.toList = textV V := by rw [← hT, bytes_data]
    have hTs : T.size ≤ 20000000 := by rw [size_data, hTd]; exact hlen
    have hTl : T.data.toList = [] ++ (textV V ++ []) := by rw [hTd]; simp
    have hrw := read_written hpc hTl halt_nil (k := 0) rfl
    have h1 := fun W => pwhole_any T W (by omega) (fun _ => by rw [hrw]; exact hpf.mono (by omega))
    unfold WhoC at h1
    rw [whole_written hpc hTl (.inl rfl) rfl, hpp] at h1
    obtain ⟨N, hN⟩ : ∃ N, a ++ T ++ ⟨#[32, 93]⟩ = N := ⟨_, rfl⟩
    have hNd : N.data.toList = a.data.toList ++ (textV V ++ [32, 93]) := by rw [← hN, app_data, app_data, hTd, List.append_assoc]
    have hNl : N.data.toList.length = a.size + T.size + 2 := by rw [hNd, size_data a, size_data T, hTd]; simp; omega
    have hNs : N.size ≤ 100000000 := by rw [size_data, hNl]; omega
    have hpl0 : placeN N.data.toList (a.size : Int) = a.data.toList.length := by rw [size_data a]; exact place_len _ _ (by rw [hNd]; simp)
    have h2 := fun W => pvalue_any N (a.size : Int) W hNs (fun _ => by rw [hpl0, read_written hpc hNd halt_end rfl]; exact hpf.mono (by omega))
    unfold ValC at h2
    rw [hpl0, value_written hpc hNd halt_end rfl, hpp] at h2
    have hend : ((a.data.toList.length + (textV V).length : Nat) : Int) = (a.size : Int) + (T.size : Int) := by rw [size_data a, size_data T, hTd]; omega
    dsimp only at h1 h2
    rw [hend] at h2
    have HT := Lib.hid ht
    have H1 := Lib.hid h1
    have H2 := Lib.hid h2
    have HN := Lib.hid hN
    have HPl := Lib.hid hpl
    clear hrw ht h1 h2 hN hpl hend hpl0 hNs hNl hNd hTl hTd hT hlen hok hV hpp hpf hpc hw hc hfit
    go_enter Tryz.func3, Tryz.ntmps3
    iterate 8 go_step
    rw [Hw1.out]
    go_wp2_with (first
      | (refine VCell.load rfl (.tmp 3) rfl w.heap.size _ rfl (Hx.out _ B0.out).2 ?_)
      | (refine VCell.load rfl (.tmp 3) rfl w.heap.size _ rfl (Hx.out w1 (Below.refl _ _)).2 ?_)
      | (go_at_call 5; refine HF.out.mono ?_; rintro e w2 ⟨rfl, hb⟩; have B0 := Lib.hid hb; clear hb)
      | (go_at_call 7; refine (HT.out w2 B0.out).mono ?_; rintro e w3 ⟨rfl, hb⟩; have B3 := Lib.hid (B0.out.trans (hb.mono B0.out.size)); clear hb)
      | (go_at_call 8; refine (H1.out w3).mono ?_; rintro e w4 ⟨⟨yk, yn, yg, ys, ⟨ylp, yll, ylc⟩, ⟨ydp, ydl, ydc⟩⟩, he, hy4, hb⟩; replace he : e = .returned (.tuple #[.agg #[.int .i64 yk, .int .i64 yn, .int .i64 yg, .string ys, .slice ylp yll ylc, .slice ydp ydl ydc], .int .i64 0]) := he; subst he; have B4 := Lib.hid (B3.out.trans (hb.mono B3.out.size)); have Hy4 := Lib.hid hy4; clear hb hy4)
      | (refine VCell.store rfl rfl (.tmp 7) (.tmp 36) rfl w4.heap.size .nil ⟨yk, yn, yg, ys, ⟨ylp, yll, ylc⟩, ⟨ydp, ydl, ydc⟩⟩ rfl rfl (VCell.new w4 .nil) ?_; intro w5 HC5 HK5 HB5 HZ5; have hb5 : Below w4.heap.size w4 w5 := ((Below.refl _ w4).alloc (Nat.le_refl _) _).trans HB5.out; have B5 := Lib.hid (B4.out.trans (hb5.mono B4.out.size)); have Hy5 := Lib.hid (Hy4.out.bound.later (fun k hk => hb5.block k hk.2)).bound; clear hb5))
    rw [HN.out]
    refine (H2.out w5).mono ?_
    rintro e w6 ⟨⟨zk, zn, zg, zs, ⟨zlp, zll, zlc⟩, ⟨zdp, zdl, zdc⟩⟩, he, hz6, hb6⟩
    replace he : e = .returned (.tuple #[.agg #[.int .i64 zk, .int .i64 zn, .int .i64 zg, .string zs, .slice zlp zll zlc, .slice zdp zdl zdc], .int .i64 ((a.size : Int) + (T.size : Int)), .int .i64 0]) := he
    subst he
    have hb56 := B5.out.trans (hb6.mono B5.out.size)
    have Hy6 := Lib.hid (Hy5.out.later (fun k hk => hb6.block k hk.2)).bound
    have HC6 := Lib.hid (HC5.out.later hb6 HC5.out.lt)
    go_wp2_with (refine VCell.store rfl rfl (.tmp 9) (.tmp 46) rfl w6.heap.size .nil ⟨zk, zn, zg, zs, ⟨zlp, zll, zlc⟩, ⟨zdp, zdl, zdc⟩⟩ rfl rfl (VCell.new w6 .nil) ?_; intro w7 HC7 HK7 HB7 HZ7; have hb7 : Below w6.heap.size w6 w7 := ((Below.refl _ w6).alloc (Nat.le_refl _) _).trans HB7.out)
    have hb17 := hb56.trans (hb7.mono hb56.size)
    have hy7 := (Hy6.out.later (fun k hk => hb7.block k hk.2)).bound
    have hz7 := (hz6.bound.later (fun k hk => hb7.block k hk.2)).bound
    have hC7 := HC6.out.later hb7 HC6.out.lt
    have B7 := Lib.hid hb17
    have Hry : Hid (∀ W, Below w7.heap.size w7 W → Rd W (fun k => k < W.heap.size) ⟨yk, yn, yg, ys, ⟨ylp, yll, ylc⟩, ⟨ydp, ydl, ydc⟩⟩ V ∧ VCell W w4.heap.size ⟨yk, yn, yg, ys, ⟨ylp, yll, ylc⟩, ⟨ydp, ydl, ydc⟩⟩) := Lib.hid fun W hb => ⟨(hy7.later (fun k hk => hb.block k hk.2)).mono (fun k hk => Nat.lt_of_lt_of_le hk.2 hb.size), hC7.later hb hC7.lt⟩
    have Hrz : Hid (∀ W, Below w7.heap.size w7 W → Rd W (fun k => k < W.heap.size) ⟨zk, zn, zg, zs, ⟨zlp, zll, zlc⟩, ⟨zdp, zdl, zdc⟩⟩ V ∧ VCell W w6.heap.size ⟨zk, zn, zg, zs, ⟨zlp, zll, zlc⟩, ⟨zdp, zdl, zdc⟩⟩) := Lib.hid fun W hb => ⟨(hz7.later (fun k hk => hb.block k hk.2)).mono (fun k hk => Nat.lt_of_lt_of_le hk.2 hb.size), HC7.out.later hb HC7.out.lt⟩
    have Hcells : Hid (∀ W, Below w7.heap.size w7 W → (W.cell? ⟨w4.heap.size, 0, none⟩ = some (.int .i64 yk) ∧ W.cell? ⟨w4.heap.size, 1, none⟩ = some (.int .i64 yn) ∧ W.cell? ⟨w4.heap.size, 2, none⟩ = some (.int .i64 yg) ∧ W.cell? ⟨w4.heap.size, 3, none⟩ = some (.string ys) ∧ W.cell? ⟨w4.heap.size, 4, none⟩ = some (.slice ylp yll ylc) ∧ W.cell? ⟨w4.heap.size, 5, none⟩ = some (.slice ydp ydl ydc)) ∧ (W.cell? ⟨w6.heap.size, 0, none⟩ = some (.int .i64 zk) ∧ W.cell? ⟨w6.heap.size, 1, none⟩ = some (.int .i64 zn) ∧ W.cell? ⟨w6.heap.size, 2, none⟩ = some (.int .i64 zg) ∧ W.cell? ⟨w6.heap.size, 3, none⟩ = some (.string zs) ∧ W.cell? ⟨w6.heap.size, 4, none⟩ = some (.slice zlp zll zlc) ∧ W.cell? ⟨w6.heap.size, 5, none⟩ = some (.slice zdp zdl zdc)) ∧ (W.cell? ⟨w.heap.size, 0, none⟩ = some (.int .i64 xk) ∧ W.cell? ⟨w.heap.size, 1, none⟩ = some (.int .i64 xn) ∧ W.cell? ⟨w.heap.size, 2, none⟩ = some (.int .i64 xg) ∧ W.cell? ⟨w.heap.size, 3, none⟩ = some (.string xs) ∧ W.cell? ⟨w.heap.size, 4, none⟩ = some (.slice xlp xll xlc) ∧ W.cell? ⟨w.heap.size, 5, none⟩ = some (.slice xdp xdl xdc))) := Lib.hid fun W hb => by
      have hx := (Hx.out W (B7.out.trans (hb.mono B7.out.size))).2
      exact ⟨⟨(Hry.out W hb).2.cell 0, (Hry.out W hb).2.cell 1, (Hry.out W hb).2.cell 2, (Hry.out W hb).2.cell 3, (Hry.out W hb).2.cell 4, (Hry.out W hb).2.cell 5⟩, ⟨(Hrz.out W hb).2.cell 0, (Hrz.out W hb).2.cell 1, (Hrz.out W hb).2.cell 2, (Hrz.out W hb).2.cell 3, (Hrz.out W hb).2.cell 4, (Hrz.out W hb).2.cell 5⟩, ⟨hx.cell 0, hx.cell 1, hx.cell 2, hx.cell 3, hx.cell 4, hx.cell 5⟩⟩
    have K0 := Lib.hid (flat18 (Hcells.out w7 (Below.refl _ _)))
    have hpl := fun W (hb : Below w7.heap.size w7 W) => HPl.out W (B7.out.trans (hb.mono B7.out.size))
    have heq1 := fun (u : Hv) W (hb : Below w7.heap.size w7 W) (hu : Rd W (fun k => k < W.heap.size) u V) => requal_any V V ⟨yk, yn, yg, ys, ⟨ylp, yll, ylc⟩, ⟨ydp, ydl, ydc⟩⟩ u W (fun k => k < W.heap.size) (Hry.out W hb).1 hu (fun _ h => h)
    have heq2 := fun W (hb : Below w7.heap.size w7 W) => requal_any V V ⟨zk, zn, zg, zs, ⟨zlp, zll, zlc⟩, ⟨zdp, zdl, zdc⟩⟩ ⟨yk, yn, yg, ys, ⟨ylp, yll, ylc⟩, ⟨ydp, ydl, ydc⟩⟩ W (fun k => k < W.heap.size) (Hrz.out W hb).1 (Hry.out W hb).1 (fun _ h => h)
    rw [equalV_refl] at heq1 heq2
    dsimp only [Hv.arr] at hpl heq1 heq2
    have HP2 := Lib.hid hpl
    have HE1 := Lib.hid heq1
    have HE2 := Lib.hid heq2
    have hwr : IntKind.i64.wrap ((a.size : Int) + (T.size : Int)) = (a.size : Int) + (T.size : Int) := by rw [IntKind.wrap_i64]; omega
    clear hb6 hz6 hb56 hb7 hb17 hy7 hz7 hC7 hpl heq1 heq2
    obtain ⟨c0, c1, c2, c3, c4, c5, d0, d1, d2, d3, d4, d5, e0, e1, e2, e3, e4, e5⟩ := K0.out
    go_region_held3 (fun w' => w'.cell? ⟨w4.heap.size, 0, none⟩ = some (.int .i64 yk) ∧ w'.cell? ⟨w4.heap.size, 1, none⟩ = some (.int .i64 yn) ∧ w'.cell? ⟨w4.heap.size, 2, none⟩ = some (.int .i64 yg) ∧ w'.cell? ⟨w4.heap.size, 3, none⟩ = some (.string ys) ∧ w'.cell? ⟨w4.heap.size, 4, none⟩ = some (.slice ylp yll ylc) ∧ w'.cell? ⟨w4.heap.size, 5, none⟩ = some (.slice ydp ydl ydc) ∧ w'.cell? ⟨w6.heap.size, 0, none⟩ = some (.int .i64 zk) ∧ w'.cell? ⟨w6.heap.size, 1, none⟩ = some (.int .i64 zn) ∧ w'.cell? ⟨w6.heap.size, 2, none⟩ = some (.int .i64 zg) ∧ w'.cell? ⟨w6.heap.size, 3, none⟩ = some (.string zs) ∧ w'.cell? ⟨w6.heap.size, 4, none⟩ = some (.slice zlp zll zlc) ∧ w'.cell? ⟨w6.heap.size, 5, none⟩ = some (.slice zdp zdl zdc) ∧ w'.cell? ⟨w.heap.size, 0, none⟩ = some (.int .i64 xk) ∧ w'.cell? ⟨w.heap.size, 1, none⟩ = some (.int .i64 xn) ∧ w'.cell? ⟨w.heap.size, 2, none⟩ = some (.int .i64 xg) ∧ w'.cell? ⟨w.heap.size, 3, none⟩ = some (.string xs) ∧ w'.cell? ⟨w.heap.size, 4, none⟩ = some (.slice xlp xll xlc) ∧ w'.cell? ⟨w.heap.size, 5, none⟩ = some (.slice xdp xdl xdc))
      (first | exact KA.out | exact KB.out | exact KC.out | exact KD.out | go_keep)
      (first
        | (go_simp; go_at_call 11; (with_reducible refine (HP2.out w7.drew (Below.refl _ w7).drew).mono ?_); rintro e w8 ⟨⟨uk, un, ug, us, ⟨ulp, ull, ulc⟩, ⟨udp, udl, udc⟩⟩, he, hu, hb⟩; replace he : e = .returned (.agg #[.int .i64 uk, .int .i64 un, .int .i64 ug, .string us, .slice ulp ull ulc, .slice udp udl udc]) := he; subst he; have B8 := Lib.hid (show Below w7.heap.size w7 w8 from (Below.refl _ w7).drew.trans hb); have Hu := Lib.hid (hu.bound.mono (fun k hk => hk.2) : Rd w8 (fun k => k < w8.heap.size) ⟨uk, un, ug, us, ⟨ulp, ull, ulc⟩, ⟨udp, udl, udc⟩⟩ V); have KA := Lib.hid (flat18 (Hcells.out w8 B8.out)); clear hb hu)
        | (go_simp; go_at_call_of 10 (Value.agg #[.int .i64 yk, .int .i64 yn, .int .i64 yg, .string ys, .slice ylp yll ylc, .slice ydp ydl ydc]); (with_reducible refine (HE1.out ⟨uk, un, ug, us, ⟨ulp, ull, ulc⟩, ⟨udp, udl, udc⟩⟩ w8 B8.out Hu.out).mono ?_); rintro e w9 ⟨rfl, hb⟩; have B9 := Lib.hid (B8.out.trans (hb.mono B8.out.size)); have KB := Lib.hid (flat18 (Hcells.out w9 B9.out)); clear hb)
        | (go_simp; go_at_call 10; (with_reducible refine (HE2.out w9 B9.out).mono ?_); rintro e wa ⟨rfl, hb⟩; have Ba := Lib.hid (B9.out.trans (hb.mono B9.out.size)); have KC := Lib.hid (flat18 (Hcells.out wa Ba.out)); clear hb)
        | (go_simp; go_at_call 6; (with_reducible refine (parsed_any wa).mono ?_); rintro e wb ⟨rfl, hb⟩; have Bb := Lib.hid (Ba.out.trans (hb.mono Ba.out.size)); have KD := Lib.hid (flat18 (Hcells.out wb Bb.out)); clear hb))
    go_wp2_with fail
    go_ret
    exact ⟨rfl, HB1.out.trans ((B7.out.trans (Bb.out.mono B7.out.size)).mono HB1.out.size)⟩
  · have hw : writeW v = ([], checkV v false 0) := writeW_bad hc
    rw [hw] at ht
    obtain ⟨c, hce⟩ : ∃ c, checkV v false 0 = c := ⟨_, rfl⟩
    rw [hce] at ht hc
    dsimp only at ht
    rw [show bytes [] = (⟨#[]⟩ : ByteArray) from rfl] at ht
    have HT := Lib.hid ht
    have hcd : (c != 0) = true := by simpa using hc
    clear ht hw hce hc
    go_enter Tryz.func3, Tryz.ntmps3
    iterate 8 go_step
    rw [Hw1.out]
    go_wp2_with (first
      | (refine VCell.load rfl (.tmp 3) rfl w.heap.size _ rfl (Hx.out _ B0.out).2 ?_)
      | (refine VCell.load rfl (.tmp 3) rfl w.heap.size _ rfl (Hx.out w1 (Below.refl _ _)).2 ?_)
      | (go_at_call 5; refine HF.out.mono ?_; rintro e w2 ⟨rfl, hb⟩; have B0 := Lib.hid hb; clear hb)
      | (go_at_call 7; refine (HT.out w2 B0.out).mono ?_; rintro e w3 ⟨rfl, hb⟩; have B3 := Lib.hid (B0.out.trans (hb.mono B0.out.size)); clear hb)
      | (go_at_call 6; refine (parsed_any w3).mono ?_; rintro e w4 ⟨rfl, hb⟩; have B4 := Lib.hid (B3.out.trans (hb.mono B3.out.size)); clear hb))
    go_ret
    exact ⟨rfl, HB1.out.trans (B4.out.mono HB1.out.size)⟩
end Go.Proofs.YtejgcnmbngdkiaaGreatDoor
