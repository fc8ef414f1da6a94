/-
  The laws ParseTells, ParseWhole.
-/
import Derived.Test.YtejgcnmbngdkiaaPaEx
import Derived.Test.YtejgcnmbngdkiaaNRDi
namespace Go.Proofs.Ytejgcnmbngdkiaa
open Go.RowKit
set_option maxRecDepth 100000
attribute [local go_sem] undef Hv.arr

set_option maxHeartbeats 8000000 in
theorem tells_law (s : ByteArray) (a : Int) (w : World) : Calls Try.prog 3 #[.string s, .int .i64 a] w fun e w' => e = .returned (.bool true) ∧ Below w.heap.size w w' := by
  by_cases hbig : (1000 : Int) < (s.size : Int)
  · go_enter Try.func3, Try.ntmps3
    go_wp2_with fail
    refine (parsed_any w).mono ?_
    rintro e w1 ⟨rfl, hb⟩
    have Hb := Lib.hid hb
    clear hb
    go_wp2_with fail
    go_ret
    exact ⟨rfl, Hb.out⟩
  · have hs1 : s.size ≤ 1000 := by omega
    have hl1 : s.data.toList.length ≤ 3000 := by rw [← size_data]; omega
    obtain ⟨R, hR⟩ : ∃ R, valueP s.data.toList (placeN s.data.toList a) = R := ⟨_, rfl⟩
    have hv := fun W => pvalue_any s a W (by omega) (fun h => read_fit (placeN_le _ _) h hl1)
    have hr := fun W => rvalue18_any s a W (by omega) (fun h => read_fit (placeN_le _ _) h hl1)
    rw [hR] at hv hr
    unfold ValC at hv
    unfold RTells at hr
    obtain ⟨V, hV⟩ : ∃ V, R.v = V := ⟨_, rfl⟩
    rw [hV] at hv hr
    have H1 := Lib.hid hv
    have H2 := Lib.hid hr
    clear hv hr hV hR
    go_enter Try.func3, Try.ntmps3
    go_wp2_with fail
    refine (H1.out w).mono ?_
    rintro e w1 ⟨⟨yk, yn, yg, ys, ⟨ylp, yll, ylc⟩, ⟨ydp, ydl, ydc⟩⟩, he, hy1, hb1⟩
    replace he : e = .returned (.tuple #[.agg #[.int .i64 yk, .int .i64 yn, .int .i64 yg, .string ys, .slice ylp yll ylc, .slice ydp ydl ydc], .int .i64 (R.fin : Int), .int .i64 R.code]) := he
    subst he
    go_wp2_with (refine VCell.store rfl rfl (.tmp 5) (.tmp 19) rfl w1.heap.size .nil ⟨yk, yn, yg, ys, ⟨ylp, yll, ylc⟩, ⟨ydp, ydl, ydc⟩⟩ rfl rfl (VCell.new w1 .nil) ?_; intro w2 HC2 HK2 HB2 HZ2; have hb2 : Below w1.heap.size w1 w2 := ((Below.refl _ w1).alloc (Nat.le_refl _) _).trans HB2.out)
    refine (H2.out w2).mono ?_
    rintro e w3 ⟨⟨zk, zn, zg, zs, ⟨zlp, zll, zlc⟩, ⟨zdp, zdl, zdc⟩⟩, he, hy3, hb3⟩
    replace he : e = .returned (.tuple #[.agg #[.int .i64 zk, .int .i64 zn, .int .i64 zg, .string zs, .slice zlp zll zlc, .slice zdp zdl zdc], .int .i64 (R.fin : Int), .int .i64 R.code]) := he
    subst he
    have hbw2 := hb1.trans (hb2.mono hb1.size)
    have hbw3 := hbw2.trans (hb3.mono hbw2.size)
    have HC3 := Lib.hid (HC2.out.later hb3 HC2.out.lt)
    have hr3 := (hy1.bound.later (fun k hk => hb2.block k hk.2)).bound.later (fun k hk => hb3.block k hk.2)
    clear hy1 hb1 hb2 hb3 hbw2
    go_wp2_with (first
      | (refine VCell.store rfl rfl (.tmp 8) (.tmp 26) rfl w3.heap.size .nil ⟨zk, zn, zg, zs, ⟨zlp, zll, zlc⟩, ⟨zdp, zdl, zdc⟩⟩ rfl rfl (VCell.new w3 .nil) ?_; intro w4 HC4 HK4 HB4 HZ4; have hb4 : Below w3.heap.size w3 w4 := ((Below.refl _ w3).alloc (Nat.le_refl _) _).trans HB4.out; have HC34 := Lib.hid (HC3.out.later hb4 HC3.out.lt); have HBW4 := Lib.hid (hbw3.trans (hb4.mono hbw3.size)); have hq := requal_any V V ⟨yk, yn, yg, ys, ⟨ylp, yll, ylc⟩, ⟨ydp, ydl, ydc⟩⟩ ⟨zk, zn, zg, zs, ⟨zlp, zll, zlc⟩, ⟨zdp, zdl, zdc⟩⟩ w4 (fun k => k < w4.heap.size) (((hr3.bound.later (fun k hk => hb4.block k hk.2)).bound).mono (fun k hk => hk.2)) (((hy3.bound.later (fun k hk => hb4.block k hk.2)).bound).mono (fun k hk => hk.2)) (fun _ h => h); rw [equalV_refl] at hq; dsimp only [Hv.arr] at hq; have Hq := Lib.hid hq; clear hq hb4)
      | (refine VCell.load rfl (.tmp 5) rfl w1.heap.size _ rfl HC34.out ?_)
      | (refine VCell.load rfl (.tmp 8) rfl w3.heap.size _ rfl HC4.out ?_)
      | (go_at_call 8; refine Hq.out.mono ?_; rintro e w5 ⟨rfl, hb⟩; have HB5 := Lib.hid (HBW4.out.trans (hb.mono HBW4.out.size)); clear hb)
      | (go_at_call 5; refine (parsed_any _).mono ?_; rintro e w6 ⟨rfl, hb⟩; have HB6 := Lib.hid (HB5.out.trans (hb.mono HB5.out.size)); clear hb))
    go_ret
    exact ⟨rfl, HB6.out⟩
set_option maxHeartbeats 8000000 in
theorem whole_law (s : ByteArray) (w : World) : Calls Try.prog 4 #[.string s] w fun e w' => e = .returned (.bool true) ∧ Below w.heap.size w w' := by
  by_cases hbig : (1000 : Int) < (s.size : Int)
  · go_enter Try.func4, Try.ntmps4
    go_wp2_with fail
    refine (parsed_any w).mono ?_
    rintro e w1 ⟨rfl, hb⟩
    have Hb := Lib.hid hb
    clear hb
    go_wp2_with fail
    go_ret
    exact ⟨rfl, Hb.out⟩
  · have hs1 : s.size ≤ 1000 := by omega
    have hl1 : s.data.toList.length ≤ 3000 := by rw [← size_data]; omega
    obtain ⟨R, hR⟩ : ∃ R, wholeV s.data.toList = R := ⟨_, rfl⟩
    have hv := fun W => pwhole_any s W (by omega) (fun h => read_fit (Nat.zero_le _) h hl1)
    have hr := fun W => rwhole_any s W (by omega) (fun h => read_fit (Nat.zero_le _) h hl1)
    unfold WhoC at hv
    unfold RWhoC at hr
    rw [hR] at hv hr
    obtain ⟨V, c⟩ := R
    have H1 := Lib.hid hv
    have H2 := Lib.hid hr
    clear hv hr hR
    go_enter Try.func4, Try.ntmps4
    go_wp2_with fail
    refine (H1.out w).mono ?_
    rintro e w1 ⟨⟨yk, yn, yg, ys, ⟨ylp, yll, ylc⟩, ⟨ydp, ydl, ydc⟩⟩, he, hy1, hb1⟩
    replace he : e = .returned (.tuple #[.agg #[.int .i64 yk, .int .i64 yn, .int .i64 yg, .string ys, .slice ylp yll ylc, .slice ydp ydl ydc], .int .i64 c]) := he
    subst he
    go_wp2_with (refine VCell.store rfl rfl (.tmp 3) (.tmp 14) rfl w1.heap.size .nil ⟨yk, yn, yg, ys, ⟨ylp, yll, ylc⟩, ⟨ydp, ydl, ydc⟩⟩ rfl rfl (VCell.new w1 .nil) ?_; intro w2 HC2 HK2 HB2 HZ2; have hb2 : Below w1.heap.size w1 w2 := ((Below.refl _ w1).alloc (Nat.le_refl _) _).trans HB2.out)
    refine (H2.out w2).mono ?_
    rintro e w3 ⟨⟨zk, zn, zg, zs, ⟨zlp, zll, zlc⟩, ⟨zdp, zdl, zdc⟩⟩, he, hy3, hb3⟩
    replace he : e = .returned (.tuple #[.agg #[.int .i64 zk, .int .i64 zn, .int .i64 zg, .string zs, .slice zlp zll zlc, .slice zdp zdl zdc], .int .i64 c]) := he
    subst he
    have hbw2 := hb1.trans (hb2.mono hb1.size)
    have hbw3 := hbw2.trans (hb3.mono hbw2.size)
    have HC3 := Lib.hid (HC2.out.later hb3 HC2.out.lt)
    have hr3 := (hy1.bound.later (fun k hk => hb2.block k hk.2)).bound.later (fun k hk => hb3.block k hk.2)
    clear hy1 hb1 hb2 hb3 hbw2
    go_wp2_with (first
      | (refine VCell.store rfl rfl (.tmp 5) (.tmp 19) rfl w3.heap.size .nil ⟨zk, zn, zg, zs, ⟨zlp, zll, zlc⟩, ⟨zdp, zdl, zdc⟩⟩ rfl rfl (VCell.new w3 .nil) ?_; intro w4 HC4 HK4 HB4 HZ4; have hb4 : Below w3.heap.size w3 w4 := ((Below.refl _ w3).alloc (Nat.le_refl _) _).trans HB4.out; have HC34 := Lib.hid (HC3.out.later hb4 HC3.out.lt); have HBW4 := Lib.hid (hbw3.trans (hb4.mono hbw3.size)); have hq := requal_any V V ⟨yk, yn, yg, ys, ⟨ylp, yll, ylc⟩, ⟨ydp, ydl, ydc⟩⟩ ⟨zk, zn, zg, zs, ⟨zlp, zll, zlc⟩, ⟨zdp, zdl, zdc⟩⟩ w4 (fun k => k < w4.heap.size) (((hr3.bound.later (fun k hk => hb4.block k hk.2)).bound).mono (fun k hk => hk.2)) (((hy3.bound.later (fun k hk => hb4.block k hk.2)).bound).mono (fun k hk => hk.2)) (fun _ h => h); rw [equalV_refl] at hq; dsimp only [Hv.arr] at hq; have Hq := Lib.hid hq; clear hq hb4)
      | (refine VCell.load rfl (.tmp 3) rfl w1.heap.size _ rfl HC34.out ?_)
      | (refine VCell.load rfl (.tmp 5) rfl w3.heap.size _ rfl HC4.out ?_)
      | (go_at_call 8; refine Hq.out.mono ?_; rintro e w5 ⟨rfl, hb⟩; have HB5 := Lib.hid (HBW4.out.trans (hb.mono HBW4.out.size)); clear hb)
      | (go_at_call 5; refine (parsed_any _).mono ?_; rintro e w6 ⟨rfl, hb⟩; have HB6 := Lib.hid (HB5.out.trans (hb.mono HB5.out.size)); clear hb))
    go_ret
    exact ⟨rfl, HB6.out⟩
end Go.Proofs.Ytejgcnmbngdkiaa
