/-
  The page's example.
-/
import Derived.Test.YtejgcnmbngdkiaaGreatDoorNTop
import Derived.Test.YtejgcnmbngdkiaaGreatDoorVREqual
namespace Go.Proofs.YtejgcnmbngdkiaaGreatDoor
open Go.RowKit
set_option maxRecDepth 100000
attribute [local go_sem] undef Hv.arr

def exList : Val := .mk 5 0 0 (bytes []) [bitV 2 1 0 [], bitV 7 2 0 []] []
def exDict : Val := .mk 6 0 0 (bytes []) [] [(bytes [65], exList)]
def exS : ByteArray := ⟨#[60, 60, 47, 65, 32, 91, 49, 32, 50, 32, 48, 32, 82, 93, 32, 47, 66, 32, 110, 117, 108, 108, 62, 62]⟩
theorem ex_whole : wholeV exS.data.toList = (exDict, 0) := by kernel_rfl
theorem ex_fit : Fit (readP exS.data.toList (2 * exS.data.toList.length + 1) 0 0).v 4000 := ⟨Nat.le_of_ble_eq_true (by kernel_rfl), by kernel_rfl⟩
theorem ex_value : valueP (ByteArray.mk #[120, 32, 49, 50, 32, 93]).data.toList (placeN (ByteArray.mk #[120, 32, 49, 50, 32, 93]).data.toList 1) = ⟨bitV 2 12 0 [], 4, 0⟩ := by kernel_rfl
theorem ex_fit2 : Fit (readP (ByteArray.mk #[120, 32, 49, 50, 32, 93]).data.toList (2 * (ByteArray.mk #[120, 32, 49, 50, 32, 93]).data.toList.length + 1) (placeN (ByteArray.mk #[120, 32, 49, 50, 32, 93]).data.toList 1) 0).v 4000 := ⟨Nat.le_of_ble_eq_true (by kernel_rfl), by kernel_rfl⟩
theorem ex_short : wholeV (ByteArray.mk #[91, 49]).data.toList = (.null, 5) := by kernel_rfl
theorem ex_form : wholeV (ByteArray.mk #[49, 32, 49]).data.toList = (.null, 4) := by kernel_rfl
theorem ex_no3 : ¬ (readP (ByteArray.mk #[91, 49]).data.toList (2 * (ByteArray.mk #[91, 49]).data.toList.length + 1) 0 0).code = 0 := by
  rw [show (readP (ByteArray.mk #[91, 49]).data.toList (2 * (ByteArray.mk #[91, 49]).data.toList.length + 1) 0 0).code = 5 by kernel_rfl]; decide
theorem ex_fit4 : Fit (readP (ByteArray.mk #[49, 32, 49]).data.toList (2 * (ByteArray.mk #[49, 32, 49]).data.toList.length + 1) 0 0).v 4000 := ⟨Nat.le_of_ble_eq_true (by kernel_rfl), by kernel_rfl⟩
/-- Two elements that lie in a block; one pair. -/
theorem two_rd {w : World} {b : Nat} {T : TypeId} (h : w.heap[b]? = some (.cells #[.int .i64 2, .int .i64 1, .int .i64 0, .string ⟨#[]⟩, .slice none 0 0, .slice none 0 0, .int .i64 7, .int .i64 2, .int .i64 0, .string ⟨#[]⟩, .slice none 0 0, .slice none 0 0] T (0, 0))) : RdL w (fun k => k = b) ⟨some ⟨b, 0, none⟩, 2, 2⟩ [bitV 2 1 0 [], bitV 7 2 0 []] := by
  have c := fun j => cell_of_row (w := w) (g := b) (j := j) (hg := h)
  refine ⟨rfl, ⟨Nat.le_refl _, (show 2 ≤ maxLen by decide)⟩, b, 0, fun i => if i = 0 then ⟨2, 1, 0, ⟨#[]⟩, ⟨none, 0, 0⟩, ⟨none, 0, 0⟩⟩ else ⟨7, 2, 0, ⟨#[]⟩, ⟨none, 0, 0⟩, ⟨none, 0, 0⟩⟩, fun _ => ⟨rfl, rfl⟩, fun i hi => ?_, fun i hi => ?_⟩
  · match i, hi with
    | 0, _ => exact ⟨c 0, c 1, c 2, c 3, c 4, c 5⟩
    | 1, _ => exact ⟨c 6, c 7, c 8, c 9, c 10, c 11⟩
  · match i, hi with
    | 0, _ => exact rd_bit 2 1 0 []
    | 1, _ => exact rd_bit 7 2 0 []
theorem one_rd {w : World} {b : Nat} {T : TypeId} {S : Nat → Prop} {key : ByteArray} {y : Hv} {v : Val} (h : w.heap[b]? = some (.cells #[.string key, .int .i64 y.k, .int .i64 y.n, .int .i64 y.g, .string y.s, .slice y.l.p y.l.len y.l.cap, .slice y.d.p y.d.len y.d.cap] T (0, 0))) (hb : S b) (hy : Rd w S y v) :
    RdD w S ⟨some ⟨b, 0, none⟩, 1, 1⟩ [(key, v)] := by
  have c := fun j => cell_of_row (w := w) (g := b) (j := j) (hg := h)
  refine ⟨rfl, ⟨Nat.le_refl _, (show 1 ≤ maxLen by decide)⟩, b, 0, fun _ => ⟨key, y⟩, fun _ => ⟨rfl, hb⟩, fun i hi => ?_, fun i hi => ?_⟩
  · match i, hi with
    | 0, _ => exact ⟨c 0, c 1, c 2, c 3, c 4, c 5, c 6⟩
  · match i, hi with
    | 0, _ => exact ⟨rfl, hy⟩

set_option maxHeartbeats 8000000 in
theorem parsed_any (w : World) : Calls Tryz.prog 6 #[] w fun e w' => e = .returned (.bool true) ∧ Below w.heap.size w w' := by
  have h1 := fun W => pwhole_any exS W (by decide) (fun _ => ex_fit)
  have h2 := fun W => pvalue_any (ByteArray.mk #[120, 32, 49, 50, 32, 93]) 1 W (by decide) (fun _ => ex_fit2)
  have h3 := fun W => pwhole_any (ByteArray.mk #[91, 49]) W (by decide) (fun h => absurd h ex_no3)
  have h4 := fun W => pwhole_any (ByteArray.mk #[49, 32, 49]) W (by decide) (fun _ => ex_fit4)
  unfold WhoC at h1 h3 h4
  unfold ValC at h2
  rw [ex_whole] at h1
  rw [ex_value] at h2
  rw [ex_short] at h3
  rw [ex_form] at h4
  have H1 := Lib.hid h1
  have H2 := Lib.hid h2
  have H3 := Lib.hid h3
  have H4 := Lib.hid h4
  clear h1 h2 h3 h4
  go_enter Tryz.func6, Tryz.ntmps6
  go_wp2_with fail
  refine (H1.out w).mono ?_
  rintro e w1 ⟨⟨yk, yn, yg, ys, ⟨ylp, yll, ylc⟩, ⟨ydp, ydl, ydc⟩⟩, he, hy1, hb1⟩
  replace he : e = .returned (.tuple #[.agg #[.int .i64 yk, .int .i64 yn, .int .i64 yg, .string ys, .slice ylp yll ylc, .slice ydp ydl ydc], .int .i64 0]) := he
  subst he
  go_wp2_with (refine VCell.store rfl rfl (.tmp 1) (.tmp 13) rfl w1.heap.size .nil ⟨yk, yn, yg, ys, ⟨ylp, yll, ylc⟩, ⟨ydp, ydl, ydc⟩⟩ rfl rfl (VCell.new w1 .nil) ?_; intro w2 HC2 HK2 HB2 HZ2; have hb2 : Below w1.heap.size w1 w2 := ((Below.refl _ w1).alloc (Nat.le_refl _) _).trans HB2.out)
  have hE : (w2.alloc (.cells #[.int .i64 2, .int .i64 1, .int .i64 0, .string ⟨#[]⟩, .slice none 0 0, .slice none 0 0, .int .i64 7, .int .i64 2, .int .i64 0, .string ⟨#[]⟩, .slice none 0 0, .slice none 0 0] 25)).heap[w2.heap.size]? = some (.cells #[.int .i64 2, .int .i64 1, .int .i64 0, .string ⟨#[]⟩, .slice none 0 0, .slice none 0 0, .int .i64 7, .int .i64 2, .int .i64 0, .string ⟨#[]⟩, .slice none 0 0, .slice none 0 0] 25 (0, 0)) := heap_alloc_new w2 _
  have hbE : Below w2.heap.size w2 (w2.alloc (.cells #[.int .i64 2, .int .i64 1, .int .i64 0, .string ⟨#[]⟩, .slice none 0 0, .slice none 0 0, .int .i64 7, .int .i64 2, .int .i64 0, .string ⟨#[]⟩, .slice none 0 0, .slice none 0 0] 25)) := (Below.refl _ _).alloc (Nat.le_refl _) _
  have hsE : (w2.alloc (.cells #[.int .i64 2, .int .i64 1, .int .i64 0, .string ⟨#[]⟩, .slice none 0 0, .slice none 0 0, .int .i64 7, .int .i64 2, .int .i64 0, .string ⟨#[]⟩, .slice none 0 0, .slice none 0 0] 25)).heap.size = w2.heap.size + 1 := by simp
  generalize w2.alloc (.cells #[.int .i64 2, .int .i64 1, .int .i64 0, .string ⟨#[]⟩, .slice none 0 0, .slice none 0 0, .int .i64 7, .int .i64 2, .int .i64 0, .string ⟨#[]⟩, .slice none 0 0, .slice none 0 0] 25) = wE at hE hbE hsE ⊢
  have hL : VCell (wE.alloc (.cells #[.int .i64 5, .int .i64 0, .int .i64 0, .string ⟨#[]⟩, .slice (some ⟨w2.heap.size, 0, none⟩) 2 2, .slice none 0 0] 25)) wE.heap.size ⟨5, 0, 0, ⟨#[]⟩, ⟨some ⟨w2.heap.size, 0, none⟩, 2, 2⟩, ⟨none, 0, 0⟩⟩ := heap_alloc_new wE _
  have hbL : Below wE.heap.size wE (wE.alloc (.cells #[.int .i64 5, .int .i64 0, .int .i64 0, .string ⟨#[]⟩, .slice (some ⟨w2.heap.size, 0, none⟩) 2 2, .slice none 0 0] 25)) := (Below.refl _ _).alloc (Nat.le_refl _) _
  generalize wE.alloc (.cells #[.int .i64 5, .int .i64 0, .int .i64 0, .string ⟨#[]⟩, .slice (some ⟨w2.heap.size, 0, none⟩) 2 2, .slice none 0 0] 25) = wL at hL hbL ⊢
  have hw2L : Below w2.heap.size w2 wL := hbE.trans (hbL.mono (by omega))
  have H1y : Hid (∀ W, Below wL.heap.size wL W → VCell W w1.heap.size ⟨yk, yn, yg, ys, ⟨ylp, yll, ylc⟩, ⟨ydp, ydl, ydc⟩⟩ ∧ Rd W (fun k => k < w2.heap.size) ⟨yk, yn, yg, ys, ⟨ylp, yll, ylc⟩, ⟨ydp, ydl, ydc⟩⟩ exDict) := Lib.hid fun W hb => by
    have hbb := hw2L.trans (hb.mono hw2L.size)
    exact ⟨HC2.out.later hbb HC2.out.lt, ((hy1.bound.later (fun k hk => hb2.block k hk.2)).later (fun k hk => hbb.block k (Nat.lt_of_lt_of_le hk.2 hb2.size))).mono (fun k hk => Nat.lt_of_lt_of_le hk.2 hb2.size)⟩
  have H1L : Hid (∀ W, Below wL.heap.size wL W → VCell W (w2.heap.size + 1) ⟨5, 0, 0, ⟨#[]⟩, ⟨some ⟨w2.heap.size, 0, none⟩, 2, 2⟩, ⟨none, 0, 0⟩⟩ ∧ Rd W (fun k => k = w2.heap.size) ⟨5, 0, 0, ⟨#[]⟩, ⟨some ⟨w2.heap.size, 0, none⟩, 2, 2⟩, ⟨none, 0, 0⟩⟩ exList) := Lib.hid fun W hb => by
    refine ⟨by rw [← hsE]; exact hL.later hb hL.lt, rd_iff.2 ⟨⟨rfl, rfl, rfl, rfl⟩, two_rd (T := 25) ?_, RdD.nil _ _ none 0 (Nat.zero_le _)⟩⟩
    rw [hb.block _ (by have := hbL.size; omega), hbL.block _ (by omega)]
    exact hE
  have HbW := Lib.hid (show Below w.heap.size w wL from hb1.trans ((hb2.trans (hw2L.mono hb2.size)).mono hb1.size))
  have HsE := Lib.hid hsE
  have HlL := Lib.hid hbL.size
  have HlE := Lib.hid hL.lt
  clear hy1 hb1 hb2 hE hbE hsE hL hbL hw2L
  refine (H2.out wL).mono ?_
  rintro e w3 ⟨⟨zk, zn, zg, zs, ⟨zlp, zll, zlc⟩, ⟨zdp, zdl, zdc⟩⟩, he, hy3, hb3⟩
  replace he : e = .returned (.tuple #[.agg #[.int .i64 zk, .int .i64 zn, .int .i64 zg, .string zs, .slice zlp zll zlc, .slice zdp zdl zdc], .int .i64 4, .int .i64 0]) := he
  subst he
  go_wp2_with (refine VCell.store rfl rfl (.tmp 4) (.tmp 21) rfl w3.heap.size .nil ⟨zk, zn, zg, zs, ⟨zlp, zll, zlc⟩, ⟨zdp, zdl, zdc⟩⟩ rfl rfl (VCell.new w3 .nil) ?_; intro w4 HC4 HK4 HB4 HZ4; have hb4 : Below w3.heap.size w3 w4 := ((Below.refl _ w3).alloc (Nat.le_refl _) _).trans HB4.out)
  have hb34 := hb3.trans (hb4.mono hb3.size)
  refine (H3.out w4).mono ?_
  rintro e w5 ⟨⟨uk, un, ug, us, ⟨ulp, ull, ulc⟩, ⟨udp, udl, udc⟩⟩, he, hy5, hb5⟩
  replace he : e = .returned (.tuple #[.agg #[.int .i64 uk, .int .i64 un, .int .i64 ug, .string us, .slice ulp ull ulc, .slice udp udl udc], .int .i64 5]) := he
  subst he
  go_wp2_with (refine VCell.store rfl rfl (.tmp 7) (.tmp 26) rfl w5.heap.size .nil ⟨uk, un, ug, us, ⟨ulp, ull, ulc⟩, ⟨udp, udl, udc⟩⟩ rfl rfl (VCell.new w5 .nil) ?_; intro w6 HC6 HK6 HB6 HZ6; have hb6 : Below w5.heap.size w5 w6 := ((Below.refl _ w5).alloc (Nat.le_refl _) _).trans HB6.out)
  have hb35 := hb34.trans ((hb5.trans (hb6.mono hb5.size)).mono hb34.size)
  refine (H4.out w6).mono ?_
  rintro e w7 ⟨⟨vk, vn, vg, vs, ⟨vlp, vll, vlc⟩, ⟨vdp, vdl, vdc⟩⟩, he, hy7, hb7⟩
  replace he : e = .returned (.tuple #[.agg #[.int .i64 vk, .int .i64 vn, .int .i64 vg, .string vs, .slice vlp vll vlc, .slice vdp vdl vdc], .int .i64 4]) := he
  subst he
  have Hb37 := Lib.hid (hb35.trans (hb7.mono hb35.size))
  clear hb3 hb4 hb34 hb5 hb6 hb35 hb7 hy3 hy5 hy7
  go_wp2_with (first
    | (refine VCell.store rfl rfl (.tmp 9) (.tmp 30) rfl w7.heap.size .nil ⟨vk, vn, vg, vs, ⟨vlp, vll, vlc⟩, ⟨vdp, vdl, vdc⟩⟩ rfl rfl (VCell.new w7 .nil) ?_; intro w8 HC8 HK8 HB8 HZ8; have hb8 : Below w7.heap.size w7 w8 := ((Below.refl _ w7).alloc (Nat.le_refl _) _).trans HB8.out; have Hb38 := Lib.hid (Hb37.out.trans (hb8.mono Hb37.out.size)))
    | (refine VCell.load rfl (.tmp 1) rfl w1.heap.size _ rfl (H1y.out w8 Hb38.out).1 ?_)
    | (refine VCell.load rfl (.tmp 3) rfl (w2.heap.size + 1) _ rfl (H1L.out w8 Hb38.out).1 ?_))
  have hbP : Below w8.heap.size w8 (w8.alloc (.cells #[.string ⟨#[65]⟩, .int .i64 5, .int .i64 0, .int .i64 0, .string ⟨#[]⟩, .slice (some ⟨w2.heap.size, 0, none⟩) 2 2, .slice none 0 0] 42)) := (Below.refl _ _).alloc (Nat.le_refl _) _
  have hsP : (w8.alloc (.cells #[.string ⟨#[65]⟩, .int .i64 5, .int .i64 0, .int .i64 0, .string ⟨#[]⟩, .slice (some ⟨w2.heap.size, 0, none⟩) 2 2, .slice none 0 0] 42)).heap.size = w8.heap.size + 1 := by simp
  have hP : (w8.alloc (.cells #[.string ⟨#[65]⟩, .int .i64 5, .int .i64 0, .int .i64 0, .string ⟨#[]⟩, .slice (some ⟨w2.heap.size, 0, none⟩) 2 2, .slice none 0 0] 42)).heap[w8.heap.size]? = some (.cells #[.string ⟨#[65]⟩, .int .i64 5, .int .i64 0, .int .i64 0, .string ⟨#[]⟩, .slice (some ⟨w2.heap.size, 0, none⟩) 2 2, .slice none 0 0] 42 (0, 0)) := heap_alloc_new w8 _
  generalize w8.alloc (.cells #[.string ⟨#[65]⟩, .int .i64 5, .int .i64 0, .int .i64 0, .string ⟨#[]⟩, .slice (some ⟨w2.heap.size, 0, none⟩) 2 2, .slice none 0 0] 42) = wP at hbP hsP hP ⊢
  have hbL8 := Hb38.out.trans (hbP.mono Hb38.out.size)
  have hz8 := Hb38.out.size
  have hlL := HlL.out
  have hsE := HsE.out
  have hry := (H1y.out wP hbL8).2
  have hrl := (H1L.out wP hbL8).2
  have hq := requal_any exDict exDict ⟨yk, yn, yg, ys, ⟨ylp, yll, ylc⟩, ⟨ydp, ydl, ydc⟩⟩ ⟨6, 0, 0, ⟨#[]⟩, ⟨none, 0, 0⟩, ⟨some ⟨w8.heap.size, 0, none⟩, 1, 1⟩⟩ wP (fun k => k < wP.heap.size) (hry.mono (fun k hk => by omega))
    (rd_iff.2 ⟨⟨rfl, rfl, rfl, rfl⟩, RdL.nil _ _ none 0 (Nat.zero_le _), one_rd (y := ⟨5, 0, 0, ⟨#[]⟩, ⟨some ⟨w2.heap.size, 0, none⟩, 2, 2⟩, ⟨none, 0, 0⟩⟩) (T := 42) hP (by omega) (hrl.mono (fun k hk => by omega))⟩) (fun _ h => h)
  rw [equalV_refl] at hq
  dsimp only [Hv.arr] at hq
  have Hend := Lib.hid (HbW.out.trans (hbL8.mono HbW.out.size))
  refine hq.mono ?_
  rintro e w9 ⟨rfl, hb9⟩
  have HE9 := Lib.hid (Hend.out.trans (hb9.mono Hend.out.size))
  clear hq hb9 hry hrl hP
  go_wp2_with fail
  go_ret
  exact ⟨rfl, HE9.out⟩
end Go.Proofs.YtejgcnmbngdkiaaGreatDoor
