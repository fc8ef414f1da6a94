/-
  The contract of package predict's restore: a row's bytes, by the row ahead.
-/
import Derived.Test.YtjkppdgakokelaaPrTake
import Derived.Test.YtjkppdgakokelaaPrRow
import Derived.Deep.RegionWith
import Derived.Deep.RegionHeld3
import Derived.IntWalk
namespace Go.Proofs.Ytjkppdgakokelaa
open Go.RowKit

theorem AroundAt.cells {w : World} {b : Nat} {l a c : Int} (h : AroundAt w b l a c) : w.cell? ⟨b, 0, none⟩ = some (.int .i64 l) ∧ w.cell? ⟨b, 1, none⟩ = some (.int .i64 a) ∧ w.cell? ⟨b, 2, none⟩ = some (.int .i64 c) := by
  refine ⟨?_, ?_, ?_⟩ <;> rw [cell_of_row _ _ _ _ _ _ h] <;> rfl
theorem AroundAt.free {w : World} {b : Nat} {l a c : Int} (h : AroundAt w b l a c) (j : Nat) : w.frozen? ⟨b, j, none⟩ = false := frozen_of_row _ _ _ _ _ h
theorem AroundAt.lt {w : World} {b : Nat} {l a c : Int} (h : AroundAt w b l a c) : b < w.heap.size := (Array.getElem?_eq_some_iff.1 h).1
theorem AroundAt.later {w w' : World} {b : Nat} {l a c : Int} (h : AroundAt w b l a c) (hb : Below w.heap.size w w') : AroundAt w' b l a c := (hb.block b h.lt).trans h
theorem AroundAt.other {w : World} {b : Nat} {l a c : Int} (h : AroundAt w b l a c) {p : Addr} (v : Value) (hne : b ≠ p.block) : AroundAt (w.setCell p v) b l a c := (heap_setCell_other _ _ _ _ hne).trans h
theorem AroundAt.set0 {w : World} {b : Nat} {l a c : Int} (h : AroundAt w b l a c) (x : Int) : AroundAt (w.setCell ⟨b, 0, none⟩ (.int .i64 x)) b x a c := by
  unfold AroundAt; rw [heap_setCell_same _ _ _ _ _ _ h]; rfl
theorem AroundAt.set1 {w : World} {b : Nat} {l a c : Int} (h : AroundAt w b l a c) (x : Int) : AroundAt (w.setCell ⟨b, 1, none⟩ (.int .i64 x)) b l x c := by
  unfold AroundAt; rw [heap_setCell_same _ _ _ _ _ _ h]; rfl
theorem AroundAt.set2 {w : World} {b : Nat} {l a c : Int} (h : AroundAt w b l a c) (x : Int) : AroundAt (w.setCell ⟨b, 2, none⟩ (.int .i64 x)) b l a x := by
  unfold AroundAt; rw [heap_setCell_same _ _ _ _ _ _ h]; rfl

theorem wrap64_byte (c : UInt8) : wrap64 (c.toNat : Int) = (c.toNat : Int) := by
  have h1 := c.toNat_lt
  unfold wrap64; omega

set_option maxHeartbeats 2000000 in
theorem restore_is (gr ga n kind : Nat) (row ahead : List UInt8) (w : World) (hR : ByteAt w gr row) (hA : ByteAt w ga ahead) (hne : ga ≠ gr) (hrl : row.length = n) (hal : ahead.length = n) (hn : n ≤ 256) (hk : kind = 1 ∨ kind = 2 ∨ kind = 3 ∨ kind = 4) :
    Calls Try.prog 15 #[.slice (some ⟨gr, 0, none⟩) n n, .slice (some ⟨ga, 0, none⟩) n n, .int .u8 (kind : Int)] w fun e w' => e = .returned (.tuple #[]) ∧ ByteAt w' gr (restR kind ahead row) ∧ Touches [gr] [gr] w w' := by
  have HR := Lib.hid hR
  clear hR
  have HA := Lib.hid hA
  have Hne := Lib.hid hne
  have Hrl := Lib.hid hrl
  have Hal := Lib.hid hal
  obtain ⟨R, hR⟩ : ∃ R, restR kind ahead row = R := ⟨_, rfl⟩
  have HRl : Hid (R.length = row.length) := Lib.hid (by rw [← hR, restR_length])
  have HRat := Lib.hid (fun k (h : k < row.length) => restR_at (kind := kind) (ahead := ahead) h)
  rw [hR] at HRat ⊢
  have Hk := Lib.hid hk
  have H0 : Hid (AroundAt (w.alloc (.cells #[.int .i64 0, .int .i64 0, .int .i64 0] 54)) w.heap.size 0 0 0) := Lib.hid (heap_alloc_new w _)
  have Hb0 : Hid (Below w.heap.size w (w.alloc (.cells #[.int .i64 0, .int .i64 0, .int .i64 0] 54))) := Lib.hid ((Below.refl _ w).alloc (Nat.le_refl _) _)
  have Hgw : Hid (gr < w.heap.size) := Lib.hid HR.out.lt
  have Haw : Hid (ga < w.heap.size) := Lib.hid HA.out.lt
  clear hR hA hne hrl hal hk
  go_enter Try.func15, Try.ntmps15
  go_wp2_with fail
  go_loopg [7, 10] n (fun g s7 s10 wx => ∃ k : Nat, k + g = n ∧ s10 = .int .i64 (k : Int) ∧ Aside (ByteAt wx gr (R.take k ++ row.drop k) ∧ ByteAt wx ga ahead ∧ ∃ c : Int, AroundAt wx w.heap.size ((befB R k).toNat : Int) ((befB ahead k).toNat : Int) c) ∧ Aside (Touches [gr] [gr, w.heap.size] w wx))
  case atStart =>
    exact ⟨0, by omega, rfl, ⟨HR.out.later Hb0.out, HA.out.later Hb0.out, 0, H0.out⟩, (Touches.of_below Hb0.out : Touches [gr] [gr] _ _).new (by simp)⟩
  case round =>
    obtain ⟨k, hkg, rfl, HI, HT⟩ := hrel
    cases gk with
    | zero =>
      obtain rfl : k = n := by omega
      have hend := HI.out.1
      rw [List.drop_of_length_le (by rw [Hrl.out]; exact Nat.le_refl _), List.append_nil, List.take_of_length_le (by rw [HRl.out, Hrl.out]; exact Nat.le_refl _)] at hend
      have Hend := Lib.hid hend
      clear hend
      go_wp2_with fail
      exact bodyPost_end (v := .tuple #[]) (by simp [results, go_sem]) rfl ⟨rfl, Hend.out, HT.out.fewer (by simp)⟩
    | succ g =>
      have hkn : k < n := by omega
      have hknz : (k : Int) < (n : Int) := by omega
      have hkr : k < row.length := by rw [Hrl.out]; exact hkn
      have hka : k < ahead.length := by rw [Hal.out]; exact hkn
      have hRk := HRat.out k hkr
      obtain ⟨x, hx⟩ : ∃ x, row[k] = x := ⟨_, rfl⟩
      obtain ⟨av, hav⟩ : ∃ av, ahead[k]? = some av := ⟨_, List.getElem?_eq_getElem hka⟩
      have hxs := rest_get (l := R) HRl.out hkr
      rw [hx] at hxs hRk
      rw [hav, Option.getD_some] at hRk
      obtain ⟨lf, hlf⟩ : ∃ lf, befB R k = lf := ⟨_, rfl⟩
      obtain ⟨co, hco⟩ : ∃ co, befB ahead k = co := ⟨_, rfl⟩
      rw [hlf, hco] at hRk
      obtain ⟨HB1, HB2, c, HB3⟩ := HI.out
      rw [hlf, hco] at HB3
      obtain ⟨G, hG⟩ : ∃ G, guessP kind lf.toNat av.toNat co.toNat = G := ⟨_, rfl⟩
      have hG256 : G < 256 := by rw [← hG]; exact guessP_bound _ _ _ _ lf.toNat_lt av.toNat_lt co.toNat_lt
      rw [hG] at hRk
      obtain ⟨y, hy⟩ : ∃ y : UInt8, UInt8.ofNat (x.toNat + G) = y := ⟨_, rfl⟩
      have hyz : (y.toNat : Int) = ((x.toNat : Int) + (G : Int)) % 256 := by rw [← hy, UInt8.toNat_ofNat']; omega
      rw [hy] at hRk
      have Hxs := Lib.hid hxs
      have Hput := Lib.hid (rest_put HRl.out hkr hRk)
      have Hb1 := Lib.hid (befB_succ hRk)
      have Hb2 := Lib.hid (befB_succ hav)
      have hyw : IntKind.u8.wrap ((x.toNat : Int) + (G : Int)) = (y.toNat : Int) := by rw [IntKind.wrap_u8, hyz]
      have Hyk : Hid ((R.take (k + 1) ++ row.drop (k + 1))[k]? = some y) := Lib.hid (by
        rw [List.getElem?_append_left (by rw [List.length_take, HRl.out]; omega), List.getElem?_take_of_lt (by omega)]; exact hRk)
      have Hyw := Lib.hid hyw
      have HTk := Lib.hid (fun W => taken_is lf.toNat av.toNat co.toNat kind W lf.toNat_lt av.toNat_lt co.toNat_lt Hk.out)
      rw [hG] at HTk
      have K1 := Lib.hid HB1
      have K2 := Lib.hid HB2
      have K3 := Lib.hid HB3
      have ca := HB2.cell' hav
      obtain ⟨d0, d1, d2⟩ := HB3.cells
      have f1 := HB3.free 1
      have f2 := HB3.free 2
      have ca2 : ∀ v, (wr.setCell ⟨w.heap.size, 2, none⟩ v).cell? ⟨ga, k, none⟩ = some (.int .u8 (av.toNat : Int)) := fun v => (HB2.other v (by have := Haw.out; simp; omega)).cell' hav
      have ca1 : ∀ v, (wr.setCell ⟨w.heap.size, 1, none⟩ v).cell? ⟨ga, k, none⟩ = some (.int .u8 (av.toNat : Int)) := fun v => (HB2.other v (by have := Haw.out; simp; omega)).cell' hav
      have ca3 := ca2 (.int .i64 (co.toNat : Int))
      clear hyw hRk hx hxs hlf hco hG hy hyz hav hka hkr HB1 HB2 HB3
      have hav64 := wrap64_byte av
      go_wp2_with fail
      go_region
      go_wp2_with fail
      generalize hW1 : ((wr.setCell ⟨w.heap.size, 2, none⟩ (.int .i64 (co.toNat : Int))).setCell ⟨w.heap.size, 1, none⟩ (.int .i64 (av.toNat : Int))).drew = W1
      have M1 : Hid (ByteAt W1 gr (R.take k ++ row.drop k)) := Lib.hid (by rw [← hW1]; exact (K1.out.other _ (by have := Hgw.out; simp; omega)).other _ (by have := Hgw.out; simp; omega))
      have M2 : Hid (ByteAt W1 ga ahead) := Lib.hid (by rw [← hW1]; exact (K2.out.other _ (by have := Haw.out; simp; omega)).other _ (by have := Haw.out; simp; omega))
      have M3 : Hid (AroundAt W1 w.heap.size (lf.toNat : Int) (av.toNat : Int) (co.toNat : Int)) := Lib.hid (by rw [← hW1]; exact (K3.out.set2 _).set1 _)
      have MT : Hid (Touches [gr] [gr, w.heap.size] w W1) := Lib.hid (by rw [← hW1]; exact ((HT.out.setCell (by simp) _).setCell (by simp) _).drew)
      clear ca ca1 ca2 ca3 d0 d1 d2 f1 f2 hW1 hav64
      have HKp : Hid (∀ w', Below W1.heap.size W1 w' → w'.cell? ⟨gr, k, none⟩ = some (.int .u8 (x.toNat : Int)) ∧ w'.cell? ⟨w.heap.size, 0, none⟩ = some (.int .i64 (lf.toNat : Int)) ∧ w'.cell? ⟨w.heap.size, 1, none⟩ = some (.int .i64 (av.toNat : Int)) ∧ w'.cell? ⟨w.heap.size, 2, none⟩ = some (.int .i64 (co.toNat : Int)) ∧ w'.frozen? ⟨gr, k, none⟩ = false) := Lib.hid fun w' hb =>
        ⟨(M1.out.later hb).cell' Hxs.out, (M3.out.later hb).cells.1, (M3.out.later hb).cells.2.1, (M3.out.later hb).cells.2.2, (M1.out.later hb).free k⟩
      obtain ⟨e0, e1, e2, e3, e4⟩ := HKp.out _ (Below.refl _ _)
      unfold aroundV at HTk
      have hyw := Hyw.out
      have hg8 : IntKind.u8.wrap (G : Int) = (G : Int) := by rw [IntKind.wrap_u8]; omega
      go_region_with (go_at_call 26; refine (HTk.out _).mono ?_; rintro e w3 ⟨rfl, hb⟩; have Hb := Lib.hid ((below_same W1).drew.trans hb); clear hb; obtain ⟨z0, z1, z2, z3, z4⟩ := HKp.out _ Hb.out)
      all_goals
        have N1 : Hid (ByteAt (w3.setCell ⟨gr, k, none⟩ (.int .u8 (y.toNat : Int))) gr (R.take (k + 1) ++ row.drop (k + 1))) := Lib.hid (by rw [← Hput.out]; exact (M1.out.later Hb.out).put k y)
        have N2 : Hid (ByteAt (w3.setCell ⟨gr, k, none⟩ (.int .u8 (y.toNat : Int))) ga ahead) := Lib.hid ((M2.out.later Hb.out).other _ (by exact Hne.out))
        have N3 : Hid (AroundAt (w3.setCell ⟨gr, k, none⟩ (.int .u8 (y.toNat : Int))) w.heap.size (lf.toNat : Int) (av.toNat : Int) (co.toNat : Int)) := Lib.hid ((M3.out.later Hb.out).other _ (by have := Hgw.out; simp; omega))
        have NT : Hid (Touches [gr] [gr, w.heap.size] w (w3.setCell ⟨gr, k, none⟩ (.int .u8 (y.toNat : Int)))) := Lib.hid ((MT.out.trans (Touches.of_below Hb.out)).setCell (by simp) _)
        clear z0 z1 z2 z3 z4 e0 e1 e2 e3 e4
        generalize hW4 : w3.setCell ⟨gr, k, none⟩ (.int .u8 (y.toNat : Int)) = W4
        rw [hW4] at N1 N2 N3 NT
        have y0 := N1.out.cell' Hyk.out
        obtain ⟨d0, _, _⟩ := N3.out.cells
        have f0 := N3.out.free 0
        have hy64 := wrap64_byte y
        clear hW4
        go_wp2_with fail
        go_roundg g
        case measure => omega
        case rel => exact ⟨k + 1, by omega, by go_num, ⟨N1.out.other _ (by have := Hgw.out; simp; omega), N2.out.other _ (by have := Haw.out; simp; omega), _, by rw [Hb1.out, Hb2.out]; exact N3.out.set0 _⟩, NT.out.setCell (by simp) _⟩

end Go.Proofs.Ytjkppdgakokelaa
