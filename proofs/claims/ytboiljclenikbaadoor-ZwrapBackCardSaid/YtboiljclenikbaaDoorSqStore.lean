/-
  The contracts of package squeeze's appendStored, Stored.
-/
import Derived.Test.YtboiljclenikbaaDoorHPlain
import Derived.Test.YtboiljclenikbaaDoorHRows
import Derived.Test.YtboiljclenikbaaDoorHHeld
import Derived.Deep.LoopGhost
namespace Go.Proofs.YtboiljclenikbaaDoor
open Go.RowKit
set_option maxRecDepth 100000
/-- Bytes are put behind a row of the call's own, or behind nothing. -/
theorem wpList_append8n {ops : Array Oper} {rest : List Oper} {o : Oper} {a : Act} {w : World} {Q : Exit → Act → World → Prop} (hgd : o.guard = none) (s x : Operand)
    (ho : o.op = .call { callee := .builtin .append, args := #[s, x], argTypes := #[28, 28] })
    (B : Nat) (v : Value) (l : List UInt8) (hs : a.eval s = v) (h1 : w.ownsRow B 5 1 v l.length (cellsB l))
    (ad : Addr) (c : Nat) (news : List UInt8) (hx : a.eval x = .slice (some ad) news.length c) (hnews : ∀ j (h : j < news.length), w.cell? (ad.add j) = some (.int .u8 (news[j].toNat : Int)))
    (hm : 0 < news.length) (hlen : l.length + news.length ≤ 140737488355328) (W0 : World) (hb : Below B W0 w) (hB : B ≤ w.heap.size)
    (h : ∀ v' w', Hid (Own8 w' B v' (l ++ news)) → Hid (Below B W0 w') → wpList Tryd.prog ops Q rest (a.put o.dst v') w') : wpList Tryd.prog ops Q (o :: rest) a w :=
  wpList_plain hgd fun _ hK => by
    obtain ⟨i0, hi, hz0, hz1, hz2⟩ := info_parts info8
    refine wp_append_lies w s x 28 ho B 5 i0 (.int .u8 0) 1 1 Tryd.underlying28 hi hz0 hz1 hz2 rfl (by decide) _ _ _ hs h1 ad news.length c (cellsB news) hx (by rw [cellsB_length, Nat.mul_one]) ?_ (cellsB_one _) hm (by unfold maxLen; omega) (by omega) hB _ rfl ?_
    · intro j u hj
      have hl : j < news.length := by
        have := (List.getElem?_eq_some_iff.1 hj).1
        rwa [cellsB_length] at this
      rw [cellsB_at hl] at hj
      rw [← hj]; exact hnews j hl
    · intro g' cap' w' hown' hgrow _ _
      have hform : ∃ g cap, Value.slice (some ⟨g', 0, none⟩) (l.length + news.length) cap' = .slice (some ⟨g, 0, none⟩) (l.length + news.length) cap := ⟨_, _, rfl⟩
      refine hK _ _ (h _ w' (Lib.hid ?_) (Lib.hid (hb.grown hgrow hB (fun k ek => (h1.lt k ek).1))))
      have := own_ends (k := (l ++ news).length) (by rw [List.length_append]) hown' hform
      unfold Own8
      rw [cellsB_append]
      exact this
/-- Five bytes that the call has just made. -/
theorem cells_new5 (W : World) (a b c d e : UInt8) : ∀ j (h : j < [a, b, c, d, e].length), (W.alloc (.cells #[.int .u8 (a.toNat : Int), .int .u8 (b.toNat : Int), .int .u8 (c.toNat : Int), .int .u8 (d.toNat : Int), .int .u8 (e.toNat : Int)] 5)).cell? ((⟨W.heap.size, 0, none⟩ : Addr).add j) = some (.int .u8 ([a, b, c, d, e][j].toNat : Int)) := by
  intro j h
  rw [Addr.add_lit, Nat.zero_add, World.cell?_alloc_new]
  match j, h with
  | 0, _ => rfl
  | 1, _ => rfl
  | 2, _ => rfl
  | 3, _ => rfl
  | 4, _ => rfl
theorem xor_all : ∀ r : Fin 256, bits .xor .u8 IntKind.u8.max (r.val : Int) = ((255 - r.val : Nat) : Int) := by decide +kernel
theorem byte_cell (n : Nat) (h : n < 256) : ((UInt8.ofNat n).toNat : Int) = (n : Int) := by rw [UInt8.toNat_ofNat']; omega
set_option maxHeartbeats 1000000 in
theorem appendStored_is (B : Nat) (W0 : World) (v : Value) (l : List UInt8) (s : ByteArray) (last : UInt8) (w : World) (h : w.ownsRow B 5 1 v l.length (cellsB l)) (hl : l.length ≤ 1000000) (hs : s.size ≤ 65535) (hb : Below B W0 w) (hB0 : B ≤ W0.heap.size) :
    Calls Tryd.prog 42 #[v, .int .u8 (last.toNat : Int), .string s] w fun en w' => ∃ v', en = .returned v' ∧ Own8 w' B v' (l ++ blockZ last.toNat s.data.toList) ∧ Below B W0 w' := by
  have hB := Nat.le_trans hB0 hb.size
  obtain ⟨q, hq⟩ : ∃ q, s.size / 256 = q := ⟨_, rfl⟩
  obtain ⟨r, hr⟩ : ∃ r, s.size % 256 = r := ⟨_, rfl⟩
  have hq8 : q < 256 := by omega
  have hr8 : r < 256 := by omega
  have hdz : (s.size : Int) / 256 = (q : Int) := by omega
  have hmz : (s.size : Int) % 256 = (r : Int) := by omega
  have hqz : (q : Int) % 256 = (q : Int) := by omega
  have hx1 := xor_all ⟨r, hr8⟩
  have hx2 := xor_all ⟨q, hq8⟩
  simp only at hx1 hx2
  have Hnews := Lib.hid (fun W => cells_new5 W last (UInt8.ofNat r) (UInt8.ofNat q) (UInt8.ofNat (255 - r)) (UInt8.ofNat (255 - q)))
  simp only [byte_cell r hr8, byte_cell q hq8, byte_cell (255 - r) (by omega), byte_cell (255 - q) (by omega)] at Hnews
  have HZ : Hid (blockZ last.toNat s.data.toList = [last, UInt8.ofNat r, UInt8.ofNat q, UInt8.ofNat (255 - r), UInt8.ofNat (255 - q)] ++ s.data.toList) := Lib.hid (by
    unfold blockZ
    rw [← size_data, hr, hq, show (65535 - s.size) % 256 = 255 - r by omega, show (65535 - s.size) / 256 = 255 - q by omega]
    simp)
  have H := Lib.hid h
  have HB := Lib.hid hb
  clear h hb hq hr
  go_enter Tryd.func42, Tryd.ntmps42
  go_wp2_with (at_builtin; first | (simp only [show (if IntKind.u8.signed = true then (-1 : Int) else IntKind.u8.max) = IntKind.u8.max from rfl, hx1, hx2]; refine wpList_append8n rfl (.tmp 16) (.tmp 24) rfl B _ l rfl (H.out.alloc _) ⟨w.heap.size, 0, none⟩ 5 [last, UInt8.ofNat r, UInt8.ofNat q, UInt8.ofNat (255 - r), UInt8.ofNat (255 - q)] rfl (Hnews.out _) (by simp) (by simp; omega) W0 (HB.out.alloc hB _) (by simp; omega) ?_; intro v1 w1 Ho1 Hb1) | (refine wpList_append8s rfl (.tmp 26) (.tmp 27) rfl B _ _ rfl Ho1.out s rfl (by simp; omega) W0 Hb1.out (Nat.le_trans hB0 Hb1.out.size) ?_; intro v2 w2 Ho2 Hb2 _))
  go_ret
  exact ⟨_, rfl, by rw [HZ.out, ← List.append_assoc]; exact Ho2.out, Hb2.out⟩
theorem text_rest (t : ByteArray) {k : Nat} (h : k ≤ t.size) : (t.extract k t.size).data.toList = t.data.toList.drop k := by
  have e : (t.extract k (k + (t.size - k))).data.toList = (t.data.toList.drop k).take (t.size - k) := by simp
  rw [show k + (t.size - k) = t.size by omega] at e
  rw [e, List.take_of_length_le (by rw [List.length_drop, ← size_data]; exact Nat.le_refl _)]
theorem storedN_succ (f : Nat) (l : List UInt8) : storedN (f + 1) l = if 65535 < l.length then blockZ 0 (l.take 65535) ++ storedN f (l.drop 65535) else blockZ 1 l := rfl
theorem storedN_last {f : Nat} {l : List UInt8} (h : l.length ≤ 65535) : storedN f l = blockZ 1 l := by
  cases f with
  | zero => rfl
  | succ f => rw [storedN_succ, if_neg (by omega)]
set_option maxHeartbeats 1000000 in
theorem qstored_is (s : ByteArray) (w : World) (hs : s.size ≤ 900000) {u : ByteArray} (hu : storedZ s.data.toList = u.data.toList) :
    Calls Tryd.prog 19 #[.string s] w fun en w' => en = .returned (.string u) ∧ Below w.heap.size w w' := by
  have HU := Lib.hid hu
  have hl := storedZ_length s.data.toList
  rw [← size_data] at hl
  have HLn : Hid ((storedZ s.data.toList).length ≤ 1000000) := Lib.hid (by omega)
  clear hu hl
  go_enter Tryd.func19, Tryd.ntmps19
  go_wp2_with fail
  go_loopg [0, 3] s.size (fun gg s0 s3 wx => ∃ (t : ByteArray) (l : List UInt8), s0 = .string t ∧ t.size ≤ 65535 + gg ∧ t.size ≤ 900000 ∧ l.length ≤ 1000000 ∧ Aside (wx.ownsRow w.heap.size 5 1 s3 l.length (cellsB l)) ∧ Aside (l ++ storedN gg t.data.toList = storedZ s.data.toList) ∧ Below w.heap.size w wx)
  case atStart => exact ⟨s, [], rfl, by omega, hs, by simp, World.ownsRow_nil _ _ _ _, by show _ = _; unfold storedZ; rw [← size_data]; rfl, Below.refl _ _⟩
  case round =>
    obtain ⟨t, l, rfl, htg, hts, hll, HO, HQ, hb⟩ := hrel
    have Hb := Lib.hid hb
    clear hb
    by_cases hbig : 65535 < t.size
    · have hbz : (65535 : Int) < (t.size : Int) := by omega
      obtain ⟨gg, rfl⟩ : ∃ gg, gk = gg + 1 := ⟨gk - 1, by omega⟩
      have e1 : (t.extract 0 65535).data.toList = t.data.toList.take 65535 := by simp
      have e2 : (t.extract 65535 t.size).data.toList = t.data.toList.drop 65535 := text_rest t (by omega)
      have e3 : (t.extract 0 65535).size = 65535 := by rw [size_data, e1, List.length_take, ← size_data]; omega
      have e4 : (t.extract 65535 t.size).size = t.size - 65535 := by rw [size_data, e2, List.length_drop, ← size_data]
      have HA := appendStored_is w.heap.size w _ l (t.extract 0 65535) 0 wr HO.out hll (by omega) Hb.out (Nat.le_refl _)
      rw [show (((0 : UInt8).toNat : Nat) : Int) = 0 from rfl] at HA
      have HA := Lib.hid HA
      have hQ : (l ++ blockZ 0 (t.extract 0 65535).data.toList) ++ storedN gg (t.extract 65535 t.size).data.toList = storedZ s.data.toList := by
        have h := HQ.out
        rw [storedN_succ, if_pos (by rw [← size_data]; exact hbig)] at h
        rw [e1, e2, List.append_assoc]; exact h
      have HQ2 := Lib.hid hQ
      have hl2 : (l ++ blockZ 0 (t.extract 0 65535).data.toList).length ≤ 1000000 := by
        have h := congrArg List.length hQ
        rw [List.length_append] at h
        have := HLn.out
        omega
      clear hQ e1 e2 e3
      go_wp2_with fail
      refine HA.out.mono ?_
      rintro e w1 ⟨v1, rfl, ho, hb⟩
      have HO1 := Lib.hid ho.1
      have HB1 := Lib.hid hb
      clear ho hb HA
      go_wp2_with fail
      go_roundg gg
      case measure => omega
      case rel => exact ⟨t.extract 65535 t.size, _, rfl, by omega, by omega, hl2, HO1.out, HQ2.out, HB1.out⟩
    · have hbz : ¬ (65535 : Int) < (t.size : Int) := by omega
      have HA := appendStored_is w.heap.size w _ l t 1 wr HO.out hll (by omega) Hb.out (Nat.le_refl _)
      rw [show (((1 : UInt8).toNat : Nat) : Int) = 1 from rfl] at HA
      have HA := Lib.hid HA
      have hQ : l ++ blockZ 1 t.data.toList = u.data.toList := by
        have h := HQ.out
        rw [storedN_last (by rw [← size_data]; omega)] at h
        rw [h, HU.out]
      have HQ2 := Lib.hid hQ
      clear hQ
      go_wp2_with fail
      refine HA.out.mono ?_
      rintro e w1 ⟨v1, rfl, ho, hb⟩
      have htx := ho.text
      rw [show ((1 : UInt8).toNat) = 1 from rfl, HQ2.out, ← bytes_eq (rfl : u.data.toList = _)] at htx
      have HB1 := Lib.hid hb
      clear ho hb HA
      go_wp2_with fail
      go_ret
      exact ⟨rfl, HB1.out⟩
end Go.Proofs.YtboiljclenikbaaDoor
