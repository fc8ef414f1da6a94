/-
  The contract of package predict's Decode.
-/
import Derived.Test.YtjkppdgakokelaaPrRest
import Derived.Test.YtjkppdgakokelaaPrBld
import Derived.Test.YtjkppdgakokelaaPrCopy
import Derived.Deep.DeepCutAuto
import Derived.Deep.CutRange
namespace Go.Proofs.Ytjkppdgakokelaa
open Go.RowKit

/-- Where rows are told: the builder, the row at hand and the one ahead. -/
def Told (w wx : World) (n gr ga : Nat) (v : Value) (old out : List UInt8) : Prop :=
  BldT w.heap.size v out wx ∧ (ByteAt wx gr old ∧ old.length = n) ∧ ByteAt wx ga (aheadOf n out) ∧ gr ≠ ga ∧ gr ∉ foot w.heap.size v ∧ ga ∉ foot w.heap.size v ∧ w.heap.size ≤ gr ∧ w.heap.size ≤ ga ∧ (∀ k ∈ foot w.heap.size v, w.heap.size ≤ k) ∧ Below w.heap.size w wx
theorem Told.turned {w wx w' : World} {n gr ga : Nat} {v : Value} {old row out : List UInt8} (h : Told w wx n gr ga v old out) (hr : ByteAt w' gr row) (hl : row.length = n) (ht : Touches [gr] [gr] wx w') : Told w w' n gr ga v row out := by
  obtain ⟨h1, ⟨h2, h2l⟩, h3, h4, h5, h6, h7, h8, h9, h10⟩ := h
  refine ⟨h1.touch ht fun k hk hm => ?_, ⟨hr, hl⟩, h3.touch ht (by simpa using fun e => h4 e.symm), h4, h5, h6, h7, h8, h9, h10.trans (ht.below h10.size (by simpa using h7))⟩
  obtain rfl : k = gr := by simpa using hm
  exact h5 hk
theorem Told.wrote {w wx w' : World} {n gr ga : Nat} {v v' : Value} {row out : List UInt8} (h : Told w wx n gr ga v row out) (hb : BldT w.heap.size v' (out ++ row) w') (ht : Touches (foot w.heap.size v) (foot w.heap.size v') wx w') : Told w w' n ga gr v' (aheadOf n out) (out ++ row) := by
  obtain ⟨h1, ⟨h2, h2l⟩, h3, h4, h5, h6, h7, h8, h9, h10⟩ := h
  refine ⟨hb, ⟨h3.touch ht h6, aheadOf_length _ _⟩, by rw [aheadOf_app h2l]; exact h2.touch ht h5, fun e => h4 e.symm, (ht.out h3.lt h6).2, (ht.out h2.lt h5).2, h8, h7, ht.more h10.size h9, h10.trans (ht.below h10.size h9)⟩
theorem Told.drew {w wx : World} {n gr ga : Nat} {v : Value} {old out : List UInt8} (h : Told w wx n gr ga v old out) : Told w wx.drew n gr ga v old out :=
  ⟨h.1, h.2.1, h.2.2.1, h.2.2.2.1, h.2.2.2.2.1, h.2.2.2.2.2.1, h.2.2.2.2.2.2.1, h.2.2.2.2.2.2.2.1, h.2.2.2.2.2.2.2.2.1, h.2.2.2.2.2.2.2.2.2.drew⟩
/-- What Decode answers in the end. -/
def endP (o : Option (List UInt8)) : List UInt8 × Int :=
  match o with
  | none => ([], 4)
  | some o => (o, 0)
theorem decP_end {l : List UInt8} {n : Nat} (h1 : 1 ≤ n) (h2 : n ≤ 256) (hl : l.length % (n + 1) = 0) : decP l (n : Int) = endP (decRows n (l.length / (n + 1)) [] l) := by
  unfold decP endP
  rw [if_neg (by omega), Int.toNat_natCast, if_neg (by omega)]
  cases decRows n (l.length / (n + 1)) [] l <;> rfl

theorem empty_yes {t : ByteArray} (h : t.size = 0) : t = ByteArray.mk #[] := by
  cases t with
  | mk d => have : d = #[] := Array.eq_empty_of_size_eq_zero h
            rw [this]
theorem told_begins {w X : World} {n : Nat} (h1 : 1 ≤ n) (hf : BldT w.heap.size (.slice none 0 0) [] X) (hz : X.heap.size = w.heap.size + 1) (hb : Below w.heap.size w X) :
    Told w ((X.alloc (.cells (cellsB (List.replicate n 0)).toArray 5)).alloc (.cells (cellsB (List.replicate n 0)).toArray 5)).drew n X.heap.size (X.heap.size + 1) (.slice none 0 0) (List.replicate n 0) [] ∧
    Told w ((X.alloc (.cells (cellsB (List.replicate n 0)).toArray 5)).alloc (.cells (cellsB (List.replicate n 0)).toArray 5)).drew n (X.heap.size + 1) X.heap.size (.slice none 0 0) (List.replicate n 0) [] := by
  have b1 : Below X.heap.size X (X.alloc (.cells (cellsB (List.replicate n 0)).toArray 5)) := (Below.refl _ X).alloc (Nat.le_refl _) _
  have b2 := b1.alloc (Nat.le_trans (Nat.le_refl _) b1.size) (.cells (cellsB (List.replicate n 0)).toArray 5)
  have r1 : ByteAt ((X.alloc (.cells (cellsB (List.replicate n 0)).toArray 5)).alloc (.cells (cellsB (List.replicate n 0)).toArray 5)) X.heap.size (List.replicate n 0) := by
    have h : ByteAt (X.alloc (.cells (cellsB (List.replicate n 0)).toArray 5)) X.heap.size (List.replicate n 0) := heap_alloc_new X _
    exact h.later ((Below.refl _ _).alloc (Nat.le_refl _) _)
  have r2 : ByteAt ((X.alloc (.cells (cellsB (List.replicate n 0)).toArray 5)).alloc (.cells (cellsB (List.replicate n 0)).toArray 5)) (X.heap.size + 1) (List.replicate n 0) := by
    have h := heap_alloc_new (X.alloc (.cells (cellsB (List.replicate n 0)).toArray 5)) (.cells (cellsB (List.replicate n 0)).toArray 5)
    rwa [show (X.alloc (.cells (cellsB (List.replicate n 0)).toArray 5)).heap.size = X.heap.size + 1 by simp] at h
  have hbl := hf.later b2
  have hm : ∀ k, k ∈ foot w.heap.size (.slice none 0 0) → k = w.heap.size := fun k hk => by
    rcases foot_mem.1 hk with h | h
    · exact h
    · simp [Value.ownBlock] at h
  have n1 : X.heap.size ∉ foot w.heap.size (.slice none 0 0) := fun hk => by have := hm _ hk; omega
  have n2 : X.heap.size + 1 ∉ foot w.heap.size (.slice none 0 0) := fun hk => by have := hm _ hk; omega
  have hB := (hb.trans (b2.mono (by omega))).drew
  refine ⟨⟨hbl, ⟨r1, by simp⟩, by rw [aheadOf_nil h1]; exact r2, by omega, n1, n2, by omega, by omega, fun k hk => by have := hm _ hk; omega, hB⟩, hbl, ⟨r2, by simp⟩, by rw [aheadOf_nil h1]; exact r1, by omega, n2, n1, by omega, by omega, fun k hk => by have := hm _ hk; omega, hB⟩

set_option maxRecDepth 100000 in
set_option maxHeartbeats 4000000 in
theorem dec_is (s : ByteArray) (columns : Int) (w : World) (hs : s.size ≤ 100000) (hc0 : -9223372036854775808 ≤ columns) (hc1 : columns ≤ 9223372036854775807) {a : List UInt8} {b : Int} (h : decP s.data.toList columns = (a, b)) :
    Calls Try.prog 9 #[.string s, .int .i64 columns] w fun e w' => e = .returned (.tuple #[.string (bytes a), .int .i64 b]) ∧ Below w.heap.size w w' := by
  by_cases hw : columns < 1 ∨ 256 < columns
  · obtain ⟨rfl, rfl⟩ : [] = a ∧ 2 = b := by unfold decP at h; rw [if_pos hw] at h; exact Prod.mk.inj h
    have Hw := Lib.hid (fun W => width_no columns W hw)
    clear h hw
    go_enter Try.func9, Try.ntmps9
    go_wp2_with fail
    refine (Hw.out _).mono ?_
    rintro e w1 ⟨rfl, rfl⟩
    go_wp2_with fail
    go_ret2
    exact ⟨rfl, Below.refl _ _⟩
  · obtain ⟨n, rfl⟩ := Int.eq_ofNat_of_zero_le (show 0 ≤ columns by omega)
    have h1 : 1 ≤ n := by omega
    have h2 : n ≤ 256 := by omega
    have Hw := Lib.hid (fun W => width_yes n W h1 h2)
    have hsz := size_data s
    have hn0 : ¬ 1 + (n : Int) = 0 := by omega
    have hmod : (s.size : Int) % (1 + (n : Int)) = ((s.size % (n + 1) : Nat) : Int) := by
      rw [show 1 + (n : Int) = ((n + 1 : Nat) : Int) by omega]; exact (Int.natCast_emod s.size (n + 1)).symm
    have hwn : IntKind.i64.wrap (1 + (n : Int)) = 1 + (n : Int) := IntWalk.i64_in _ (by omega)
    clear hw
    by_cases hm : s.size % (n + 1) = 0
    · have hmz : ((s.size : Int) % (1 + (n : Int)) != 0) = false := by
        rw [bne_eq_false_iff_eq, hmod, hm]; rfl
      obtain ⟨M, hM⟩ : ∃ M, s.size = M * (n + 1) := ⟨s.size / (n + 1), by have := Nat.div_add_mod s.size (n + 1); rw [hm, Nat.mul_comm] at this; omega⟩
      have HD : Hid ((a, b) = endP (decRows n M [] s.data.toList)) := Lib.hid (by
        rw [← h, decP_end h1 h2 (by rw [← hsz]; exact hm), ← hsz, hM, Nat.mul_div_cancel _ (by omega)])
      have hmk1 := Lib.hid (fun W => make_bytes n W (by omega))
      have HM := Lib.hid hM
      have H1 := Lib.hid h1
      have H2 := Lib.hid h2
      have HF := Lib.hid (BldT.fresh w)
      have Hb0 : Hid (Below w.heap.size w (w.alloc (.cells #[.pointer none, .slice none 0 0] 34))) := Lib.hid ((Below.refl _ w).alloc (Nat.le_refl _) _)
      have hzs : (w.alloc (.cells #[.pointer none, .slice none 0 0] 34)).heap.size = w.heap.size + 1 := by simp
      have Hzs := Lib.hid hzs
      clear h hm hmod hsz hM hzs
      go_enter Try.func9, Try.ntmps9
      go_wp2_with fail
      refine (Hw.out _).mono ?_
      rintro e w1 ⟨rfl, rfl⟩
      go_upto_region 6 with fail
      generalize hX : w.alloc (.cells #[.pointer none, .slice none 0 0] 34) = X at *
      go_cut [7, 8] (fun s7 s8 wx => ∃ gr ga : Nat, s7 = .slice (some ⟨gr, 0, none⟩) n n ∧ s8 = .slice (some ⟨ga, 0, none⟩) n n ∧ Aside (Told w wx n gr ga (.slice none 0 0) (List.replicate n 0) []))
      case first =>
        have m1 := hmk1.out X.drew
        have m2 := hmk1.out (X.alloc (.cells (cellsB (List.replicate n 0)).toArray 5)).drew
        go_region
        all_goals
          go_wp2_with fail
          go_meet
        · exact ⟨_, _, rfl, rfl, (told_begins H1.out HF.out Hzs.out Hb0.out).1⟩
        · exact ⟨_, _, rfl, rfl, (told_begins H1.out HF.out Hzs.out Hb0.out).2⟩
      case rest =>
        obtain ⟨gr0, ga0, rfl, rfl, hT0⟩ := hcut
        have HT0 := Lib.hid hT0
        clear hT0 hX hmk1
        go_wp2_with fail
        go_loopg [0, 7, 8] M (fun g s0 s7 s8 wx => ∃ (t : ByteArray) (gr ga r : Nat) (v : Value) (old out : List UInt8), s0 = .string t ∧ s7 = .slice (some ⟨gr, 0, none⟩) n n ∧ s8 = .slice (some ⟨ga, 0, none⟩) n n ∧ Aside (t.size = g * (n + 1)) ∧ t.size ≤ 100000 ∧ Aside (Told w wx n gr ga v old out) ∧ Aside (out.length = r * n ∧ out.length + t.size ≤ 100000) ∧ Aside ((a, b) = endP (decRows n g out t.data.toList)))
        case atStart => exact ⟨s, gr0, ga0, 0, _, _, [], rfl, rfl, rfl, HM.out, hs, HT0.out, ⟨by simp, by simpa using hs⟩, HD.out⟩
        case round =>
          obtain ⟨t, gr, ga, r, v, old, out, rfl, rfl, rfl, HS, hts, HT, HL, HE⟩ := hrel
          cases gk with
          | zero =>
            have h0 : t.size = 0 := by rw [HS.out, Nat.zero_mul]
            obtain rfl := empty_yes h0
            have Hr : Hid ((a, b) = (out, 0)) := Lib.hid HE.out
            clear h0
            go_wp2_with fail
            refine (string_is w.heap.size w.heap.size out _ (HT.out.1.bld HT.out.2.2.2.2.2.2.2.2.1) HT.out.2.2.2.2.2.2.2.2.2.size).mono ?_
            rintro e w3 ⟨rfl, -, hb3, -⟩
            have Hb3 := Lib.hid (HT.out.2.2.2.2.2.2.2.2.2.trans hb3)
            clear hb3
            go_wp2_with fail
            go_ret2
            obtain ⟨rfl, rfl⟩ := Prod.mk.inj Hr.out
            exact ⟨rfl, Hb3.out⟩
          | succ g =>
            have hsg : t.size = (g + 1) * (n + 1) := HS.out
            have hsg2 : t.size = g * (n + 1) + n + 1 := by rw [hsg, Nat.add_mul]; omega
            have hpos : 0 < t.size := by omega
            have he := isEmpty_not (show ¬ t.data.toList = [] from fun e => by rw [size_data, e] at hpos; exact absurd hpos (by decide))
            obtain ⟨t1, ht1⟩ : ∃ t1, t.extract 1 t.size = t1 := ⟨_, rfl⟩
            obtain ⟨t2, ht2⟩ : ∃ t2, t.extract (1 + n) t.size = t2 := ⟨_, rfl⟩
            have hs1 : n ≤ t1.size := by rw [← ht1, ByteArray.size_extract]; omega
            have hs2 : t2.size = g * (n + 1) := by rw [← ht2, ByteArray.size_extract]; omega
            have hd1 : t1.data.toList = t.data.toList.drop 1 := by rw [← ht1, Lib.extract_to_end]
            have hd2 : t2.data.toList = t.data.toList.drop (n + 1) := by rw [← ht2, Lib.extract_to_end, Nat.add_comm]
            obtain ⟨c, hc⟩ : ∃ c : UInt8, t[0] = c := ⟨_, rfl⟩
            have hc0 : t.data.toList[0]?.getD 0 = c := by
              have hl : 0 < t.data.toList.length := by rw [← size_data]; exact hpos
              rw [List.getElem?_eq_getElem hl, Option.getD_some, ← hc]; rfl
            have hrow := decRows_cons (n := n) (m := g) (l := t.data.toList) HL.out.1
            rw [hc0, ← hd1, ← hd2] at hrow
            obtain ⟨row, hrw⟩ : ∃ row, t1.data.toList.take n = row := ⟨_, rfl⟩
            have hrl : row.length = n := by rw [← hrw, List.length_take, ← size_data]; omega
            rw [hrw] at hrow
            have Hrow : Hid ((a, b) = endP (if 4 < c.toNat then none else decRows n g (out ++ restR c.toNat (aheadOf n out) row) t2.data.toList)) := Lib.hid (by rw [← hrow]; exact HE.out)
            have Hrw := Lib.hid hrw
            have Hrl := Lib.hid hrl
            have Hs1 := Lib.hid hs1
            have Hs2 := Lib.hid hs2
            have Hsg := Lib.hid hsg2
            have hc256 := c.toNat_lt
            have q1 : (1 : Int) + (n : Int) ≤ (t.size : Int) := by omega
            have q2 : ((1 : Int) + (n : Int)).toNat = 1 + n := by omega
            have q3 : (1 : Int) ≤ (t.size : Int) := by omega
            clear hsg hsg2 hc0 hd1 hd2 hrow hrw hrl hs1 hs2 HE
            have Hc5 : c.toNat = 0 ∨ c.toNat = 1 ∨ c.toNat = 2 ∨ c.toNat = 3 ∨ c.toNat = 4 ∨ 4 < c.toNat := by omega
            rcases Hc5 with h5 | h5 | h5 | h5 | h5 | h5
            · have Hr5 : Hid ((a, b) = endP (decRows n g (out ++ row) t2.data.toList)) := Lib.hid (by have := Hrow.out; rwa [if_neg (by omega), h5, restR_plain] at this)
              have k1 : ((c.toNat : Int) == 1) = false := beq_eq_false_iff_ne.2 (by omega)
              have k2 : ((c.toNat : Int) == 2) = false := beq_eq_false_iff_ne.2 (by omega)
              have k3 : ((c.toNat : Int) == 3) = false := beq_eq_false_iff_ne.2 (by omega)
              have k4 : ((c.toNat : Int) == 4) = false := beq_eq_false_iff_ne.2 (by omega)
              have k0 : ((c.toNat : Int) == 0) = true := beq_iff_eq.2 (by omega)
              clear h5
              go_wp2_with (refine wpList_copy_cut rfl (.tmp 29) (.tmp 31) rfl gr n n t1 old rfl rfl HT.out.2.1.1 HT.out.2.1.2 Hs1.out ?_; intro w3 Hr3 Ht3; have HT3 := Lib.hid (HT.out.turned (by rw [← Hrw.out]; exact Hr3.out) Hrl.out Ht3.out))
              refine (write_is w.heap.size v out row gr n n _ HT3.out.1 HT3.out.2.1.1 (fun e => HT3.out.2.2.2.2.1 (foot_mem.2 (.inl e))) HT3.out.2.1.2 H1.out (by have := HL.out.2; have := Hsg.out; omega)).mono ?_
              rintro e w5 ⟨rfl, v5, hb5, ht5⟩
              have HT5 := Lib.hid (HT3.out.wrote hb5 ht5)
              clear hb5 ht5
              go_wp2_with fail
              go_roundg g
              case measure => omega
              case rel =>
                have hl5 : (out ++ row).length = out.length + n := by rw [List.length_append, HT3.out.2.1.2]
                exact ⟨t2, ga, gr, r + 1, v5, _, _, rfl, rfl, rfl, Hs2.out, by have := Hs2.out; have := Hsg.out; omega, HT5.out, ⟨by rw [hl5, HL.out.1, Nat.add_mul, Nat.one_mul], by have := Hs2.out; have := Hsg.out; have := HL.out.2; omega⟩, Hr5.out⟩
            · have Hr5 : Hid ((a, b) = endP (decRows n g (out ++ restR c.toNat (aheadOf n out) row) t2.data.toList)) := Lib.hid (by have := Hrow.out; rwa [if_neg (by omega)] at this)
              have k1 : ((c.toNat : Int) == 1) = true := beq_iff_eq.2 (by omega)
              have hk5 : c.toNat = 1 ∨ c.toNat = 2 ∨ c.toNat = 3 ∨ c.toNat = 4 := by omega
              have Hk5 := Lib.hid hk5
              clear h5 hk5
              go_wp2_with (refine wpList_copy_cut rfl (.tmp 29) (.tmp 31) rfl gr n n t1 old rfl rfl HT.out.2.1.1 HT.out.2.1.2 Hs1.out ?_; intro w3 Hr3 Ht3; have HT3 := Lib.hid (HT.out.turned (by rw [← Hrw.out]; exact Hr3.out) Hrl.out Ht3.out))
              refine (restore_is gr ga n c.toNat row (aheadOf n out) _ HT3.out.2.1.1 HT3.out.2.2.1 (fun e => HT3.out.2.2.2.1 e.symm) HT3.out.2.1.2 (aheadOf_length _ _) H2.out Hk5.out).mono ?_
              rintro e w4 ⟨rfl, hr4, ht4⟩
              have HT4 := Lib.hid (HT3.out.turned hr4 (by rw [restR_length]; exact Hrl.out) ht4)
              clear hr4 ht4
              go_wp2_with fail
              refine (write_is w.heap.size v out (restR c.toNat (aheadOf n out) row) gr n n _ HT4.out.1 HT4.out.2.1.1 (fun e => HT4.out.2.2.2.2.1 (foot_mem.2 (.inl e))) HT4.out.2.1.2 H1.out (by have := HL.out.2; have := Hsg.out; omega)).mono ?_
              rintro e w5 ⟨rfl, v5, hb5, ht5⟩
              have HT5 := Lib.hid (HT4.out.wrote hb5 ht5)
              clear hb5 ht5
              go_wp2_with fail
              go_roundg g
              case measure => omega
              case rel =>
                have hl5 : (out ++ (restR c.toNat (aheadOf n out) row)).length = out.length + n := by rw [List.length_append, HT4.out.2.1.2]
                exact ⟨t2, ga, gr, r + 1, v5, _, _, rfl, rfl, rfl, Hs2.out, by have := Hs2.out; have := Hsg.out; omega, HT5.out, ⟨by rw [hl5, HL.out.1, Nat.add_mul, Nat.one_mul], by have := Hs2.out; have := Hsg.out; have := HL.out.2; omega⟩, Hr5.out⟩
            · have Hr5 : Hid ((a, b) = endP (decRows n g (out ++ restR c.toNat (aheadOf n out) row) t2.data.toList)) := Lib.hid (by have := Hrow.out; rwa [if_neg (by omega)] at this)
              have k1 : ((c.toNat : Int) == 1) = false := beq_eq_false_iff_ne.2 (by omega)
              have k2 : ((c.toNat : Int) == 2) = true := beq_iff_eq.2 (by omega)
              have hk5 : c.toNat = 1 ∨ c.toNat = 2 ∨ c.toNat = 3 ∨ c.toNat = 4 := by omega
              have Hk5 := Lib.hid hk5
              clear h5 hk5
              go_wp2_with (refine wpList_copy_cut rfl (.tmp 29) (.tmp 31) rfl gr n n t1 old rfl rfl HT.out.2.1.1 HT.out.2.1.2 Hs1.out ?_; intro w3 Hr3 Ht3; have HT3 := Lib.hid (HT.out.turned (by rw [← Hrw.out]; exact Hr3.out) Hrl.out Ht3.out))
              refine (restore_is gr ga n c.toNat row (aheadOf n out) _ HT3.out.2.1.1 HT3.out.2.2.1 (fun e => HT3.out.2.2.2.1 e.symm) HT3.out.2.1.2 (aheadOf_length _ _) H2.out Hk5.out).mono ?_
              rintro e w4 ⟨rfl, hr4, ht4⟩
              have HT4 := Lib.hid (HT3.out.turned hr4 (by rw [restR_length]; exact Hrl.out) ht4)
              clear hr4 ht4
              go_wp2_with fail
              refine (write_is w.heap.size v out (restR c.toNat (aheadOf n out) row) gr n n _ HT4.out.1 HT4.out.2.1.1 (fun e => HT4.out.2.2.2.2.1 (foot_mem.2 (.inl e))) HT4.out.2.1.2 H1.out (by have := HL.out.2; have := Hsg.out; omega)).mono ?_
              rintro e w5 ⟨rfl, v5, hb5, ht5⟩
              have HT5 := Lib.hid (HT4.out.wrote hb5 ht5)
              clear hb5 ht5
              go_wp2_with fail
              go_roundg g
              case measure => omega
              case rel =>
                have hl5 : (out ++ (restR c.toNat (aheadOf n out) row)).length = out.length + n := by rw [List.length_append, HT4.out.2.1.2]
                exact ⟨t2, ga, gr, r + 1, v5, _, _, rfl, rfl, rfl, Hs2.out, by have := Hs2.out; have := Hsg.out; omega, HT5.out, ⟨by rw [hl5, HL.out.1, Nat.add_mul, Nat.one_mul], by have := Hs2.out; have := Hsg.out; have := HL.out.2; omega⟩, Hr5.out⟩
            · have Hr5 : Hid ((a, b) = endP (decRows n g (out ++ restR c.toNat (aheadOf n out) row) t2.data.toList)) := Lib.hid (by have := Hrow.out; rwa [if_neg (by omega)] at this)
              have k1 : ((c.toNat : Int) == 1) = false := beq_eq_false_iff_ne.2 (by omega)
              have k2 : ((c.toNat : Int) == 2) = false := beq_eq_false_iff_ne.2 (by omega)
              have k3 : ((c.toNat : Int) == 3) = true := beq_iff_eq.2 (by omega)
              have hk5 : c.toNat = 1 ∨ c.toNat = 2 ∨ c.toNat = 3 ∨ c.toNat = 4 := by omega
              have Hk5 := Lib.hid hk5
              clear h5 hk5
              go_wp2_with (refine wpList_copy_cut rfl (.tmp 29) (.tmp 31) rfl gr n n t1 old rfl rfl HT.out.2.1.1 HT.out.2.1.2 Hs1.out ?_; intro w3 Hr3 Ht3; have HT3 := Lib.hid (HT.out.turned (by rw [← Hrw.out]; exact Hr3.out) Hrl.out Ht3.out))
              refine (restore_is gr ga n c.toNat row (aheadOf n out) _ HT3.out.2.1.1 HT3.out.2.2.1 (fun e => HT3.out.2.2.2.1 e.symm) HT3.out.2.1.2 (aheadOf_length _ _) H2.out Hk5.out).mono ?_
              rintro e w4 ⟨rfl, hr4, ht4⟩
              have HT4 := Lib.hid (HT3.out.turned hr4 (by rw [restR_length]; exact Hrl.out) ht4)
              clear hr4 ht4
              go_wp2_with fail
              refine (write_is w.heap.size v out (restR c.toNat (aheadOf n out) row) gr n n _ HT4.out.1 HT4.out.2.1.1 (fun e => HT4.out.2.2.2.2.1 (foot_mem.2 (.inl e))) HT4.out.2.1.2 H1.out (by have := HL.out.2; have := Hsg.out; omega)).mono ?_
              rintro e w5 ⟨rfl, v5, hb5, ht5⟩
              have HT5 := Lib.hid (HT4.out.wrote hb5 ht5)
              clear hb5 ht5
              go_wp2_with fail
              go_roundg g
              case measure => omega
              case rel =>
                have hl5 : (out ++ (restR c.toNat (aheadOf n out) row)).length = out.length + n := by rw [List.length_append, HT4.out.2.1.2]
                exact ⟨t2, ga, gr, r + 1, v5, _, _, rfl, rfl, rfl, Hs2.out, by have := Hs2.out; have := Hsg.out; omega, HT5.out, ⟨by rw [hl5, HL.out.1, Nat.add_mul, Nat.one_mul], by have := Hs2.out; have := Hsg.out; have := HL.out.2; omega⟩, Hr5.out⟩
            · have Hr5 : Hid ((a, b) = endP (decRows n g (out ++ restR c.toNat (aheadOf n out) row) t2.data.toList)) := Lib.hid (by have := Hrow.out; rwa [if_neg (by omega)] at this)
              have k1 : ((c.toNat : Int) == 1) = false := beq_eq_false_iff_ne.2 (by omega)
              have k2 : ((c.toNat : Int) == 2) = false := beq_eq_false_iff_ne.2 (by omega)
              have k3 : ((c.toNat : Int) == 3) = false := beq_eq_false_iff_ne.2 (by omega)
              have k4 : ((c.toNat : Int) == 4) = true := beq_iff_eq.2 (by omega)
              have hk5 : c.toNat = 1 ∨ c.toNat = 2 ∨ c.toNat = 3 ∨ c.toNat = 4 := by omega
              have Hk5 := Lib.hid hk5
              clear h5 hk5
              go_wp2_with (refine wpList_copy_cut rfl (.tmp 29) (.tmp 31) rfl gr n n t1 old rfl rfl HT.out.2.1.1 HT.out.2.1.2 Hs1.out ?_; intro w3 Hr3 Ht3; have HT3 := Lib.hid (HT.out.turned (by rw [← Hrw.out]; exact Hr3.out) Hrl.out Ht3.out))
              refine (restore_is gr ga n c.toNat row (aheadOf n out) _ HT3.out.2.1.1 HT3.out.2.2.1 (fun e => HT3.out.2.2.2.1 e.symm) HT3.out.2.1.2 (aheadOf_length _ _) H2.out Hk5.out).mono ?_
              rintro e w4 ⟨rfl, hr4, ht4⟩
              have HT4 := Lib.hid (HT3.out.turned hr4 (by rw [restR_length]; exact Hrl.out) ht4)
              clear hr4 ht4
              go_wp2_with fail
              refine (write_is w.heap.size v out (restR c.toNat (aheadOf n out) row) gr n n _ HT4.out.1 HT4.out.2.1.1 (fun e => HT4.out.2.2.2.2.1 (foot_mem.2 (.inl e))) HT4.out.2.1.2 H1.out (by have := HL.out.2; have := Hsg.out; omega)).mono ?_
              rintro e w5 ⟨rfl, v5, hb5, ht5⟩
              have HT5 := Lib.hid (HT4.out.wrote hb5 ht5)
              clear hb5 ht5
              go_wp2_with fail
              go_roundg g
              case measure => omega
              case rel =>
                have hl5 : (out ++ (restR c.toNat (aheadOf n out) row)).length = out.length + n := by rw [List.length_append, HT4.out.2.1.2]
                exact ⟨t2, ga, gr, r + 1, v5, _, _, rfl, rfl, rfl, Hs2.out, by have := Hs2.out; have := Hsg.out; omega, HT5.out, ⟨by rw [hl5, HL.out.1, Nat.add_mul, Nat.one_mul], by have := Hs2.out; have := Hsg.out; have := HL.out.2; omega⟩, Hr5.out⟩
            · have Hr5 : Hid ((a, b) = ([], 4)) := Lib.hid (by have := Hrow.out; rwa [if_pos h5] at this)
              have k1 : ((c.toNat : Int) == 1) = false := beq_eq_false_iff_ne.2 (by omega)
              have k2 : ((c.toNat : Int) == 2) = false := beq_eq_false_iff_ne.2 (by omega)
              have k3 : ((c.toNat : Int) == 3) = false := beq_eq_false_iff_ne.2 (by omega)
              have k4 : ((c.toNat : Int) == 4) = false := beq_eq_false_iff_ne.2 (by omega)
              have k0 : ((c.toNat : Int) == 0) = false := beq_eq_false_iff_ne.2 (by omega)
              clear h5
              go_wp2_with (refine wpList_copy_cut rfl (.tmp 29) (.tmp 31) rfl gr n n t1 old rfl rfl HT.out.2.1.1 HT.out.2.1.2 Hs1.out ?_; intro w3 Hr3 Ht3; have HT3 := Lib.hid (HT.out.turned (by rw [← Hrw.out]; exact Hr3.out) Hrl.out Ht3.out))
              go_ret2
              obtain ⟨rfl, rfl⟩ := Prod.mk.inj Hr5.out
              exact ⟨rfl, HT3.out.2.2.2.2.2.2.2.2.2⟩
    · obtain ⟨rfl, rfl⟩ : [] = a ∧ 4 = b := by
        unfold decP at h; rw [if_neg (by omega), Int.toNat_natCast, if_pos (by rw [← hsz]; exact hm)] at h; exact Prod.mk.inj h
      have hmz : ((s.size : Int) % (1 + (n : Int)) != 0) = true := by
        rw [bne_iff_ne, hmod]; omega
      clear h hm hmod hsz
      go_enter Try.func9, Try.ntmps9
      go_wp2_with fail
      refine (Hw.out _).mono ?_
      rintro e w1 ⟨rfl, rfl⟩
      go_wp2_with fail
      go_ret2
      exact ⟨rfl, Below.refl _ _⟩

end Go.Proofs.Ytjkppdgakokelaa
