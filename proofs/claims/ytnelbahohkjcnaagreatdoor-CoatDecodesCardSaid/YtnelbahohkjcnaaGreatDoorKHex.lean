/-
  HOne, HRef, HRef2, HOct, Builder, HEnc, HPut, HDec, HContracts: texts merged.
-/
import Derived.Test.YtnelbahohkjcnaaGreatDoorRows
import Derived.Test.YtnelbahohkjcnaaGreatDoorKPlain
import Derived.WalkKit
import Derived.WalkSpells
import Derived.WalkLawsBesides
import Derived.Lib.Hide
import Derived.Deep.QuietTactic
import Derived.BigQuiet
import Derived.Test.YtnelbahohkjcnaaGreatDoorKRows
import Derived.Deep.LoopGhost
import Derived.Deep.RegionWith
import Derived.Test.YtnelbahohkjcnaaGreatDoorShelf
/-
  The contracts of the document's Kind, Hex, Digit of one byte, where the program's own are not reached.
-/
namespace Go.Proofs.YtnelbahohkjcnaaGreatDoor
section
open Go.RowKit
set_option maxHeartbeats 1000000 in
theorem in_any (s : ByteArray) (c : Int) (w : World) (hs : s.size ≤ maxLen) :
    Calls Tryz.prog 94 #[.string s, .int .u8 c] w fun e w' => e = .returned (.bool (inB s.data.toList c)) ∧ w = w' := by
  unfold maxLen at hs
  go_enter Tryz.func94, Tryz.ntmps94
  go_wp2
  go_loop [5] (fun i => ∃ k : Nat, k ≤ s.size ∧ i = .int .i64 k ∧ inB (s.data.toList.take k) c = false) (fun i => s.size - (intOf i).toNat)
  case atStart => exact ⟨0, Nat.zero_le _, rfl, rfl⟩
  case round =>
    obtain ⟨k, hk, rfl, hno⟩ := hrel
    have Hno := Lib.hid hno
    clear hno
    by_cases hlt : k < s.size
    · have hts := take_snoc s k hlt
      have Hts := Lib.hid hts
      clear hts
      have hm := byte_mem s k hlt
      by_cases hc : (s[k].toNat : Int) = c
      · have Hr : Hid (inB s.data.toList c = true) := Lib.hid (inB_mem hm hc)
        subst hc
        go_wp2
        go_ret
        exact ⟨ret_bool Hr.out.symm, rfl⟩
      · have hc' : ((s[k].toNat : Int) == c) = false := by simpa using hc
        have Hr : Hid (inB (s.data.toList.take (k + 1)) c = false) := Lib.hid (by rw [Hts.out, inB_snoc, Hno.out]; simpa using hc)
        clear hc
        go_wp2
        go_round
        case rel => exact ⟨k + 1, by omega, by go_num, Hr.out⟩
        case measure => simp [intOf]; omega
    · have Hr : Hid (inB s.data.toList c = false) := Lib.hid (by have h := Hno.out; rwa [List.take_of_length_le (by simp; omega)] at h)
      go_wp2
      go_ret
      exact ⟨ret_bool Hr.out.symm, rfl⟩
theorem kind_white (c : Int) : inB [0, 9, 10, 12, 13, 32] c = true → kindI c = 0 := by
  intro h; simp [inB] at h; unfold kindI; rw [if_pos (by omega)]
theorem kind_delim (c : Int) : inB [0, 9, 10, 12, 13, 32] c = false → inB [40, 41, 60, 62, 91, 93, 123, 125, 47, 37] c = true → kindI c = 1 := by
  intro h h'; simp [inB] at h h'; unfold kindI; rw [if_neg (by omega), if_pos (by omega)]
theorem kind_regular (c : Int) : inB [0, 9, 10, 12, 13, 32] c = false → inB [40, 41, 60, 62, 91, 93, 123, 125, 47, 37] c = false → kindI c = 2 := by
  intro h h'; simp [inB] at h h'; unfold kindI; rw [if_neg (by omega), if_neg (by omega)]
set_option maxHeartbeats 1000000 in
theorem refKind_any (c : Int) (w : World) :
    Calls Tryz.prog 68 #[.int .u8 c] w fun e w' => e = .returned (.int .i64 (kindI c)) ∧ w = w' := by
  cases h1 : inB [0, 9, 10, 12, 13, 32] c
  · cases h2 : inB [40, 41, 60, 62, 91, 93, 123, 125, 47, 37] c
    · have Hr := Lib.hid (kind_regular c h1 h2)
      have H1 := Lib.hid h1
      have H2 := Lib.hid h2
      clear h1 h2
      go_enter Tryz.func68, Tryz.ntmps68
      go_wp2_with fail
      refine (in_any _ _ _ (by decide)).mono ?_
      rintro e w1 ⟨rfl, rfl⟩
      rw [H1.out]
      go_wp2_with fail
      refine (in_any _ _ _ (by decide)).mono ?_
      rintro e w1 ⟨rfl, rfl⟩
      rw [H2.out]
      go_wp2_with fail
      go_ret
      exact ⟨ret_int Hr.out.symm, rfl⟩
    · have Hr := Lib.hid (kind_delim c h1 h2)
      have H1 := Lib.hid h1
      have H2 := Lib.hid h2
      clear h1 h2
      go_enter Tryz.func68, Tryz.ntmps68
      go_wp2_with fail
      refine (in_any _ _ _ (by decide)).mono ?_
      rintro e w1 ⟨rfl, rfl⟩
      rw [H1.out]
      go_wp2_with fail
      refine (in_any _ _ _ (by decide)).mono ?_
      rintro e w1 ⟨rfl, rfl⟩
      rw [H2.out]
      go_wp2_with fail
      go_ret
      exact ⟨ret_int Hr.out.symm, rfl⟩
  · have Hr := Lib.hid (kind_white c h1)
    have H1 := Lib.hid h1
    clear h1
    go_enter Tryz.func68, Tryz.ntmps68
    go_wp2_with fail
    refine (in_any _ _ _ (by decide)).mono ?_
    rintro e w1 ⟨rfl, rfl⟩
    rw [H1.out]
    go_wp2_with fail
    go_ret
    exact ⟨ret_int Hr.out.symm, rfl⟩
def hexFrom (c : Int) (k : Nat) : Prop := hexI c = -1 ∨ (k : Int) ≤ hexI c
theorem hexFrom_zero (c : Int) : hexFrom c 0 := by unfold hexFrom hexI; omega
theorem hexFrom_last (c : Int) (h : hexFrom c 16) : hexI c = -1 := by
  unfold hexFrom at h; unfold hexI at *; omega
theorem digitsD (k : Nat) (h : k < (⟨#[48, 49, 50, 51, 52, 53, 54, 55, 56, 57, 65, 66, 67, 68, 69, 70]⟩ : ByteArray).size) :
    (((⟨#[48, 49, 50, 51, 52, 53, 54, 55, 56, 57, 65, 66, 67, 68, 69, 70]⟩ : ByteArray)[k]'h).toNat : Int) = if k < 10 then 48 + (k : Int) else 55 + (k : Int) := by
  have : ∀ k : Fin 16, (((⟨#[48, 49, 50, 51, 52, 53, 54, 55, 56, 57, 65, 66, 67, 68, 69, 70]⟩ : ByteArray)[k.1]'k.2).toNat : Int) = if k.1 < 10 then 48 + (k.1 : Int) else 55 + (k.1 : Int) := by decide
  exact this ⟨k, h⟩
theorem digitsE (k : Nat) (h : k < (⟨#[48, 49, 50, 51, 52, 53, 54, 55, 56, 57, 97, 98, 99, 100, 101, 102]⟩ : ByteArray).size) :
    (((⟨#[48, 49, 50, 51, 52, 53, 54, 55, 56, 57, 97, 98, 99, 100, 101, 102]⟩ : ByteArray)[k]'h).toNat : Int) = if k < 10 then 48 + (k : Int) else 87 + (k : Int) := by
  have : ∀ k : Fin 16, (((⟨#[48, 49, 50, 51, 52, 53, 54, 55, 56, 57, 97, 98, 99, 100, 101, 102]⟩ : ByteArray)[k.1]'k.2).toNat : Int) = if k.1 < 10 then 48 + (k.1 : Int) else 87 + (k.1 : Int) := by decide
  exact this ⟨k, h⟩
theorem hex_hitD (c : Int) (k : Nat) (h : k < (⟨#[48, 49, 50, 51, 52, 53, 54, 55, 56, 57, 65, 66, 67, 68, 69, 70]⟩ : ByteArray).size) (e : (((⟨#[48, 49, 50, 51, 52, 53, 54, 55, 56, 57, 65, 66, 67, 68, 69, 70]⟩ : ByteArray)[k]'h).toNat : Int) = c) : hexI c = k := by
  rw [digitsD k h] at e
  have h' : k < 16 := h
  unfold hexI; split at e <;> repeat (first | rw [if_pos (by omega)] | rw [if_neg (by omega)] | omega)
theorem hex_hitE (c : Int) (k : Nat) (h : k < (⟨#[48, 49, 50, 51, 52, 53, 54, 55, 56, 57, 97, 98, 99, 100, 101, 102]⟩ : ByteArray).size) (e : (((⟨#[48, 49, 50, 51, 52, 53, 54, 55, 56, 57, 97, 98, 99, 100, 101, 102]⟩ : ByteArray)[k]'h).toNat : Int) = c) : hexI c = k := by
  rw [digitsE k h] at e
  have h' : k < 16 := h
  unfold hexI; split at e <;> repeat (first | rw [if_pos (by omega)] | rw [if_neg (by omega)] | omega)
theorem hex_miss (c : Int) (k : Nat) (h : k < (⟨#[48, 49, 50, 51, 52, 53, 54, 55, 56, 57, 65, 66, 67, 68, 69, 70]⟩ : ByteArray).size) (h2 : k < (⟨#[48, 49, 50, 51, 52, 53, 54, 55, 56, 57, 97, 98, 99, 100, 101, 102]⟩ : ByteArray).size)
    (e : ¬ (((⟨#[48, 49, 50, 51, 52, 53, 54, 55, 56, 57, 65, 66, 67, 68, 69, 70]⟩ : ByteArray)[k]'h).toNat : Int) = c)
    (e2 : ¬ (((⟨#[48, 49, 50, 51, 52, 53, 54, 55, 56, 57, 97, 98, 99, 100, 101, 102]⟩ : ByteArray)[k]'h2).toNat : Int) = c) (hf : hexFrom c k) : hexFrom c (k + 1) := by
  rw [digitsD k h] at e
  rw [digitsE k h2] at e2
  have h' : k < 16 := h
  unfold hexFrom hexI at *; split at e <;> split at e2 <;> omega
set_option maxRecDepth 100000 in
set_option maxHeartbeats 1000000 in
theorem refHex_any (c : Int) (w : World) :
    Calls Tryz.prog 67 #[.int .u8 c] w fun e w' => e = .returned (.int .i64 (hexI c)) ∧ w = w' := by
  go_enter Tryz.func67, Tryz.ntmps67
  go_wp2
  go_loop [5] (fun i => ∃ k : Nat, k ≤ 16 ∧ i = .int .i64 k ∧ hexFrom c k) (fun i => 16 - (intOf i).toNat)
  case atStart => exact ⟨0, by omega, rfl, hexFrom_zero c⟩
  case round =>
    obtain ⟨k, hk, rfl, hf⟩ := hrel
    have Hf := Lib.hid hf
    clear hf
    by_cases hlt : k < 16
    · have i1 : k < (⟨#[48, 49, 50, 51, 52, 53, 54, 55, 56, 57, 65, 66, 67, 68, 69, 70]⟩ : ByteArray).size := hlt
      have i2 : k < (⟨#[48, 49, 50, 51, 52, 53, 54, 55, 56, 57, 97, 98, 99, 100, 101, 102]⟩ : ByteArray).size := hlt
      by_cases hd : (((⟨#[48, 49, 50, 51, 52, 53, 54, 55, 56, 57, 65, 66, 67, 68, 69, 70]⟩ : ByteArray)[k]'i1).toNat : Int) = c
      · have Hr := Lib.hid (hex_hitD c k i1 hd)
        subst hd
        go_wp2
        go_ret
        exact ⟨ret_int Hr.out.symm, rfl⟩
      · by_cases he : (((⟨#[48, 49, 50, 51, 52, 53, 54, 55, 56, 57, 97, 98, 99, 100, 101, 102]⟩ : ByteArray)[k]'i2).toNat : Int) = c
        · have Hr := Lib.hid (hex_hitE c k i2 he)
          have hd' := beq_eq_false_iff_ne.2 hd
          have he' := beq_iff_eq.2 he
          clear hd he
          go_wp2
          go_ret
          exact ⟨ret_int Hr.out.symm, rfl⟩
        · have Hr := Lib.hid (hex_miss c k i1 i2 hd he Hf.out)
          have hd' := beq_eq_false_iff_ne.2 hd
          have he' := beq_eq_false_iff_ne.2 he
          clear hd he
          go_wp2
          go_round
          case rel => exact ⟨k + 1, by omega, by go_num, Hr.out⟩
          case measure => simp [intOf]; omega
    · obtain rfl : k = 16 := by omega
      go_wp2
      go_ret
      exact ⟨ret_int (hexFrom_last c Hf.out).symm, rfl⟩
end
end Go.Proofs.YtnelbahohkjcnaaGreatDoor
/-
  The contracts of the document's Encode and Decode of hexadecimal digits.
-/
namespace Go.Proofs.YtnelbahohkjcnaaGreatDoor
section
open Go.RowKit
set_option maxRecDepth 100000
theorem encD_take {s : ByteArray} {k : Nat} (h : k < s.size) : encD (s.data.toList.take (k + 1)) = encD (s.data.toList.take k) ++ [digB (s[k].toNat / 16), digB (s[k].toNat % 16)] := by
  rw [take_snoc s k h, encD_snoc]
end
end Go.Proofs.YtnelbahohkjcnaaGreatDoor
/-
  The contract of the document's Decode of hexadecimal digits.
-/
namespace Go.Proofs.YtnelbahohkjcnaaGreatDoor
section
open Go.RowKit
set_option maxRecDepth 100000
theorem drop_atH {s : ByteArray} {k : Nat} (h : k < s.size) : s.data.toList.drop k = s[k] :: s.data.toList.drop (k + 1) := by
  rw [List.drop_eq_getElem_cons (by rw [← size_data]; exact h)]; rfl
theorem white_drop {s : ByteArray} {k : Nat} (h : k < s.size) : (s.data.toList.drop k).all whiteB = (whiteB s[k] && (s.data.toList.drop (k + 1)).all whiteB) := by
  rw [drop_atH h]; rfl
def restH (ds : List Nat) (t : List UInt8) : List UInt8 × Int := if t.all whiteB then (pairsH ds, 0) else ([], 4)
theorem pairs_more {ds : List Nat} {m : Nat} {l : List UInt8} (h : m + 1 < ds.length) (hl : l ++ pairsH (ds.drop m) = pairsH ds) :
    (l ++ [UInt8.ofNat (16 * ds[m] + ds[m + 1])]) ++ pairsH (ds.drop (m + 2)) = pairsH ds := by
  rw [← hl, pairsH_drop (k := m) (List.getElem?_eq_getElem (by omega)) (List.getElem?_eq_getElem h)]
  simp
theorem pair_byte (a b : Nat) : ((16 * (a : Int) + (b : Int)) % 256) = ((UInt8.ofNat (16 * a + b)).toNat : Int) := by
  rw [UInt8.toNat_ofNat']; omega
set_option maxRecDepth 100000 in
set_option maxHeartbeats 2000000 in
theorem rDecH_is (s : ByteArray) (w : World) (hs : s.size ≤ 1000000) {a : List UInt8} {b : Int} (h : decH s.data.toList = (a, b)) :
    Calls Tryz.prog 43 #[.string s] w fun e w' => e = .returned (.tuple #[.string (bytes a), .int .i64 b]) ∧ Below w.heap.size w w' := by
  have H := Lib.hid h
  clear h
  go_enter Tryz.func43, Tryz.ntmps43
  go_wp2_with fail
  go_loopg [4, 5, 6] s.size (fun g s4 s5 s6 wx => ∃ (i : Nat) (ds : List Nat), Aside (Own64 wx w.heap.size s4 (asZ ds)) ∧ ds.length ≤ i ∧ i ≤ s.size ∧ Aside (∀ d ∈ ds, d < 16) ∧ Below w.heap.size w wx ∧
    ((s5 = .int .i64 (-1) ∧ s6 = .int .i64 i ∧ i + g = s.size ∧ Aside (decH s.data.toList = decGo ds (s.data.toList.drop i))) ∨ (s5 = .int .i64 i ∧ s6 = .int .i64 ((i : Int) + 1) ∧ i < s.size ∧ Aside (decH s.data.toList = restH ds (s.data.toList.drop (i + 1))))))
  case atStart => exact ⟨0, [], Own64.made w 0 #[] (Nat.le_refl _) (by decide) rfl, by simp, by omega, (fun d hd => by simp at hd), (Below.refl _ w).alloc (Nat.le_refl _) _, .inl ⟨rfl, rfl, by omega, rfl⟩⟩
  case round =>
    obtain ⟨i, ds, HO, hdl, his, HD, hb, hcase⟩ := hrel
    have Hb := Lib.hid hb
    clear hb
    rcases hcase with ⟨rfl, rfl, hig, HI⟩ | ⟨rfl, rfl, hi, HI⟩
    · cases gk with
      | zero =>
        obtain rfl : i = s.size := by omega
        have Hr : Hid ((a, b) = ([], 5)) := Lib.hid (by rw [← H.out, HI.out, List.drop_of_length_le (by rw [← size_data]; exact Nat.le_refl _)]; rfl)
        clear hig his
        go_wp2_with fail
        go_ret2
        obtain ⟨rfl, rfl⟩ := Prod.mk.inj Hr.out
        exact ⟨rfl, Hb.out⟩
      | succ g =>
        have hi : i < s.size := by omega
        have hiz : (i : Int) < (s.size : Int) := by omega
        have hd := HI.out
        rw [drop_atH hi] at hd
        have Hhex := Lib.hid (fun W => refHex_any (s[i].toNat : Int) W)
        by_cases h62 : s[i].toNat = 62
        · have h62' : ((s[i].toNat : Int) == 62) = true := beq_iff_eq.2 (by omega)
          rw [decGo_end h62] at hd
          have Hd := Lib.hid hd
          clear hd h62
          go_wp2_with fail
          refine (Hhex.out _).mono ?_
          rintro e w1 ⟨rfl, rfl⟩
          go_wp2_with fail
          go_roundg g
          case measure => omega
          case rel => exact ⟨i, ds, HO, hdl, his, HD, Hb.out, .inr ⟨rfl, rfl, hi, Hd.out⟩⟩
        · have h62' : ((s[i].toNat : Int) == 62) = false := beq_eq_false_iff_ne.2 (by omega)
          rcases hexI_range s[i] with hx | ⟨hx0, hx1⟩
          · have hxn : ¬ (0 : Int) ≤ -1 := by omega
            by_cases hw : kindI (s[i].toNat : Int) = 0
            · rw [decGo_white h62 (by rw [hx]; omega) hw] at hd
              have Hd := Lib.hid hd
              have Hkind := Lib.hid (fun W => refKind_any (s[i].toNat : Int) W)
              have Hhex2 := Lib.hid (fun W => by have := Hhex.out W; rwa [hx] at this)
              have Hkind2 := Lib.hid (fun W => by have := Hkind.out W; rwa [hw] at this)
              clear hd h62 hx hw Hhex Hkind
              go_wp2_with fail
              refine (Hhex2.out _).mono ?_
              rintro e w1 ⟨rfl, rfl⟩
              go_wp2_with fail
              refine (Hkind2.out _).mono ?_
              rintro e w1 ⟨rfl, rfl⟩
              go_wp2_with fail
              go_roundg g
              case measure => omega
              case rel => exact ⟨i + 1, ds, HO, by omega, by omega, HD, Hb.out, .inl ⟨rfl, by go_num, by omega, Hd.out⟩⟩
            · rw [decGo_bad h62 (by rw [hx]; omega) hw] at hd
              have Hd := Lib.hid hd
              have hwn : (kindI (s[i].toNat : Int) != 0) = true := by simpa using hw
              have Hkind := Lib.hid (fun W => refKind_any (s[i].toNat : Int) W)
              have Hhex2 := Lib.hid (fun W => by have := Hhex.out W; rwa [hx] at this)
              clear hd h62 hx hw Hhex
              go_wp2_with fail
              refine (Hhex2.out _).mono ?_
              rintro e w1 ⟨rfl, rfl⟩
              go_wp2_with fail
              refine (Hkind.out _).mono ?_
              rintro e w1 ⟨rfl, rfl⟩
              go_wp2_with fail
              go_ret2
              obtain ⟨rfl, rfl⟩ := Prod.mk.inj (H.out.symm.trans Hd.out)
              exact ⟨rfl, Hb.out⟩
          · rw [decGo_digit h62 hx0] at hd
            obtain ⟨d, hdn⟩ := Int.eq_ofNat_of_zero_le hx0
            rw [hdn, Int.toNat_natCast] at hd
            have hd16 : d < 16 := by omega
            have Hd := Lib.hid hd
            have Hhex2 := Lib.hid (fun W => by have := Hhex.out W; rwa [hdn] at this)
            have hal : (asZ ds).length ≤ 1000000 := by rw [asZ_length]; omega
            clear hd h62 hdn hx0 hx1 Hhex
            go_wp2_with fail
            refine (Hhex2.out _).mono ?_
            rintro e w1 ⟨rfl, rfl⟩
            go_wp2_with (at_builtin; refine wpList_append64 rfl (.tmp 33) (.tmp 35) rfl w.heap.size _ (asZ ds) rfl (HO.out.alloc _) ⟨wr.heap.size, 0, none⟩ 1 [(d : Int)] rfl (cells_newZ _ _) (by simp) (by simp; omega) w (Hb.out.alloc Hb.out.size _) (by have := Hb.out.size; simp; omega) ?_; intro v2 w2 Ho2 Hb2 _)
            go_roundg g
            case measure => omega
            case rel => exact ⟨i + 1, ds ++ [d], by show Own64 _ _ _ _; rw [asZ_snoc]; exact Ho2.out, by rw [List.length_append]; simp; omega, by omega, by
              intro x hx
              rcases List.mem_append.1 hx with hx | hx
              · exact HD.out x hx
              · simp at hx; omega, Hb2.out, .inl ⟨rfl, by go_num, by omega, Hd.out⟩⟩
    · have hi1 : (i : Int) + 1 < (s.size : Int) ∨ ¬ (i : Int) + 1 < (s.size : Int) := by omega
      have hin : ¬ (i : Int) < 0 := by omega
      rcases hi1 with hi1 | hi1
      all_goals
        go_wp2_with fail
        go_loopg [8] (s.size - (i + 1)) (fun g s8 wx => ∃ j : Nat, j + g = s.size ∧ s8 = .int .i64 j ∧ Aside ((s.data.toList.drop (i + 1)).all whiteB = (s.data.toList.drop j).all whiteB) ∧ wr = wx)
        case atStart => exact ⟨i + 1, by omega, by go_num, rfl, rfl⟩
        case round =>
          obtain ⟨j, hjg, rfl, HW, rfl⟩ := hrel
          cases gk with
          | succ g =>
            have hj : j < s.size := by omega
            have hjz : (j : Int) < (s.size : Int) := by omega
            have Hkind := Lib.hid (fun W => refKind_any (s[j].toNat : Int) W)
            have hw := HW.out
            rw [white_drop hj] at hw
            by_cases hk : kindI (s[j].toNat : Int) = 0
            · have hwb : whiteB s[j] = true := decide_eq_true hk
              rw [hwb, Bool.true_and] at hw
              have Hw := Lib.hid hw
              have Hkind2 := Lib.hid (fun W => by have := Hkind.out W; rwa [hk] at this)
              clear hw hwb hk Hkind
              go_wp2_with fail
              refine (Hkind2.out _).mono ?_
              rintro e w1 ⟨rfl, rfl⟩
              go_wp2_with fail
              go_roundg g
              case measure => omega
              case rel => exact ⟨j + 1, by omega, by go_num, Hw.out, rfl⟩
            · have hwb : whiteB s[j] = false := decide_eq_false hk
              rw [hwb, Bool.false_and] at hw
              have hkn : (kindI (s[j].toNat : Int) != 0) = true := by simpa using hk
              have Hr : Hid ((a, b) = ([], 4)) := Lib.hid (by rw [← H.out, HI.out]; unfold restH; rw [hw]; rfl)
              clear hw hwb hk
              go_wp2_with fail
              refine (Hkind.out _).mono ?_
              rintro e w1 ⟨rfl, rfl⟩
              go_wp2_with fail
              go_ret2
              obtain ⟨rfl, rfl⟩ := Prod.mk.inj Hr.out
              exact ⟨rfl, Hb.out⟩
          | zero =>
            obtain rfl : j = s.size := by omega
            have Hr : Hid ((a, b) = (pairsH ds, 0)) := Lib.hid (by rw [← H.out, HI.out]; unfold restH; rw [HW.out, List.drop_of_length_le (by rw [← size_data]; exact Nat.le_refl _)]; rfl)
            have hal : (asZ ds).length = ds.length := asZ_length ds
            obtain ⟨g1, cap1, hv⟩ := HO.out.2
            rw [hal] at hv
            subst hv
            clear hjg hi1 hin
            by_cases hodd : ds.length % 2 = 1
            · have ho : (((ds.length : Int) % 2) == 1) = true := beq_iff_eq.2 (by omega)
              have hlong : (asZ ds).length ≤ 1000000 := by rw [hal]; omega
              go_wp2_with (at_builtin; refine wpList_append64 rfl (.tmp 61) (.tmp 62) rfl w.heap.size _ (asZ ds) rfl (HO.out.alloc _) ⟨wr.heap.size, 0, none⟩ 1 [0] rfl (cells_newZ _ _) (by simp) (by simp; omega) w (Hb.out.alloc Hb.out.size _) (by have := Hb.out.size; simp; omega) ?_; intro v2 w2 Ho2 Hb2 hform; obtain ⟨g2, cap2, hf⟩ := hform; rw [hal] at hf; subst hf)
              have HO2 : Hid (Own64 w2 w.heap.size (.slice (some ⟨g2, 0, none⟩) (ds.length + 1) cap2) (asZ (ds ++ [0]))) := Lib.hid (by rw [asZ_snoc]; exact Ho2.out)
              have Hpad : Hid (pairsH (ds ++ [0]) = a) := Lib.hid ((pairsH_pad ds hodd).trans (Prod.mk.inj Hr.out).1.symm)
              have Hb0 : b = 0 := (Prod.mk.inj Hr.out).2
              obtain ⟨g2', cap2', hv2, hlt2, hcells⟩ := HO2.out.at
              have hG : g2 = g2' := by injection hv2 with h1 _ _; injection h1 with h1; injection h1
              subst hG
              clear hv2
              have Hcells := Lib.hid hcells
              have Hlt2 := Lib.hid hlt2
              clear hcells hlt2
              go_loopg [9, 10] (ds.length + 1) (fun g s9 s10 wx => ∃ (m : Nat) (l : List UInt8), m + g = (ds.length + 1) ∧ s10 = .int .i64 m ∧ Aside (Own8 wx w2.heap.size s9 l) ∧ Aside (m = 2 * l.length) ∧ Aside (l ++ pairsH ((ds ++ [0]).drop m) = pairsH (ds ++ [0])) ∧ Below w2.heap.size w2 wx)
              case atStart => exact ⟨0, [], by omega, rfl, Own8.made w2 0 #[] (Nat.le_refl _) (by decide) rfl, rfl, rfl, (Below.refl _ w2).alloc (Nat.le_refl _) _⟩
              case round =>
                obtain ⟨m, l, hkg, rfl, HL, HM, HP, hb3⟩ := hrel
                have Hb3 := Lib.hid hb3
                clear hb3
                cases gk with
                | zero =>
                  have hk : ¬ (m : Int) + 1 < ((ds.length + 1) : Int) := by omega
                  have hfin : l = a := by
                    have := HP.out
                    rw [List.drop_of_length_le (show (ds ++ [0]).length ≤ m by rw [List.length_append, List.length_singleton]; omega)] at this
                    rw [← Hpad.out, ← this]; exact (List.append_nil l).symm
                  subst hfin
                  have htext := HL.out.text
                  subst Hb0
                  have hkb : m ≤ 1000001 := by omega
                  clear hkg
                  go_wp2_with fail
                  go_ret2
                  exact ⟨rfl, Hb2.out.trans (Hb3.out.mono Hb2.out.size)⟩
                | succ g =>
                  have hml : m = 2 * l.length := HM.out
                  have hk1 : m + 1 < (ds.length + 1) := by omega
                  have hk : (m : Int) + 1 < ((ds.length + 1) : Int) := by omega
                  have hk0 : (m : Int) < ((ds.length + 1) : Int) := by omega
                  have q1 : ((m : Int) + 1).toNat = m + 1 := by omega
                  have q2 : 0 ≤ (m : Int) + 1 := by omega
                  have hlen2 : (ds ++ [0]).length = ds.length + 1 := by simp
                  have hx1 := Hcells.out m (by rw [asZ_length, hlen2]; omega)
                  have hx2 := Hcells.out (m + 1) (by rw [asZ_length, hlen2]; omega)
                  have hy1 := (Hb3.out.cell (p := ⟨g2, m, none⟩) Hlt2.out).trans hx1
                  have hy2 := (Hb3.out.cell (p := ⟨g2, m + 1, none⟩) Hlt2.out).trans hx2
                  have hmem : ∀ d ∈ (ds ++ [0]), d < 16 := fun d hd => by
                    rcases List.mem_append.1 hd with hd | hd
                    · exact HD.out d hd
                    · simp at hd; omega
                  have hm := Lib.hid (pairs_more (ds := ds ++ [0]) (l := l) (m := m) (by rw [hlen2]; omega) HP.out)
                  obtain ⟨x, hx⟩ : ∃ x, (ds ++ [0])[m]'(by rw [hlen2]; omega) = x := ⟨_, rfl⟩
                  obtain ⟨y, hy⟩ : ∃ y, (ds ++ [0])[m + 1]'(by rw [hlen2]; omega) = y := ⟨_, rfl⟩
                  have hx16 : x < 16 := by rw [← hx]; exact hmem _ (List.getElem_mem _)
                  have hy16 : y < 16 := by rw [← hy]; exact hmem _ (List.getElem_mem _)
                  rw [asZ_get, hx] at hy1
                  rw [asZ_get, hy] at hy2
                  rw [hx, hy] at hm
                  have hbyte := pair_byte x y
                  have q3 : IntKind.i64.wrap ((m : Int) + 1) = (m : Int) + 1 := by rw [IntKind.wrap_i64]; omega
                  have q4 : IntKind.i64.wrap (16 * (x : Int)) = 16 * (x : Int) := by rw [IntKind.wrap_i64]; omega
                  have q5 : IntKind.i64.wrap (16 * (x : Int) + (y : Int)) = 16 * (x : Int) + (y : Int) := by rw [IntKind.wrap_i64]; omega
                  have hkb : l.length ≤ 1000000 := by omega
                  clear hx1 hx2 hmem hx hy hlen2 hml
                  go_wp2_with fail
                  go_region_law (refine step_append8 rfl (.tmp 72) (.tmp 85) rfl _ _ l rfl (HL.out.drew.alloc _) ⟨wr.heap.size, 0, none⟩ 1 [UInt8.ofNat (16 * x + y)] rfl (cells_new1 _ _ _ (by first | rfl | exact hbyte | omega)) (by simp) (by simp; omega) _ (Hb3.out.drew.alloc Hb3.out.size _) (by have := Hb3.out.size; simp; omega) ?_; intro v3 w3 Ho3 Hb4 _)
                  all_goals
                    go_wp2_with fail
                    go_roundg (g - 1)
                    case measure => omega
                    case rel => exact ⟨m + 2, l ++ [UInt8.ofNat (16 * x + y)], by omega, by go_num, Ho3.out, by have := HM.out; show m + 2 = _; rw [List.length_append]; simp; omega, hm.out, Hb4.out⟩
            · have ho : (((ds.length : Int) % 2) == 1) = false := beq_eq_false_iff_ne.2 (by omega)
              have HO2 := Lib.hid HO.out
              go_wp2_with fail
              have Hpad : Hid (pairsH ds = a) := Lib.hid (Prod.mk.inj Hr.out).1.symm
              have Hb0 : b = 0 := (Prod.mk.inj Hr.out).2
              obtain ⟨g2', cap2', hv2, hlt2, hcells⟩ := HO2.out.at
              have hG : g1 = g2' := by injection hv2 with h1 _ _; injection h1 with h1; injection h1
              subst hG
              clear hv2
              have Hcells := Lib.hid hcells
              have Hlt2 := Lib.hid hlt2
              clear hcells hlt2
              go_loopg [9, 10] ds.length (fun g s9 s10 wx => ∃ (m : Nat) (l : List UInt8), m + g = ds.length ∧ s10 = .int .i64 m ∧ Aside (Own8 wx wr.heap.size s9 l) ∧ Aside (m = 2 * l.length) ∧ Aside (l ++ pairsH (ds.drop m) = pairsH ds) ∧ Below wr.heap.size wr wx)
              case atStart => exact ⟨0, [], by omega, rfl, Own8.made wr 0 #[] (Nat.le_refl _) (by decide) rfl, rfl, rfl, (Below.refl _ wr).alloc (Nat.le_refl _) _⟩
              case round =>
                obtain ⟨m, l, hkg, rfl, HL, HM, HP, hb3⟩ := hrel
                have Hb3 := Lib.hid hb3
                clear hb3
                cases gk with
                | zero =>
                  have hk : ¬ (m : Int) + 1 < (ds.length : Int) := by omega
                  have hfin : l = a := by
                    have := HP.out
                    rw [List.drop_of_length_le (show ds.length ≤ m by omega)] at this
                    rw [← Hpad.out, ← this]; exact (List.append_nil l).symm
                  subst hfin
                  have htext := HL.out.text
                  subst Hb0
                  have hkb : m ≤ 1000001 := by omega
                  clear hkg
                  go_wp2_with fail
                  go_ret2
                  exact ⟨rfl, Hb.out.trans (Hb3.out.mono Hb.out.size)⟩
                | succ g =>
                  have hml : m = 2 * l.length := HM.out
                  have hk1 : m + 1 < ds.length := by omega
                  have hk : (m : Int) + 1 < (ds.length : Int) := by omega
                  have hk0 : (m : Int) < (ds.length : Int) := by omega
                  have q1 : ((m : Int) + 1).toNat = m + 1 := by omega
                  have q2 : 0 ≤ (m : Int) + 1 := by omega
                  have hlen2 : ds.length = ds.length := rfl
                  have hx1 := Hcells.out m (by rw [asZ_length, hlen2]; omega)
                  have hx2 := Hcells.out (m + 1) (by rw [asZ_length, hlen2]; omega)
                  have hy1 := (Hb3.out.cell (p := ⟨g1, m, none⟩) Hlt2.out).trans hx1
                  have hy2 := (Hb3.out.cell (p := ⟨g1, m + 1, none⟩) Hlt2.out).trans hx2
                  have hmem : ∀ d ∈ (ds), d < 16 := HD.out
                  have hm := Lib.hid (pairs_more (ds := ds) (l := l) (m := m) (by rw [hlen2]; omega) HP.out)
                  obtain ⟨x, hx⟩ : ∃ x, (ds)[m]'(by rw [hlen2]; omega) = x := ⟨_, rfl⟩
                  obtain ⟨y, hy⟩ : ∃ y, (ds)[m + 1]'(by rw [hlen2]; omega) = y := ⟨_, rfl⟩
                  have hx16 : x < 16 := by rw [← hx]; exact hmem _ (List.getElem_mem _)
                  have hy16 : y < 16 := by rw [← hy]; exact hmem _ (List.getElem_mem _)
                  rw [asZ_get, hx] at hy1
                  rw [asZ_get, hy] at hy2
                  rw [hx, hy] at hm
                  have hbyte := pair_byte x y
                  have q3 : IntKind.i64.wrap ((m : Int) + 1) = (m : Int) + 1 := by rw [IntKind.wrap_i64]; omega
                  have q4 : IntKind.i64.wrap (16 * (x : Int)) = 16 * (x : Int) := by rw [IntKind.wrap_i64]; omega
                  have q5 : IntKind.i64.wrap (16 * (x : Int) + (y : Int)) = 16 * (x : Int) + (y : Int) := by rw [IntKind.wrap_i64]; omega
                  have hkb : l.length ≤ 1000000 := by omega
                  clear hx1 hx2 hmem hx hy hlen2 hml
                  go_wp2_with fail
                  go_region_law (refine step_append8 rfl (.tmp 72) (.tmp 85) rfl _ _ l rfl (HL.out.drew.alloc _) ⟨wr.heap.size, 0, none⟩ 1 [UInt8.ofNat (16 * x + y)] rfl (cells_new1 _ _ _ (by first | rfl | exact hbyte | omega)) (by simp) (by simp; omega) _ (Hb3.out.drew.alloc Hb3.out.size _) (by have := Hb3.out.size; simp; omega) ?_; intro v3 w3 Ho3 Hb4 _)
                  all_goals
                    go_wp2_with fail
                    go_roundg (g - 1)
                    case measure => omega
                    case rel => exact ⟨m + 2, l ++ [UInt8.ofNat (16 * x + y)], by omega, by go_num, Ho3.out, by have := HM.out; show m + 2 = _; rw [List.length_append]; simp; omega, hm.out, Hb4.out⟩
end
end Go.Proofs.YtnelbahohkjcnaaGreatDoor
/-
  The contracts of octet's Kind, Hex, Digit, where no more of octet is reached.
-/
namespace Go.Proofs.YtnelbahohkjcnaaGreatDoor
section
open Go.RowKit
set_option maxRecDepth 100000
set_option maxHeartbeats 1000000 in
theorem kind_any (c : Int) (w : World) :
    Calls Tryz.prog 106 #[.int .u8 c] w fun e w' => e = .returned (.int .i64 (kindI c)) ∧ w = w' := by
  go_enter Tryz.func106, Tryz.ntmps106
  go_wp2
  all_goals (go_ret; exact ⟨ret_int (by simp_all [kindI]), rfl⟩)
set_option maxHeartbeats 1000000 in
theorem hex_any (c : Int) (w : World) (h0 : 0 ≤ c) (h1 : c ≤ 255) :
    Calls Tryz.prog 105 #[.int .u8 c] w fun e w' => e = .returned (.int .i64 (hexI c)) ∧ w = w' := by
  have hcases : c < 48 ∨ (48 ≤ c ∧ c ≤ 57) ∨ (57 < c ∧ c < 65) ∨ (65 ≤ c ∧ c ≤ 70) ∨ (70 < c ∧ c < 97) ∨ (97 ≤ c ∧ c ≤ 102) ∨ 102 < c := by omega
  rcases hcases with h | ⟨h, h'⟩ | ⟨h, h'⟩ | ⟨h, h'⟩ | ⟨h, h'⟩ | ⟨h, h'⟩ | h
  all_goals
    go_enter Tryz.func105, Tryz.ntmps105
    go_wp2
    go_ret
    exact ⟨ret_int (by unfold hexI; repeat (first | rw [if_pos (by omega)] | rw [if_neg (by omega)]); try omega), rfl⟩
set_option maxHeartbeats 1000000 in
theorem digit_any (n : Int) (w : World) (h0 : -9223372036854775808 ≤ n) (h1 : n ≤ 9223372036854775807) :
    Calls Tryz.prog 103 #[.int .i64 n] w fun e w' => e = .returned (.int .u8 (digitI n)) ∧ w = w' := by
  have hcases : n < 0 ∨ (0 ≤ n ∧ n ≤ 9) ∨ (10 ≤ n ∧ n ≤ 15) ∨ 15 < n := by omega
  rcases hcases with h | ⟨h, h'⟩ | ⟨h, h'⟩ | h
  all_goals
    go_enter Tryz.func103, Tryz.ntmps103
    go_wp2
    go_ret
    exact ⟨ret_int (by unfold digitI; repeat (first | rw [if_pos (by omega)] | rw [if_neg (by omega)]); try omega), rfl⟩
end
end Go.Proofs.YtnelbahohkjcnaaGreatDoor
/-
  (*strings.Builder).WriteByte's contract laid over this translation (the shelf's own command does not find a type that the contract lists and no body names), and the contracts that the walks use.
-/
namespace Go.Proofs
open Go.Shelf
def Tryz.lays167_ren : Go.Shelf.Ren := ⟨fun | 167 => 31 | 240 => 54 | 276 => 75 | n => n, fun | 0 => 0 | 4 => 4 | 5 => 5 | 9 => 9 | 20 => 20 | 37 => 57 | 70 => 56 | 72 => 59 | 75 => 62 | 164 => 98 | 80 => 40 | n => n, fun | n => n⟩
theorem Tryz.lays167 : Go.Proofs.Lays.n167 Tryz.prog Tryz.lays167_ren := {
  mixed := by kernel_rfl
  f167 := Tryz.func31.trans (congrArg some (by kernel_rfl))
  f240 := Tryz.func54.trans (congrArg some (by kernel_rfl))
  f276 := Tryz.func75.trans (congrArg some (by kernel_rfl))
  t0 := Tryz.underlying0
  a0 := Tryz.isAgg0
  z0 := Tryz.sizeOf0
  v0 := Tryz.zeroValue0
  t4 := Tryz.underlying4
  a4 := Tryz.isAgg4
  z4 := Tryz.sizeOf4
  v4 := Tryz.zeroValue4
  t5 := Tryz.underlying5
  a5 := Tryz.isAgg5
  z5 := Tryz.sizeOf5
  v5 := Tryz.zeroValue5
  t9 := Tryz.underlying9
  a9 := Tryz.isAgg9
  z9 := Tryz.sizeOf9
  v9 := Tryz.zeroValue9
  t20 := Tryz.underlying20
  a20 := Tryz.isAgg20
  z20 := Tryz.sizeOf20
  v20 := Tryz.zeroValue20
  t37 := Tryz.underlying57
  a37 := Tryz.isAgg57
  z37 := Tryz.sizeOf57
  v37 := Tryz.zeroValue57
  t70 := Tryz.underlying56
  a70 := Tryz.isAgg56
  z70 := Tryz.sizeOf56
  v70 := Tryz.zeroValue56
  t72 := Tryz.underlying59
  a72 := Tryz.isAgg59
  z72 := Tryz.sizeOf59
  v72 := Tryz.zeroValue59
  t75 := Tryz.underlying62
  a75 := Tryz.isAgg62
  z75 := Tryz.sizeOf62
  v75 := Tryz.zeroValue62
  t164 := Tryz.underlying98
  a164 := Tryz.isAgg98
  z164 := Tryz.sizeOf98
  v164 := Tryz.zeroValue98 }
theorem Tryz.Builder_Extra_167 : Builder.Extra Tryz.prog Tryz.lays167_ren := {
  sizeBuilder := by kernel_rfl
  liesBuilder := by kernel_rfl
  t5 := Tryz.underlying5
  a5 := Tryz.isAgg5
  z5 := Tryz.sizeOf5
  v5 := Tryz.zeroValue5
  infoByte := by kernel_rfl
  cellsByte := by kernel_rfl
  sizeByte := by kernel_rfl
  neB5 := by decide }
end Go.Proofs
namespace Go.Proofs.YtnelbahohkjcnaaGreatDoor
open Go.RowKit
set_option maxRecDepth 100000
def Bld (B b : Nat) (l : List UInt8) (w : World) : Prop := Lib.IsBuilderF 59 5 B b (Lib.byteCells l) w
theorem Bld.fresh (w : World) : Bld w.heap.size w.heap.size [] (w.alloc (.cells #[.pointer none, .slice none 0 0] 59)) :=
  Lib.IsBuilderF.of (Lib.fresh_isBuilder 59 5 w)
theorem Bld.alloc {B b : Nat} {l : List UInt8} {w : World} (h : Bld B b l w) (o : Obj) : Bld B b l (w.alloc o) := Lib.IsBuilderF.alloc h o
theorem Bld.drew {B b : Nat} {l : List UInt8} {w : World} (h : Bld B b l w) : Bld B b l w.drew := h
abbrev Kept (b : Nat) (w w' : World) : Prop := Lib.OthersKept 5 (some b) w w'
theorem grow_is (B b n : Nat) (w : World) (hbk : w.heap[b]? = some (.cells #[.pointer none, .slice none 0 0] 59 (0, 0))) (hB : B ≤ b) (hBw : B ≤ w.heap.size) (hn : n ≤ 281474976710656) :
    Calls Tryz.prog 51 #[.pointer (some ⟨b, 0, none⟩), .int .i64 n] w fun e w' => e = .returned (.tuple #[]) ∧ Bld B b [] w' ∧ Below B w w' := by
  refine (Any.Builder_Grow_fresh Tryz.lays165 Tryz.Builder_Extra_165 B b n w hB hbk hBw hn).mono ?_
  rintro e w' ⟨h, h1, h2⟩
  exact ⟨h, Lib.IsBuilderF.of (Or.inr h1), h2⟩
theorem wbyte_is (B b : Nat) (l : List UInt8) (c : UInt8) (w : World) (h : Bld B b l w) (hl : l.length + 1 ≤ 140737488355328) (hBw : B ≤ w.heap.size) :
    Calls Tryz.prog 31 #[.pointer (some ⟨b, 0, none⟩), .int .u8 (c.toNat : Int)] w fun e w' => e = .returned .nilIface ∧ Bld B b (l ++ [c]) w' ∧ Below B w w' ∧ Kept b w w' := by
  refine (Any.Builder_WriteByte_k Tryz.lays167 Tryz.Builder_Extra_167 B b (Lib.byteCells l) (c.toNat : Int) w h (by rw [Lib.byteCells_length]; exact hl) hBw).mono ?_
  rintro e w' ⟨h1, h2, h3, h4⟩
  refine ⟨h1, ?_, h3, h4⟩
  unfold Bld
  rw [Lib.byteCells_append]
  exact Or.inr h2
theorem string_is (B b : Nat) (l : List UInt8) (w : World) (h : Bld B b l w) (hBw : B ≤ w.heap.size) :
    Calls Tryz.prog 32 #[.pointer (some ⟨b, 0, none⟩)] w fun e w' => e = .returned (.string ⟨l.toArray⟩) ∧ Bld B b l w' ∧ Below B w w' ∧ Kept b w w' :=
  Any.Builder_String_any_k Tryz.lays169 Tryz.Builder_Extra_169 B b l w h hBw
theorem ownsF_later {w w' : World} {B : Nat} {e : TypeId} {size : Nat} {v : Value} {n : Nat} {xs : List Value} (h : w.ownsRowF B e size v n xs) (hb : Below w.heap.size w w') : w'.ownsRowF B e size v n xs := by
  refine ⟨h.1, ?_⟩
  rcases h.2 with h2 | ⟨g, cap, cur, fz, hv, hB, hg, hr⟩
  · exact .inl h2
  · exact .inr ⟨g, cap, cur, fz, hv, hB, (hb.block g (Array.getElem?_eq_some_iff.1 hg).1).trans hg, hr⟩
theorem Bld.later {B b : Nat} {l : List UInt8} {w w' : World} (h : Bld B b l w) (hb : Below w.heap.size w w') : Bld B b l w' := by
  have key : ∀ p, Lib.BuilderAtF 59 5 B b p (Lib.byteCells l) w → Lib.BuilderAtF 59 5 B b p (Lib.byteCells l) w' := by
    rintro p ⟨hB, x, hbk, hown, hne⟩
    exact ⟨hB, x, (hb.block b (Array.getElem?_eq_some_iff.1 hbk).1).trans hbk, ownsF_later hown hb, hne⟩
  exact h.imp (key _) (key _)
end Go.Proofs.YtnelbahohkjcnaaGreatDoor
/-
  hexa.Encode: the digits of bytes, written into a builder.
-/
namespace Go.Proofs.YtnelbahohkjcnaaGreatDoor
section
open Go.RowKit
set_option maxRecDepth 100000
theorem pDigit_is (n : Nat) (w : World) (h : n < 16) : Calls Tryz.prog 103 #[.int .i64 (n : Int)] w fun e w' => e = .returned (.int .u8 ((digB n).toNat : Int)) ∧ w = w' := by
  rw [digB_nat h]
  exact digit_any (n : Int) w (by omega) (by omega)
theorem pDigit_hi (c : UInt8) (w : World) : Calls Tryz.prog 103 #[.int .i64 ((c.toNat : Int) / 16)] w fun e w' => e = .returned (.int .u8 ((digB (c.toNat / 16)).toNat : Int)) ∧ w = w' := by
  have h1 := c.toNat_lt
  exact pDigit_is (c.toNat / 16) w (by omega)
theorem pDigit_lo (c : UInt8) (w : World) : Calls Tryz.prog 103 #[.int .i64 ((c.toNat : Int) % 16)] w fun e w' => e = .returned (.int .u8 ((digB (c.toNat % 16)).toNat : Int)) ∧ w = w' := by
  have h1 := c.toNat_lt
  exact pDigit_is (c.toNat % 16) w (by omega)
set_option maxHeartbeats 1000000 in
theorem hexEnc_any (s : ByteArray) (w : World) (hs : s.size ≤ 100000) :
    Calls Tryz.prog 76 #[.string s] w fun e w' => e = .returned (.string ⟨(encH s.data.toList).toArray⟩) ∧ Below w.heap.size w w' := by
  go_enter Tryz.func76, Tryz.ntmps76
  go_wp2_with fail
  refine (grow_is w.heap.size w.heap.size (2 * s.size + 1) _ (heap_alloc_new w _) (Nat.le_refl _) (by simp) (by omega)).mono ?_
  rintro e w1 ⟨rfl, hB, hb⟩
  have HB := Lib.hid hB
  have Hb := Lib.hid (((Below.refl _ w).alloc (Nat.le_refl _) _).trans hb)
  clear hB hb
  go_wp2_with fail
  go_loopg [12] s.size (fun g s12 wx => ∃ (k : Nat), k + g = s.size ∧ s12 = .int .i64 k ∧ Aside (Bld w.heap.size w.heap.size (encD (s.data.toList.take k)) wx) ∧ Below w.heap.size w wx)
  case atStart => exact ⟨0, by omega, rfl, HB.out, Hb.out⟩
  case round =>
    obtain ⟨k, hkg, rfl, HO, hb⟩ := hrel
    have Hb := Lib.hid hb
    clear hb
    cases gk with
    | zero =>
      obtain rfl : k = s.size := by omega
      have Hl : Hid (encD (s.data.toList.take s.size) = encD s.data.toList) := Lib.hid (by rw [List.take_of_length_le (by rw [← size_data]; exact Nat.le_refl _)])
      have hlen : (encD s.data.toList).length ≤ 2000000 := by rw [encD_length, ← size_data]; omega
      rw [Hl.out] at HO
      go_wp2_with fail
      refine (wbyte_is w.heap.size w.heap.size _ 62 _ HO.out (by omega) Hb.out.size).mono ?_
      rintro e w2 ⟨rfl, hB, hb, -⟩
      have HB2 := Lib.hid hB
      have Hb2 := Lib.hid (Hb.out.trans hb)
      clear hB hb
      go_wp2_with fail
      refine (string_is w.heap.size w.heap.size _ _ HB2.out Hb2.out.size).mono ?_
      rintro e w3 ⟨rfl, -, hb, -⟩
      have Hb3 := Lib.hid (Hb2.out.trans hb)
      clear hb
      go_wp2_with fail
      go_ret
      exact ⟨rfl, Hb3.out⟩
    | succ g =>
      have hk : k < s.size := by omega
      have hkz : (k : Int) < (s.size : Int) := by omega
      have hc := s[k].toNat_lt
      have Hd := Lib.hid (fun W => pDigit_hi s[k] W)
      have Hl := Lib.hid (fun W => pDigit_lo s[k] W)
      have hlen : (encD (s.data.toList.take k)).length ≤ 2000000 := by rw [encD_length, List.length_take, ← size_data]; omega
      have Hnext := Lib.hid (encD_take hk)
      go_wp2_with fail
      refine (Hd.out _).mono ?_
      rintro e w2 ⟨rfl, rfl⟩
      go_wp2_with fail
      refine (wbyte_is w.heap.size w.heap.size _ (digB (s[k].toNat / 16)) _ HO.out (by omega) Hb.out.size).mono ?_
      rintro e w2 ⟨rfl, hB, hb, -⟩
      have HB2 := Lib.hid hB
      have Hb2 := Lib.hid (Hb.out.trans hb)
      clear hB hb
      go_wp2_with fail
      refine (Hl.out _).mono ?_
      rintro e w3 ⟨rfl, rfl⟩
      go_wp2_with fail
      refine (wbyte_is w.heap.size w.heap.size _ (digB (s[k].toNat % 16)) _ HB2.out (by simp; omega) Hb2.out.size).mono ?_
      rintro e w3 ⟨rfl, hB, hb, -⟩
      have HB3 := Lib.hid hB
      have Hb3 := Lib.hid (Hb2.out.trans hb)
      clear hB hb
      go_wp2_with fail
      go_roundg g
      case measure => omega
      case rel => exact ⟨k + 1, by omega, by go_num, by show Bld _ _ _ _; rw [Hnext.out]; simpa using HB3.out, Hb3.out⟩
end
end Go.Proofs.YtnelbahohkjcnaaGreatDoor
/-
  hexa.pairing: the function that puts digits together.
-/
namespace Go.Proofs.YtnelbahohkjcnaaGreatDoor
section
open Go.RowKit
set_option maxRecDepth 100000
theorem pairing_is (b : Nat) (w : World) :
    Calls Tryz.prog 104 #[.pointer (some ⟨b, 0, none⟩)] w fun e w' =>
      e = .returned (.func (.func 130) #[] #[.pointer (some ⟨w.heap.size + 1, 0, none⟩), .pointer (some ⟨w.heap.size, 0, none⟩)]) ∧
      (w.alloc (.cells #[.pointer (some ⟨b, 0, none⟩)] 56)).alloc (.cells #[.int .i64 (-1)] 3) = w' := by
  go_enter Tryz.func104, Tryz.ntmps104
  go_wp2_with fail
  go_ret
  exact ⟨rfl, rfl⟩
def PairAt (B : Nat) (a : Int) (l : List UInt8) (w : World) : Prop :=
  Bld B B l w ∧ w.heap[B + 1]? = some (.cells #[.pointer (some ⟨B, 0, none⟩)] 56 (0, 0)) ∧ w.heap[B + 2]? = some (.cells #[.int .i64 a] 3 (0, 0))
theorem Bld.set {B : Nat} {l : List UInt8} {w : World} (h : Bld B B l w) {a : Int} (h2 : w.heap[B + 2]? = some (.cells #[.int .i64 a] 3 (0, 0))) (v : Value) : Bld B B l (w.setCell ⟨B + 2, 0, none⟩ v) := by
  have key : ∀ p, Lib.BuilderAtF 59 5 B B p (Lib.byteCells l) w → Lib.BuilderAtF 59 5 B B p (Lib.byteCells l) (w.setCell ⟨B + 2, 0, none⟩ v) := by
    rintro p ⟨hB, x, hb, hown, hne⟩
    refine ⟨hB, x, ?_, ?_, hne⟩
    · rw [Below.heap_setCell _ _ _ _ (by simp)]; exact hb
    · exact hown.kept (row := some (B + 2)) ⟨rfl, rfl, rfl, by simp [World.setCell], fun k _ hk => Below.heap_setCell _ _ _ _ (fun e => hk (by simp [e]))⟩ (Or.inr (Lib.ownBlock_neF hown h2 (by decide)))
  exact h.imp (key _) (key _)
theorem PairAt.set {B : Nat} {a : Int} {l : List UInt8} {w : World} (h : PairAt B a l w) (d : Int) : PairAt B d l (w.setCell ⟨B + 2, 0, none⟩ (.int .i64 d)) := by
  obtain ⟨h0, h1, h2⟩ := h
  refine ⟨h0.set h2 _, ?_, ?_⟩
  · rw [Below.heap_setCell _ _ _ _ (by simp)]; exact h1
  · simp [World.setCell, Array.getElem?_modify, h2]
set_option maxHeartbeats 1000000 in
theorem put_wait (B : Nat) (d : Nat) (l : List UInt8) (w : World) (h : PairAt B (-1) l w) :
    Calls Tryz.prog 130 #[.int .i64 (d : Int), .pointer (some ⟨B + 2, 0, none⟩), .pointer (some ⟨B + 1, 0, none⟩)] w fun e w' => e = .returned (.tuple #[]) ∧ PairAt B (d : Int) l w' ∧ Below B w w' := by
  have H := Lib.hid h
  obtain ⟨-, -, h2⟩ := h
  have c2 : w.cell? ⟨B + 2, 0, none⟩ = some (.int .i64 (-1)) := by rw [Lib.cell_of_heap h2]; rfl
  have f2 : w.frozen? ⟨B + 2, 0, none⟩ = false := Lib.frozen_of_heap h2 0
  clear h2
  go_enter Tryz.func130, Tryz.ntmps130
  go_wp2_with fail
  refine bodyPost_ret (v := .tuple #[]) (by simp [results, go_sem]) rfl ⟨rfl, H.out.set _, (Below.refl B w).setCell (p := ⟨B + 2, 0, none⟩) (by simp) _⟩
theorem or_byteH {a d : Nat} (ha : a < 16) (hd : d < 16) : bits BinOp.or IntKind.i64 ((a : Int) * 16) (d : Int) % 256 = ((UInt8.ofNat (16 * a + d)).toNat : Int) := by
  have : ∀ a d : Fin 16, bits BinOp.or IntKind.i64 ((a.1 : Int) * 16) (d.1 : Int) % 256 = ((UInt8.ofNat (16 * a.1 + d.1)).toNat : Int) := by decide +kernel
  exact this ⟨a, ha⟩ ⟨d, hd⟩
set_option maxHeartbeats 1000000 in
theorem put_pair (B : Nat) (a d : Nat) (l : List UInt8) (w : World) (h : PairAt B (a : Int) l w) (ha : a < 16) (hd : d < 16) (hl : l.length ≤ 1000000) (hB : B ≤ w.heap.size) :
    Calls Tryz.prog 130 #[.int .i64 (d : Int), .pointer (some ⟨B + 2, 0, none⟩), .pointer (some ⟨B + 1, 0, none⟩)] w fun e w' => e = .returned (.tuple #[]) ∧ PairAt B (-1) (l ++ [UInt8.ofNat (16 * a + d)]) w' ∧ Below B w w' := by
  have H := Lib.hid h
  obtain ⟨-, h1, h2⟩ := h
  have c1 : w.cell? ⟨B + 1, 0, none⟩ = some (.pointer (some ⟨B, 0, none⟩)) := by rw [Lib.cell_of_heap h1]; rfl
  have c2 : w.cell? ⟨B + 2, 0, none⟩ = some (.int .i64 (a : Int)) := by rw [Lib.cell_of_heap h2]; rfl
  have f2 : w.frozen? ⟨B + 2, 0, none⟩ = false := Lib.frozen_of_heap h2 0
  clear h1 h2
  have hne : ¬ (a : Int) = -1 := by omega
  go_enter Tryz.func130, Tryz.ntmps130
  go_wp2_with fail
  have hor := or_byteH ha hd
  rw [hor]
  refine (wbyte_is B B l _ w H.out.1 (by omega) hB).mono ?_
  rintro e w2 ⟨rfl, hB2, hb, hk⟩
  have HB2 := Lib.hid hB2
  have Hb2 := Lib.hid hb
  have Hk2 := Lib.hid hk
  clear hB2 hb hk
  have h1 := H.out.2.1
  have h2 := H.out.2.2
  have g1 : w2.heap[B + 1]? = some (.cells #[.pointer (some ⟨B, 0, none⟩)] 56 (0, 0)) := Hk2.out _ _ h1 (by simp) (by simp)
  have g2 : w2.heap[B + 2]? = some (.cells #[.int .i64 (a : Int)] 3 (0, 0)) := Hk2.out _ _ h2 (by simp) (by simp)
  have H2 : Hid (PairAt B (a : Int) (l ++ [UInt8.ofNat (16 * a + d)]) w2) := Lib.hid ⟨HB2.out, g1, g2⟩
  have k2 : w2.cell? ⟨B + 2, 0, none⟩ = some (.int .i64 (a : Int)) := by rw [Lib.cell_of_heap g2]; rfl
  have kf2 : w2.frozen? ⟨B + 2, 0, none⟩ = false := Lib.frozen_of_heap g2 0
  clear h1 h2 g1 g2 c1 c2 f2
  go_wp2_with fail
  go_end0
  exact ⟨rfl, H2.out.set _, Hb2.out.setCell (p := ⟨B + 2, 0, none⟩) (by simp) _⟩
theorem pairsH_short : ∀ ds : List Nat, (pairsH ds).length ≤ ds.length
  | [] => Nat.le_refl _
  | [_] => Nat.le_refl _
  | a :: b :: r => by
    show (pairsH r).length + 1 ≤ r.length + 1 + 1
    have := pairsH_short r
    omega
def DigAt (B : Nat) (ds : List Nat) (w : World) : Prop :=
  (ds.length % 2 = 0 ∧ PairAt B (-1) (pairsH ds) w) ∨ ∃ (p : List Nat) (d : Nat), ds = p ++ [d] ∧ p.length % 2 = 0 ∧ d < 16 ∧ PairAt B (d : Int) (pairsH p) w
theorem put_any (B : Nat) (ds : List Nat) (d : Nat) (w : World) (h : DigAt B ds w) (hd : d < 16) (hl : ds.length ≤ 1000000) (hB : B ≤ w.heap.size) :
    Calls Tryz.prog 130 #[.int .i64 (d : Int), .pointer (some ⟨B + 2, 0, none⟩), .pointer (some ⟨B + 1, 0, none⟩)] w fun e w' => e = .returned (.tuple #[]) ∧ DigAt B (ds ++ [d]) w' ∧ Below B w w' := by
  rcases h with ⟨h0, h⟩ | ⟨p, a, rfl, h0, ha, h⟩
  · refine (put_wait B d _ w h).mono ?_
    rintro e w' ⟨he, h1, h2⟩
    exact ⟨he, Or.inr ⟨ds, d, rfl, h0, hd, h1⟩, h2⟩
  · have := pairsH_short p
    refine (put_pair B a d _ w h ha hd (by simp at hl; omega) hB).mono ?_
    rintro e w' ⟨he, h1, h2⟩
    refine ⟨he, Or.inl ⟨by simp; omega, ?_⟩, h2⟩
    rw [pairsH_snoc2 p a d h0]
    exact h1
theorem DigAt.told {B : Nat} {ds : List Nat} {w : World} (h : DigAt B (ds ++ [0]) w) : Bld B B (pairsH ds) w := by
  rcases h with ⟨h0, h⟩ | ⟨p, d, e, h0, -, h⟩
  · rw [pairsH_pad ds (by simp at h0; omega)] at h
    exact h.1
  · obtain ⟨rfl, -⟩ := List.append_inj' e rfl
    exact h.1
def goingH (e : Bool) (ds : List Nat) (l : List UInt8) : List UInt8 × Int := if e then (if l.all whiteB then (pairsH ds, 0) else ([], 4)) else decGo ds l
theorem going_start (l : List UInt8) : goingH false [] l = decH l := rfl
theorem going_white {e : Bool} {ds : List Nat} {c : UInt8} {t : List UInt8} (h : kindI (c.toNat : Int) = 0) : goingH e ds (c :: t) = goingH e ds t := by
  cases e
  · have := white_not h
    exact decGo_white this.1 this.2 h
  · have : whiteB c = true := decide_eq_true h
    simp [goingH, this]
theorem going_over {ds : List Nat} {c : UInt8} {t : List UInt8} (h : ¬ kindI (c.toNat : Int) = 0) : goingH true ds (c :: t) = ([], 4) := by
  have : whiteB c = false := decide_eq_false h
  simp [goingH, this]
theorem going_end {ds : List Nat} {c : UInt8} {t : List UInt8} (h : c.toNat = 62) : goingH false ds (c :: t) = goingH true ds t := by
  simp [goingH, decGo_end h]
theorem going_digit {ds : List Nat} {c : UInt8} {t : List UInt8} (h : ¬ c.toNat = 62) (h2 : 0 ≤ hexI (c.toNat : Int)) : goingH false ds (c :: t) = goingH false (ds ++ [(hexI (c.toNat : Int)).toNat]) t := by
  simp [goingH, decGo_digit h h2]
theorem going_bad {ds : List Nat} {c : UInt8} {t : List UInt8} (h : ¬ c.toNat = 62) (h2 : ¬ 0 ≤ hexI (c.toNat : Int)) (h3 : ¬ kindI (c.toNat : Int) = 0) : goingH false ds (c :: t) = ([], 4) := by
  simp [goingH, decGo_bad h h2 h3]
end
end Go.Proofs.YtnelbahohkjcnaaGreatDoor
/-
  hexa.Decode: the bytes of digits.
-/
namespace Go.Proofs.YtnelbahohkjcnaaGreatDoor
section
open Go.RowKit
set_option maxRecDepth 100000
theorem put_here (B : Nat) (ds : List Nat) (d : Nat) (w : World) (h : DigAt B ds w) (hd : d < 16) (hl : ds.length ≤ 1000000) (hB : B ≤ w.heap.size) :
    Calls Tryz.prog 130 #[.int .i64 (d : Int), .pointer (some ⟨B + 1 + 1, 0, none⟩), .pointer (some ⟨B + 1, 0, none⟩)] w fun e w' => e = .returned (.tuple #[]) ∧ DigAt B (ds ++ [d]) w' ∧ Below B w w' :=
  put_any B ds d w h hd hl hB
set_option maxHeartbeats 1000000 in
theorem hexDec_any (s : ByteArray) (w : World) (hs : s.size ≤ 100000) :
    Calls Tryz.prog 77 #[.string s] w fun e w' => e = .returned (.tuple #[.string ⟨(decH s.data.toList).1.toArray⟩, .int .i64 (decH s.data.toList).2]) ∧ Below w.heap.size w w' := by
  obtain ⟨r, hr⟩ : ∃ r, decH s.data.toList = r := ⟨_, rfl⟩
  rw [hr]
  rw [← going_start] at hr
  have Hr := Lib.hid hr
  clear hr
  go_enter Tryz.func77, Tryz.ntmps77
  go_wp2_with fail
  refine (pairing_is _ _).mono ?_
  rintro e w1 ⟨rfl, rfl⟩
  go_wp2_with fail
  go_loopg [6, 13] s.size (fun g s6 s13 wx => ∃ (k : Nat) (e : Bool) (ds : List Nat), k + g = s.size ∧ s6 = .bool e ∧ s13 = .int .i64 k ∧ ds.length ≤ k ∧ Aside (goingH e ds (s.data.toList.drop k) = r) ∧ Aside (DigAt w.heap.size ds wx) ∧ Below w.heap.size w wx)
  case atStart =>
    refine ⟨0, false, [], by omega, rfl, rfl, Nat.le_refl _, Hr.out, Or.inl ⟨rfl, ?_⟩, (((Below.refl _ w).alloc (Nat.le_refl _) _).alloc (by simp) _).alloc (by simp; omega) _⟩
    refine ⟨((Bld.fresh w).alloc _).alloc _, ?_, ?_⟩
    · rw [Lib.alloc_old _ _ _ (by simp)]
      have := heap_alloc_new (w.alloc (.cells #[.pointer none, .slice none 0 0] 59)) (.cells #[.pointer (some ⟨w.heap.size, 0, none⟩)] 56)
      simpa using this
    · have := heap_alloc_new ((w.alloc (.cells #[.pointer none, .slice none 0 0] 59)).alloc (.cells #[.pointer (some ⟨w.heap.size, 0, none⟩)] 56)) (.cells #[.int .i64 (-1)] 3)
      simpa using this
  case round =>
    obtain ⟨k, e, ds, hkg, rfl, rfl, hdk, hr, HO, hb⟩ := hrel
    have Hb := Lib.hid hb
    clear hb Hr
    cases gk with
    | zero =>
      obtain rfl : k = s.size := by omega
      have hnil : s.data.toList.drop s.size = [] := List.drop_eq_nil_of_le (by rw [← size_data]; exact Nat.le_refl _)
      have hr' := hr.out
      rw [hnil] at hr'
      cases e
      · obtain rfl : (([], 5) : List UInt8 × Int) = r := hr'
        go_wp2_with fail
        exact bodyPost_ret (v := .tuple #[.string ⟨#[]⟩, .int .i64 5]) (by simp [results, Tryz.results77, go_sem]) rfl ⟨rfl, Hb.out⟩
      · obtain rfl : ((pairsH ds, 0) : List UInt8 × Int) = r := hr'
        go_wp2_with fail
        refine (put_here w.heap.size ds 0 _ HO.out (by decide) (by omega) Hb.out.size).mono ?_
        rintro e w1 ⟨rfl, hd, hb⟩
        have Hd := Lib.hid hd.told
        have Hb1 := Lib.hid (Hb.out.trans hb)
        clear hd hb
        go_wp2_with fail
        refine (string_is w.heap.size w.heap.size _ _ Hd.out Hb1.out.size).mono ?_
        rintro e w2 ⟨rfl, -, hb, -⟩
        have Hb2 := Lib.hid (Hb1.out.trans hb)
        clear hb
        go_wp2_with fail
        exact bodyPost_ret (v := .tuple #[.string ⟨(pairsH ds).toArray⟩, .int .i64 0]) (by simp [results, Tryz.results77, go_sem]) rfl ⟨rfl, Hb2.out⟩
    | succ g =>
      have hk : k < s.size := by omega
      have hkz : (k : Int) < (s.size : Int) := by omega
      have hc := s[k].toNat_lt
      have hdr : s.data.toList.drop k = s[k] :: s.data.toList.drop (k + 1) := by
        rw [List.drop_eq_getElem_cons (by rw [← size_data]; exact hk)]; rfl
      have hr' := hr.out
      rw [hdr] at hr'
      have hx := hexI_range s[k]
      have Hh := Lib.hid (fun W => hex_any (s[k].toNat : Int) W (by omega) (by omega))
      have Hk := Lib.hid (fun W => kind_any (s[k].toNat : Int) W)
      by_cases hw : kindI (s[k].toNat : Int) = 0
      · rw [going_white hw] at hr'
        have Hr' := Lib.hid hr'
        have hw' : (kindI (s[k].toNat : Int) == 0) = true := by simpa using hw
        clear hr' hw hdr
        go_wp2_with fail
        refine (Hh.out _).mono ?_
        rintro _ w1 ⟨rfl, rfl⟩
        go_wp2_with fail
        refine (Hk.out _).mono ?_
        rintro _ w1 ⟨rfl, rfl⟩
        go_wp2_with fail
        go_roundg g
        case measure => omega
        case rel => exact ⟨k + 1, e, ds, by omega, rfl, by go_num, by omega, Hr'.out, HO.out, Hb.out⟩
      · have hw' : (kindI (s[k].toNat : Int) == 0) = false := by simpa using hw
        cases e
        · by_cases hend : s[k].toNat = 62
          · rw [going_end hend] at hr'
            have Hr' := Lib.hid hr'
            have hend' : ((s[k].toNat : Int) == 62) = true := by simp; omega
            clear hr' hw hdr hend
            go_wp2_with fail
            refine (Hh.out _).mono ?_
            rintro _ w1 ⟨rfl, rfl⟩
            go_wp2_with fail
            refine (Hk.out _).mono ?_
            rintro _ w1 ⟨rfl, rfl⟩
            go_wp2_with fail
            go_roundg g
            case measure => omega
            case rel => exact ⟨k + 1, true, ds, by omega, rfl, by go_num, by omega, Hr'.out, HO.out, Hb.out⟩
          · have hend' : ((s[k].toNat : Int) == 62) = false := by simp; omega
            by_cases hh : 0 ≤ hexI (s[k].toNat : Int)
            · rw [going_digit hend hh] at hr'
              have Hr' := Lib.hid hr'
              obtain ⟨d, hd⟩ : ∃ d : Nat, hexI (s[k].toNat : Int) = (d : Int) := ⟨(hexI (s[k].toNat : Int)).toNat, by omega⟩
              have hd16 : d < 16 := by omega
              rw [hd] at Hr' Hh hh
              clear hr' hw hdr hend hx hd
              go_wp2_with fail
              refine (Hh.out _).mono ?_
              rintro _ w1 ⟨rfl, rfl⟩
              go_wp2_with fail
              refine (Hk.out _).mono ?_
              rintro _ w1 ⟨rfl, rfl⟩
              go_wp2_with fail
              refine (put_here w.heap.size ds d _ HO.out hd16 (by omega) Hb.out.size).mono ?_
              rintro _ w1 ⟨rfl, hd, hb⟩
              have Hd := Lib.hid hd
              have Hb1 := Lib.hid (Hb.out.trans hb)
              clear hd hb
              go_wp2_with fail
              go_roundg g
              case measure => omega
              case rel => exact ⟨k + 1, false, ds ++ [d], by omega, rfl, by go_num, by simp; omega, Hr'.out, Hd.out, Hb1.out⟩
            · rw [going_bad hend hh hw] at hr'
              subst hr'
              clear hw hdr hend
              go_wp2_with fail
              refine (Hh.out _).mono ?_
              rintro _ w1 ⟨rfl, rfl⟩
              go_wp2_with fail
              refine (Hk.out _).mono ?_
              rintro _ w1 ⟨rfl, rfl⟩
              go_wp2_with fail
              exact bodyPost_ret (v := .tuple #[.string ⟨#[]⟩, .int .i64 4]) (by simp [results, Tryz.results77, go_sem]) rfl ⟨rfl, Hb.out⟩
        · rw [going_over hw] at hr'
          subst hr'
          clear hw hdr
          go_wp2_with fail
          refine (Hh.out _).mono ?_
          rintro _ w1 ⟨rfl, rfl⟩
          go_wp2_with fail
          refine (Hk.out _).mono ?_
          rintro _ w1 ⟨rfl, rfl⟩
          go_wp2_with fail
          exact bodyPost_ret (v := .tuple #[.string ⟨#[]⟩, .int .i64 4]) (by simp [results, Tryz.results77, go_sem]) rfl ⟨rfl, Hb.out⟩
end
end Go.Proofs.YtnelbahohkjcnaaGreatDoor
/-
  The contracts of package hexa, in the form that the laws' walks ask for.
-/
namespace Go.Proofs.YtnelbahohkjcnaaGreatDoor
section
open Go.RowKit
set_option maxRecDepth 100000
theorem hexEnc_is (s u : ByteArray) (w : World) (hs : s.size ≤ 100000) (h : encH s.data.toList = u.data.toList) :
    Calls Tryz.prog 76 #[.string s] w fun e w' => e = .returned (.string u) ∧ Below w.heap.size w w' := by
  have := hexEnc_any s w hs
  rw [h] at this
  simpa using this
theorem hexDec_is (s u : ByteArray) (b : Int) (w : World) (hs : s.size ≤ 100000) (h : decH s.data.toList = (u.data.toList, b)) :
    Calls Tryz.prog 77 #[.string s] w fun e w' => e = .returned (.tuple #[.string u, .int .i64 b]) ∧ Below w.heap.size w w' := by
  have := hexDec_any s w hs
  rw [h] at this
  simpa using this
end
end Go.Proofs.YtnelbahohkjcnaaGreatDoor
