/-
  What must come at any rate: the page's example; and which texts can be seen.
-/
import Derived.Test.YtljgjjbmgjfbcaaDoorWrText
namespace Go.Proofs.YtljgjjbmgjfbcaaDoor
open Go.RowKit
set_option maxRecDepth 100000

theorem seen_all {l : List UInt8} (h : SeenL l) : l.all shownB = true := List.all_eq_true.2 fun c hc => decide_eq_true (h c hc)
set_option maxHeartbeats 1000000 in
theorem seen_is (s : ByteArray) (w : World) (hs : s.size ≤ 1000000000) (hall : s.data.toList.all shownB = true) : Calls Tryd.prog 15 #[.string s] w fun e w' => e = .returned (.bool true) ∧ w = w' := by
  have Hall := Lib.hid hall
  clear hall
  go_enter Tryd.func15, Tryd.ntmps15
  go_wp2_with fail
  go_loopg [3] s.size (fun g s3 wx => ∃ k : Nat, k + g = s.size ∧ s3 = .int .i64 k ∧ w = wx)
  case atStart => exact ⟨0, by omega, rfl, rfl⟩
  case round =>
    obtain ⟨k, hkg, rfl, rfl⟩ := hrel
    cases gk with
    | zero =>
      obtain rfl : k = s.size := by omega
      go_wp2_with fail
      go_ret
      exact ⟨rfl, rfl⟩
    | succ g =>
      have hk : k < s.size := by omega
      have hkz : (k : Int) < (s.size : Int) := by omega
      have hb := of_decide_eq_true (List.all_eq_true.1 Hall.out s[k] (byte_mem s k hk))
      have f1 : ¬ (s[k].toNat : Int) < 32 := by omega
      have f2 : ¬ (126 : Int) < (s[k].toNat : Int) := by omega
      clear hb
      go_wp2_with fail
      go_roundg g
      case measure => omega
      case rel => exact ⟨k + 1, by omega, by go_num, rfl⟩

def xOne : Val := .mk 2 1 0 ByteArray.empty [] []
def xLink : Val := .mk 7 2 0 ByteArray.empty [] []
def xList : Val := .mk 5 0 0 ByteArray.empty [xOne, xLink] []
def xText : Val := .mk 4 0 0 ⟨#[97, 40, 98]⟩ [] []
def xDict : Val := .mk 6 0 0 ByteArray.empty [] [(⟨#[66]⟩, xList), (⟨#[65, 35]⟩, xText)]
def xSorted : Val := .mk 6 0 0 ByteArray.empty [] [(⟨#[65, 35]⟩, xText), (⟨#[66]⟩, xList)]
def xStream : Val := .mk 8 0 0 ByteArray.empty [] []
theorem x_check : checkV xDict false 0 = 0 ∧ checkV xStream false 0 = 10 := by decide +kernel
theorem x_plain : plainV xDict = xSorted := (equalV_iff _ _).1 (by decide +kernel)
theorem x_fit : Fit xDict 4000 ∧ Fit xStream 4000 := by unfold Fit; decide +kernel
theorem x_put : putL 1 = [49] ∧ putL 2 = [50] ∧ putL 0 = [48] := by
  refine ⟨?_, ?_, ?_⟩ <;> (unfold putL; rw [if_neg (by decide), decN_low (by decide)]; rfl)
theorem x_text : textV xSorted = [60, 60, 47, 65, 35, 50, 51, 32, 40, 97, 92, 40, 98, 41, 32, 47, 66, 32, 91, 49, 32, 50, 32, 48, 32, 82, 93, 62, 62] := by
  have h1 : textV xOne = [49] := by rw [textV_eq]; exact x_put.1
  have h2 : textV xLink = [50, 32, 48, 32, 82] := by
    rw [textV_eq]
    show linkW 2 0 = _
    rw [linkW, x_put.2.1, x_put.2.2]; rfl
  have h3 : textV xList = [91, 49, 32, 50, 32, 48, 32, 82, 93] := by
    rw [textV_eq]
    show openW 5 ++ (elemsW 0 [xOne, xLink] ++ (prsW 0 [] ++ closeW 5)) = _
    rw [elemsW, elemsW, elemsW, prsW, h1, h2]; rfl
  have h4 : textV xText = [40, 97, 92, 40, 98, 41] := by
    have h : bytesW (ByteArray.mk #[97, 40, 98]).data.toList = [40, 97, 92, 40, 98, 41] := by decide +kernel
    rw [textV_eq, if_neg (by decide), if_neg (by decide), if_neg (by decide), if_neg (by decide), if_pos (by decide)]
    exact h
  have h5 : nameW (ByteArray.mk #[65, 35]).data.toList = [47, 65, 35, 50, 51] ∧ nameW (ByteArray.mk #[66]).data.toList = [47, 66] := by decide +kernel
  rw [textV_eq]
  show openW 6 ++ (elemsW 0 [] ++ (prsW 0 [(⟨#[65, 35]⟩, xText), (⟨#[66]⟩, xList)] ++ closeW 6)) = _
  rw [elemsW, prsW, prsW, prsW, h3, h4, h5.1, h5.2]; rfl
theorem x_write : bytes (writeW xDict).1 = ⟨#[60, 60, 47, 65, 35, 50, 51, 32, 40, 97, 92, 40, 98, 41, 32, 47, 66, 32, 91, 49, 32, 50, 32, 48, 32, 82, 93, 62, 62]⟩ ∧ (writeW xDict).2 = 0 ∧ (writeW xStream).2 = 10 := by
  rw [writeW_ok x_check.1, writeW_bad (v := xStream) (by rw [x_check.2]; decide), x_plain, x_text]
  exact ⟨rfl, rfl, x_check.2⟩
theorem x_name : bytes (nameW (ByteArray.mk #[97, 32, 98]).data.toList) = ⟨#[47, 97, 35, 50, 48, 98]⟩ := by
  have h : nameW (ByteArray.mk #[97, 32, 98]).data.toList = [47, 97, 35, 50, 48, 98] := by decide +kernel
  rw [h]; rfl
theorem x_bytes : bytes (bytesW (ByteArray.mk #[10]).data.toList) = ⟨#[60, 48, 65, 62]⟩ := by
  have h : bytesW (ByteArray.mk #[10]).data.toList = [60, 48, 65, 62] := by decide +kernel
  rw [h]; rfl

abbrev hFlat (k n g : Int) (s : ByteArray) : Hv := ⟨k, n, g, s, ⟨none, 0, 0⟩, ⟨none, 0, 0⟩⟩
abbrev hList (b c : Nat) : Hv := ⟨5, 0, 0, ⟨#[]⟩, ⟨some ⟨b, 0, none⟩, c, c⟩, ⟨none, 0, 0⟩⟩
abbrev hDict (b c : Nat) : Hv := ⟨6, 0, 0, ⟨#[]⟩, ⟨none, 0, 0⟩, ⟨some ⟨b, 0, none⟩, c, c⟩⟩
theorem flat_rd (W : World) (S : Nat → Prop) (k n g : Int) (s : ByteArray) : Rd W S (hFlat k n g s) (.mk k n g s [] []) := rd_iff.2 ⟨⟨rfl, rfl, rfl, rfl⟩, RdL.nil W S none 0 (Nat.zero_le _), RdD.nil W S none 0 (Nat.zero_le _)⟩
theorem xList_rd (W : World) (S : Nat → Prop) (b : Nat) (hS : S b) (hb : W.heap[b]? = some (.cells #[.int .i64 2, .int .i64 1, .int .i64 0, .string ⟨#[]⟩, .slice none 0 0, .slice none 0 0, .int .i64 7, .int .i64 2, .int .i64 0, .string ⟨#[]⟩, .slice none 0 0, .slice none 0 0] 25)) : Rd W S (hList b 2) xList := by
  refine rd_iff.2 ⟨⟨rfl, rfl, rfl, rfl⟩, ⟨rfl, ⟨Nat.le_refl _, show (2 : Nat) ≤ maxLen by decide⟩, b, 0, fun i => if i = 0 then hFlat 2 1 0 ⟨#[]⟩ else hFlat 7 2 0 ⟨#[]⟩, fun _ => ⟨rfl, hS⟩, ?_, ?_⟩, RdD.nil W S none 0 (Nat.zero_le _)⟩
  · intro i hi
    have hi3 : i < 2 := hi
    unfold HvAt World.cell?
    match i, hi3 with
    | 0, _ => simp [hb]
    | 1, _ => simp [hb]
  · intro i hi
    have hi3 : i < 2 := hi
    match i, hi3 with
    | 0, _ => exact flat_rd W S 2 1 0 ⟨#[]⟩
    | 1, _ => exact flat_rd W S 7 2 0 ⟨#[]⟩
theorem xDict_rd (W : World) (S : Nat → Prop) (a b : Nat) (hS : S b) (hL : Rd W S (hList a 2) xList) (hb : W.heap[b]? = some (.cells #[.string ⟨#[66]⟩, .int .i64 5, .int .i64 0, .int .i64 0, .string ⟨#[]⟩, .slice (some ⟨a, 0, none⟩) 2 2, .slice none 0 0, .string ⟨#[65, 35]⟩, .int .i64 4, .int .i64 0, .int .i64 0, .string ⟨#[97, 40, 98]⟩, .slice none 0 0, .slice none 0 0] 41)) : Rd W S (hDict b 2) xDict := by
  refine rd_iff.2 ⟨⟨rfl, rfl, rfl, rfl⟩, RdL.nil W S none 0 (Nat.zero_le _), rfl, ⟨Nat.le_refl _, show (2 : Nat) ≤ maxLen by decide⟩, b, 0, fun i => if i = 0 then ⟨⟨#[66]⟩, hList a 2⟩ else ⟨⟨#[65, 35]⟩, hFlat 4 0 0 ⟨#[97, 40, 98]⟩⟩, fun _ => ⟨rfl, hS⟩, ?_, ?_⟩
  · intro i hi
    have hi3 : i < 2 := hi
    unfold HpAt HvAt World.cell?
    match i, hi3 with
    | 0, _ => simp [hb]
    | 1, _ => simp [hb]
  · intro i hi
    have hi3 : i < 2 := hi
    match i, hi3 with
    | 0, _ => exact ⟨rfl, hL⟩
    | 1, _ => exact ⟨rfl, flat_rd W S 4 0 0 ⟨#[97, 40, 98]⟩⟩

def WrittenC : Prop := ∀ w : World, Laid w → Calls Tryd.prog 7 #[] w fun e w' => e = .returned (.bool true) ∧ Below w.heap.size w w'
set_option maxHeartbeats 4000000 in
theorem written_any : WrittenC := by
  intro w hlaid
  obtain ⟨w1, hw1⟩ : ∃ w1, w.alloc (.cells #[.int .i64 2, .int .i64 1, .int .i64 0, .string ⟨#[]⟩, .slice none 0 0, .slice none 0 0, .int .i64 7, .int .i64 2, .int .i64 0, .string ⟨#[]⟩, .slice none 0 0, .slice none 0 0] 25) = w1 := ⟨_, rfl⟩
  obtain ⟨w2, hw2⟩ : ∃ w2, w1.alloc (.cells #[.int .i64 5, .int .i64 0, .int .i64 0, .string ⟨#[]⟩, .slice (some ⟨w.heap.size, 0, none⟩) 2 2, .slice none 0 0] 25) = w2 := ⟨_, rfl⟩
  obtain ⟨w3, hw3⟩ : ∃ w3, w2.alloc (.cells #[.string ⟨#[66]⟩, .int .i64 5, .int .i64 0, .int .i64 0, .string ⟨#[]⟩, .slice (some ⟨w.heap.size, 0, none⟩) 2 2, .slice none 0 0, .string ⟨#[65, 35]⟩, .int .i64 4, .int .i64 0, .int .i64 0, .string ⟨#[97, 40, 98]⟩, .slice none 0 0, .slice none 0 0] 41) = w3 := ⟨_, rfl⟩
  have s1 : w1.heap.size = w.heap.size + 1 := by rw [← hw1]; simp
  have s2 : w2.heap.size = w.heap.size + 1 + 1 := by rw [← hw2]; simp [s1]
  have s3 : w3.heap.size = w.heap.size + 1 + 1 + 1 := by rw [← hw3]; simp [s2]
  have b1 : Below w.heap.size w w1 := by rw [← hw1]; exact (Below.refl _ w).alloc (Nat.le_refl _) _
  have b2 : Below w1.heap.size w1 w2 := by rw [← hw2]; exact (Below.refl _ w1).alloc (Nat.le_refl _) _
  have b3 : Below w2.heap.size w2 w3 := by rw [← hw3]; exact (Below.refl _ w2).alloc (Nat.le_refl _) _
  have p1 : w1.heap[w.heap.size]? = some (.cells #[.int .i64 2, .int .i64 1, .int .i64 0, .string ⟨#[]⟩, .slice none 0 0, .slice none 0 0, .int .i64 7, .int .i64 2, .int .i64 0, .string ⟨#[]⟩, .slice none 0 0, .slice none 0 0] 25) := by rw [← hw1]; exact heap_alloc_new w _
  have p3 : w3.heap[w.heap.size + 1 + 1]? = some (.cells #[.string ⟨#[66]⟩, .int .i64 5, .int .i64 0, .int .i64 0, .string ⟨#[]⟩, .slice (some ⟨w.heap.size, 0, none⟩) 2 2, .slice none 0 0, .string ⟨#[65, 35]⟩, .int .i64 4, .int .i64 0, .int .i64 0, .string ⟨#[97, 40, 98]⟩, .slice none 0 0, .slice none 0 0] 41) := by rw [← hw3, ← s2]; exact heap_alloc_new w2 _
  have q1 := (b3.block _ (by omega)).trans ((b2.block _ (by omega)).trans p1)
  have hb3 : Below w.heap.size w w3 := b1.trans ((b2.trans (b3.mono (by omega))).mono (by omega))
  have hD : Rd w3 (fun k => k < w3.heap.size) (hDict (w.heap.size + 1 + 1) 2) xDict := xDict_rd w3 _ w.heap.size _ (by omega) (xList_rd w3 _ _ (by omega) q1) p3
  have hcall := wtext_is xDict (hDict (w.heap.size + 1 + 1) 2) w3 _ (hlaid.later hb3) hD (fun _ h => h) x_fit.1
  rw [x_write.1, x_write.2.1] at hcall
  dsimp only [Hv.arr, hDict] at hcall
  have hst := fun W (hb : Below w.heap.size w W) => wtext_is xStream (hFlat 8 0 0 ⟨#[]⟩) W (fun k => k < W.heap.size) (hlaid.later hb) (flat_rd W _ 8 0 0 ⟨#[]⟩) (fun _ h => h) x_fit.2
  obtain ⟨es, hes⟩ : ∃ es, bytes (writeW xStream).1 = es := ⟨_, rfl⟩
  simp only [x_write.2.2, hes] at hst
  dsimp only [Hv.arr, hFlat] at hst
  have hnm := fun W => name_is ⟨#[97, 32, 98]⟩ W (by decide)
  rw [x_name] at hnm
  have hby := fun W => wbytes_is ⟨#[10]⟩ W (by decide)
  rw [x_bytes] at hby
  have Hcall := Lib.hid hcall
  have Hst := Lib.hid hst
  have Hnm := Lib.hid hnm
  have Hby := Lib.hid hby
  have HB3 := Lib.hid hb3
  have Hw1 := Lib.hid hw1
  have Hw2 := Lib.hid hw2
  have Hw3 := Lib.hid hw3
  clear hes hw1 hw2 hw3 s1 s2 s3 b1 b2 b3 p1 p3 q1 hb3 hD hcall hst hnm hby hlaid
  go_enter Tryd.func7, Tryd.ntmps7
  go_wp2_with fail
  rw [Hw1.out, Hw2.out, Hw3.out]
  refine Hcall.out.mono ?_
  rintro e w4 ⟨rfl, hb4⟩
  have HB4 := Lib.hid (HB3.out.trans (hb4.mono HB3.out.size))
  clear hb4
  go_wp2_with (first
    | (go_at_call 8; refine (Hst.out _ HB4.out).mono ?_; rintro e w5 ⟨rfl, hb⟩; have HB5 := Lib.hid (HB4.out.trans (hb.mono HB4.out.size)); clear hb)
    | (go_at_call 12; refine (Hby.out _).mono ?_; rintro e w6 ⟨rfl, hb⟩; have HB6 := Lib.hid (HB5.out.trans (hb.mono HB5.out.size)); clear hb)
    | (go_at_call 10; refine (Hnm.out _).mono ?_; rintro e w7 ⟨rfl, hb⟩; have HB7 := Lib.hid (HB6.out.trans (hb.mono HB6.out.size)); clear hb))
  go_ret
  exact ⟨rfl, HB7.out⟩
end Go.Proofs.YtljgjjbmgjfbcaaDoor
