/-
  FRef, FRef2, FNeed, FPut, FGet: texts merged.
-/
import Derived.Test.YtiiiokikmjgliaaGreatDoorRows
import Derived.Test.YtiiiokikmjgliaaGreatDoorKPlain
import Derived.WalkKit
import Derived.WalkSpells
import Derived.WalkLawsBesides
import Derived.Lib.Hide
import Derived.Deep.LoopGhost
import Derived.Laws.IdiomStrings
import Derived.Test.YtiiiokikmjgliaaGreatDoorKRows
import Derived.BigQuiet
import Derived.Deep.QuietTactic
import Derived.Lib.BufferWrite
import Derived.Laws.CopyOwn
import Derived.Laws.BitsAllLaws
/-
  The contracts of the document's Put and Get of numbers as bytes.
-/
namespace Go.Proofs.YtiiiokikmjgliaaGreatDoor
section
open Go.RowKit
def TextNum (r : List UInt8 × Int) : Ending := .returned (.tuple #[.string (bytes r.1), .int .i64 r.2])
theorem textNum_mk {u : ByteArray} {b : Int} {r : List UInt8 × Int} (h : (u.data.toList, b) = r) : Ending.returned (.tuple #[.string u, .int .i64 b]) = TextNum r := by
  subst h; unfold TextNum; rw [bytes_of]
theorem conv_byte (m : Nat) (W : World) : (convert 64 9 (.slice (some ⟨W.heap.size, 0, none⟩) 1 1)).run Tryz.prog (W.alloc (.cells #[.int .u8 ((m : Int) % 256)] 5)) =
    .ok (.string (bytes [UInt8.ofNat (m % 256)])) (W.alloc (.cells #[.int .u8 ((m : Int) % 256)] 5)) := by
  have h := run_convert_bytes_back (P := Tryz.prog) (W.alloc (.cells #[.int .u8 ((m : Int) % 256)] 5)) 64 9 5 ⟨W.heap.size, 0, none⟩ 1 [UInt8.ofNat (m % 256)] Tryz.underlying64 Tryz.underlying5 Tryz.underlying9 (fun j hj => by
    simp at hj
    subst hj
    have e : (⟨W.heap.size, 0, none⟩ : Addr).add 0 = ⟨W.heap.size, 0, none⟩ := rfl
    rw [e, World.cell?_alloc_new]
    simp)
  exact h
set_option maxRecDepth 100000 in
set_option maxHeartbeats 1000000 in
theorem rPutF_nat (n k : Nat) (w : World) (h : n ≤ 9223372036854775807) (hk : k ≤ 8) :
    Calls Tryz.prog 63 #[.int .i64 (n : Int), .int .i64 (k : Int)] w fun e w' => e = TextNum (putF n k) ∧ Below w.heap.size w w' := by
  have hk1 : ¬ (k : Int) < 0 := by omega
  have hk2 : ¬ (8 : Int) < (k : Int) := by omega
  have hn : ¬ (n : Int) < 0 := by omega
  go_enter Tryz.func63, Tryz.ntmps63
  go_wp2_with fail
  go_loopg [0, 6, 7] k (fun g x s i wx => ∃ (j : Nat) (t : ByteArray) (m : Nat), j + g = k ∧ i = .int .i64 j ∧ s = .string t ∧ x = .int .i64 m ∧ m ≤ n ∧ t.size = j ∧ Aside (t.data.toList = loN j n ∧ m = n / 256 ^ j) ∧ Below w.heap.size w wx)
  case atStart => exact ⟨0, ByteArray.empty, n, by omega, rfl, rfl, rfl, Nat.le_refl _, rfl, ⟨rfl, by simp⟩, Below.refl _ _⟩
  case round =>
    obtain ⟨j, t, m, hj, rfl, rfl, rfl, hm, hts, HT, hb⟩ := hrel
    have Hb := Lib.hid hb
    clear hb
    cases gk with
    | zero =>
      obtain rfl : j = k := by omega
      by_cases h0 : m = 0
      · subst h0
        have Hr : Hid (putF n j = (loN j n, 0)) := Lib.hid (putF_ok hk (by
          have := HT.out.2
          exact Nat.lt_of_div_eq_zero (Nat.pow_pos (by omega)) this.symm))
        go_wp2_with fail
        go_ret2
        exact ⟨textNum_mk (by rw [Hr.out, HT.out.1]), Hb.out⟩
      · have Hr : Hid (putF n j = ([], 3)) := Lib.hid (putF_big hk (by
          have := HT.out.2
          rcases Nat.lt_or_ge n (256 ^ j) with h | h
          · exact absurd (this.trans (Nat.div_eq_of_lt h)) h0
          · exact h))
        go_wp2_with fail
        go_ret2
        exact ⟨textNum_mk (by rw [Hr.out]), Hb.out⟩
    | succ g =>
      have hlt : (j : Int) < (k : Int) := by omega
      have hconv := conv_byte m wr
      obtain ⟨u, hu⟩ : ∃ u, bytes [UInt8.ofNat (m % 256)] = u := ⟨_, rfl⟩
      rw [hu] at hconv
      have hus : u.size = 1 := by rw [← hu, bytes_size]; rfl
      have Hu := Lib.hid hu
      clear hu
      have Hb2 := Lib.hid (Hb.out.alloc Hb.out.size (.cells #[.int .u8 ((m : Int) % 256)] 5))
      go_wp2_with fail
      go_roundg g
      case measure => omega
      case rel =>
        refine ⟨j + 1, _, m / 256, by omega, rfl, rfl, by go_num, by omega, ?_, ?_, Hb2.out⟩
        · rw [size_data, app_data, List.length_append, ← size_data, ← size_data, hus, hts]; omega
        · obtain ⟨h1, h2⟩ := HT.out
          rw [app_data, ← Hu.out, bytes_data, h1, h2]
          exact ⟨rfl, by rw [Nat.div_div_eq_div_mul, Nat.pow_succ]⟩
theorem rPutF_any (n width : Int) (w : World) (h0 : -9223372036854775808 ≤ n) (h1 : n ≤ 9223372036854775807) :
    Calls Tryz.prog 63 #[.int .i64 n, .int .i64 width] w fun e w' => e = TextNum (putF n width) ∧ Below w.heap.size w w' := by
  by_cases hw : width < 0 ∨ 8 < width
  · have Hr := Lib.hid (putF_arg (n := n) hw)
    rcases hw with h | h
    · go_enter Tryz.func63, Tryz.ntmps63
      go_wp2_with fail
      go_ret2
      exact ⟨textNum_mk (by rw [Hr.out]), Below.refl _ _⟩
    · have h' : ¬ width < 0 := by omega
      go_enter Tryz.func63, Tryz.ntmps63
      go_wp2_with fail
      go_ret2
      exact ⟨textNum_mk (by rw [Hr.out]), Below.refl _ _⟩
  · obtain ⟨k, rfl⟩ := Int.eq_ofNat_of_zero_le (show 0 ≤ width by omega)
    by_cases hn : n < 0
    · have Hr := Lib.hid (putF_neg hw hn)
      have hk1 : ¬ (k : Int) < 0 := by omega
      have hk2 : ¬ (8 : Int) < (k : Int) := by omega
      clear hw
      go_enter Tryz.func63, Tryz.ntmps63
      go_wp2_with fail
      go_ret2
      exact ⟨textNum_mk (by rw [Hr.out]), Below.refl _ _⟩
    · obtain ⟨m, rfl⟩ := Int.eq_ofNat_of_zero_le (show 0 ≤ n by omega)
      exact rPutF_nat m k w (by omega) (by omega)
end
end Go.Proofs.YtiiiokikmjgliaaGreatDoor
/-
  The contracts of the document's Need, Row, Cut, Same of fields.
-/
namespace Go.Proofs.YtiiiokikmjgliaaGreatDoor
section
open Go.RowKit
theorem rPutF_is (n width : Int) (w : World) (h0 : -9223372036854775808 ≤ n) (h1 : n ≤ 9223372036854775807) {u : ByteArray} {b : Int} (h : putF n width = (u.data.toList, b)) :
    Calls Tryz.prog 63 #[.int .i64 n, .int .i64 width] w fun e w' => e = .returned (.tuple #[.string u, .int .i64 b]) ∧ Below w.heap.size w w' := by
  have := rPutF_any n width w h0 h1
  rw [h] at this; unfold TextNum at this; rw [bytes_of] at this; exact this
theorem need_neg {w : Nat} {zs : List Int} {i : Nat} (hi : i < zs.length) (h : zs[i]?.getD 0 < 0) : needFrom w (zs.drop i) = -1 := by
  rw [List.drop_eq_getElem_cons hi]
  rw [List.getElem?_eq_getElem hi] at h
  unfold needFrom; rw [if_pos (by simpa using h)]
theorem need_step {w : Nat} {zs : List Int} {i : Nat} (hi : i < zs.length) (h : ¬ zs[i]?.getD 0 < 0) : needFrom w (zs.drop i) = needFrom (max w (widN (zs[i]?.getD 0).toNat)) (zs.drop (i + 1)) := by
  rw [List.drop_eq_getElem_cons hi]
  rw [List.getElem?_eq_getElem hi] at h ⊢
  simp only [Option.getD_some] at h ⊢
  rw [needFrom, if_neg h]
end
end Go.Proofs.YtiiiokikmjgliaaGreatDoor
/-
  The contracts of isWidth, spread and Need of package fields.
-/
namespace Go.Proofs.YtiiiokikmjgliaaGreatDoor
section
open Go.RowKit
theorem isWidth_yes (v : Int) (w : World) (h0 : ¬ v < 0) (h1 : ¬ 8 < v) : Calls Tryz.prog 110 #[.int .i64 v] w fun e w' => e = .returned (.bool true) ∧ w = w' := by
  have a : 0 ≤ v := by omega
  have b : v ≤ 8 := by omega
  clear h0 h1
  go_enter Tryz.func110, Tryz.ntmps110
  go_wp2_with fail
  go_ret
  exact ⟨rfl, rfl⟩
theorem isWidth_no (v : Int) (w : World) (h : v < 0 ∨ 8 < v) : Calls Tryz.prog 110 #[.int .i64 v] w fun e w' => e = .returned (.bool false) ∧ w = w' := by
  rcases h with h | h
  · have a : ¬ 0 ≤ v := by omega
    go_enter Tryz.func110, Tryz.ntmps110
    go_wp2_with fail
    go_ret
    exact ⟨rfl, rfl⟩
  · have a : 0 ≤ v := by omega
    have b : ¬ v ≤ 8 := by omega
    go_enter Tryz.func110, Tryz.ntmps110
    go_wp2_with fail
    go_ret
    exact ⟨rfl, rfl⟩
set_option maxHeartbeats 1000000 in
theorem spread_any (n : Nat) (w : World) (h : n ≤ 9223372036854775807) :
    Calls Tryz.prog 112 #[.int .i64 (n : Int)] w fun e w' => e = .returned (.agg #[.int .u8 ((n / 256 ^ 7 % 256 : Nat) : Int), .int .u8 ((n / 256 ^ 6 % 256 : Nat) : Int), .int .u8 ((n / 256 ^ 5 % 256 : Nat) : Int), .int .u8 ((n / 256 ^ 4 % 256 : Nat) : Int), .int .u8 ((n / 256 ^ 3 % 256 : Nat) : Int), .int .u8 ((n / 256 ^ 2 % 256 : Nat) : Int), .int .u8 ((n / 256 ^ 1 % 256 : Nat) : Int), .int .u8 ((n / 256 ^ 0 % 256 : Nat) : Int)]) ∧ Below w.heap.size w w' := by
  have hv : (#[.int .u8 ((n / 256 ^ 7 % 256 : Nat) : Int), .int .u8 ((n / 256 ^ 6 % 256 : Nat) : Int), .int .u8 ((n / 256 ^ 5 % 256 : Nat) : Int), .int .u8 ((n / 256 ^ 4 % 256 : Nat) : Int), .int .u8 ((n / 256 ^ 3 % 256 : Nat) : Int), .int .u8 ((n / 256 ^ 2 % 256 : Nat) : Int), .int .u8 ((n / 256 ^ 1 % 256 : Nat) : Int), .int .u8 ((n / 256 ^ 0 % 256 : Nat) : Int)] : Array Value) =
    #[.int .u8 ((n : Int) / 72057594037927936), .int .u8 ((n : Int) / 281474976710656 % 256), .int .u8 ((n : Int) / 1099511627776 % 256), .int .u8 ((n : Int) / 4294967296 % 256), .int .u8 ((n : Int) / 16777216 % 256), .int .u8 ((n : Int) / 65536 % 256), .int .u8 ((n : Int) / 256 % 256), .int .u8 ((n : Int) % 256)] := by
    have e : (n : Int) / 72057594037927936 = ((n / 256 ^ 7 % 256 : Nat) : Int) := by omega
    rw [e]
    simp
  rw [hv]
  clear hv
  go_enter Tryz.func112, Tryz.ntmps112
  go_wp2_with fail
  refine wp_loop_rounds 9 ?_
  iterate 9 (rw [rounds_succ]; go_wp2_with fail)
  exact bodyPost_ret (by simp [results, Tryz.results112, go_sem]) rfl ⟨rfl, ((Below.refl _ w).alloc (Nat.le_refl _) _).alloc (by simp) _⟩
theorem u8_of (m : Nat) : ((UInt8.ofNat (m % 256)).toNat : Int) = ((m % 256 : Nat) : Int) := by simp
theorem spread_is (n : Nat) (w : World) (h : n ≤ 9223372036854775807) {c0 c1 c2 c3 c4 c5 c6 c7 : UInt8} (hl : loN 8 n = [c0, c1, c2, c3, c4, c5, c6, c7]) :
    Calls Tryz.prog 112 #[.int .i64 (n : Int)] w fun e w' => e = .returned (.agg #[.int .u8 (c0.toNat : Int), .int .u8 (c1.toNat : Int), .int .u8 (c2.toNat : Int), .int .u8 (c3.toNat : Int), .int .u8 (c4.toNat : Int), .int .u8 (c5.toNat : Int), .int .u8 (c6.toNat : Int), .int .u8 (c7.toNat : Int)]) ∧ Below w.heap.size w w' := by
  simp only [loN, List.cons.injEq, and_true] at hl
  obtain ⟨rfl, rfl, rfl, rfl, rfl, rfl, rfl, rfl⟩ := hl
  have := spread_any n w h
  simp only [u8_of]
  exact this
theorem loN8 (n : Nat) : ∃ c0 c1 c2 c3 c4 c5 c6 c7, loN 8 n = [c0, c1, c2, c3, c4, c5, c6, c7] := ⟨_, _, _, _, _, _, _, _, rfl⟩
theorem widN_mono {a b : Nat} (h : a ≤ b) : widN a ≤ widN b := (widN_iff _ _).2 (Nat.lt_of_le_of_lt h ((widN_iff _ _).1 (Nat.le_refl _)))
theorem widN_at {m j : Nat} (h0 : 256 ^ j ≤ m) (h1 : m < 256 ^ (j + 1)) : widN m = j + 1 := by
  have a := (widN_iff (j + 1) m).2 h1
  have b := mt (widN_iff j m).1 (by omega)
  omega
theorem first_byte {m : Nat} (h : m ≤ 9223372036854775807) {c0 c1 c2 c3 c4 c5 c6 c7 : UInt8} (hl : loN 8 m = [c0, c1, c2, c3, c4, c5, c6, c7]) :
    (((c0.toNat : Int) != 0) = true ∧ widN m = 8) ∨ (c0 = 0 ∧ ((c1.toNat : Int) != 0) = true ∧ widN m = 7) ∨ (c0 = 0 ∧ c1 = 0 ∧ ((c2.toNat : Int) != 0) = true ∧ widN m = 6) ∨
    (c0 = 0 ∧ c1 = 0 ∧ c2 = 0 ∧ ((c3.toNat : Int) != 0) = true ∧ widN m = 5) ∨ (c0 = 0 ∧ c1 = 0 ∧ c2 = 0 ∧ c3 = 0 ∧ ((c4.toNat : Int) != 0) = true ∧ widN m = 4) ∨
    (c0 = 0 ∧ c1 = 0 ∧ c2 = 0 ∧ c3 = 0 ∧ c4 = 0 ∧ ((c5.toNat : Int) != 0) = true ∧ widN m = 3) ∨ (c0 = 0 ∧ c1 = 0 ∧ c2 = 0 ∧ c3 = 0 ∧ c4 = 0 ∧ c5 = 0 ∧ ((c6.toNat : Int) != 0) = true ∧ widN m = 2) ∨
    (c0 = 0 ∧ c1 = 0 ∧ c2 = 0 ∧ c3 = 0 ∧ c4 = 0 ∧ c5 = 0 ∧ c6 = 0 ∧ ((c7.toNat : Int) != 0) = true ∧ widN m = 1) ∨ (c0 = 0 ∧ c1 = 0 ∧ c2 = 0 ∧ c3 = 0 ∧ c4 = 0 ∧ c5 = 0 ∧ c6 = 0 ∧ c7 = 0 ∧ widN m = 0) := by
  simp only [loN, List.cons.injEq, and_true] at hl
  obtain ⟨rfl, rfl, rfl, rfl, rfl, rfl, rfl, rfl⟩ := hl
  have zero : ∀ k, k % 256 = 0 → UInt8.ofNat (k % 256) = 0 := fun k hk => by rw [hk]; rfl
  have some' : ∀ k, ¬ k % 256 = 0 → (((UInt8.ofNat (k % 256)).toNat : Int) != 0) = true := fun k hk => by rw [u8_of]; simp; omega
  by_cases h7 : 256 ^ 7 ≤ m
  · exact .inl ⟨some' _ (by omega), widN_at h7 (by omega)⟩
  by_cases h6 : 256 ^ 6 ≤ m
  · exact .inr (.inl ⟨zero _ (by omega), some' _ (by omega), widN_at h6 (by omega)⟩)
  by_cases h5 : 256 ^ 5 ≤ m
  · exact .inr (.inr (.inl ⟨zero _ (by omega), zero _ (by omega), some' _ (by omega), widN_at h5 (by omega)⟩))
  by_cases h4 : 256 ^ 4 ≤ m
  · exact .inr (.inr (.inr (.inl ⟨zero _ (by omega), zero _ (by omega), zero _ (by omega), some' _ (by omega), widN_at h4 (by omega)⟩)))
  by_cases h3 : 256 ^ 3 ≤ m
  · exact .inr (.inr (.inr (.inr (.inl ⟨zero _ (by omega), zero _ (by omega), zero _ (by omega), zero _ (by omega), some' _ (by omega), widN_at h3 (by omega)⟩))))
  by_cases h2 : 256 ^ 2 ≤ m
  · exact .inr (.inr (.inr (.inr (.inr (.inl ⟨zero _ (by omega), zero _ (by omega), zero _ (by omega), zero _ (by omega), zero _ (by omega), some' _ (by omega), widN_at h2 (by omega)⟩)))))
  by_cases h1 : 256 ^ 1 ≤ m
  · exact .inr (.inr (.inr (.inr (.inr (.inr (.inl ⟨zero _ (by omega), zero _ (by omega), zero _ (by omega), zero _ (by omega), zero _ (by omega), zero _ (by omega), some' _ (by omega), widN_at h1 (by omega)⟩))))))
  by_cases h0 : 256 ^ 0 ≤ m
  · exact .inr (.inr (.inr (.inr (.inr (.inr (.inr (.inl ⟨zero _ (by omega), zero _ (by omega), zero _ (by omega), zero _ (by omega), zero _ (by omega), zero _ (by omega), zero _ (by omega), some' _ (by omega), widN_at h0 (by omega)⟩)))))))
  · obtain rfl : m = 0 := by omega
    exact .inr (.inr (.inr (.inr (.inr (.inr (.inr (.inr ⟨rfl, rfl, rfl, rfl, rfl, rfl, rfl, rfl, widN_zero⟩)))))))
set_option maxRecDepth 100000 in
set_option maxHeartbeats 2000000 in
theorem fNeed_any (p : Option Addr) (cap : Nat) (zs : List Int) (w : World) (hz : zs.length ≤ 9223372036854775807) (hi : Ints zs) (hp : Nums w p zs) :
    Calls Tryz.prog 111 #[.slice p zs.length cap] w fun e w' => e = .returned (.int .i64 (needF zs)) ∧ Below w.heap.size w w' := by
  have Hi := Lib.hid hi
  have Hp := Lib.hid hp
  clear hi hp
  go_enter Tryz.func111, Tryz.ntmps111
  go_wp2_with fail
  go_loopg [3, 10] zs.length (fun g s3 s10 wx => ∃ (j m : Nat), j + g = zs.length ∧ s10 = .int .i64 j ∧ s3 = .int .i64 m ∧ m ≤ 9223372036854775807 ∧ Aside (needF zs = needFrom (widN m) (zs.drop j)) ∧ w = wx)
  case atStart => exact ⟨0, 0, by omega, rfl, rfl, by omega, by show needF zs = needFrom (widN 0) _; rw [widN_zero]; rfl, rfl⟩
  case round =>
    obtain ⟨j, m, hjg, rfl, rfl, hm, HN, rfl⟩ := hrel
    cases gk with
    | zero =>
      obtain rfl : j = zs.length := by omega
      have Hr : Hid (needF zs = widN m) := Lib.hid (by rw [HN.out, List.drop_length]; rfl)
      clear hjg
      obtain ⟨c0, c1, c2, c3, c4, c5, c6, c7, hl⟩ := loN8 m
      have hf := first_byte hm hl
      have Hl := Lib.hid hl
      clear hl
      rcases hf with ⟨t, hw⟩ | ⟨rfl, t, hw⟩ | ⟨rfl, rfl, t, hw⟩ | ⟨rfl, rfl, rfl, t, hw⟩ | ⟨rfl, rfl, rfl, rfl, t, hw⟩ | ⟨rfl, rfl, rfl, rfl, rfl, t, hw⟩ | ⟨rfl, rfl, rfl, rfl, rfl, rfl, t, hw⟩ | ⟨rfl, rfl, rfl, rfl, rfl, rfl, rfl, t, hw⟩ | ⟨rfl, rfl, rfl, rfl, rfl, rfl, rfl, rfl, hw⟩
      all_goals
        have Hw := Lib.hid hw
        clear hw
        go_wp2_with fail
        refine (spread_is m _ hm Hl.out).mono ?_
        rintro e w1 ⟨rfl, hb⟩
        have Hb := Lib.hid hb
        clear hb
        go_wp2_with fail
        refine wp_loop_rounds 9 ?_
        repeat (rw [rounds_succ]; go_wp2_with fail)
        go_ret
        exact ⟨ret_int (by rw [Hr.out, Hw.out]; rfl), Hb.out.alloc Hb.out.size _⟩
    | succ g =>
      have hj : j < zs.length := by omega
      have hjz : ((j : Int) < (zs.length : Int)) := by omega
      obtain ⟨b, off, rfl, hcell⟩ := Hp.out.at j hj
      obtain ⟨n, hn⟩ : ∃ n, zs[j]?.getD 0 = n := ⟨_, rfl⟩
      have hnb := Hi.out j hj
      rw [hn] at hcell hnb
      have Hn := Lib.hid hn
      have Hjg := Lib.hid hjg
      clear hjg hn
      obtain ⟨hn0, hn1⟩ := hnb
      by_cases hneg : n < 0
      · have Hr : Hid (needF zs = -1) := Lib.hid (by rw [HN.out]; exact need_neg hj (by rw [Hn.out]; exact hneg))
        go_wp2_with fail
        go_ret
        exact ⟨ret_int (by rw [Hr.out]), Below.refl _ _⟩
      · have Hstep : Hid (needF zs = needFrom (max (widN m) (widN n.toNat)) (zs.drop (j + 1))) := Lib.hid (by rw [HN.out, need_step hj (by rw [Hn.out]; exact hneg), Hn.out])
        obtain ⟨k, rfl⟩ := Int.eq_ofNat_of_zero_le (show 0 ≤ n by omega)
        have Hk : Hid ((k : Int).toNat = k) := Lib.hid (Int.toNat_natCast k)
        by_cases hmk : m < k
        · go_wp2_with fail
          go_roundg g
          case measure => omega
          case rel => exact ⟨j + 1, k, by have := Hjg.out; omega, by go_num, rfl, by omega, by
            have h := Hstep.out
            rw [Hk.out, Nat.max_eq_right (widN_mono (by omega))] at h
            exact h, rfl⟩
        · go_wp2_with fail
          go_roundg g
          case measure => omega
          case rel => exact ⟨j + 1, m, by have := Hjg.out; omega, by go_num, rfl, by omega, by
            have h := Hstep.out
            rw [Hk.out, Nat.max_eq_left (widN_mono (by omega))] at h
            exact h, rfl⟩
end
end Go.Proofs.YtiiiokikmjgliaaGreatDoor
/-
  The contract of Put of package fields.
-/
namespace Go.Proofs.YtiiiokikmjgliaaGreatDoor
section
open Go.RowKit
theorem conv_part (W : World) (T : TypeId) (l : List UInt8) (lo n cap : Nat) (hn : lo + n ≤ l.length) {u : ByteArray} (hu : (l.drop lo).take n = u.data.toList) :
    (convert 64 9 (.slice (some ⟨W.heap.size, lo, none⟩) n cap)).run Tryz.prog (W.alloc (.cells (l.map fun c => Value.int .u8 (c.toNat : Int)).toArray T)) = .ok (.string u) (W.alloc (.cells (l.map fun c => Value.int .u8 (c.toNat : Int)).toArray T)) := by
  have hlen : ((l.drop lo).take n).length = n := by simp; omega
  have h := run_convert_bytes_back (P := Tryz.prog) (W.alloc (.cells (l.map fun c => Value.int .u8 (c.toNat : Int)).toArray T)) 64 9 5 ⟨W.heap.size, lo, none⟩ cap ((l.drop lo).take n) Tryz.underlying64 Tryz.underlying5 Tryz.underlying9 (fun j hj => by
    have e : (⟨W.heap.size, lo, none⟩ : Addr).add j = ⟨W.heap.size, lo + j, none⟩ := by unfold Addr.add; split <;> simp_all
    rw [hlen] at hj
    rw [e, World.cell?_alloc_new]
    have h1 : lo + j < l.length := by omega
    simp [h1])
  rw [hlen] at h
  rw [h]
  have e : bytes ((l.drop lo).take n) = u := by rw [hu, bytes_of]
  rw [← e]; rfl
theorem slice_arr (W : World) (p : Nat) : ∀ lo : Nat, lo ≤ 8 → (Instr.sliceAt 126 (.pointer (some ⟨p, 0, none⟩)) (some (.int .i64 (lo : Int))) none none).run Tryz.prog W = .ok (.slice (some ⟨p, if lo = 8 then 0 else lo, none⟩) (8 - lo) (8 - lo)) W
  | 0, _ => by kernel_rfl
  | 1, _ => by kernel_rfl
  | 2, _ => by kernel_rfl
  | 3, _ => by kernel_rfl
  | 4, _ => by kernel_rfl
  | 5, _ => by kernel_rfl
  | 6, _ => by kernel_rfl
  | 7, _ => by kernel_rfl
  | 8, _ => by kernel_rfl
  | n + 9, h => by omega
theorem slice_arr_is (k : Nat) (hk : k ≤ 8) : ∃ off, off + k ≤ 8 ∧ ((off = 8 - k) ∨ k = 0) ∧ ∀ (W : World) (p : Nat), (Instr.sliceAt 126 (.pointer (some ⟨p, 0, none⟩)) (some (.int .i64 (8 - (k : Int)))) none none).run Tryz.prog W = .ok (.slice (some ⟨p, off, none⟩) k k) W := by
  refine ⟨if 8 - k = 8 then 0 else 8 - k, by split <;> omega, by split <;> omega, fun W p => ?_⟩
  have h := slice_arr W p (8 - k) (by omega)
  have e : ((8 - k : Nat) : Int) = 8 - (k : Int) := by omega
  have e2 : 8 - (8 - k) = k := by omega
  rw [e, e2] at h
  exact h
theorem loN_split : ∀ (i k n : Nat), (loN (i + k) n).drop i = loN k n
  | 0, k, n => by simp
  | i + 1, k, n => by
    have e : i + 1 + k = (i + k) + 1 := by omega
    rw [e, loN, List.drop_succ_cons, loN_split i k n]
theorem loN_tail (k n : Nat) (h : k ≤ 8) : (loN 8 n).drop (8 - k) = loN k n := by
  have := loN_split (8 - k) k n
  rwa [show 8 - k + k = 8 by omega] at this
set_option maxRecDepth 100000 in
set_option maxHeartbeats 2000000 in
theorem fPut_nat (n k : Nat) (w : World) (h1 : n ≤ 9223372036854775807) (hk : k ≤ 8) (hfit : n < 256 ^ k) {u : ByteArray} (hu : loN k n = u.data.toList) :
    Calls Tryz.prog 95 #[.int .i64 (n : Int), .int .i64 (k : Int)] w fun e w' => e = .returned (.tuple #[.string u, .int .i64 0]) ∧ Below w.heap.size w w' := by
  have hw0 : ¬ (k : Int) < 0 := by omega
  have hw8 : ¬ (8 : Int) < (k : Int) := by omega
  have hn0 : ¬ (n : Int) < 0 := by omega
  have hwid := (widN_iff k n).2 hfit
  have hneed : needF [(n : Int)] = widN n := by
    unfold needF needFrom needFrom
    rw [if_neg hn0, Int.toNat_natCast, Nat.max_eq_right (Nat.zero_le _)]
  have hgt : ¬ (k : Int) < needF [(n : Int)] := by rw [hneed]; omega
  obtain ⟨nd, hnd⟩ : ∃ nd, needF [(n : Int)] = nd := ⟨_, rfl⟩
  rw [hnd] at hgt
  have Hnd := Lib.hid hnd
  have Hu := Lib.hid hu
  clear hnd hneed hwid hfit hu
  obtain ⟨off, ho1, ho2, hcut⟩ := slice_arr_is k hk
  have hpart : ((loN 8 n).drop off).take k = u.data.toList := by
    rw [← Hu.out]
    rcases ho2 with rfl | rfl
    · rw [loN_tail k n hk]; exact List.take_of_length_le (by rw [loN_length]; exact Nat.le_refl _)
    · simp [loN]
  obtain ⟨c0, c1, c2, c3, c4, c5, c6, c7, hl⟩ := loN8 n
  rw [hl] at hpart
  have Hpart := Lib.hid hpart
  have Hl := Lib.hid hl
  clear hl hpart ho2
  have hgt' : nd ≤ (k : Int) := by omega
  have Ho := Lib.hid ho1
  clear ho1
  go_enter Tryz.func95, Tryz.ntmps95
  go_wp2_with fail
  refine (isWidth_yes _ _ (by omega) (by omega)).mono ?_
  rintro e w1 ⟨rfl, rfl⟩
  go_wp2_with fail
  refine (fNeed_any _ 1 [(n : Int)] _ (by simp) (ints_of (by simp; omega)) (nums_one _ _)).mono ?_
  rw [Hnd.out]
  rintro e w1 ⟨rfl, hb⟩
  have Hb := Lib.hid (((Below.refl _ w).alloc (Nat.le_refl _) _).trans (hb.mono (by simp)))
  clear hb
  go_wp2_with fail
  refine (spread_is n _ h1 Hl.out).mono ?_
  rintro e w2 ⟨rfl, hb⟩
  have Hb2 := Lib.hid (Hb.out.trans (hb.mono Hb.out.size))
  have hconv := conv_part w2 126 [c0, c1, c2, c3, c4, c5, c6, c7] off k k Ho.out Hpart.out
  simp only [List.map_cons, List.map_nil] at hconv
  clear hb
  go_wp2_with fail
  go_ret2
  exact ⟨rfl, Hb2.out.alloc Hb2.out.size _⟩
theorem fPut_is (n width : Int) (w : World) (h0 : -9223372036854775808 ≤ n) (h1 : n ≤ 9223372036854775807) {u : ByteArray} {b : Int} (h : putF n width = (u.data.toList, b)) :
    Calls Tryz.prog 95 #[.int .i64 n, .int .i64 width] w fun e w' => e = .returned (.tuple #[.string u, .int .i64 b]) ∧ Below w.heap.size w w' := by
  by_cases hw : width < 0 ∨ 8 < width
  · rw [putF_arg hw] at h
    obtain ⟨hu, rfl⟩ := Prod.mk.inj h
    obtain rfl : u = ByteArray.empty := by
      have e := bytes_of u
      rw [← hu] at e
      rw [← e]; rfl
    clear h hu
    have Hw := Lib.hid hw
    clear hw
    go_enter Tryz.func95, Tryz.ntmps95
    go_wp2_with fail
    refine (isWidth_no _ _ Hw.out).mono ?_
    rintro e w1 ⟨rfl, rfl⟩
    go_wp2_with fail
    go_ret2
    exact ⟨rfl, Below.refl _ _⟩
  · obtain ⟨k, rfl⟩ := Int.eq_ofNat_of_zero_le (show 0 ≤ width by omega)
    by_cases hn : n < 0
    · rw [putF_neg hw hn] at h
      obtain ⟨hu, rfl⟩ := Prod.mk.inj h
      obtain rfl : u = ByteArray.empty := by
        have e := bytes_of u
        rw [← hu] at e
        rw [← e]; rfl
      have Hw := Lib.hid hw
      clear h hu hw
      go_enter Tryz.func95, Tryz.ntmps95
      go_wp2_with fail
      refine (isWidth_yes _ _ (by have := Hw.out; omega) (by have := Hw.out; omega)).mono ?_
      rintro e w1 ⟨rfl, rfl⟩
      go_wp2_with fail
      go_ret2
      exact ⟨rfl, Below.refl _ _⟩
    · obtain ⟨m, rfl⟩ := Int.eq_ofNat_of_zero_le (show 0 ≤ n by omega)
      by_cases hfit : m < 256 ^ k
      · rw [putF_ok (by omega) hfit] at h
        obtain ⟨hu, rfl⟩ := Prod.mk.inj h
        exact fPut_nat m k w (by omega) (by omega) hfit hu
      · rw [putF_big (by omega) (by omega)] at h
        obtain ⟨hu, rfl⟩ := Prod.mk.inj h
        obtain rfl : u = ByteArray.empty := by
          have e := bytes_of u
          rw [← hu] at e
          rw [← e]; rfl
        have hneed : needF [(m : Int)] = widN m := by
          unfold needF needFrom needFrom
          rw [if_neg hn, Int.toNat_natCast, Nat.max_eq_right (Nat.zero_le _)]
        have hgt : (k : Int) < needF [(m : Int)] := by
          have := mt (widN_iff k m).1 hfit
          rw [hneed]; omega
        obtain ⟨nd, hnd⟩ : ∃ nd, needF [(m : Int)] = nd := ⟨_, rfl⟩
        rw [hnd] at hgt
        have Hnd := Lib.hid hnd
        have Hw := Lib.hid hw
        have hm : ¬ (m : Int) < 0 := hn
        clear h hu hw hnd hneed hfit
        go_enter Tryz.func95, Tryz.ntmps95
        go_wp2_with fail
        refine (isWidth_yes _ _ (by have := Hw.out; omega) (by have := Hw.out; omega)).mono ?_
        rintro e w1 ⟨rfl, rfl⟩
        go_wp2_with fail
        refine (fNeed_any _ 1 [(m : Int)] _ (by simp) (ints_of (by simp; omega)) (nums_one _ _)).mono ?_
        rw [Hnd.out]
        rintro e w1 ⟨rfl, hb⟩
        have Hb := Lib.hid (((Below.refl _ w).alloc (Nat.le_refl _) _).trans (hb.mono (by simp)))
        clear hb
        go_wp2_with fail
        go_ret2
        exact ⟨rfl, Hb.out⟩
end
end Go.Proofs.YtiiiokikmjgliaaGreatDoor
/-
  The contract of Get of package fields.
-/
namespace Go.Proofs.YtiiiokikmjgliaaGreatDoor
section
open Go.RowKit
theorem wpList_copy_text {P : Program} {w : World} {ops : Array Oper} {rest : List Oper} {o : Oper} {a : Act} {Q : Exit → Act → World → Prop} (hgd : o.guard = none) (d s : Operand) (dT sT : TypeId)
    (ho : o.op = .call { callee := .builtin .copy, args := #[d, s], argTypes := #[dT, sT] }) (elem : TypeId) (hu : P.underlying dT = some (.slice elem)) (hsz : (P.info? elem).map (·.size) = some 1)
    (g off dLen dCap : Nat) (str : ByteArray) (hd : a.eval d = .slice (some ⟨g, off, none⟩) dLen dCap) (hs : a.eval s = .string str)
    (cur : Array Value) (t : TypeId) (hg : w.heap[g]? = some (.cells cur t (0, 0))) (hle : str.size ≤ dLen) (hfit : off + str.size ≤ cur.size)
    (B : Nat) (w0 : World) (hb : Below B w0 w) (hBg : B ≤ g)
    (h : ∀ w', Hid (w'.heap[g]? = some (.cells (cur.toList.take off ++ Lib.byteCells str.data.toList ++ cur.toList.drop (off + str.size)).toArray t (0, 0))) → Below B w0 w' → wpList P ops Q rest (a.put o.dst (goInt str.size)) w') :
    wpList P ops Q (o :: rest) a w := by
  refine wpList_plain hgd fun K hK => ?_
  have hrun := Lib.run_copy_row_string (P := P) w dT sT o.type elem g off dLen dCap str cur t hu hsz hg hle hfit
  unfold Oper.wp
  simp [execOp, ho, resolve, invoke, builtin, hd, hs, hrun, Result.andThen]
  have h2 := h _ (show _ = _ from setRow_heap w g _ _ t _ hg) (below_setRow hb hBg _)
  simp at h2
  exact hK _ _ h2
def padB (l : List UInt8) : List UInt8 := List.replicate (8 - l.length) 0 ++ l
theorem padB_length {l : List UInt8} (h : l.length ≤ 8) : (padB l).length = 8 := by simp [padB]; omega
theorem valB_zeros : ∀ k, valB (List.replicate k 0) = 0
  | 0 => rfl
  | k + 1 => by rw [List.replicate_succ, valB_cons, valB_zeros k]; simp
theorem valB_app (a b : List UInt8) : valB (a ++ b) = valB a * 256 ^ b.length + valB b := by
  have := valB_from b (valB a)
  unfold valB at this ⊢
  rw [List.foldl_append]; exact this
theorem valB_pad (l : List UInt8) : valB (padB l) = valB l := by unfold padB; rw [valB_app, valB_zeros]; simp
theorem or_byte (v c : Nat) (hc : c < 256) : (256 * v) ||| c = 256 * v + c := by
  have := Nat.two_pow_add_eq_or_of_lt (i := 8) (b := c) (by omega) v
  rw [← this]
set_option maxRecDepth 100000 in
set_option maxHeartbeats 2000000 in
theorem fGet_ok (s : ByteArray) (w : World) (hs : s.size ≤ 8) {a b : Int} (h : getF s.data.toList = (a, b)) :
    Calls Tryz.prog 141 #[.string s] w fun e w' => e = .returned (.tuple #[.int .i64 a, .int .i64 b]) ∧ Below w.heap.size w w' := by
  have hs' : ¬ (8 : Int) < (s.size : Int) := by omega
  obtain ⟨off, ho1, ho2, hcut⟩ := slice_arr_is s.size hs
  have hrow : ∀ cur : Array Value, (w.alloc (.cells cur 126)).heap[w.heap.size]? = some (.cells cur 126 (0, 0)) := fun cur => by
    show (w.heap.push _)[w.heap.size]? = _
    simp
  have Hrow := Lib.hid hrow
  have Ho := Lib.hid ho1
  have Ho2 := Lib.hid ho2
  have Hs := Lib.hid hs
  clear hrow ho1 ho2 hs
  go_enter Tryz.func141, Tryz.ntmps141
  go_wp2_with (with_reducible refine wpList_copy_text rfl (.tmp 13) (.tmp 14) 64 9 rfl 5 Tryz.underlying64 (by kernel_rfl) w.heap.size off s.size s.size s rfl rfl #[.int .u8 0, .int .u8 0, .int .u8 0, .int .u8 0, .int .u8 0, .int .u8 0, .int .u8 0, .int .u8 0] 126 (Hrow.out _) (Nat.le_refl _) (by have := Ho.out; simpa using this) w.heap.size w ((Below.refl _ w).alloc (Nat.le_refl _) _) (Nat.le_refl _) ?_; intro w1 HG hb; have Hb := Lib.hid hb; clear hb)
  have hcell : ∀ k (hk : k < 8), w1.cell? ⟨w.heap.size, k, none⟩ = some (.int .u8 ((((padB s.data.toList)[k]?.getD 0).toNat : Nat) : Int)) := fun k hk => by
    rw [cell_of_row w1 w.heap.size k _ _ _ HG.out]
    have hlen := padB_length (l := s.data.toList) (by rw [← size_data]; exact Hs.out)
    have e : (List.take off [Value.int IntKind.u8 0, Value.int IntKind.u8 0, Value.int IntKind.u8 0, Value.int IntKind.u8 0, Value.int IntKind.u8 0, Value.int IntKind.u8 0, Value.int IntKind.u8 0, Value.int IntKind.u8 0] ++ Lib.byteCells s.data.toList ++ List.drop (off + s.size) [Value.int IntKind.u8 0, Value.int IntKind.u8 0, Value.int IntKind.u8 0, Value.int IntKind.u8 0, Value.int IntKind.u8 0, Value.int IntKind.u8 0, Value.int IntKind.u8 0, Value.int IntKind.u8 0]) = Lib.byteCells (padB s.data.toList) := by
      have ez : ([Value.int IntKind.u8 0, Value.int IntKind.u8 0, Value.int IntKind.u8 0, Value.int IntKind.u8 0, Value.int IntKind.u8 0, Value.int IntKind.u8 0, Value.int IntKind.u8 0, Value.int IntKind.u8 0] : List Value) = List.replicate 8 (Value.int IntKind.u8 0) := rfl
      rw [ez]
      unfold padB Lib.byteCells
      rw [List.map_append, List.map_replicate, List.take_replicate, List.drop_replicate]
      have hz := Hs.out
      have hsd := size_data s
      rcases Ho2.out with h | h
      · subst h
        rw [← hsd]
        have e1 : min (8 - s.size) 8 = 8 - s.size := by omega
        have e2 : 8 - (8 - s.size + s.size) = 0 := by omega
        rw [e1, e2]; simp
      · have h0 : s.data.toList = [] := List.eq_nil_of_length_eq_zero (by rw [← hsd]; exact h)
        rw [h0, h]
        have ho := Ho.out
        have e1 : min off 8 = off := by omega
        rw [e1]
        simp only [List.map_nil, List.append_nil, List.length_nil, Nat.add_zero, Nat.sub_zero]
        rw [List.replicate_append_replicate, show off + (8 - off) = 8 by omega]; rfl
    rw [e]
    simp [Lib.byteCells, List.getElem?_eq_getElem (show k < (padB s.data.toList).length by omega)]
  have Hcell := Lib.hid hcell
  have hvp := valB_pad s.data.toList
  have hplen := padB_length (l := s.data.toList) (by rw [← size_data]; exact Hs.out)
  obtain ⟨pd, hpd⟩ : ∃ pd, padB s.data.toList = pd := ⟨_, rfl⟩
  rw [hpd] at hvp hplen Hcell
  have Hvp := Lib.hid hvp
  have Hplen := Lib.hid hplen
  clear hcell hvp hplen hpd HG Hrow
  go_loop [5, 16] (fun x i => ∃ k : Nat, k ≤ 8 ∧ i = .int .i64 k ∧ x = .int .u64 (valB (pd.take k) : Nat)) (fun _ i => 8 - (intOf i).toNat)
  case atStart => exact ⟨0, Nat.zero_le _, rfl, rfl⟩
  case round =>
    obtain ⟨k, hk, rfl, rfl⟩ := hrel
    by_cases hlt : k < 8
    · have hc := Hcell.out k hlt
      have hst : valB (pd.take (k + 1)) = 256 * valB (pd.take k) + (pd[k]?.getD 0).toNat := by
        have h1 : k < pd.length := by rw [Hplen.out]; exact hlt
        rw [List.take_succ_eq_append_getElem h1, valB_snoc, List.getElem?_eq_getElem h1]; rfl
      have hb0 : valB (pd.take k) < 256 ^ 7 := valB_bound (by rw [List.length_take]; omega)
      obtain ⟨v, hv⟩ : ∃ v, valB (pd.take k) = v := ⟨_, rfl⟩
      obtain ⟨c, hcc⟩ : ∃ c, (pd[k]?.getD 0) = c := ⟨_, rfl⟩
      rw [hv, hcc] at hst
      rw [hcc] at hc
      rw [hv] at hb0 ⊢
      have hc256 := c.toNat_lt
      have e7 : (256 : Nat) ^ 7 = 72057594037927936 := by decide
      rw [e7] at hb0
      have Hst := Lib.hid hst
      clear hst hv hcc e7
      go_wp2_with fail
      go_round
      case rel => exact ⟨k + 1, by omega, by go_num, by
        have e : (v : Int) * 256 = ((256 * v : Nat) : Int) := by omega
        rw [Hst.out, e, u64_or_nat _ _ (by omega) (by omega), or_byte v _ (by omega)]⟩
      case measure => simp [intOf]; omega
    · obtain rfl : k = 8 := by omega
      have hall : valB (pd.take 8) = valB s.data.toList := by rw [List.take_of_length_le (by rw [Hplen.out]; exact Nat.le_refl _), Hvp.out]
      rw [hall]
      have hvlt := valB_bound (l := s.data.toList) (k := 8) (by rw [← size_data]; exact Hs.out)
      obtain ⟨v, hv⟩ : ∃ v, valB s.data.toList = v := ⟨_, rfl⟩
      rw [hv] at hvlt ⊢
      have Hv := Lib.hid hv
      have e8 : (256 : Nat) ^ 8 = 18446744073709551616 := by decide
      rw [e8] at hvlt
      clear hall hv e8 hlt
      by_cases hr : 9223372036854775808 ≤ v
      · rw [getF_range (by rw [← size_data]; have := Hs.out; omega) (by rw [Hv.out]; exact hr)] at h
        obtain ⟨rfl, rfl⟩ := Prod.mk.inj h
        have hgt : (9223372036854775807 : Int) < (v : Int) := by omega
        clear h
        go_wp2_with fail
        go_ret2
        exact ⟨rfl, Hb.out⟩
      · rw [getF_ok (by rw [← size_data]; have := Hs.out; omega) (by rw [Hv.out]; exact hr), Hv.out] at h
        obtain ⟨rfl, rfl⟩ := Prod.mk.inj h
        have hgt : ¬ (9223372036854775807 : Int) < (v : Int) := by omega
        clear h
        go_wp2_with fail
        go_ret2
        exact ⟨rfl, Hb.out⟩
theorem fGet_is (s : ByteArray) (w : World) (_hs : s.size ≤ maxLen) {a b : Int} (h : getF s.data.toList = (a, b)) :
    Calls Tryz.prog 141 #[.string s] w fun e w' => e = .returned (.tuple #[.int .i64 a, .int .i64 b]) ∧ Below w.heap.size w w' := by
  unfold maxLen at _hs
  by_cases h8 : s.size ≤ 8
  · exact fGet_ok s w h8 h
  · rw [getF_arg (by rw [← size_data]; omega)] at h
    obtain ⟨rfl, rfl⟩ := Prod.mk.inj h
    have h8' : (8 : Int) < (s.size : Int) := by omega
    clear h h8
    go_enter Tryz.func141, Tryz.ntmps141
    go_wp2_with fail
    go_ret2
    exact ⟨rfl, Below.refl _ _⟩
end
end Go.Proofs.YtiiiokikmjgliaaGreatDoor
