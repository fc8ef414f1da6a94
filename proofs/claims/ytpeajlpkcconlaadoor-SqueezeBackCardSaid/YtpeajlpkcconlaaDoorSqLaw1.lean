/-
  The walk of the law that the shorter way is short.
-/
import Derived.Test.YtpeajlpkcconlaaDoorSqEx
import Derived.Test.YtpeajlpkcconlaaDoorHPlain
namespace Go.Proofs.YtpeajlpkcconlaaDoor
open Go.RowKit
set_option maxRecDepth 100000
/-- It answers yes, and leaves what lay. -/
def Yes (w : World) (e : Ending) (w' : World) : Prop := e = .returned (.bool true) ∧ Below w.heap.size w w'
theorem best_any (s : ByteArray) (w : World) (hs : s.size ≤ 70000) (hL : LaidQ w) :
    Calls Tryd.prog 12 #[.string s] w fun en w' => en = .returned (.string (bytes (bestZ s.data.toList))) ∧ Below w.heap.size w w' := best_is s w hs hL (by rw [bytes_data])
set_option maxHeartbeats 4000000 in
theorem short_walk (s : ByteArray) (c : UInt8) (n : Nat) (hn : n < 256) (w : World) (hs : s.size ≤ maxLen) (hl : LaidQ w) : Calls Tryd.prog 6 #[.string s, .int .u8 (c.toNat : Int), .int .u8 (n : Int)] w (Yes w) := by
  unfold maxLen at hs
  have HL := Lib.hid hl
  clear hl
  by_cases hbig : (70000 : Int) < (s.size : Int)
  · have HS := Lib.hid (squeezed_is w HL.out)
    go_enter Tryd.func6, Tryd.ntmps6
    go_wp2_with fail
    refine HS.out.mono ?_
    rintro e w1 ⟨rfl, hb⟩
    have Hb1 := Lib.hid hb
    clear hb
    go_wp2_with fail
    go_ret
    exact ⟨rfl, Hb1.out⟩
  · have hs7 : s.size ≤ 70000 := by omega
    have hb1 := best_long s.data.toList
    rw [← size_data] at hb1
    have hsz1 : (bytes (bestZ s.data.toList)).size = (bestZ s.data.toList).length := bytes_size _
    obtain ⟨x, hx⟩ : ∃ x, (bytes (bestZ s.data.toList)).size = x := ⟨_, rfl⟩
    obtain ⟨d, hd⟩ : ∃ d, (s.size + 65534) / 65535 = d := ⟨_, rfl⟩
    rw [← hsz1, hx, hd] at hb1
    have hn64 : wrap64 (n : Int) = (n : Int) := i64_nat _ (by omega)
    have hdz : ((s.size : Int) + 65534) / 65535 = (d : Int) := by omega
    have hdt : ((s.size : Int) + 65534).tdiv 65535 = (d : Int) := by rw [Int.tdiv_eq_ediv_of_nonneg (by omega)]; exact hdz
    have Hx := Lib.hid hx
    clear hd hsz1 hx
    go_enter Tryd.func6, Tryd.ntmps6
    go_wp2_with fail
    go_loopg [7, 8] (300 + n) (fun gg s7 s8 wx => ∃ i : Nat, i + gg = 300 + n ∧ s8 = .int .i64 (i : Int) ∧ Aside (Own8 wx w.heap.size s7 (List.replicate i c)) ∧ Below w.heap.size w wx)
    case atStart => exact ⟨0, by omega, rfl, Own8.made w 0 #[] (Nat.le_refl _) (by decide) rfl, (Below.refl _ w).alloc (Nat.le_refl _) _⟩
    case round =>
      obtain ⟨i, hig, rfl, HO, hb⟩ := hrel
      have Hb := Lib.hid hb
      clear hb
      cases gk with
      | succ gg =>
        have hiz : (i : Int) < 300 + (n : Int) := by omega
        go_wp2_with (at_builtin; refine wpList_append8n rfl (.tmp 22) (.tmp 24) rfl w.heap.size _ (List.replicate i c) rfl (HO.out.1.alloc _) ⟨wr.heap.size, 0, none⟩ 1 [c] rfl (cells_new1 _ c _ rfl) (by simp) (by simp; omega) w (Hb.out.alloc Hb.out.size _) (by have := Hb.out.size; simp; omega) ?_; intro v3 w3 Ho3 Hb3)
        go_roundg gg
        case measure => omega
        case rel => exact ⟨i + 1, by omega, by go_num, by show Own8 _ _ _ _; rw [List.replicate_succ']; exact Ho3.out, Hb3.out⟩
      | zero =>
        obtain rfl : i = 300 + n := by omega
        have hiz : ¬ ((300 + n : Nat) : Int) < 300 + (n : Int) := by omega
        obtain ⟨g2, cap2, hv⟩ := HO.out.2
        rw [List.length_replicate] at hv
        subst hv
        obtain ⟨T, hT⟩ : ∃ T, bytes (List.replicate (300 + n) c) = T := ⟨_, rfl⟩
        have hTd : T.data.toList = List.replicate (300 + n) c := by rw [← hT, bytes_data]
        have hTs : T.size = 300 + n := by rw [size_data, hTd, List.length_replicate]
        have HTT := Lib.hid hT
        have hbs := best_short (c := c) (k := 300 + n) (by omega) (by omega)
        rw [← hTd] at hbs
        have hy : (bytes (bestZ T.data.toList)).size = (bestZ T.data.toList).length := bytes_size _
        obtain ⟨y, hyy⟩ : ∃ y, (bytes (bestZ T.data.toList)).size = y := ⟨_, rfl⟩
        rw [← hy, hyy] at hbs
        have Hyy := Lib.hid hyy
        have HTs := Lib.hid hTs
        have HBs := Lib.hid (best_any s wr hs7 (HL.out.later Hb.out))
        obtain ⟨U, hU⟩ : ∃ U, bytes (bestZ s.data.toList) = U := ⟨_, rfl⟩
        rw [hU] at HBs Hx
        have hUx : U.size = x := Hx.out
        have HBt := Lib.hid (fun W (hW : Below w.heap.size w W) => best_any T W (by have := HTs.out; omega) (HL.out.later hW))
        obtain ⟨V, hV⟩ : ∃ V, bytes (bestZ T.data.toList) = V := ⟨_, rfl⟩
        rw [hV] at HBt Hyy
        have hVy : V.size = y := Hyy.out
        obtain ⟨M, hM⟩ : ∃ M, max 1 d = M := ⟨_, rfl⟩
        have hMz : max (1 : Int) (d : Int) = (M : Int) := by omega
        have hle : (x : Int) ≤ (s.size : Int) + 5 * (M : Int) := by omega
        have hlt : 10 * (y : Int) < ((300 + n : Nat) : Int) := by omega
        have hM2 : M ≤ 10 := by omega
        have hx2 : x ≤ 100000 := by omega
        clear hT hTd hTs hy hyy hU hV hbs hM hb1
        go_wp2_with fail
        refine HBs.out.mono ?_
        rintro e w1 ⟨rfl, hb⟩
        have htx := (HO.out.later hb).text
        rw [HTT.out] at htx
        have HB1 := Lib.hid (Hb.out.trans (hb.mono Hb.out.size))
        have HBt1 := Lib.hid (HBt.out w1 HB1.out)
        clear hb
        go_wp2_with fail
        refine HBt1.out.mono ?_
        rintro e w2 ⟨rfl, hb⟩
        have HB2 := Lib.hid (HB1.out.trans (hb.mono HB1.out.size))
        have HS := Lib.hid (squeezed_is w2 (HL.out.later HB2.out))
        clear hb htx
        go_wp2_with fail
        refine HS.out.mono ?_
        rintro e w3 ⟨rfl, hb⟩
        have HB3 := Lib.hid (HB2.out.trans (hb.mono HB2.out.size))
        clear hb
        go_wp2_with fail
        go_ret
        exact ⟨rfl, HB3.out⟩
end Go.Proofs.YtpeajlpkcconlaaDoor
