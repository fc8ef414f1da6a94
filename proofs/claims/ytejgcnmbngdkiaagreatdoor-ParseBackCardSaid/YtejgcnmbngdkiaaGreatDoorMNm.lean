/-
  WrName, WrBytes: texts merged.
-/
import Derived.Test.YtejgcnmbngdkiaaGreatDoorMLn
import Derived.Test.YtejgcnmbngdkiaaGreatDoorMSm
import Derived.Test.YtejgcnmbngdkiaaGreatDoorHEnc
/-
  write.Name, write.Bytes.
-/
namespace Go.Proofs.YtejgcnmbngdkiaaGreatDoor
section
open Go.RowKit
set_option maxRecDepth 100000

/-- A line of a call's own. -/
def OwnLn (w0 : World) (l : List UInt8) (w : World) : Prop := ∃ v, LnT w0.heap.size v l w ∧ (∀ k ∈ foot w0.heap.size v, w0.heap.size ≤ k) ∧ Below w0.heap.size w0 w
theorem OwnLn.new (w : World) : OwnLn w [] (w.alloc (.cells #[.pointer none, .slice none 0 0] 48)) :=
  ⟨_, LnT.new w, fun k hk => by simp [foot, Value.ownBlock] at hk; omega, (Below.refl _ w).alloc (Nat.le_refl _) _⟩
theorem OwnLn.later {w0 w w' : World} {l : List UInt8} (h : OwnLn w0 l w) (hb : Below w.heap.size w w') : OwnLn w0 l w' := by
  obtain ⟨v, h1, h2, h3⟩ := h
  exact ⟨v, h1.later hb, h2, h3.trans (hb.mono h3.size)⟩
theorem OwnLn.put {w0 w : World} {l : List UInt8} (h : OwnLn w0 l w) (ps : List ByteArray) (n : Nat) (hn : ps.length = n) (hlen : l.length + (flatT ps).length ≤ 1000000000) (hn2 : n ≤ 1000) (c : Nat) :
    Calls Tryz.prog 25 #[.pointer (some ⟨w0.heap.size, 0, none⟩), .slice (some ⟨w.heap.size, 0, none⟩) n c] (w.alloc (.cells (ps.map Value.string).toArray 9)) fun e w' => e = .returned (.tuple #[]) ∧ OwnLn w0 (l ++ flatT ps) w' := by
  obtain ⟨v, h1, h2, h3⟩ := h
  refine (putN_is _ v l ps n w h1 hn (by omega) hn2 c).mono ?_
  rintro e w' ⟨he, v', h4, h5⟩
  exact ⟨he, v', h4, h5.more h3.size h2, h3.trans (h5.below h3.size h2)⟩
theorem OwnLn.put1 {w0 w : World} {l : List UInt8} (h : OwnLn w0 l w) (a : ByteArray) (hlen : l.length + a.size ≤ 1000000000) :
    Calls Tryz.prog 25 #[.pointer (some ⟨w0.heap.size, 0, none⟩), .slice (some ⟨w.heap.size, 0, none⟩) 1 1] (w.alloc (.cells #[.string a] 9)) fun e w' => e = .returned (.tuple #[]) ∧ OwnLn w0 (l ++ a.data.toList) w' := by
  have := h.put [a] 1 rfl (by simp [flatT]; omega) (by omega) 1
  simpa [flatT] using this
theorem OwnLn.put2 {w0 w : World} {l : List UInt8} (h : OwnLn w0 l w) (a b : ByteArray) (hlen : l.length + a.size + b.size ≤ 1000000000) :
    Calls Tryz.prog 25 #[.pointer (some ⟨w0.heap.size, 0, none⟩), .slice (some ⟨w.heap.size, 0, none⟩) 2 2] (w.alloc (.cells #[.string a, .string b] 9)) fun e w' => e = .returned (.tuple #[]) ∧ OwnLn w0 (l ++ (a.data.toList ++ b.data.toList)) w' := by
  have := h.put [a, b] 2 rfl (by simp [flatT]; omega) (by omega) 2
  simpa [flatT] using this
theorem OwnLn.text {w0 w : World} {l : List UInt8} (h : OwnLn w0 l w) (h0 : l ≠ []) :
    Calls Tryz.prog 17 #[.pointer (some ⟨w0.heap.size, 0, none⟩)] w fun e w' => e = .returned (.string (bytes l)) ∧ Below w0.heap.size w0 w' := by
  obtain ⟨v, h1, h2, h3⟩ := h
  refine (lstring_is _ v l w h1 h0).mono ?_
  rintro e w' ⟨he, h4⟩
  exact ⟨he, h3.trans (h4.below h3.size h2)⟩

theorem one_extract {s : ByteArray} {k : Nat} (h : k < s.size) : (s.extract k (k + 1)).data.toList = [s[k]] := by
  rw [Lib.extract_data, List.drop_eq_getElem_cons (by rw [← size_data]; exact h)]
  simp
  rfl
set_option maxHeartbeats 2000000 in
theorem name_is (s : ByteArray) (w : World) (hs : s.size ≤ 100000) :
    Calls Tryz.prog 28 #[.string s] w fun e w' => e = .returned (.string (bytes (nameW s.data.toList))) ∧ Below w.heap.size w w' := by
  obtain ⟨w1, hw1⟩ : ∃ w1, w.alloc (.cells #[.pointer none, .slice none 0 0] 48) = w1 := ⟨_, rfl⟩
  have hO : OwnLn w [] w1 := by rw [← hw1]; exact OwnLn.new w
  have Hp := Lib.hid (hO.put1 ⟨#[47]⟩ (by decide))
  have Hw1 := Lib.hid hw1
  clear hw1 hO
  go_enter Tryz.func28, Tryz.ntmps28
  iterate 14 go_step
  rw [Hw1.out]
  go_wp2_with (go_at_call 25; refine Hp.out.mono ?_; rintro e w2 ⟨rfl, h2⟩; have HO := Lib.hid h2; clear h2)
  have H0 : Aside (OwnLn w (47 :: nameG (s.data.toList.take 0)) w2) := HO.out
  clear HO Hp Hw1
  go_loopg [10] s.size (fun g s10 wx => ∃ k : Nat, k + g = s.size ∧ s10 = .int .i64 k ∧ Aside (OwnLn w (47 :: nameG (s.data.toList.take k)) wx))
  case atStart => exact ⟨0, by omega, rfl, H0⟩
  case round =>
    obtain ⟨k, hkg, rfl, HL⟩ := hrel
    have hlen : (47 :: nameG (s.data.toList.take k)).length ≤ 300001 := by
      have h1 := nameG_length (s.data.toList.take k)
      have h2 : (s.data.toList.take k).length ≤ s.size := by rw [List.length_take, ← size_data]; omega
      rw [List.length_cons]; omega
    have Hlen := Lib.hid hlen
    clear hlen
    cases gk with
    | zero =>
      obtain rfl : k = s.size := by omega
      have Hend := Lib.hid (HL.out.text (by simp))
      rw [List.take_of_length_le (by rw [← size_data]; exact Nat.le_refl _)] at Hend
      go_wp2_with (go_at_call 17; refine Hend.out.mono ?_; rintro e w3 ⟨rfl, hb⟩; have Hb := Lib.hid hb; clear hb)
      go_ret
      exact ⟨rfl, Hb.out⟩
    | succ g =>
      have hk : k < s.size := by omega
      have hkz : (k : Int) < (s.size : Int) := by omega
      have Hbare := Lib.hid (fun W => bare_is s[k] W)
      have Hn : Hid (nameG (s.data.toList.take (k + 1)) = nameG (s.data.toList.take k) ++ nameB s[k]) := Lib.hid (by rw [take_snoc s k hk, nameG_snoc])
      obtain ⟨t, ht⟩ : ∃ t, bareB s[k] = t := ⟨_, rfl⟩
      rw [ht] at Hbare
      cases t
      · have Hhex := Lib.hid (fun W => hexd_is s[k] W)
        have Hnb : Hid (nameB s[k] = [35] ++ [digB (s[k].toNat / 16), digB (s[k].toNat % 16)]) := Lib.hid (by unfold nameB; rw [ht]; rfl)
        clear ht
        go_wp2_with (go_at_call 46; refine (Hbare.out _).mono ?_; rintro e w3 ⟨rfl, rfl⟩)
        refine (Hhex.out _).mono ?_
        rintro e w3 ⟨rfl, hb⟩
        have HL3 := Lib.hid (HL.out.later hb)
        obtain ⟨u, hu⟩ : ∃ u, bytes [digB (s[k].toNat / 16), digB (s[k].toNat % 16)] = u := ⟨_, rfl⟩
        have hud : u.data.toList = [digB (s[k].toNat / 16), digB (s[k].toNat % 16)] := by rw [← hu]; exact bytes_data _
        have hus : u.size = 2 := by rw [size_data, hud]; rfl
        have Hud := Lib.hid hud
        rw [hu]
        have Hput := Lib.hid (HL3.out.put2 ⟨#[35]⟩ u (by have := Hlen.out; rw [hus]; show _ + 1 + 2 ≤ _; omega))
        clear hb hu hud hus
        go_wp2_with (go_at_call 25; refine Hput.out.mono ?_; rintro e w4 ⟨rfl, h4⟩; have HL4 := Lib.hid h4; clear h4)
        go_roundg g
        case measure => omega
        case rel => exact ⟨k + 1, by omega, by go_num, by show OwnLn _ _ _; rw [Hn.out, Hnb.out, ← Hud.out]; exact HL4.out⟩
      · have Hnb : Hid (nameB s[k] = [s[k]]) := Lib.hid (by unfold nameB; rw [ht]; rfl)
        have hx := one_extract hk
        obtain ⟨x, hxe⟩ : ∃ x, s.extract k (k + 1) = x := ⟨_, rfl⟩
        rw [hxe] at hx
        have hxs : x.size = 1 := by rw [size_data, hx]; rfl
        have Hx := Lib.hid hx
        have Hput := Lib.hid (HL.out.put1 x (by have := Hlen.out; rw [hxs]; omega))
        clear ht hx hxs
        go_wp2_with (first | (go_at_call 46; refine (Hbare.out _).mono ?_; rintro e w3 ⟨rfl, rfl⟩) | (go_at_call 25; refine Hput.out.mono ?_; rintro e w4 ⟨rfl, h4⟩; have HL4 := Lib.hid h4; clear h4))
        go_roundg g
        case measure => omega
        case rel => exact ⟨k + 1, by omega, by go_num, by show OwnLn _ _ _; rw [Hn.out, Hnb.out, ← Hx.out]; exact HL4.out⟩
end
end Go.Proofs.YtejgcnmbngdkiaaGreatDoor
/-
  write.Bytes.
-/
namespace Go.Proofs.YtejgcnmbngdkiaaGreatDoor
section
open Go.RowKit
set_option maxRecDepth 100000

set_option maxHeartbeats 2000000 in
theorem wbytes_is (s : ByteArray) (w : World) (hs : s.size ≤ 100000) :
    Calls Tryz.prog 29 #[.string s] w fun e w' => e = .returned (.string (bytes (bytesW s.data.toList))) ∧ Below w.heap.size w w' := by
  obtain ⟨w1, hw1⟩ : ∃ w1, w.alloc (.cells #[.pointer none, .slice none 0 0] 48) = w1 := ⟨_, rfl⟩
  have hO : OwnLn w [] w1 := by rw [← hw1]; exact OwnLn.new w
  have Hline := Lib.hid (fun W => line_is s W (by unfold maxLen; omega))
  obtain ⟨t, ht⟩ : ∃ t, s.data.toList.all shownB = t := ⟨_, rfl⟩
  rw [ht] at Hline
  cases t
  · have Hr : Hid (bytesW s.data.toList = 60 :: encH s.data.toList) := Lib.hid (by unfold bytesW; rw [ht]; rfl)
    have Hhex := Lib.hid (hexEnc_any s w1 hs)
    have HO := Lib.hid hO
    have Hw1 := Lib.hid hw1
    clear hw1 hO ht
    go_enter Tryz.func29, Tryz.ntmps29
    iterate 14 go_step
    rw [Hw1.out]
    go_wp2_with (go_at_call 48; refine (Hline.out _).mono ?_; rintro e w3 ⟨rfl, rfl⟩)
    refine Hhex.out.mono ?_
    rintro e w3 ⟨rfl, hb⟩
    have HL3 := Lib.hid (HO.out.later hb)
    obtain ⟨u, hu⟩ : ∃ u, (⟨(encH s.data.toList).toArray⟩ : ByteArray) = u := ⟨_, rfl⟩
    have hud : u.data.toList = encH s.data.toList := by rw [← hu]
    have hus : u.size ≤ 200001 := by rw [size_data, hud, encH_length, ← size_data]; omega
    have Hud := Lib.hid hud
    rw [hu]
    have Hput := Lib.hid (HL3.out.put2 ⟨#[60]⟩ u (by show 0 + 1 + _ ≤ _; omega))
    clear hb hu hud hus
    go_wp2_with (go_at_call 25; refine Hput.out.mono ?_; rintro e w4 ⟨rfl, h4⟩; have Hend := Lib.hid (h4.text (by simp)); clear h4)
    refine Hend.out.mono ?_
    rintro e w5 ⟨rfl, hb⟩
    have Hb := Lib.hid hb
    clear hb
    go_wp2
    go_ret
    exact ⟨by rw [Hr.out, Hud.out]; rfl, Hb.out⟩
  · have Hr : Hid (bytesW s.data.toList = 40 :: (escG s.data.toList ++ [41])) := Lib.hid (by unfold bytesW; rw [if_pos ht])
    have Hp := Lib.hid (hO.put1 ⟨#[40]⟩ (by decide))
    have Hw1 := Lib.hid hw1
    clear hw1 hO ht
    go_enter Tryz.func29, Tryz.ntmps29
    iterate 14 go_step
    rw [Hw1.out]
    go_wp2_with (first | (go_at_call 48; refine (Hline.out _).mono ?_; rintro e w3 ⟨rfl, rfl⟩) | (go_at_call 25; refine Hp.out.mono ?_; rintro e w2 ⟨rfl, h2⟩; have HO := Lib.hid h2; clear h2))
    have H0 : Aside (OwnLn w (40 :: escG (s.data.toList.take 0)) w2) := HO.out
    clear HO Hp Hw1
    go_loopg [19] s.size (fun g s19 wx => ∃ k : Nat, k + g = s.size ∧ s19 = .int .i64 k ∧ Aside (OwnLn w (40 :: escG (s.data.toList.take k)) wx))
    case atStart => exact ⟨0, by omega, rfl, H0⟩
    case round =>
      obtain ⟨k, hkg, rfl, HL⟩ := hrel
      have hlen : (40 :: escG (s.data.toList.take k)).length ≤ 200001 := by
        have h1 := escG_length (s.data.toList.take k)
        have h2 : (s.data.toList.take k).length ≤ s.size := by rw [List.length_take, ← size_data]; omega
        rw [List.length_cons]; omega
      have Hlen := Lib.hid hlen
      clear hlen
      cases gk with
      | zero =>
        obtain rfl : k = s.size := by omega
        have Hput := Lib.hid (HL.out.put1 ⟨#[41]⟩ (by have := Hlen.out; show _ + 1 ≤ _; omega))
        rw [List.take_of_length_le (by rw [← size_data]; exact Nat.le_refl _)] at Hput
        go_wp2_with (go_at_call 25; refine Hput.out.mono ?_; rintro e w4 ⟨rfl, h4⟩; have Hend := Lib.hid (h4.text (by simp)); clear h4)
        refine Hend.out.mono ?_
        rintro e w5 ⟨rfl, hb⟩
        have Hb := Lib.hid hb
        clear hb
        go_wp2
        go_ret
        exact ⟨by rw [Hr.out]; rfl, Hb.out⟩
      | succ g =>
        have hk : k < s.size := by omega
        have hkz : (k : Int) < (s.size : Int) := by omega
        have Hn : Hid (escG (s.data.toList.take (k + 1)) = escG (s.data.toList.take k) ++ escB s[k]) := Lib.hid (by rw [take_snoc s k hk, escG_snoc])
        have hx := one_extract hk
        obtain ⟨x, hxe⟩ : ∃ x, s.extract k (k + 1) = x := ⟨_, rfl⟩
        rw [hxe] at hx
        have hxs : x.size = 1 := by rw [size_data, hx]; rfl
        have Hx := Lib.hid hx
        have Hput1 := Lib.hid (HL.out.put1 x (by have := Hlen.out; rw [hxs]; omega))
        have Hput2 := Lib.hid (HL.out.put2 ⟨#[92]⟩ x (by have := Hlen.out; rw [hxs]; show _ + 1 + 1 ≤ _; omega))
        have hcs : ((s[k].toNat : Int) = 40 ∨ (s[k].toNat : Int) = 41 ∨ (s[k].toNat : Int) = 92) ∨ (¬ (s[k].toNat : Int) = 40 ∧ ¬ (s[k].toNat : Int) = 41 ∧ ¬ (s[k].toNat : Int) = 92) := by omega
        clear hx hxs
        rcases hcs with hcs | ⟨h40, h41, h92⟩
        · have Hnb : Hid (escB s[k] = [92] ++ [s[k]]) := Lib.hid (by unfold escB; rw [if_pos (by omega)]; rfl)
          rcases hcs with hc | hc | hc
          · have h40 : ((s[k].toNat : Int) == 40) = true := by simp [hc]
            clear hc
            go_wp2_with (go_at_call 25; refine Hput2.out.mono ?_; rintro e w4 ⟨rfl, h4⟩; have HL4 := Lib.hid h4; clear h4)
            go_roundg g
            case measure => omega
            case rel => exact ⟨k + 1, by omega, by go_num, by show OwnLn _ _ _; rw [Hn.out, Hnb.out, ← Hx.out]; exact HL4.out⟩
          · have h40 : ((s[k].toNat : Int) == 40) = false := by simp [hc]
            have h41 : ((s[k].toNat : Int) == 41) = true := by simp [hc]
            clear hc
            go_wp2_with (go_at_call 25; refine Hput2.out.mono ?_; rintro e w4 ⟨rfl, h4⟩; have HL4 := Lib.hid h4; clear h4)
            go_roundg g
            case measure => omega
            case rel => exact ⟨k + 1, by omega, by go_num, by show OwnLn _ _ _; rw [Hn.out, Hnb.out, ← Hx.out]; exact HL4.out⟩
          · have h40 : ((s[k].toNat : Int) == 40) = false := by simp [hc]
            have h41 : ((s[k].toNat : Int) == 41) = false := by simp [hc]
            have h92 : ((s[k].toNat : Int) == 92) = true := by simp [hc]
            clear hc
            go_wp2_with (go_at_call 25; refine Hput2.out.mono ?_; rintro e w4 ⟨rfl, h4⟩; have HL4 := Lib.hid h4; clear h4)
            go_roundg g
            case measure => omega
            case rel => exact ⟨k + 1, by omega, by go_num, by show OwnLn _ _ _; rw [Hn.out, Hnb.out, ← Hx.out]; exact HL4.out⟩
        · have Hnb : Hid (escB s[k] = [s[k]]) := Lib.hid (by unfold escB; rw [if_neg (by omega)])
          have g40 : ((s[k].toNat : Int) == 40) = false := by simp [h40]
          have g41 : ((s[k].toNat : Int) == 41) = false := by simp [h41]
          have g92 : ((s[k].toNat : Int) == 92) = false := by simp [h92]
          clear h40 h41 h92
          go_wp2_with (go_at_call 25; refine Hput1.out.mono ?_; rintro e w4 ⟨rfl, h4⟩; have HL4 := Lib.hid h4; clear h4)
          go_roundg g
          case measure => omega
          case rel => exact ⟨k + 1, by omega, by go_num, by show OwnLn _ _ _; rw [Hn.out, Hnb.out, ← Hx.out]; exact HL4.out⟩
end
end Go.Proofs.YtejgcnmbngdkiaaGreatDoor
