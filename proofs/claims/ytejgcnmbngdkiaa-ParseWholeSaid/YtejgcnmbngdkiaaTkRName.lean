/-
  The document's name.
-/
import Derived.Test.YtejgcnmbngdkiaaTkRSkip
import Derived.Test.YtejgcnmbngdkiaaNSkip
import Derived.Test.YtejgcnmbngdkiaaNBld
import Derived.Deep.QuietTactic
import Derived.BigQuiet
import Derived.WalkSmall
namespace Go.Proofs.Ytejgcnmbngdkiaa
open Go.RowKit
set_option maxRecDepth 100000

/-- What the document's functions tell of a sign: its bytes, where it ends, and the error. -/
def Sg.trip (k : Nat) (r : Sg) : Value := .tuple #[.string (bytes r.str), .int .i64 (if r.code = 0 then ((k + r.fin : Nat) : Int) else 0), .int .i64 r.code]
theorem trip_ok {k j e : Nat} {kd n : Int} {s : List UInt8} (h : k + j = e) : (Sg.mk kd n s 0 j 0).trip k = .tuple #[.string (bytes s), .int .i64 (e : Int), .int .i64 0] := by
  unfold Sg.trip
  rw [if_pos rfl, h]
theorem rHex_is (c : UInt8) {x : Int} (h : hexI (c.toNat : Int) = x) (w : World) : Calls Try.prog 56 #[.int .u8 (c.toNat : Int)] w fun e w' => e = .returned (.int .i64 x) ∧ w = w' := by
  rw [← h]; exact refHex_any _ w
theorem hexI_nought {c : UInt8} : hexI (c.toNat : Int) = 0 ↔ c = 48 := by
  constructor
  · intro h
    unfold hexI at h
    have h2 : c.toNat = 48 := by
      split at h
      · omega
      · split at h
        · omega
        · split at h <;> omega
    apply UInt8.toNat_inj.1
    rw [h2]; rfl
  · intro h; subst h; decide
theorem ttwo_text (s : ByteArray) (k : Nat) (h : k + 2 ≤ s.size) : (s.extract k (k + 2)).data.toList = [s[k], s[k + 1]] := by
  rw [Lib.extract_data, drop_byte s k (by omega), Nat.add_sub_cancel_left, drop_byte s (k + 1) (by omega)]
  rfl

theorem i64w {x : Int} (h0 : -9223372036854775808 ≤ x) (h1 : x ≤ 9223372036854775807) : IntKind.i64.wrap x = x := by
  rw [IntKind.wrap_i64]; omega
set_option maxHeartbeats 4000000 in
theorem rName_any (s : ByteArray) (k : Nat) (w : World) (hs : s.size ≤ 1000000000) (hk : k < s.size) {r : Sg} (hr : nameGo [] 1 (s.data.toList.drop (k + 1)) = r) :
    Calls Try.prog 31 #[.string s, .int .i64 ((k + 1 : Nat) : Int)] w fun e w' => e = .returned (r.trip k) ∧ Below w.heap.size w w' := by
  have Hr := Lib.hid hr
  clear hr
  go_enter Try.func31, Try.ntmps31
  go_wp2_with fail
  go_loopg [1, 7] (s.size - (k + 1)) (fun g v1 v7 wx => ∃ (p n : Nat) (out : List UInt8), p + g = s.size ∧ k + n = p ∧ 1 ≤ n ∧ v1 = .int .i64 p ∧ out.length ≤ 127 ∧ Aside (nameGo out n (s.data.toList.drop p) = r) ∧ Aside (Own8 wx w.heap.size v7 out) ∧ Aside (Below w.heap.size w wx))
  case atStart => exact ⟨k + 1, 1, [], by omega, rfl, Nat.le_refl _, rfl, by decide, Hr.out, Own8.made w 0 #[] (Nat.le_refl _) (by unfold maxLen; omega) rfl, (Below.refl _ w).alloc (Nat.le_refl _) _⟩
  case round =>
    obtain ⟨p, n, out, hp, hkn, hn1, rfl, ho, HR, HO, HB⟩ := hrel
    clear Hr
    cases gk with
    | zero =>
      obtain rfl : p = s.size := by omega
      have hz : ¬ ((s.size : Int) < (s.size : Int)) := by omega
      have h := HR.out
      rw [drop_end s _ (Nat.le_refl _), name_nil] at h
      subst h
      have htext := Own8.text HO.out
      go_wp2_with fail
      exact bodyPost_ret (v := .tuple #[.string (bytes out), .int .i64 (s.size : Int), .int .i64 0]) (by simp [results, Try.results31, go_sem]) rfl ⟨by rw [trip_ok hkn], HB.out⟩
    | succ g =>
      have hlt : p < s.size := by omega
      have hz : (p : Int) < (s.size : Int) := by omega
      have hp0 : (0 : Int) ≤ (p : Int) := by omega
      obtain ⟨c, hc⟩ : ∃ c, s[p] = c := ⟨_, rfl⟩
      have h := HR.out
      rw [drop_byte s p hlt, hc] at h
      clear HR
      by_cases hkd : kindI (c.toNat : Int) = 2
      · have HK := Lib.hid (fun W => rKind_is c hkd W)
        by_cases h35 : c.toNat = 35
        · have hcz : (c.toNat : Int) = 35 := by omega
          by_cases hshort : s.size ≤ p + 2
          · have hb : hidL (c :: s.data.toList.drop (p + 1)) = none := by
              have hl : (c :: s.data.toList.drop (p + 1)).length ≤ 2 := by rw [List.length_cons, List.length_drop, ← size_data]; omega
              match hm : c :: s.data.toList.drop (p + 1), hl with
              | [], _ => rfl
              | [_], _ => rfl
              | [_, _], _ => rfl
              | _ :: _ :: _ :: _, hl => simp only [List.length_cons] at hl; omega
            rw [name_form hkd h35 hb] at h
            subst h
            have hge : (s.size : Int) ≤ (p : Int) + 1 + 1 := by omega
            rw [hcz] at HK
            clear hb hkd h35
            go_wp2_with fail
            refine (HK.out _).mono ?_
            rintro e w1 ⟨rfl, rfl⟩
            go_wp2_with fail
            exact bodyPost_ret (v := .tuple #[.string ⟨#[]⟩, .int .i64 0, .int .i64 4]) (by simp [results, Try.results31, go_sem]) rfl ⟨rfl, HB.out⟩
          · have i1 : p + 1 < s.size := by omega
            have i2 : p + 2 < s.size := by omega
            have hge : ¬ (s.size : Int) ≤ (p : Int) + 1 + 1 := by omega
            have hged : decide ((s.size : Int) ≤ (p : Int) + 1 + 1) = false := decide_eq_false hge
            obtain ⟨c1, hc1⟩ : ∃ c, s[p + 1] = c := ⟨_, rfl⟩
            obtain ⟨c2, hc2⟩ : ∃ c, s[p + 2] = c := ⟨_, rfl⟩
            have hc2' : s[p + 1 + 1] = c2 := hc2
            have hdr : s.data.toList.drop (p + 1) = c1 :: c2 :: s.data.toList.drop (p + 3) := by rw [drop_byte s (p + 1) i1, drop_byte s (p + 1 + 1) i2, hc1, hc2']
            have htx := ttwo_text s (p + 1) (by omega)
            rw [hc1, hc2'] at htx
            rw [hdr] at h
            have r1 := hexI_range c1
            have r2 := hexI_range c2
            obtain ⟨x, hx⟩ : ∃ x, hexI (c1.toNat : Int) = x := ⟨_, rfl⟩
            obtain ⟨y, hy⟩ : ∃ y, hexI (c2.toNat : Int) = y := ⟨_, rfl⟩
            have H1 := Lib.hid (fun W => rHex_is c1 hx W)
            have H2 := Lib.hid (fun W => rHex_is c2 hy W)
            have hhid : hidL (c :: c1 :: c2 :: s.data.toList.drop (p + 3)) = if x < 0 ∨ y < 0 ∨ x + y = 0 then none else some (UInt8.ofNat (16 * x.toNat + y.toNat)) := by
              rw [← hx, ← hy]; rfl
            have hzz : ([c1, c2] == [48, 48]) = decide (x = 0 ∧ y = 0) := by
              rw [Bool.eq_iff_iff, decide_eq_true_eq, ← hx, ← hy, hexI_nought, hexI_nought]; simp
            rw [hx] at r1
            rw [hy] at r2
            have hcut : (((s.extract (p + 1) (p + 1 + 2)).toList == [48, 48]) : Bool) = decide (x = 0 ∧ y = 0) := by rw [Lib.toList_data, htx, hzz]
            clear htx hzz hx hy hc2'
            rw [hcz] at HK
            by_cases hx0 : x < 0
            · rw [if_pos (Or.inl hx0)] at hhid
              rw [name_form hkd h35 hhid] at h
              subst h
              clear hhid hcut hdr hkd h35 r1 r2 hc2
              go_wp2_with fail
              refine (HK.out _).mono ?_
              rintro e w1 ⟨rfl, rfl⟩
              go_wp2_with fail
              refine (H1.out _).mono ?_
              rintro e w1 ⟨rfl, rfl⟩
              go_wp2_with fail
              exact bodyPost_ret (v := .tuple #[.string ⟨#[]⟩, .int .i64 0, .int .i64 4]) (by simp [results, Try.results31, go_sem]) rfl ⟨rfl, HB.out⟩
            · by_cases hy0 : y < 0
              · rw [if_pos (Or.inr (Or.inl hy0))] at hhid
                rw [name_form hkd h35 hhid] at h
                subst h
                clear hhid hcut hdr hkd h35 r1 r2
                go_wp2_with fail
                refine (HK.out _).mono ?_
                rintro e w1 ⟨rfl, rfl⟩
                go_wp2_with fail
                refine (H1.out _).mono ?_
                rintro e w1 ⟨rfl, rfl⟩
                go_wp2_with fail
                refine (H2.out _).mono ?_
                rintro e w1 ⟨rfl, rfl⟩
                go_wp2_with fail
                exact bodyPost_ret (v := .tuple #[.string ⟨#[]⟩, .int .i64 0, .int .i64 4]) (by simp [results, Try.results31, go_sem]) rfl ⟨rfl, HB.out⟩
              · obtain ⟨a, rfl⟩ := Int.eq_ofNat_of_zero_le (show 0 ≤ x by omega)
                obtain ⟨b, rfl⟩ := Int.eq_ofNat_of_zero_le (show 0 ≤ y by omega)
                have ha : a < 16 := by omega
                have hb : b < 16 := by omega
                have had : decide ((a : Int) < 0) = false := decide_eq_false (by omega)
                have hbd : decide ((b : Int) < 0) = false := decide_eq_false (by omega)
                by_cases hz0 : (a : Int) + (b : Int) = 0
                · rw [if_pos (Or.inr (Or.inr hz0))] at hhid
                  rw [name_form hkd h35 hhid] at h
                  subst h
                  rw [decide_eq_true (by omega)] at hcut
                  clear hhid hdr hkd h35 r1 r2 hz0
                  go_wp2_with fail
                  refine (HK.out _).mono ?_
                  rintro e w1 ⟨rfl, rfl⟩
                  go_wp2_with fail
                  refine (H1.out _).mono ?_
                  rintro e w1 ⟨rfl, rfl⟩
                  go_wp2_with fail
                  refine (H2.out _).mono ?_
                  rintro e w1 ⟨rfl, rfl⟩
                  go_wp2_with fail
                  exact bodyPost_ret (v := .tuple #[.string ⟨#[]⟩, .int .i64 0, .int .i64 4]) (by simp [results, Try.results31, go_sem]) rfl ⟨rfl, HB.out⟩
                · rw [if_neg (by omega), Int.toNat_natCast, Int.toNat_natCast] at hhid
                  rw [name_hid hkd h35 hhid] at h
                  rw [decide_eq_false (by omega)] at hcut
                  obtain ⟨z, hzb⟩ : ∃ z : UInt8, UInt8.ofNat (16 * a + b) = z := ⟨_, rfl⟩
                  have hzn : z.toNat = 16 * a + b := by rw [← hzb, UInt8.toNat_ofNat']; omega
                  rw [hzb] at h
                  clear hhid hdr hkd h35 r1 r2 hz0 hzb
                  go_wp2_with fail
                  refine (HK.out _).mono ?_
                  rintro e w1 ⟨rfl, rfl⟩
                  go_wp2_with fail
                  refine (H1.out _).mono ?_
                  rintro e w1 ⟨rfl, rfl⟩
                  go_wp2_with fail
                  refine (H2.out _).mono ?_
                  rintro e w1 ⟨rfl, rfl⟩
                  go_wp2_with fail
                  have q1 : IntKind.i64.wrap ((p : Int) + 1 + 1) = (p : Int) + 1 + 1 := i64w (by omega) (by omega)
                  have q2 : IntKind.i64.wrap (16 * (a : Int)) = 16 * (a : Int) := i64w (by omega) (by omega)
                  have q3 : IntKind.i64.wrap (16 * (a : Int) + (b : Int)) = 16 * (a : Int) + (b : Int) := i64w (by omega) (by omega)
                  have q4 : (0 : Int) ≤ (p : Int) + 1 := by omega
                  have q5 : (p : Int) + 1 < (s.size : Int) := by omega
                  have q6 : (0 : Int) ≤ (p : Int) + 1 + 1 := by omega
                  have q7 : (p : Int) + 1 + 1 < (s.size : Int) := by omega
                  go_quiet ((first | (go_at_call_of 56 (c1.toNat : Int); first | exact calm (H1.out _) | exact calm_add (H1.out _)) | (go_at_call_of 56 (c2.toNat : Int); first | exact calm_add (H2.out _) | exact calm (H2.out _))))
                  obtain ⟨W, hW⟩ : ∃ W, wr.drewN nq = W := ⟨_, rfl⟩
                  have HW : Hid (Below wr.heap.size wr W) := Lib.hid (by rw [← hW]; exact below_drewN (Below.refl _ _) nq)
                  have HO1 := Lib.hid (Own8.later HO.out HW.out)
                  have HB1 := Lib.hid (HB.out.trans (HW.out.mono HB.out.size))
                  rw [hW]
                  clear hW HW q1 q2 q3 q4 q5 q6 q7
                  have hzi : (16 : Int) * (a : Int) + (b : Int) = (z.toNat : Int) := by omega
                  rw [hzi]
                  clear hzi hzn
                  have Hp3 : Hid ((p : Int) + 1 + 2 = ((p + 3 : Nat) : Int)) := Lib.hid (by omega)
                  by_cases hlong : 127 ≤ out.length
                  · rw [if_pos hlong] at h
                    subst h
                    have hol : (127 : Int) < (out.length : Int) + 1 := by omega
                    go_wp2_with (at_builtin; refine wpList_append8 rfl (.tmp 70) (.tmp 72) rfl w.heap.size _ out rfl (HO1.out.alloc _) ⟨W.heap.size, 0, none⟩ 1 [z] rfl (cells_new1 _ z _ rfl) (by simp) (by simp; omega) w (HB1.out.alloc HB1.out.size _) (by have := HB1.out.size; simp; omega) ?_; intro v2 w2 Ho2 Hb2 hf2; obtain ⟨g2, cap2, rfl⟩ := hf2)
                    exact bodyPost_ret (v := .tuple #[.string ⟨#[]⟩, .int .i64 0, .int .i64 8]) (by simp [results, Try.results31, go_sem]) rfl ⟨rfl, Hb2.out⟩
                  · rw [if_neg hlong] at h
                    have Hnext := Lib.hid h
                    have hol : ¬ (127 : Int) < (out.length : Int) + 1 := by omega
                    clear h
                    go_wp2_with (at_builtin; refine wpList_append8 rfl (.tmp 70) (.tmp 72) rfl w.heap.size _ out rfl (HO1.out.alloc _) ⟨W.heap.size, 0, none⟩ 1 [z] rfl (cells_new1 _ z _ rfl) (by simp) (by simp; omega) w (HB1.out.alloc HB1.out.size _) (by have := HB1.out.size; simp; omega) ?_; intro v2 w2 Ho2 Hb2 hf2; obtain ⟨g2, cap2, rfl⟩ := hf2)
                    go_roundg (s.size - (p + 3))
                    case measure => omega
                    case rel => exact ⟨p + 3, n + 3, out ++ [z], by omega, by omega, by omega, by rw [← Hp3.out], by simp; omega, Hnext.out, Ho2.out, Hb2.out⟩
        · have hcz : ((c.toNat : Int) == 35) = false := by simp; omega
          rw [name_plain hkd h35] at h
          by_cases hlong : 127 ≤ out.length
          · rw [if_pos hlong] at h
            subst h
            have hol : (127 : Int) < (out.length : Int) + 1 := by omega
            clear hkd h35
            go_wp2_with fail
            refine (HK.out _).mono ?_
            rintro e w1 ⟨rfl, rfl⟩
            go_wp2_with (at_builtin; refine wpList_append8 rfl (.tmp 70) (.tmp 72) rfl w.heap.size _ out rfl (HO.out.alloc _) ⟨wr.heap.size, 0, none⟩ 1 [c] rfl (cells_new1 _ c _ rfl) (by simp) (by simp; omega) w (HB.out.alloc HB.out.size _) (by have := HB.out.size; simp; omega) ?_; intro v2 w2 Ho2 Hb2 hf2; obtain ⟨g2, cap2, rfl⟩ := hf2)
            exact bodyPost_ret (v := .tuple #[.string ⟨#[]⟩, .int .i64 0, .int .i64 8]) (by simp [results, Try.results31, go_sem]) rfl ⟨rfl, Hb2.out⟩
          · rw [if_neg hlong] at h
            have Hnext := Lib.hid h
            have hol : ¬ (127 : Int) < (out.length : Int) + 1 := by omega
            clear hkd h35 h
            go_wp2_with fail
            refine (HK.out _).mono ?_
            rintro e w1 ⟨rfl, rfl⟩
            go_wp2_with (at_builtin; refine wpList_append8 rfl (.tmp 70) (.tmp 72) rfl w.heap.size _ out rfl (HO.out.alloc _) ⟨wr.heap.size, 0, none⟩ 1 [c] rfl (cells_new1 _ c _ rfl) (by simp) (by simp; omega) w (HB.out.alloc HB.out.size _) (by have := HB.out.size; simp; omega) ?_; intro v2 w2 Ho2 Hb2 hf2; obtain ⟨g2, cap2, rfl⟩ := hf2)
            go_roundg g
            case measure => omega
            case rel => exact ⟨p + 1, n + 1, out ++ [c], by omega, by omega, by omega, by go_num, by simp; omega, Hnext.out, Ho2.out, Hb2.out⟩
      · rw [name_end hkd] at h
        subst h
        obtain ⟨x, hx⟩ : ∃ x, kindI (c.toNat : Int) = x := ⟨_, rfl⟩
        have HK := Lib.hid (fun W => rKind_is c hx W)
        rw [hx] at hkd
        have hkd' : (x == 2) = false := by simpa using hkd
        have htext := Own8.text HO.out
        clear hkd hx
        go_wp2_with fail
        refine (HK.out _).mono ?_
        rintro e w1 ⟨rfl, rfl⟩
        go_wp2_with fail
        exact bodyPost_ret (v := .tuple #[.string (bytes out), .int .i64 (p : Int), .int .i64 0]) (by simp [results, Try.results31, go_sem]) rfl ⟨by rw [trip_ok hkn], HB.out⟩
end Go.Proofs.Ytejgcnmbngdkiaa
