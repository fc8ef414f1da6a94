/-
  The contract of package inflate's block.
-/
import Derived.Test.YtiiiokikmjgliaaGreatDoorKOwn
import Derived.Test.YtiiiokikmjgliaaGreatDoorInfSyms
import Derived.Test.YtiiiokikmjgliaaGreatDoorInfStored
import Derived.Test.YtiiiokikmjgliaaGreatDoorKMake
namespace Go.Proofs.YtiiiokikmjgliaaGreatDoor
open Go.RowKit
set_option maxRecDepth 100000
def blockF (fl M kind : Nat) (o : List UInt8) : Prs (List UInt8) :=
  if kind = 0 then storedP M o else if kind = 1 then codedP fixedLit fixedDist M fl o else ownF fl M o
theorem blockP_fuel (M kind : Nat) (o : List UInt8) : blockP M kind o = blockF FUEL M kind o := by
  unfold blockP blockF
  rw [ownP_fuel]
def headP (fl M : Nat) (o : List UInt8) : Prs (Nat × List UInt8) :=
  pbind (bitsP 1) fun last =>
  pbind (bitsP 2) fun kind =>
  pbind (pfail (decide (kind = 3)) 4) fun _ =>
  pbind (blockF fl M kind o) fun o' => pret (last, o')
def inflF (fl M : Nat) : Nat → List UInt8 → Prs (List UInt8)
  | 0, _ => fun _ _ => .error (-1)
  | f + 1, o => pbind (headP fl M o) fun x => if x.1 = 0 then inflF fl M f x.2 else pret x.2
theorem inflP_fuel (M : Nat) : ∀ (f : Nat) (o : List UInt8), inflP M f o = inflF FUEL M f o
  | 0, _ => rfl
  | f + 1, o => by
    rw [inflP, inflF, headP]
    simp only [pbind_assoc, pbind_ret, blockP_fuel, inflP_fuel M f]
def EndsK (w : World) (T rb : Nat) (s : ByteArray) (M : Nat) (F : List Nat) (r : Except Int ((Nat × List UInt8) × Nat)) (en : Ending) (w' : World) : Prop := match r with
  | .ok ((last, o'), z) => en = .returned (.tuple #[.bool (last == 1), .int .i64 0]) ∧ ∃ F', Tl w' T rb s z o' M F' ∧ Touches F F' w w'
  | .error e => ∃ b, en = .returned (.tuple #[.bool b, .int .i64 e]) ∧ ∃ F', Touches F F' w w'
theorem EndsK.err {w w' : World} {T rb : Nat} {s : ByteArray} {M : Nat} {F F' : List Nat} {r : Except Int ((Nat × List UInt8) × Nat)} {e : Int} {b : Bool} (hr : r = .error e) (ht : Touches F F' w w') : EndsK w T rb s M F r (.returned (.tuple #[.bool b, .int .i64 e])) w' := by
  subst hr; exact ⟨b, rfl, F', ht⟩
theorem EndsK.ok {w w' : World} {T rb : Nat} {s : ByteArray} {M : Nat} {F F' : List Nat} {r : Except Int ((Nat × List UInt8) × Nat)} {last z : Nat} {b : Bool} {o' : List UInt8} (hr : r = .ok ((last, o'), z)) (hb : b = (last == 1)) (h : Tl w' T rb s z o' M F') (ht : Touches F F' w w') : EndsK w T rb s M F r (.returned (.tuple #[.bool b, .int .i64 0])) w' := by
  subst hr hb; exact ⟨rfl, F', h, ht⟩
theorem Sure.ownF (fl M : Nat) (o : List UInt8) : Sure (ownF fl M o) :=
  (Sure.bits _).bind fun _ => (Sure.bits _).bind fun _ => (Sure.bits _).bind fun _ => (Sure.fail _ (by decide)).bind fun _ => (Sure.heads _ _ _).bind fun _ => (Sure.fail _ (by decide)).bind fun _ => (Sure.row _ _ _ _).bind fun _ => (Sure.fail _ (by decide)).bind fun _ => Sure.coded _ _ _ _ _
theorem Sure.treesP (fl : Nat) : Sure (treesP fl) :=
  (Sure.bits _).bind fun _ => (Sure.bits _).bind fun _ => (Sure.bits _).bind fun _ => (Sure.fail _ (by decide)).bind fun _ => (Sure.heads _ _ _).bind fun _ => (Sure.fail _ (by decide)).bind fun _ => (Sure.row _ _ _ _).bind fun _ => (Sure.fail _ (by decide)).bind fun _ => Sure.ret _
set_option maxHeartbeats 8000000 in
theorem block_is (T rb : Nat) (s : ByteArray) (pos : Nat) (o : List UInt8) (M : Nat) (F : List Nat) (w : World) (fl : Nat) (h : Tl w T rb s pos o M F) (hs : s.size ≤ 10000) (hM : M ≤ 100000) (hfl : 8 * s.size + 1 ≤ fl) (hL : LaidBy w F)
    {r : Except Int ((Nat × List UInt8) × Nat)} (he : headP fl M o s.data.toList pos = r) :
    Calls Tryz.prog 124 #[.pointer (some ⟨T, 0, none⟩)] w (EndsK w T rb s M F r) := by
  obtain ⟨v, p, q, X, rfl, h⟩ := h
  unfold headP at he
  rw [bits_two (a := 1) (b := 2)] at he
  have HPost := Lib.hid he
  have H := Lib.hid h
  have HL := Lib.hid hL
  have r0 := h.cell.reader
  clear he h hL
  cases hb : bitsP (1 + 2) s.data.toList pos with
  | error e =>
    have HE := Lib.hid (tlGet_err T rb s pos o M v p q X w 3 H.out hs (by omega) hb)
    have Hend : Hid (r = .error 5) := Lib.hid (by rw [← HPost.out, pbind_err hb, (bitsP_err (by omega) hb).1])
    clear hb
    go_enter Tryz.func124, Tryz.ntmps124
    go_wp2_with fail
    refine HE.out.mono ?_
    rintro en w1 ⟨rfl, ht⟩
    have HT := Lib.hid ht
    clear ht
    go_wp2_with fail
    go_ret2
    exact EndsK.err Hend.out HT.out
  | ok x =>
    obtain ⟨x, z0⟩ := x
    have HE := Lib.hid (tlGet_ok T rb s pos o M v p q X w 3 H.out hs (by omega) hb)
    have hx := bitsP_less (by omega) hb
    rw [pbind_of hb] at HPost
    have hx8 : x < 8 := hx
    obtain ⟨la, hla⟩ : ∃ la, x % 2 ^ 1 = la := ⟨_, rfl⟩
    obtain ⟨kd, hkd⟩ : ∃ kd, x / 2 ^ 1 = kd := ⟨_, rfl⟩
    rw [hla, hkd] at HPost
    have hla2 : la = x % 2 := hla.symm
    have hkd2 : kd = x / 2 := hkd.symm
    obtain ⟨lb, hlb⟩ : ∃ lb, (la == 1) = lb := ⟨_, rfl⟩
    have Hlb : Hid (lb = (la == 1)) := Lib.hid hlb.symm
    have hq1 : ((x : Int) % 2 == 1) = lb := by
      rw [← hlb, hla2]
      by_cases h1 : x % 2 = 1
      · rw [h1]
        have : (x : Int) % 2 = 1 := by omega
        rw [this]; rfl
      · have h2 : (x % 2 == 1) = false := by simpa using h1
        have h3 : ((x : Int) % 2 == 1) = false := by rw [beq_eq_false_iff_ne]; omega
        rw [h2, h3]
    have hq2 : (x : Int) / 2 = (kd : Int) := by omega
    have hkd4 : kd < 4 := by omega
    clear hb hx hla hkd hla2 hkd2 hlb
    go_enter Tryz.func124, Tryz.ntmps124
    go_wp2_with fail
    refine HE.out.mono ?_
    rintro en w1 ⟨rfl, hi, ht⟩
    have H1 := Lib.hid hi
    have HT1 := Lib.hid ht
    have HL1 := Lib.hid (HL.out.touch ht)
    clear hi ht r0
    have hcase : kd = 0 ∨ kd = 1 ∨ kd = 2 ∨ kd = 3 := by omega
    rcases hcase with rfl | rfl | rfl | rfl
    · have HP2 : Hid (pbind (storedP M o) (fun o' => pret (la, o')) s.data.toList z0 = r) := Lib.hid HPost.out
      cases hst : storedP M o s.data.toList z0 with
      | error e =>
        have HS := Lib.hid (stored_is T rb s z0 o M _ w1 ⟨v, p, q, X, rfl, H1.out⟩ hs hM hst)
        have Hend : Hid (r = .error e) := Lib.hid (by rw [← HP2.out, pbind_err hst])
        clear hst
        go_wp2_with fail
        refine HS.out.mono ?_
        rintro en w2 ⟨rfl, F', ht⟩
        have HT2 := Lib.hid (HT1.out.trans ht)
        clear ht
        go_wp2_with fail
        go_ret2
        exact EndsK.err Hend.out HT2.out
      | ok y =>
        obtain ⟨o2, z2⟩ := y
        have HS := Lib.hid (stored_is T rb s z0 o M _ w1 ⟨v, p, q, X, rfl, H1.out⟩ hs hM hst)
        have Hend : Hid (r = .ok ((la, o2), z2)) := Lib.hid (by rw [← HP2.out, pbind_of hst]; rfl)
        clear hst
        go_wp2_with fail
        refine HS.out.mono ?_
        rintro en w2 ⟨rfl, F', hi, ht⟩
        have HI2 := Lib.hid hi
        have HT2 := Lib.hid (HT1.out.trans ht)
        clear hi ht
        go_wp2_with fail
        go_ret2
        exact EndsK.ok Hend.out Hlb.out HI2.out HT2.out
    · have HP2 : Hid (pbind (codedP fixedLit fixedDist M fl o) (fun o' => pret (la, o')) s.data.toList z0 = r) := Lib.hid HPost.out
      have HF := Lib.hid (fixedTrees_is T rb s z0 o M v p q X w1 H1.out)
      cases hst : codedP fixedLit fixedDist M fl o s.data.toList z0 with
      | error e =>
        have Hend : Hid (r = .error e) := Lib.hid (by rw [← HP2.out, pbind_err hst])
        have Hst := Lib.hid hst
        clear hst
        go_wp2_with fail
        refine HF.out.mono ?_
        rintro en w2 ⟨b, c, p', q', X', rfl, hi, hb, hc, ht⟩
        have HS := Lib.hid (symbols_is T rb s z0 o M _ w2 b c fixedLit fixedDist fl ⟨v, p', q', X', rfl, hi⟩ hs hM (by omega) hb hc fixed_good.1 fixed_good.2 (HL1.out.touch ht) Hst.out)
        have HT2 := Lib.hid (HT1.out.trans ht)
        clear hi hb hc ht
        go_wp2_with fail
        refine HS.out.mono ?_
        rintro en w3 ⟨rfl, F', ht⟩
        have HT3 := Lib.hid (HT2.out.trans ht)
        clear ht
        go_wp2_with fail
        go_ret2
        exact EndsK.err Hend.out HT3.out
      | ok y =>
        obtain ⟨o2, z2⟩ := y
        have Hend : Hid (r = .ok ((la, o2), z2)) := Lib.hid (by rw [← HP2.out, pbind_of hst]; rfl)
        have Hst := Lib.hid hst
        clear hst
        go_wp2_with fail
        refine HF.out.mono ?_
        rintro en w2 ⟨b, c, p', q', X', rfl, hi, hb, hc, ht⟩
        have HS := Lib.hid (symbols_is T rb s z0 o M _ w2 b c fixedLit fixedDist fl ⟨v, p', q', X', rfl, hi⟩ hs hM (by omega) hb hc fixed_good.1 fixed_good.2 (HL1.out.touch ht) Hst.out)
        have HT2 := Lib.hid (HT1.out.trans ht)
        clear hi hb hc ht
        go_wp2_with fail
        refine HS.out.mono ?_
        rintro en w3 ⟨rfl, F', hi, ht⟩
        have HI3 := Lib.hid hi
        have HT3 := Lib.hid (HT2.out.trans ht)
        clear hi ht
        go_wp2_with fail
        go_ret2
        exact EndsK.ok Hend.out Hlb.out HI3.out HT3.out
    · have HP2 : Hid (pbind (ownF fl M o) (fun o' => pret (la, o')) s.data.toList z0 = r) := Lib.hid HPost.out
      rw [ownF_trees, pbind_assoc] at HP2
      cases hst : treesP fl s.data.toList z0 with
      | error e =>
        have hez : (e != 0) = true := by simpa using Sure.treesP _ _ _ _ hst
        have HO := Lib.hid (ownTrees_is T rb s z0 o M v p q X w1 H1.out hs HL1.out fl hfl hst)
        have Hend : Hid (r = .error e) := Lib.hid (by rw [← HP2.out, pbind_err hst])
        clear hst
        go_wp2_with fail
        refine HO.out.mono ?_
        rintro en w2 ⟨rfl, ht⟩
        have HT2 := Lib.hid (HT1.out.trans ht)
        clear ht
        go_wp2_with fail
        go_ret2
        exact EndsK.err Hend.out (HT2.out.alloc _)
      | ok y =>
        obtain ⟨⟨lit, dist⟩, z1⟩ := y
        have HO := Lib.hid (ownTrees_is T rb s z0 o M v p q X w1 H1.out hs HL1.out fl hfl hst)
        rw [pbind_of hst] at HP2
        clear hst
        cases hcd : codedP lit dist M fl o s.data.toList z1 with
        | error e =>
          have Hend : Hid (r = .error e) := Lib.hid (by rw [← HP2.out, pbind_err hcd])
          have Hcd := Lib.hid hcd
          clear hcd
          go_wp2_with fail
          refine HO.out.mono ?_
          rintro en w2 ⟨b, c, rfl, hb, hc, hr1, hr2, hi, ht⟩
          have hal : Touches (tlF T rb v) (tlF T rb v) w2 (w2.alloc (.cells #[.pointer (some ⟨b, 0, none⟩), .pointer (some ⟨c, 0, none⟩)] 138)) := Touches.of_below ((below_same w2).alloc (Nat.le_refl _) _)
          have HS := Lib.hid (symbols_is T rb s z1 o M _ (w2.alloc (.cells #[.pointer (some ⟨b, 0, none⟩), .pointer (some ⟨c, 0, none⟩)] 138)) b c lit dist fl ⟨v, p, q, X, rfl, hi.alloc _⟩ hs hM (by omega) (hb.touch hal) (hc.touch hal) hr1 hr2 ((HL1.out.touch ht).touch hal) Hcd.out)
          have HT2 := Lib.hid ((HT1.out.trans ht).trans hal)
          clear hi hb hc hr1 hr2 ht hal
          go_wp2_with fail
          refine HS.out.mono ?_
          rintro en w3 ⟨rfl, F', ht⟩
          have HT3 := Lib.hid (HT2.out.trans ht)
          clear ht
          go_wp2_with fail
          go_ret2
          exact EndsK.err Hend.out HT3.out
        | ok y =>
          obtain ⟨o2, z2⟩ := y
          have Hend : Hid (r = .ok ((la, o2), z2)) := Lib.hid (by rw [← HP2.out, pbind_of hcd]; rfl)
          have Hcd := Lib.hid hcd
          clear hcd
          go_wp2_with fail
          refine HO.out.mono ?_
          rintro en w2 ⟨b, c, rfl, hb, hc, hr1, hr2, hi, ht⟩
          have hal : Touches (tlF T rb v) (tlF T rb v) w2 (w2.alloc (.cells #[.pointer (some ⟨b, 0, none⟩), .pointer (some ⟨c, 0, none⟩)] 138)) := Touches.of_below ((below_same w2).alloc (Nat.le_refl _) _)
          have HS := Lib.hid (symbols_is T rb s z1 o M _ (w2.alloc (.cells #[.pointer (some ⟨b, 0, none⟩), .pointer (some ⟨c, 0, none⟩)] 138)) b c lit dist fl ⟨v, p, q, X, rfl, hi.alloc _⟩ hs hM (by omega) (hb.touch hal) (hc.touch hal) hr1 hr2 ((HL1.out.touch ht).touch hal) Hcd.out)
          have HT2 := Lib.hid ((HT1.out.trans ht).trans hal)
          clear hi hb hc hr1 hr2 ht hal
          go_wp2_with fail
          refine HS.out.mono ?_
          rintro en w3 ⟨rfl, F', hi, ht⟩
          have HI3 := Lib.hid hi
          have HT3 := Lib.hid (HT2.out.trans ht)
          clear hi ht
          go_wp2_with fail
          go_ret2
          exact EndsK.ok Hend.out Hlb.out HI3.out HT3.out
    · have Hend : Hid (r = .error 4) := Lib.hid (by rw [← HPost.out]; rfl)
      go_wp2_with fail
      go_ret2
      exact EndsK.err Hend.out HT1.out
end Go.Proofs.YtiiiokikmjgliaaGreatDoor
