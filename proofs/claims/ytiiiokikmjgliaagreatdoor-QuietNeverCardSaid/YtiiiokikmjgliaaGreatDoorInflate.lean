/-
  The contract of package inflate's Inflate.
-/
import Derived.Test.YtiiiokikmjgliaaGreatDoorInfBlock
namespace Go.Proofs.YtiiiokikmjgliaaGreatDoor
open Go.RowKit
set_option maxRecDepth 100000
theorem laidBy_new {w : World} {F : List Nat} (h : Laid w) (hF : ∀ k ∈ F, w.heap.size ≤ k) : LaidBy w F := by
  have b1 : 4 < w.heap.size := cell_block (h.lens 0 _ rfl).1
  have b2 : 5 < w.heap.size := cell_block (h.dist 0 _ rfl).1
  have b3 : 7 < w.heap.size := cell_block (h.times 0 _ rfl).1
  have b4 : 6 < w.heap.size := cell_block (h.order 0 (by decide))
  exact ⟨h, fun hm => by have := hF _ hm; omega, fun hm => by have := hF _ hm; omega, fun hm => by have := hF _ hm; omega, fun hm => by have := hF _ hm; omega⟩
theorem Sure.headP (fl M : Nat) (o : List UInt8) : Sure (headP fl M o) := by
  refine (Sure.bits _).bind fun _ => (Sure.bits _).bind fun kind => (Sure.fail _ (by decide)).bind fun _ => Sure.bind ?_ fun _ => Sure.ret _
  unfold blockF
  split
  · exact Sure.stored _ _
  · split
    · exact Sure.coded _ _ _ _ _
    · exact Sure.ownF _ _ _
theorem Lefty.ownF (fl M : Nat) (o : List UInt8) : Lefty (ownF fl M o) :=
  (Lefty.bits _).bind fun _ => (Lefty.bits _).bind fun _ => (Lefty.bits _).bind fun _ => (Lefty.fail _ _).bind fun _ => (Lefty.heads _ _ _).bind fun _ => (Lefty.fail _ _).bind fun _ => (Lefty.row _ _ _ _).bind fun _ => (Lefty.fail _ _).bind fun _ => Lefty.coded _ _ _ _ _
theorem Lefty.blockF (fl M kind : Nat) (o : List UInt8) : Lefty (blockF fl M kind o) := by
  unfold Go.Proofs.YtiiiokikmjgliaaGreatDoor.blockF
  split
  · exact Lefty.stored _ _
  · split
    · exact Lefty.coded _ _ _ _ _
    · exact Lefty.ownF _ _ _
theorem headP_more {fl M : Nat} {o : List UInt8} {l : List UInt8} {pos z : Nat} {x : Nat × List UInt8} (h : headP fl M o l pos = .ok (x, z)) (_hp : pos ≤ 8 * l.length) : pos < z ∧ x.1 < 2 := by
  unfold headP at h
  obtain ⟨last, m1, h1, h2⟩ := pbind_ok h
  obtain ⟨kind, m2, h3, h4⟩ := pbind_ok h2
  obtain ⟨_, m3, h5, h6⟩ := pbind_ok h4
  have hl := bitsP_less (by omega) h1
  obtain ⟨a1, _, rfl⟩ := bitsP_ok h1
  obtain ⟨a2, _, rfl⟩ := bitsP_ok h3
  obtain ⟨_, rfl⟩ := pfail_ok h5
  obtain ⟨o2, m4, h7, h8⟩ := pbind_ok h6
  have := (Lefty.blockF _ _ _ _).le h7 (by omega)
  unfold pret at h8
  obtain ⟨rfl, rfl⟩ := Prod.mk.inj (Except.ok.inj h8)
  exact ⟨by omega, hl⟩
set_option maxHeartbeats 4000000 in
theorem inflate_neg (s : ByteArray) (most : Int) (w : World) (hm : most < 0) :
    Calls Tryz.prog 100 #[.string s, .int .i64 most] w fun en w' => en = .returned (.tuple #[.string ⟨#[]⟩, .int .i64 0, .int .i64 2]) ∧ Below w.heap.size w w' := by
  go_enter Tryz.func100, Tryz.ntmps100
  go_wp2_with fail
  refine bodyPost_ret (by simp [results, Tryz.results100, go_sem]; rfl) rfl ?_
  exact ⟨rfl, below_same _⟩
def EndsI (w : World) (r : Except Int (List UInt8 × Nat)) (en : Ending) (w' : World) : Prop := (match r with
  | .ok (o, z) => en = .returned (.tuple #[.string (bytes o), .int .i64 ((wholeN z / 8 : Nat) : Int), .int .i64 0])
  | .error e => en = .returned (.tuple #[.string ⟨#[]⟩, .int .i64 0, .int .i64 e])) ∧ Below w.heap.size w w'
set_option maxHeartbeats 8000000 in
theorem inflate_fl (s : ByteArray) (M : Nat) (w : World) (fl : Nat) (hs : s.size ≤ 10000) (hM : M ≤ 100000) (hfl : 8 * s.size + 1 ≤ fl) (hL : Laid w) {r : Except Int (List UInt8 × Nat)} (he : inflF fl M fl [] s.data.toList 0 = r) :
    Calls Tryz.prog 100 #[.string s, .int .i64 (M : Int)] w (EndsI w r) := by
  have HPost := Lib.hid he
  have HL := Lib.hid hL
  have HN := Lib.hid (rNew_is s w (by omega))
  have hM0 : ¬ (M : Int) < 0 := by omega
  clear he hL
  go_enter Tryz.func100, Tryz.ntmps100
  go_wp2_with fail
  refine HN.out.mono ?_
  rintro en w1 ⟨rb, FR, rfl, hr, hn, hb⟩
  have HT : Hid (TlIs (w1.alloc (.cells #[.pointer (some ⟨rb, 0, none⟩), .slice none 0 0, .int .i64 (M : Int), .pointer none, .pointer none] 140)) w1.heap.size rb s 0 [] M (.slice none 0 0) none none [] ∧
      LaidBy (w1.alloc (.cells #[.pointer (some ⟨rb, 0, none⟩), .slice none 0 0, .int .i64 (M : Int), .pointer none, .pointer none] 140)) (tlF w1.heap.size rb (.slice none 0 0)) ∧ (∀ k ∈ tlF w1.heap.size rb (.slice none 0 0), w.heap.size ≤ k) ∧
      Below w.heap.size w (w1.alloc (.cells #[.pointer (some ⟨rb, 0, none⟩), .slice none 0 0, .int .i64 (M : Int), .pointer none, .pointer none] 140))) := Lib.hid (by
    obtain ⟨nx, L, rfl, h1, h2, h3⟩ := hr
    have hlt := h3.lt
    have hrn : w.heap.size ≤ rb := hn rb (by simp)
    have hB : Below w1.heap.size w1 (w1.alloc (.cells #[.pointer (some ⟨rb, 0, none⟩), .slice none 0 0, .int .i64 (M : Int), .pointer none, .pointer none] 140)) := (Below.refl _ _).alloc (Nat.le_refl _) _
    have hF : ∀ k ∈ tlF w1.heap.size rb (.slice none 0 0), w.heap.size ≤ k := fun k hk => by
      rcases tlF_mem hk with rfl | rfl | e
      · exact hb.size
      · exact hrn
      · cases e
    have hB2 : Below w.heap.size w (w1.alloc (.cells #[.pointer (some ⟨rb, 0, none⟩), .slice none 0 0, .int .i64 (M : Int), .pointer none, .pointer none] 140)) := hb.trans (hB.mono hb.size)
    have hlb := laidBy_new HL.out hF
    refine ⟨⟨heap_alloc_new w1 _, (ReaderAt.later ⟨nx, L, rfl, h1, h2, h3⟩ hB), Row8.nil _, .inl ⟨rfl, rfl, rfl⟩, by omega, (fun k e => by cases e), (fun k e => by cases e), by omega, by simp⟩, ⟨HL.out.later hB2, hlb.2⟩, hF, hB2⟩)
  obtain ⟨T, hT⟩ : ∃ T, w1.heap.size = T := ⟨_, rfl⟩
  obtain ⟨W1, hW1⟩ : ∃ W1, w1.alloc (.cells #[.pointer (some ⟨rb, 0, none⟩), .slice none 0 0, .int .i64 (M : Int), .pointer none, .pointer none] 140) = W1 := ⟨_, rfl⟩
  rw [hW1, hT] at HT
  have HHT := Lib.hid hT
  have HW1 := Lib.hid hW1
  clear hr hn hb hT hW1
  go_wp2_with fail
  rw [HHT.out, HW1.out]
  go_loopg [8] (fl + 1) (fun g s8 wx => ∃ (pos : Nat) (o : List UInt8) (F : List Nat), Aside (Tl wx T rb s pos o M F ∧ LaidBy wx F ∧ (∀ k ∈ F, w.heap.size ≤ k) ∧ Below w.heap.size w wx) ∧
    ((s8 = .bool false ∧ 8 * s.size + 2 ≤ g + pos ∧ Aside (∃ f, g = f + 1 ∧ inflF fl M f o s.data.toList pos = r)) ∨ (s8 = .bool true ∧ Aside (r = .ok (o, pos)))))
  case atStart => exact ⟨0, [], _, ⟨⟨_, _, _, _, rfl, HT.out.1⟩, HT.out.2.1, HT.out.2.2.1, HT.out.2.2.2⟩, .inl ⟨rfl, by omega, fl, rfl, HPost.out⟩⟩
  case round =>
    obtain ⟨pos, o, F, HI, hcase⟩ := hrel
    have HJ := Lib.hid HI.out
    have hpos : pos ≤ 8 * s.size := by
      obtain ⟨v, p, q, X, _, h⟩ := HJ.out.1
      exact h.hpos
    rcases hcase with ⟨rfl, hg, HR⟩ | ⟨rfl, HR⟩
    · obtain ⟨g, rfl⟩ : ∃ f, gk = f + 2 := ⟨gk - 2, by omega⟩
      have HR2 : Hid (pbind (headP fl M o) (fun x => if x.1 = 0 then inflF fl M g x.2 else pret x.2) s.data.toList pos = r) := Lib.hid (by
        obtain ⟨f, hf1, hf2⟩ := HR.out
        obtain rfl : f = g + 1 := by omega
        exact hf2)
      clear HR
      cases hh : headP fl M o s.data.toList pos with
      | error e =>
        have hez : (e != 0) = true := by simpa using Sure.headP _ _ _ _ _ _ hh
        have HB := Lib.hid (block_is T rb s pos o M F wr fl HJ.out.1 hs hM hfl HJ.out.2.1 hh)
        have Hend : Hid (r = .error e) := Lib.hid (by rw [← HR2.out, pbind_err hh])
        clear hh
        go_wp2_with fail
        refine HB.out.mono ?_
        rintro en w2 ⟨b, rfl, F', ht⟩
        have HB2 := Lib.hid (HJ.out.2.2.2.trans (ht.below HJ.out.2.2.2.size HJ.out.2.2.1))
        clear ht
        go_wp2_with fail
        refine bodyPost_ret (by simp [results, Tryz.results100, go_sem]; rfl) rfl ?_
        have hr := Hend.out
        subst hr
        exact ⟨rfl, HB2.out⟩
      | ok x =>
        obtain ⟨⟨last, o2⟩, z⟩ := x
        have HB := Lib.hid (block_is T rb s pos o M F wr fl HJ.out.1 hs hM hfl HJ.out.2.1 hh)
        obtain ⟨hpz, hl2⟩ := headP_more hh (by rw [← size_data]; exact hpos)
        have HR3 := HR2.out
        rw [pbind_of hh] at HR3
        have Hnx := Lib.hid HR3
        have hl2' : last < 2 := hl2
        obtain ⟨lb, hlb⟩ : ∃ lb, (last == 1) = lb := ⟨_, rfl⟩
        have Hlb := Lib.hid hlb
        have HB' : Hid (Calls Tryz.prog 124 #[.pointer (some ⟨T, 0, none⟩)] wr fun en w' => en = .returned (.tuple #[.bool lb, .int .i64 0]) ∧ ∃ F', Tl w' T rb s z o2 M F' ∧ Touches F F' wr w') := Lib.hid (by
          rw [← hlb]; exact HB.out)
        clear hh HR3 HB hl2 hlb
        go_wp2_with fail
        refine HB'.out.mono ?_
        rintro en w2 ⟨rfl, F', hi, ht⟩
        have HK : Hid (Tl w2 T rb s z o2 M F' ∧ LaidBy w2 F' ∧ (∀ k ∈ F', w.heap.size ≤ k) ∧ Below w.heap.size w w2) := Lib.hid ⟨hi, HJ.out.2.1.touch ht, ht.more HJ.out.2.2.2.size HJ.out.2.2.1, HJ.out.2.2.2.trans (ht.below HJ.out.2.2.2.size HJ.out.2.2.1)⟩
        clear hi ht
        go_wp2_with fail
        go_roundg (g + 1)
        case measure => omega
        case rel =>
          refine ⟨z, o2, F', HK.out, ?_⟩
          have h1 : last = 0 ∨ last = 1 := by omega
          rcases h1 with rfl | rfl
          · exact .inl ⟨by rw [← Hlb.out]; rfl, by omega, g, rfl, Hnx.out⟩
          · exact .inr ⟨by rw [← Hlb.out]; rfl, by show r = _; rw [← Hnx.out]; rfl⟩
    · have Hend : Hid (r = .ok (o, pos)) := Lib.hid HR.out
      obtain ⟨v, p, q, X, hF, hi⟩ := HJ.out.1
      have HIs := Lib.hid hi
      have c0 := hi.cell.reader
      have c1 := hi.cell.bytes
      have HAt := Lib.hid (rAt_is rb s pos [rb] wr.drew (hi.drew).rd hpos (by omega))
      have hconv : (convert 64 9 v).run Tryz.prog wr.drew = .ok (.string (bytes o)) wr.drew := Row8.text (w := wr.drew) hi.row
      have HBl := Lib.hid HJ.out.2.2.2
      clear hF hi
      go_wp2_with fail
      go_region_with (go_at_call 125; refine HAt.out.mono ?_; rintro e w2 ⟨rfl, hb⟩; have d1 := (HIs.out.later (Below.trans (below_same wr).drew hb)).cell.bytes; have hconv2 := Row8.text (w := w2) (HIs.out.later (Below.trans (below_same wr).drew hb)).row; have HB2 := Lib.hid (HBl.out.trans ((Below.trans (below_same wr).drew hb).mono HBl.out.size)))
      all_goals
        go_wp2_with fail
        refine bodyPost_ret (by simp [results, Tryz.results100, go_sem]; rfl) rfl ?_
        have hr := Hend.out
        subst hr
        have e : ((wholeN pos / 8 : Nat) : Int) = ((pos : Int) + 7) / 8 := by unfold wholeN; omega
        refine ⟨?_, HB2.out⟩
        show _ = Ending.returned (.tuple #[.string (bytes o), .int .i64 ((wholeN pos / 8 : Nat) : Int), .int .i64 0])
        rw [e]
        have e2 : IntKind.i64.wrap ((IntKind.i64.wrap ((pos : Int) + 7)).tdiv 8) = ((pos : Int) + 7) / 8 := by
          rw [IntWalk.i64_in ((pos : Int) + 7) (by omega), Int.tdiv_eq_ediv_of_nonneg (by omega), IntWalk.i64_in _ (by omega)]
        simp [e2]
theorem inflate_is (s : ByteArray) (most : Int) (w : World) (hs : s.size ≤ 10000) (hm : most ≤ 100000) (hL : Laid w) {o : List UInt8} {n : Nat} {e : Int} (hz : inflZ s.data.toList most = (o, n, e)) :
    Calls Tryz.prog 100 #[.string s, .int .i64 most] w fun en w' => en = .returned (.tuple #[.string (bytes o), .int .i64 (n : Int), .int .i64 e]) ∧ Below w.heap.size w w' := by
  by_cases h0 : most < 0
  · unfold inflZ at hz
    rw [if_pos h0] at hz
    obtain ⟨rfl, h2⟩ := Prod.mk.inj hz
    obtain ⟨rfl, rfl⟩ := Prod.mk.inj h2
    exact inflate_neg s most w h0
  · obtain ⟨M, rfl⟩ := Int.eq_ofNat_of_zero_le (show 0 ≤ most by omega)
    unfold inflZ at hz
    rw [if_neg h0, Int.toNat_natCast, inflP_fuel] at hz
    have hfl : 8 * s.size + 1 ≤ FUEL := by have : FUEL = 10000000 := rfl; omega
    generalize FUEL = fl at hz hfl
    refine (inflate_fl s M w fl hs (by omega) hfl hL rfl).mono ?_
    rintro en w' ⟨h1, hb⟩
    cases hr : inflF fl M fl [] s.data.toList 0 with
    | error e' =>
      rw [hr] at h1 hz
      obtain ⟨rfl, h2⟩ := Prod.mk.inj hz
      obtain ⟨rfl, rfl⟩ := Prod.mk.inj h2
      exact ⟨h1, hb⟩
    | ok x =>
      obtain ⟨o', z⟩ := x
      rw [hr] at h1 hz
      obtain ⟨rfl, h2⟩ := Prod.mk.inj hz
      obtain ⟨rfl, rfl⟩ := Prod.mk.inj h2
      exact ⟨h1, hb⟩
end Go.Proofs.YtiiiokikmjgliaaGreatDoor
