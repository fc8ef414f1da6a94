/-
  Line: a loop over Lines that ends where the word stands.
-/
import Derived.Test.YtplffjnphlfheaaLines
import Derived.Sort.BigQuietIn
namespace Go.Proofs.Ytplffjnphlfheaa
open Go.RowKit Go.Shelf

attribute [local go_sem] Oper.semAt_some

/-- It answers a number, and leaves what lay. -/
def Answers (v : Value) (w : World) (e : Ending) (w' : World) : Prop := e = .returned v ∧ Below w.heap.size w w'

/-- None of these lines is the one; the last one is. -/
def MissAll (l : List UInt8) (f : Int) (p : List UInt8) (a : Nat) (ks : List Nat) : Prop := ∀ i, i ∈ ks → hitA l f p a i = false
def HitLast (l : List UInt8) (f : Int) (p : List UInt8) (a : Nat) (ks : List Nat) : Prop := ∃ q k, ks = q ++ [k] ∧ MissAll l f p a q ∧ hitA l f p a k = true
def lastN (ks : List Nat) : Nat := ks.getLastD 0
theorem lastN_snoc (q : List Nat) (k : Nat) : lastN (q ++ [k]) = k := by simp [lastN]
theorem MissAll.snoc {l : List UInt8} {f : Int} {p : List UInt8} {a : Nat} {q : List Nat} {k : Nat} (h : MissAll l f p a q) (hk : hitA l f p a k = false) : MissAll l f p a (q ++ [k]) := by
  intro i hi
  rcases List.mem_append.1 hi with h' | h'
  · exact h i h'
  · rw [List.mem_singleton.1 h']; exact hk
theorem vals_snoc {s : ByteArray} (pre : List (Place s)) (x : Place s) : (pre ++ [x]).map Subtype.val = pre.map Subtype.val ++ [x.val] := by simp
theorem hitA_no_low {l : List UInt8} {f : Int} {p : List UInt8} {a k : Nat} (h : ¬ f ≤ (a : Int) + (k : Int)) : hitA l f p a k = false := by simp [hitA, h]
theorem hitA_pre {l : List UInt8} {f : Int} {p : List UInt8} {a k : Nat} (h : f ≤ (a : Int) + (k : Int)) : hitA l f p a k = preB (l.drop (a + k)) p := by simp [hitA, h]

/-- The boxes of the call: the text, the place, the word, the result, the byte ahead, the rest. -/
def Boxes (H : Nat) (s : ByteArray) (f : Int) (p : ByteArray) (a : Nat) (t : ByteArray) (W : World) : Prop :=
  Boxed W H 9 (.string s) ∧ Boxed W (H + 1) 3 (.int .i64 f) ∧ Boxed W (H + 1 + 1) 9 (.string p) ∧ Boxed W (H + 1 + 1 + 1) 3 (.int .i64 0) ∧
    Boxed W (H + 1 + 1 + 1 + 1) 3 (.int .i64 (a : Int)) ∧ Boxed W (H + 1 + 1 + 1 + 1 + 1) 9 (.string t)

theorem boxes_own {β : Type} (H : Nat) (s : ByteArray) (f : Int) (p : ByteArray) (a : Nat) (t : ByteArray) : Own (fun (_ : β) W => Boxes H s f p a t W) := by
  intro b A B row h hg hr
  obtain ⟨h0, h1, h2, h3, h4, h5⟩ := h
  exact ⟨boxed_own H _ (fun _ : β => _) b A B row h0 hg hr, boxed_own _ _ (fun _ : β => _) b A B row h1 hg hr, boxed_own _ _ (fun _ : β => _) b A B row h2 hg hr, boxed_own _ _ (fun _ : β => _) b A B row h3 hg hr,
    boxed_own _ _ (fun _ : β => _) b A B row h4 hg hr, boxed_own _ _ (fun _ : β => _) b A B row h5 hg hr⟩

theorem boxes_new (w : World) (s : ByteArray) (f : Int) (p : ByteArray) (a : Nat) (t : ByteArray) (x : Int) (hx : x = (a : Int)) :
    Boxes w.heap.size s f p a t ((((((w.alloc (.cells #[.string s] 9)).alloc (.cells #[.int .i64 f] 3)).alloc (.cells #[.string p] 9)).alloc (.cells #[.int .i64 0] 3)).alloc (.cells #[.int .i64 x] 3)).alloc (.cells #[.string t] 9)) := by
  subst hx
  have b0 := Boxed.new w 9 (.string s)
  have b1 := Boxed.new (w.alloc (.cells #[.string s] 9)) 3 (.int .i64 f)
  have b2 := Boxed.new ((w.alloc (.cells #[.string s] 9)).alloc (.cells #[.int .i64 f] 3)) 9 (.string p)
  have b3 := Boxed.new (((w.alloc (.cells #[.string s] 9)).alloc (.cells #[.int .i64 f] 3)).alloc (.cells #[.string p] 9)) 3 (.int .i64 0)
  have b4 := Boxed.new ((((w.alloc (.cells #[.string s] 9)).alloc (.cells #[.int .i64 f] 3)).alloc (.cells #[.string p] 9)).alloc (.cells #[.int .i64 0] 3)) 3 (.int .i64 (a : Int))
  have b5 := Boxed.new (((((w.alloc (.cells #[.string s] 9)).alloc (.cells #[.int .i64 f] 3)).alloc (.cells #[.string p] 9)).alloc (.cells #[.int .i64 0] 3)).alloc (.cells #[.int .i64 (a : Int)] 3)) 9 (.string t)
  simp only [World.size_alloc] at b1 b2 b3 b4 b5
  exact ⟨((((b0.alloc _).alloc _).alloc _).alloc _).alloc _, (((b1.alloc _).alloc _).alloc _).alloc _, ((b2.alloc _).alloc _).alloc _, (b3.alloc _).alloc _, b4.alloc _, b5⟩

theorem calmIn {n : Nat} {P : Program} {f : FuncId} {args : Array Value} {w : World} {k : Nat} {v : Value} (l : Nat)
    (h : Calls P f args (w.drewN k) fun e w' => e = .returned v ∧ w.drewN k = w') : CallsIn (Fence.wide.inRound l) n P f args (w.drewN k) fun e w'' => e = .returned v ∧ ∃ m, w'' = w.drewN m :=
  CallsIn.inRound l ((callsIn_wide.2 h).mono fun _ _ ⟨he, hm⟩ => ⟨he, k, hm.symm⟩)
theorem pre_rest (s p : ByteArray) (k : Nat) (w : World) {b : Bool} (hb : preB (s.data.toList.drop k) p.data.toList = b) :
    Calls Try.prog 24 #[.string (s.extract k s.size), .string p] w fun e w' => e = .returned (.bool b) ∧ w = w' := by
  have h := pre_any (s.extract k s.size) p w
  rw [Lib.extract_to_end, hb] at h
  exact h

set_option maxRecDepth 100000 in
set_option maxHeartbeats 2000000 in
theorem line_low (n : Nat) (hn : 3 ≤ n) (s : ByteArray) (f : Int) (p : ByteArray) (hs : s.size ≤ maxLen) (hf0 : -9223372036854775808 ≤ f) (hf1 : f ≤ 9223372036854775807) (w : World) (hc : f < 1) :
    CallsIn Fence.wide n Try.prog 21 #[.string s, .int .i64 f, .string p] w (Answers (.int .i64 (lineI s.data.toList f p.data.toList)) w) := by
  have h1 : 1 ≤ n := by omega
  have hs' := hs
  unfold maxLen at hs
  refine callsIn_of_wp_marks Try.func21 rfl trivial ?_ rfl
  simp only [Try.ntmps21, List.size_toArray, List.length_cons, List.length_nil, Nat.reduceAdd, Nat.reduceSub, Array.replicate_succ, Array.replicate_zero, List.push_toArray, List.append_toArray, List.nil_append, List.cons_append]
  gi_wp2_with (refine ⟨trivial, ?_⟩; gi_at_call 18; refine (lines_maker _ _ _).mono ?_; rintro e w' ⟨rfl, rfl⟩)
  have HB0 := boxes_new w s f p 0 s 0 rfl
  have hbel : Below w.heap.size w ((((((w.alloc (.cells #[.string s] 9)).alloc (.cells #[.int .i64 f] 3)).alloc (.cells #[.string p] 9)).alloc (.cells #[.int .i64 0] 3)).alloc (.cells #[.int .i64 0] 3)).alloc (.cells #[.string s] 9)) :=
    (((((((Below.refl _ w).alloc (Nat.le_refl _) _).alloc (by simp) _).alloc (by simp; omega) _).alloc (by simp; omega) _).alloc (by simp; omega) _).alloc (by simp; omega) _)
  obtain ⟨W0, hW0⟩ : ∃ W0, ((((((w.alloc (.cells #[.string s] 9)).alloc (.cells #[.int .i64 f] 3)).alloc (.cells #[.string p] 9)).alloc (.cells #[.int .i64 0] 3)).alloc (.cells #[.int .i64 0] 3)).alloc (.cells #[.string s] 9)) = W0 := ⟨_, rfl⟩
  have hsz : w.heap.size + 6 ≤ W0.heap.size := by rw [← hW0]; simp
  rw [hW0] at HB0 hbel ⊢
  clear hW0
  obtain ⟨a, t, HB, ha, hle, ht, hts⟩ : ∃ (a : Nat) (t : ByteArray), Boxes w.heap.size s f p a t W0 ∧ (a = 0 ∨ (a : Int) < f) ∧ a ≤ s.size ∧ t.data.toList = s.data.toList.drop a ∧ t.size ≤ s.size :=
    ⟨_, _, HB0, (.inl rfl), (Nat.zero_le _), rfl, (Nat.le_refl _)⟩
  clear HB0
  have Ha := Lib.hid ha
  have Ht := Lib.hid ht
  clear ha ht
  have htl : t.size + a = s.size := by
    have h := congrArg List.length Ht.out
    rw [List.length_drop] at h
    simp only [Array.length_toList] at h
    have e1 : t.data.size = t.size := rfl
    have e2 : s.data.size = s.size := rfl
    omega
  have Htl := Lib.hid htl
  have htl' : t.size + a ≤ s.size := by omega
  clear htl
  refine wpIn_rangeFunc_ownG rfl h1 (gf := 25) (lb := #[.pointer (some ⟨w.heap.size + 1 + 1 + 1 + 1 + 1, 0, none⟩)]) rfl trivial (enters_of Try.func25 (by kernel_rfl) rfl)
    (lines_stop (n - 1) (by omega) (w.heap.size + 1 + 1 + 1 + 1 + 1) t (by unfold maxLen; omega) W0 (by omega) HB.2.2.2.2.2.cell) keepsBox_t (keepsBox_b (by omega)) (Below.refl _ _) (fun _ => rfl)
    (fun pre W => (Boxes w.heap.size s f p a t W ∧ MissAll s.data.toList f p.data.toList a (pre.map Subtype.val)) ∧ Below w.heap.size w W)
    (fun c pre W => ((c = Code.ret ∧ HitLast s.data.toList f p.data.toList a (pre.map Subtype.val)) ∧ Boxed W (w.heap.size + 1 + 1 + 1) 3 (.int .i64 ((a : Int) + (lastN (pre.map Subtype.val) : Int)))) ∧ Below w.heap.size w W)
    (OwnFrom.and (OwnFrom.and (Own.from (boxes_own _ _ _ _ _ _) _) (ownFrom_pure _ (fun pre : List (Place t) => MissAll s.data.toList f p.data.toList a (pre.map Subtype.val)))) (ownFrom_below (Nat.le_refl _) (by omega)))
    (fun c => OwnFrom.and (OwnFrom.and (ownFrom_pure _ (fun pre : List (Place t) => c = Code.ret ∧ HitLast s.data.toList f p.data.toList a (pre.map Subtype.val))) (Own.from (boxed_own (w.heap.size + 1 + 1 + 1) 3 (fun pre : List (Place t) => .int .i64 ((a : Int) + (lastN (pre.map Subtype.val) : Int)))) _)) (ownFrom_below (Nat.le_refl _) (by omega)))
    ⟨⟨HB, fun i hi => by cases hi⟩, hbel⟩
    (fun x => { tmps := #[.string s, .int .i64 f, .string p, .pointer (some ⟨w.heap.size, 0, none⟩), .pointer (some ⟨w.heap.size + 1, 0, none⟩), .pointer (some ⟨w.heap.size + 1 + 1, 0, none⟩), .pointer (some ⟨w.heap.size + 1 + 1 + 1, 0, none⟩), .pointer (some ⟨w.heap.size + 1 + 1 + 1 + 1, 0, none⟩), .int .i64 (x.val : Int), undef,
      .int .i64 f, .int .i64 1, .int .i64 0, .string s, .int .i64 s.size, .int .i64 0, .string s, .int .i64 0, .string s, .func (.func 25) #[] #[.pointer (some ⟨w.heap.size + 1 + 1 + 1 + 1 + 1, 0, none⟩)],
      .int .i64 (x.val : Int), undef, undef, undef, undef, undef, undef, undef, undef, undef, undef, undef, undef, undef, undef], defers := [] }) ?assign ?body ?done ?stop
  case assign =>
    intro l x W K hK
    gi_wp2
    exact hK
  case body =>
    rintro l pre ⟨x, hx⟩ W ⟨⟨HB', hmiss⟩, hB⟩ hlt
    have Hmiss := Lib.hid hmiss
    clear hmiss hlt
    have HBx := Lib.hid HB'
    obtain ⟨b0, b1, b2, b3, b4, b5⟩ := HB'
    have c0 := b0.cell
    have c1 := b1.cell
    have c2 := b2.cell
    have c3 := b3.cell
    have f3 := b3.frozen
    have c4 := b4.cell
    clear b0 b1 b2 b4
    have hmx : Try.prog.follows .mixedOrders = true := by kernel_rfl
    dsimp only
    have hin : a + x ≤ s.size := by omega
    have hfn : Fence.wide.fn 24 := trivial
    have hd1 : 1 ≤ n - 1 - 1 := by omega
    by_cases hge : f ≤ (a : Int) + (x : Int)
    · have hge' := Lib.hid hge
      cases hp : preB (s.data.toList.drop (a + x)) p.data.toList
      · have Hp := Lib.hid hp
        clear hp
        gi_wp2_with fail
        gi_region_with_o (gi_at_call 24; refine (CallsIn.inRound l (callsIn_wide.2 (pre_rest s p (a + x) _ Hp.out))).mono ?_; rintro e w' ⟨rfl, rfl⟩)
        all_goals gi_wp2_with fail
        all_goals (try go_bits)
        all_goals exact ⟨(KeepsOthers.drew _).from _, rfl, ⟨HBx.out, by rw [vals_snoc]; exact Hmiss.out.snoc (by rw [hitA_pre hge]; exact Hp.out)⟩, hB.drew⟩
      · have Hp := Lib.hid hp
        clear hp
        gi_wp2_with fail
        gi_region_with_o (gi_at_call 24; refine (CallsIn.inRound l (callsIn_wide.2 (pre_rest s p (a + x) _ Hp.out))).mono ?_; rintro e w' ⟨rfl, rfl⟩)
        all_goals gi_wp2_with fail
        all_goals (try go_bits)
        all_goals exact ⟨((KeepsOthers.setCell _ _ _).trans (KeepsOthers.drew _)).from _, ⟨⟨⟨rfl, pre.map Subtype.val, x, vals_snoc _ _, Hmiss.out, by rw [hitA_pre hge]; exact Hp.out⟩, by rw [vals_snoc, lastN_snoc]; exact b3.set _⟩, (hB.setCell (p := ⟨w.heap.size + 1 + 1 + 1, 0, none⟩) (show w.heap.size ≤ w.heap.size + 1 + 1 + 1 by omega) _).drew⟩⟩
    · exfalso; omega
  case done =>
    rintro D ys W hD hys ⟨⟨HB', hmiss⟩, hB⟩ hK
    have Hys := Lib.hid hys
    have Hmiss := Lib.hid hmiss
    clear hys hmiss
    obtain ⟨b0, b1, b2, b3, b4, b5⟩ := HB'
    have c3 := b3.cell
    have f3 := b3.frozen
    clear b0 b1 b2 b4 b5
    gi_wp2
    have hK' := (KeepsOthers.setCell W ⟨w.heap.size + 1 + 1 + 1, 0, none⟩ (.int .i64 (-1))).same D _ hK rfl
    refine ⟨by simp, .inl ⟨_, _, rfl, run_takeDeferred hK', ?_⟩⟩
    have hc5 := cell_kept (World.cell?_setCell_same' W ⟨w.heap.size + 1 + 1 + 1, 0, none⟩ (.int .i64 (-1)) (by rw [c3]; rfl)) (grownBy_putObj' _ D (.deferred none)) (fun r e => by cases e; exact ⟨_, hK', rfl⟩)
    refine ⟨.int .i64 (-1), ?_, ret_int (line_rest_none Ha.out (by simpa using hle) (fun k hk => Hmiss.out k (by rw [Hys.out, Ht.out]; exact hk))).symm, (hB.setCell (p := ⟨w.heap.size + 1 + 1 + 1, 0, none⟩) (show w.heap.size ≤ w.heap.size + 1 + 1 + 1 by omega) _).trans (belowK_b (w := w) (Nat.le_refl _) _ D _ _ (by omega) hK' rfl rfl)⟩
    simp [results, Try.f21, go_sem, hc5]
  case stop =>
    rintro D c pre W hD hpre ⟨⟨⟨rfl, hhit⟩, hbox⟩, hB⟩ hK
    have Hpre := Lib.hid hpre
    have Hhit := Lib.hid hhit
    clear hpre hhit
    have c3 := hbox.cell
    gi_wp2
    refine ⟨by simp, .inl ⟨_, _, rfl, run_takeDeferred hK, ?_⟩⟩
    have hc5 := cell_kept c3 (grownBy_putObj' _ D (.deferred none)) (fun r e => by cases e; exact ⟨_, hK, rfl⟩)
    refine ⟨.int .i64 ((a : Int) + (lastN (pre.map Subtype.val) : Int)), ?_, ret_int ?_, hB.trans (belowK_b (w := w) (Nat.le_refl _) W D _ _ (by omega) hK rfl rfl)⟩
    · simp [results, Try.f21, go_sem, hc5]
    · obtain ⟨q, k, e, hq, hk⟩ := Hhit.out
      have hp := Hpre.out
      rw [e, Ht.out] at hp
      rw [e, lastN_snoc, line_rest_hit Ha.out hp hq hk]
      omega

set_option maxRecDepth 100000 in
set_option maxHeartbeats 2000000 in
theorem line_mid (n : Nat) (hn : 3 ≤ n) (s : ByteArray) (f : Int) (p : ByteArray) (hs : s.size ≤ maxLen) (hf0 : -9223372036854775808 ≤ f) (hf1 : f ≤ 9223372036854775807) (w : World) (hc : 1 ≤ f) (hc' : f - 1 ≤ (s.size : Int)) :
    CallsIn Fence.wide n Try.prog 21 #[.string s, .int .i64 f, .string p] w (Answers (.int .i64 (lineI s.data.toList f p.data.toList)) w) := by
  have h1 : 1 ≤ n := by omega
  have hs' := hs
  unfold maxLen at hs
  refine callsIn_of_wp_marks Try.func21 rfl trivial ?_ rfl
  simp only [Try.ntmps21, List.size_toArray, List.length_cons, List.length_nil, Nat.reduceAdd, Nat.reduceSub, Array.replicate_succ, Array.replicate_zero, List.push_toArray, List.append_toArray, List.nil_append, List.cons_append]
  gi_wp2_with (refine ⟨trivial, ?_⟩; gi_at_call 18; refine (lines_maker _ _ _).mono ?_; rintro e w' ⟨rfl, rfl⟩)
  have HB0 := boxes_new w s f p (f.toNat - 1) (s.extract (f.toNat - 1) s.size) (f - 1) (by omega)
  have hbel : Below w.heap.size w ((((((w.alloc (.cells #[.string s] 9)).alloc (.cells #[.int .i64 f] 3)).alloc (.cells #[.string p] 9)).alloc (.cells #[.int .i64 0] 3)).alloc (.cells #[.int .i64 (f - 1)] 3)).alloc (.cells #[.string (s.extract (f.toNat - 1) s.size)] 9)) :=
    (((((((Below.refl _ w).alloc (Nat.le_refl _) _).alloc (by simp) _).alloc (by simp; omega) _).alloc (by simp; omega) _).alloc (by simp; omega) _).alloc (by simp; omega) _)
  obtain ⟨W0, hW0⟩ : ∃ W0, ((((((w.alloc (.cells #[.string s] 9)).alloc (.cells #[.int .i64 f] 3)).alloc (.cells #[.string p] 9)).alloc (.cells #[.int .i64 0] 3)).alloc (.cells #[.int .i64 (f - 1)] 3)).alloc (.cells #[.string (s.extract (f.toNat - 1) s.size)] 9)) = W0 := ⟨_, rfl⟩
  have hsz : w.heap.size + 6 ≤ W0.heap.size := by rw [← hW0]; simp
  rw [hW0] at HB0 hbel ⊢
  clear hW0
  obtain ⟨a, t, HB, ha, hle, ht, hts⟩ : ∃ (a : Nat) (t : ByteArray), Boxes w.heap.size s f p a t W0 ∧ (a = 0 ∨ (a : Int) < f) ∧ a ≤ s.size ∧ t.data.toList = s.data.toList.drop a ∧ t.size ≤ s.size :=
    ⟨_, _, HB0, (.inr (by omega)), (by omega), (Lib.extract_to_end s (f.toNat - 1)), (by rw [ByteArray.size_extract]; omega)⟩
  clear HB0
  have Ha := Lib.hid ha
  have Ht := Lib.hid ht
  clear ha ht
  have htl : t.size + a = s.size := by
    have h := congrArg List.length Ht.out
    rw [List.length_drop] at h
    simp only [Array.length_toList] at h
    have e1 : t.data.size = t.size := rfl
    have e2 : s.data.size = s.size := rfl
    omega
  have Htl := Lib.hid htl
  have htl' : t.size + a ≤ s.size := by omega
  clear htl
  refine wpIn_rangeFunc_ownG rfl h1 (gf := 25) (lb := #[.pointer (some ⟨w.heap.size + 1 + 1 + 1 + 1 + 1, 0, none⟩)]) rfl trivial (enters_of Try.func25 (by kernel_rfl) rfl)
    (lines_stop (n - 1) (by omega) (w.heap.size + 1 + 1 + 1 + 1 + 1) t (by unfold maxLen; omega) W0 (by omega) HB.2.2.2.2.2.cell) keepsBox_t (keepsBox_b (by omega)) (Below.refl _ _) (fun _ => rfl)
    (fun pre W => (Boxes w.heap.size s f p a t W ∧ MissAll s.data.toList f p.data.toList a (pre.map Subtype.val)) ∧ Below w.heap.size w W)
    (fun c pre W => ((c = Code.ret ∧ HitLast s.data.toList f p.data.toList a (pre.map Subtype.val)) ∧ Boxed W (w.heap.size + 1 + 1 + 1) 3 (.int .i64 ((a : Int) + (lastN (pre.map Subtype.val) : Int)))) ∧ Below w.heap.size w W)
    (OwnFrom.and (OwnFrom.and (Own.from (boxes_own _ _ _ _ _ _) _) (ownFrom_pure _ (fun pre : List (Place t) => MissAll s.data.toList f p.data.toList a (pre.map Subtype.val)))) (ownFrom_below (Nat.le_refl _) (by omega)))
    (fun c => OwnFrom.and (OwnFrom.and (ownFrom_pure _ (fun pre : List (Place t) => c = Code.ret ∧ HitLast s.data.toList f p.data.toList a (pre.map Subtype.val))) (Own.from (boxed_own (w.heap.size + 1 + 1 + 1) 3 (fun pre : List (Place t) => .int .i64 ((a : Int) + (lastN (pre.map Subtype.val) : Int)))) _)) (ownFrom_below (Nat.le_refl _) (by omega)))
    ⟨⟨HB, fun i hi => by cases hi⟩, hbel⟩
    (fun x => { tmps := #[.string s, .int .i64 f, .string p, .pointer (some ⟨w.heap.size, 0, none⟩), .pointer (some ⟨w.heap.size + 1, 0, none⟩), .pointer (some ⟨w.heap.size + 1 + 1, 0, none⟩), .pointer (some ⟨w.heap.size + 1 + 1 + 1, 0, none⟩), .pointer (some ⟨w.heap.size + 1 + 1 + 1 + 1, 0, none⟩), .int .i64 (x.val : Int), undef,
      .int .i64 f, .int .i64 f, .int .i64 (f - 1), .string s, .int .i64 s.size, .int .i64 (f - 1), .string s, .int .i64 (f - 1), .string (s.extract (f.toNat - 1) s.size), .func (.func 25) #[] #[.pointer (some ⟨w.heap.size + 1 + 1 + 1 + 1 + 1, 0, none⟩)],
      .int .i64 (x.val : Int), undef, undef, undef, undef, undef, undef, undef, undef, undef, undef, undef, undef, undef, undef], defers := [] }) ?assign ?body ?done ?stop
  case assign =>
    intro l x W K hK
    gi_wp2
    exact hK
  case body =>
    rintro l pre ⟨x, hx⟩ W ⟨⟨HB', hmiss⟩, hB⟩ hlt
    have Hmiss := Lib.hid hmiss
    clear hmiss hlt
    have HBx := Lib.hid HB'
    obtain ⟨b0, b1, b2, b3, b4, b5⟩ := HB'
    have c0 := b0.cell
    have c1 := b1.cell
    have c2 := b2.cell
    have c3 := b3.cell
    have f3 := b3.frozen
    have c4 := b4.cell
    clear b0 b1 b2 b4
    have hmx : Try.prog.follows .mixedOrders = true := by kernel_rfl
    dsimp only
    have hin : a + x ≤ s.size := by omega
    have hfn : Fence.wide.fn 24 := trivial
    have hd1 : 1 ≤ n - 1 - 1 := by omega
    by_cases hge : f ≤ (a : Int) + (x : Int)
    · have hge' := Lib.hid hge
      cases hp : preB (s.data.toList.drop (a + x)) p.data.toList
      · have Hp := Lib.hid hp
        clear hp
        gi_wp2_with fail
        gi_region_with_o (gi_at_call 24; refine (CallsIn.inRound l (callsIn_wide.2 (pre_rest s p (a + x) _ Hp.out))).mono ?_; rintro e w' ⟨rfl, rfl⟩)
        all_goals gi_wp2_with fail
        all_goals (try go_bits)
        all_goals exact ⟨(KeepsOthers.drew _).from _, rfl, ⟨HBx.out, by rw [vals_snoc]; exact Hmiss.out.snoc (by rw [hitA_pre hge]; exact Hp.out)⟩, hB.drew⟩
      · have Hp := Lib.hid hp
        clear hp
        gi_wp2_with fail
        gi_region_with_o (gi_at_call 24; refine (CallsIn.inRound l (callsIn_wide.2 (pre_rest s p (a + x) _ Hp.out))).mono ?_; rintro e w' ⟨rfl, rfl⟩)
        all_goals gi_wp2_with fail
        all_goals (try go_bits)
        all_goals exact ⟨((KeepsOthers.setCell _ _ _).trans (KeepsOthers.drew _)).from _, ⟨⟨⟨rfl, pre.map Subtype.val, x, vals_snoc _ _, Hmiss.out, by rw [hitA_pre hge]; exact Hp.out⟩, by rw [vals_snoc, lastN_snoc]; exact b3.set _⟩, (hB.setCell (p := ⟨w.heap.size + 1 + 1 + 1, 0, none⟩) (show w.heap.size ≤ w.heap.size + 1 + 1 + 1 by omega) _).drew⟩⟩
    · gi_wp2_with fail
      gi_region_o
      all_goals gi_wp2_with fail
      all_goals (try go_bits)
      all_goals exact ⟨(KeepsOthers.drew _).from _, rfl, ⟨HBx.out, by rw [vals_snoc]; exact Hmiss.out.snoc (hitA_no_low (show ¬ f ≤ (a : Int) + (x : Int) by omega))⟩, hB.drew⟩
  case done =>
    rintro D ys W hD hys ⟨⟨HB', hmiss⟩, hB⟩ hK
    have Hys := Lib.hid hys
    have Hmiss := Lib.hid hmiss
    clear hys hmiss
    obtain ⟨b0, b1, b2, b3, b4, b5⟩ := HB'
    have c3 := b3.cell
    have f3 := b3.frozen
    clear b0 b1 b2 b4 b5
    gi_wp2
    have hK' := (KeepsOthers.setCell W ⟨w.heap.size + 1 + 1 + 1, 0, none⟩ (.int .i64 (-1))).same D _ hK rfl
    refine ⟨by simp, .inl ⟨_, _, rfl, run_takeDeferred hK', ?_⟩⟩
    have hc5 := cell_kept (World.cell?_setCell_same' W ⟨w.heap.size + 1 + 1 + 1, 0, none⟩ (.int .i64 (-1)) (by rw [c3]; rfl)) (grownBy_putObj' _ D (.deferred none)) (fun r e => by cases e; exact ⟨_, hK', rfl⟩)
    refine ⟨.int .i64 (-1), ?_, ret_int (line_rest_none Ha.out (by simpa using hle) (fun k hk => Hmiss.out k (by rw [Hys.out, Ht.out]; exact hk))).symm, (hB.setCell (p := ⟨w.heap.size + 1 + 1 + 1, 0, none⟩) (show w.heap.size ≤ w.heap.size + 1 + 1 + 1 by omega) _).trans (belowK_b (w := w) (Nat.le_refl _) _ D _ _ (by omega) hK' rfl rfl)⟩
    simp [results, Try.f21, go_sem, hc5]
  case stop =>
    rintro D c pre W hD hpre ⟨⟨⟨rfl, hhit⟩, hbox⟩, hB⟩ hK
    have Hpre := Lib.hid hpre
    have Hhit := Lib.hid hhit
    clear hpre hhit
    have c3 := hbox.cell
    gi_wp2
    refine ⟨by simp, .inl ⟨_, _, rfl, run_takeDeferred hK, ?_⟩⟩
    have hc5 := cell_kept c3 (grownBy_putObj' _ D (.deferred none)) (fun r e => by cases e; exact ⟨_, hK, rfl⟩)
    refine ⟨.int .i64 ((a : Int) + (lastN (pre.map Subtype.val) : Int)), ?_, ret_int ?_, hB.trans (belowK_b (w := w) (Nat.le_refl _) W D _ _ (by omega) hK rfl rfl)⟩
    · simp [results, Try.f21, go_sem, hc5]
    · obtain ⟨q, k, e, hq, hk⟩ := Hhit.out
      have hp := Hpre.out
      rw [e, Ht.out] at hp
      rw [e, lastN_snoc, line_rest_hit Ha.out hp hq hk]
      omega

set_option maxRecDepth 100000 in
set_option maxHeartbeats 2000000 in
theorem line_far (n : Nat) (hn : 3 ≤ n) (s : ByteArray) (f : Int) (p : ByteArray) (hs : s.size ≤ maxLen) (hf0 : -9223372036854775808 ≤ f) (hf1 : f ≤ 9223372036854775807) (w : World) (hc : 1 ≤ f) (hc' : (s.size : Int) < f - 1) :
    CallsIn Fence.wide n Try.prog 21 #[.string s, .int .i64 f, .string p] w (Answers (.int .i64 (lineI s.data.toList f p.data.toList)) w) := by
  have h1 : 1 ≤ n := by omega
  have hs' := hs
  unfold maxLen at hs
  refine callsIn_of_wp_marks Try.func21 rfl trivial ?_ rfl
  simp only [Try.ntmps21, List.size_toArray, List.length_cons, List.length_nil, Nat.reduceAdd, Nat.reduceSub, Array.replicate_succ, Array.replicate_zero, List.push_toArray, List.append_toArray, List.nil_append, List.cons_append]
  gi_wp2_with (refine ⟨trivial, ?_⟩; gi_at_call 18; refine (lines_maker _ _ _).mono ?_; rintro e w' ⟨rfl, rfl⟩)
  have HB0 := boxes_new w s f p s.size ByteArray.empty (s.size : Int) rfl
  have hbel : Below w.heap.size w ((((((w.alloc (.cells #[.string s] 9)).alloc (.cells #[.int .i64 f] 3)).alloc (.cells #[.string p] 9)).alloc (.cells #[.int .i64 0] 3)).alloc (.cells #[.int .i64 (s.size : Int)] 3)).alloc (.cells #[.string ByteArray.empty] 9)) :=
    (((((((Below.refl _ w).alloc (Nat.le_refl _) _).alloc (by simp) _).alloc (by simp; omega) _).alloc (by simp; omega) _).alloc (by simp; omega) _).alloc (by simp; omega) _)
  obtain ⟨W0, hW0⟩ : ∃ W0, ((((((w.alloc (.cells #[.string s] 9)).alloc (.cells #[.int .i64 f] 3)).alloc (.cells #[.string p] 9)).alloc (.cells #[.int .i64 0] 3)).alloc (.cells #[.int .i64 (s.size : Int)] 3)).alloc (.cells #[.string ByteArray.empty] 9)) = W0 := ⟨_, rfl⟩
  have hsz : w.heap.size + 6 ≤ W0.heap.size := by rw [← hW0]; simp
  rw [hW0] at HB0 hbel ⊢
  clear hW0
  obtain ⟨a, t, HB, ha, hle, ht, hts⟩ : ∃ (a : Nat) (t : ByteArray), Boxes w.heap.size s f p a t W0 ∧ (a = 0 ∨ (a : Int) < f) ∧ a ≤ s.size ∧ t.data.toList = s.data.toList.drop a ∧ t.size ≤ s.size :=
    ⟨_, _, HB0, (.inr (by omega)), (Nat.le_refl _), (by rw [List.drop_eq_nil_of_le (by simp)]; rfl), (Nat.zero_le _)⟩
  clear HB0
  have Ha := Lib.hid ha
  have Ht := Lib.hid ht
  clear ha ht
  have htl : t.size + a = s.size := by
    have h := congrArg List.length Ht.out
    rw [List.length_drop] at h
    simp only [Array.length_toList] at h
    have e1 : t.data.size = t.size := rfl
    have e2 : s.data.size = s.size := rfl
    omega
  have Htl := Lib.hid htl
  have htl' : t.size + a ≤ s.size := by omega
  clear htl
  refine wpIn_rangeFunc_ownG rfl h1 (gf := 25) (lb := #[.pointer (some ⟨w.heap.size + 1 + 1 + 1 + 1 + 1, 0, none⟩)]) rfl trivial (enters_of Try.func25 (by kernel_rfl) rfl)
    (lines_stop (n - 1) (by omega) (w.heap.size + 1 + 1 + 1 + 1 + 1) t (by unfold maxLen; omega) W0 (by omega) HB.2.2.2.2.2.cell) keepsBox_t (keepsBox_b (by omega)) (Below.refl _ _) (fun _ => rfl)
    (fun pre W => (Boxes w.heap.size s f p a t W ∧ MissAll s.data.toList f p.data.toList a (pre.map Subtype.val)) ∧ Below w.heap.size w W)
    (fun c pre W => ((c = Code.ret ∧ HitLast s.data.toList f p.data.toList a (pre.map Subtype.val)) ∧ Boxed W (w.heap.size + 1 + 1 + 1) 3 (.int .i64 ((a : Int) + (lastN (pre.map Subtype.val) : Int)))) ∧ Below w.heap.size w W)
    (OwnFrom.and (OwnFrom.and (Own.from (boxes_own _ _ _ _ _ _) _) (ownFrom_pure _ (fun pre : List (Place t) => MissAll s.data.toList f p.data.toList a (pre.map Subtype.val)))) (ownFrom_below (Nat.le_refl _) (by omega)))
    (fun c => OwnFrom.and (OwnFrom.and (ownFrom_pure _ (fun pre : List (Place t) => c = Code.ret ∧ HitLast s.data.toList f p.data.toList a (pre.map Subtype.val))) (Own.from (boxed_own (w.heap.size + 1 + 1 + 1) 3 (fun pre : List (Place t) => .int .i64 ((a : Int) + (lastN (pre.map Subtype.val) : Int)))) _)) (ownFrom_below (Nat.le_refl _) (by omega)))
    ⟨⟨HB, fun i hi => by cases hi⟩, hbel⟩
    (fun x => { tmps := #[.string s, .int .i64 f, .string p, .pointer (some ⟨w.heap.size, 0, none⟩), .pointer (some ⟨w.heap.size + 1, 0, none⟩), .pointer (some ⟨w.heap.size + 1 + 1, 0, none⟩), .pointer (some ⟨w.heap.size + 1 + 1 + 1, 0, none⟩), .pointer (some ⟨w.heap.size + 1 + 1 + 1 + 1, 0, none⟩), .int .i64 (x.val : Int), undef,
      .int .i64 f, .int .i64 f, .int .i64 (f - 1), .string s, .int .i64 s.size, .int .i64 (s.size : Int), .string s, .int .i64 (s.size : Int), .string ByteArray.empty, .func (.func 25) #[] #[.pointer (some ⟨w.heap.size + 1 + 1 + 1 + 1 + 1, 0, none⟩)],
      .int .i64 (x.val : Int), undef, undef, undef, undef, undef, undef, undef, undef, undef, undef, undef, undef, undef, undef], defers := [] }) ?assign ?body ?done ?stop
  case assign =>
    intro l x W K hK
    gi_wp2
    exact hK
  case body =>
    rintro l pre ⟨x, hx⟩ W ⟨⟨HB', hmiss⟩, hB⟩ hlt
    have Hmiss := Lib.hid hmiss
    clear hmiss hlt
    have HBx := Lib.hid HB'
    obtain ⟨b0, b1, b2, b3, b4, b5⟩ := HB'
    have c0 := b0.cell
    have c1 := b1.cell
    have c2 := b2.cell
    have c3 := b3.cell
    have f3 := b3.frozen
    have c4 := b4.cell
    clear b0 b1 b2 b4
    have hmx : Try.prog.follows .mixedOrders = true := by kernel_rfl
    dsimp only
    have hin : a + x ≤ s.size := by omega
    have hfn : Fence.wide.fn 24 := trivial
    have hd1 : 1 ≤ n - 1 - 1 := by omega
    by_cases hge : f ≤ (a : Int) + (x : Int)
    · have hge' := Lib.hid hge
      exfalso; have := hge'.out; omega
    · gi_wp2_with fail
      gi_region_o
      all_goals gi_wp2_with fail
      all_goals (try go_bits)
      all_goals exact ⟨(KeepsOthers.drew _).from _, rfl, ⟨HBx.out, by rw [vals_snoc]; exact Hmiss.out.snoc (hitA_no_low (show ¬ f ≤ (a : Int) + (x : Int) by omega))⟩, hB.drew⟩
  case done =>
    rintro D ys W hD hys ⟨⟨HB', hmiss⟩, hB⟩ hK
    have Hys := Lib.hid hys
    have Hmiss := Lib.hid hmiss
    clear hys hmiss
    obtain ⟨b0, b1, b2, b3, b4, b5⟩ := HB'
    have c3 := b3.cell
    have f3 := b3.frozen
    clear b0 b1 b2 b4 b5
    gi_wp2
    have hK' := (KeepsOthers.setCell W ⟨w.heap.size + 1 + 1 + 1, 0, none⟩ (.int .i64 (-1))).same D _ hK rfl
    refine ⟨by simp, .inl ⟨_, _, rfl, run_takeDeferred hK', ?_⟩⟩
    have hc5 := cell_kept (World.cell?_setCell_same' W ⟨w.heap.size + 1 + 1 + 1, 0, none⟩ (.int .i64 (-1)) (by rw [c3]; rfl)) (grownBy_putObj' _ D (.deferred none)) (fun r e => by cases e; exact ⟨_, hK', rfl⟩)
    refine ⟨.int .i64 (-1), ?_, ret_int (line_rest_none Ha.out (by simpa using hle) (fun k hk => Hmiss.out k (by rw [Hys.out, Ht.out]; exact hk))).symm, (hB.setCell (p := ⟨w.heap.size + 1 + 1 + 1, 0, none⟩) (show w.heap.size ≤ w.heap.size + 1 + 1 + 1 by omega) _).trans (belowK_b (w := w) (Nat.le_refl _) _ D _ _ (by omega) hK' rfl rfl)⟩
    simp [results, Try.f21, go_sem, hc5]
  case stop =>
    rintro D c pre W hD hpre ⟨⟨⟨rfl, hhit⟩, hbox⟩, hB⟩ hK
    have Hpre := Lib.hid hpre
    have Hhit := Lib.hid hhit
    clear hpre hhit
    have c3 := hbox.cell
    gi_wp2
    refine ⟨by simp, .inl ⟨_, _, rfl, run_takeDeferred hK, ?_⟩⟩
    have hc5 := cell_kept c3 (grownBy_putObj' _ D (.deferred none)) (fun r e => by cases e; exact ⟨_, hK, rfl⟩)
    refine ⟨.int .i64 ((a : Int) + (lastN (pre.map Subtype.val) : Int)), ?_, ret_int ?_, hB.trans (belowK_b (w := w) (Nat.le_refl _) W D _ _ (by omega) hK rfl rfl)⟩
    · simp [results, Try.f21, go_sem, hc5]
    · obtain ⟨q, k, e, hq, hk⟩ := Hhit.out
      have hp := Hpre.out
      rw [e, Ht.out] at hp
      rw [e, lastN_snoc, line_rest_hit Ha.out hp hq hk]
      omega


theorem line_in (n : Nat) (hn : 3 ≤ n) (s : ByteArray) (f : Int) (p : ByteArray) (hs : s.size ≤ maxLen) (hf0 : -9223372036854775808 ≤ f) (hf1 : f ≤ 9223372036854775807) (w : World) :
    CallsIn Fence.wide n Try.prog 21 #[.string s, .int .i64 f, .string p] w (Answers (.int .i64 (lineI s.data.toList f p.data.toList)) w) := by
  by_cases hc : f < 1
  · exact line_low n hn s f p hs hf0 hf1 w hc
  · by_cases hc' : f - 1 ≤ (s.size : Int)
    · exact line_mid n hn s f p hs hf0 hf1 w (by omega) hc'
    · exact line_far n hn s f p hs hf0 hf1 w (by omega) (by omega)

end Go.Proofs.Ytplffjnphlfheaa
