/-
  TkTok, TkSay, TkName: texts merged.
-/
import Derived.Test.YtejgcnmbngdkiaaGreatDoorNPlain
import Derived.Test.YtejgcnmbngdkiaaGreatDoorRows
import Derived.Test.YtejgcnmbngdkiaaGreatDoorNOct
import Derived.Laws.Tables
import Derived.Test.YtejgcnmbngdkiaaGreatDoorNBld
import Derived.Test.YtejgcnmbngdkiaaGreatDoorNSkip
/-
  api.Token in memory: a struct of five cells.
-/
namespace Go.Proofs.YtejgcnmbngdkiaaGreatDoor
section
open Go.RowKit
set_option maxRecDepth 100000

def tokC (k n : Int) (s : ByteArray) (a e : Int) : Array Value := #[.int .i64 k, .int .i64 n, .string s, .int .i64 a, .int .i64 e]
/-- A sign as the program holds it; and beside it the error. -/
def Sg.tok (x : Sg) : Array Value := tokC x.kind x.num (bytes x.str) (x.beg : Int) (x.fin : Int)
def Sg.told (x : Sg) : Value := .tuple #[.agg x.tok, .int .i64 x.code]
theorem info_tok : (Tryz.prog.info? 52).map (·.size) = some 5 := by kernel_rfl
/-- A block that holds one. -/
def TokCell (w : World) (b : Nat) (cs : Array Value) : Prop := w.heap[b]? = some (.cells cs 52 (0, 0))
theorem TokCell.cell {w : World} {b : Nat} {cs : Array Value} (h : TokCell w b cs) (j : Nat) : w.cell? ⟨b, j, none⟩ = cs[j]? := cell_of_row _ _ _ _ _ _ h
theorem TokCell.free {w : World} {b : Nat} {cs : Array Value} (h : TokCell w b cs) (j : Nat) : w.frozen? ⟨b, j, none⟩ = false := frozen_of_row _ _ _ _ _ h
theorem TokCell.lt {w : World} {b : Nat} {cs : Array Value} (h : TokCell w b cs) : b < w.heap.size := by
  rcases Nat.lt_or_ge b w.heap.size with h' | h'
  · exact h'
  · unfold TokCell at h; rw [Array.getElem?_eq_none h'] at h; cases h
theorem TokCell.later {w w' : World} {b : Nat} {cs : Array Value} (h : TokCell w b cs) {B : Nat} (hb : Below B w w') (hB : b < B) : TokCell w' b cs := (hb.block b hB).trans h
theorem TokCell.new (w : World) (cs : Array Value) : TokCell (w.alloc (.cells cs 52)) w.heap.size cs := heap_alloc_new w _
theorem TokCell.set {w : World} {b : Nat} {cs : Array Value} (h : TokCell w b cs) (j : Nat) (v : Value) : TokCell (w.setCell ⟨b, j, none⟩ v) b (cs.setIfInBounds j v) := heap_setCell_same _ _ j _ _ _ h
theorem tokC_one (k n : Int) (s : ByteArray) (a e : Int) : (tokC k n s a e).all (·.oneCell') = true := by
  have h : (tokC k n s a e).toList.all (·.oneCell') = true := rfl
  simpa using h
/-- It is stored whole. -/
theorem TokCell.store {ops : Array Oper} {rest : List Oper} {o : Oper} {act : Act} {w : World} {Q : Exit → Act → World → Prop} (hgd : o.guard = none) (hdst : o.dst = none) (x y : Operand) (ho : o.op = .store 52 x y)
    (b : Nat) (cs : Array Value) (k n : Int) (s : ByteArray) (a e : Int) (hx : act.eval x = .pointer (some ⟨b, 0, none⟩)) (hy : act.eval y = .agg (tokC k n s a e)) (hg : TokCell w b cs) (hcs : cs.size = 5) (B : Nat) (w0 : World) (hb : Below B w0 w) (hB : B ≤ b)
    (h : ∀ w', Hid (TokCell w' b (tokC k n s a e)) → Hid (Below B w0 w') → Hid (∀ k, k ≠ b → w'.heap[k]? = w.heap[k]?) → wpList Tryz.prog ops Q rest act w') : wpList Tryz.prog ops Q (o :: rest) act w := by
  refine wpList_plain hgd fun K hK => ?_
  refine wp_store_row _ x y ho b (tokC k n s a e) hx hy _ cs hg info_tok (by rw [hcs]; rfl) (tokC_one _ _ _ _ _) (hK _ _ ?_)
  have hr := h _ (Lib.hid (setRow_heap _ _ _ _ _ _ hg)) (Lib.hid (hb.trans ⟨rfl, rfl, rfl, by simp, fun k hk => setRow_other _ _ _ _ (by omega)⟩)) (Lib.hid fun k hk => setRow_other _ _ _ _ hk)
  rw [hdst]
  exact hr
/-- It is loaded whole. -/
theorem TokCell.load {ops : Array Oper} {rest : List Oper} {o : Oper} {act : Act} {w : World} {Q : Exit → Act → World → Prop} (hgd : o.guard = none) (x : Operand) (ho : o.op = .load 52 x)
    (b : Nat) (cs : Array Value) (hx : act.eval x = .pointer (some ⟨b, 0, none⟩)) (hg : TokCell w b cs) (hcs : cs.size = 5) (h : wpList Tryz.prog ops Q rest (act.put o.dst (.agg cs)) w) : wpList Tryz.prog ops Q (o :: rest) act w :=
  wpList_load_row hgd _ x ho b hx _ _ _ _ hg Tryz.underlying52 rfl (by rw [hcs]; exact info_tok) h
/-- What the parts of it are. -/
theorem TokCell.parts {w : World} {b : Nat} {k n : Int} {s : ByteArray} {a e : Int} (h : TokCell w b (tokC k n s a e)) :
    w.cell? ⟨b, 0, none⟩ = some (.int .i64 k) ∧ w.cell? ⟨b, 1, none⟩ = some (.int .i64 n) ∧ w.cell? ⟨b, 2, none⟩ = some (.string s) ∧ w.cell? ⟨b, 3, none⟩ = some (.int .i64 a) ∧ w.cell? ⟨b, 4, none⟩ = some (.int .i64 e) :=
  ⟨h.cell 0, h.cell 1, h.cell 2, h.cell 3, h.cell 4⟩
theorem told_err {c : Int} : (Sg.err c).told = .tuple #[.agg (tokC 0 0 ⟨#[]⟩ 0 0), .int .i64 c] := rfl

end
end Go.Proofs.YtejgcnmbngdkiaaGreatDoor
/-
  What a function that tells a sign keeps: the sign, a builder, and all else as it was.
-/
namespace Go.Proofs.YtejgcnmbngdkiaaGreatDoor
section
open Go.RowKit
set_option maxRecDepth 100000

/-- The sign that is to be told, a builder behind it, and all else as it was. -/
def SayAt (w : World) (out : List UInt8) (wx : World) : Prop :=
  TokCell wx w.heap.size (tokC 0 0 ⟨#[]⟩ 0 0) ∧ Bld (w.heap.size + 1) (w.heap.size + 1) out wx ∧ Below w.heap.size w wx ∧ w.heap.size + 2 ≤ wx.heap.size
theorem SayAt.new (w : World) : SayAt w [] ((w.alloc (.cells (tokC 0 0 ⟨#[]⟩ 0 0) 52)).alloc (.cells #[.pointer none, .slice none 0 0] 46)) := by
  refine ⟨?_, ?_, ((Below.refl _ w).alloc (Nat.le_refl _) _).alloc (by simp) _, by simp⟩
  · unfold TokCell
    rw [Lib.alloc_old _ _ _ (by simp)]
    exact heap_alloc_new _ _
  · have := Bld.fresh (w.alloc (.cells (tokC 0 0 ⟨#[]⟩ 0 0) 52))
    simpa using this
theorem SayAt.write {w wx w' : World} {out out' : List UInt8} (h : SayAt w out wx) (hb : Below (w.heap.size + 1) wx w') (hn : Bld (w.heap.size + 1) (w.heap.size + 1) out' w') : SayAt w out' w' :=
  ⟨h.1.later hb (Nat.lt_succ_self _), hn, h.2.2.1.trans (hb.mono (Nat.le_succ _)), Nat.le_trans h.2.2.2 hb.size⟩
theorem SayAt.later {w wx w' : World} {out : List UInt8} (h : SayAt w out wx) (hb : Below wx.heap.size wx w') : SayAt w out w' :=
  ⟨h.1.later hb h.1.lt, h.2.1.later hb, h.2.2.1.trans (hb.mono h.2.2.1.size), Nat.le_trans h.2.2.2 hb.size⟩
theorem say_len {w wx : World} {out : List UInt8} (h : SayAt w out wx) : Calls Tryz.prog 76 #[.pointer (some ⟨w.heap.size + 1, 0, none⟩)] wx fun e w' => e = .returned (.int .i64 out.length) ∧ wx = w' := len_is _ _ _ _ h.2.1
theorem say_byte {w wx : World} {out : List UInt8} (c : UInt8) (h : SayAt w out wx) (hl : out.length ≤ 1000000000) : Calls Tryz.prog 74 #[.pointer (some ⟨w.heap.size + 1, 0, none⟩), .int .u8 (c.toNat : Int)] wx fun e w' => e = .returned .nilIface ∧ SayAt w (out ++ [c]) w' :=
  (wbyte_is _ _ _ c _ h.2.1 (by omega) (by have := h.2.2.2; omega)).mono fun e w' ⟨he, hn, hb, _⟩ => ⟨he, h.write hb hn⟩
theorem say_text {w wx : World} {out : List UInt8} (s : ByteArray) (h : SayAt w out wx) (hl : out.length + s.size ≤ 1000000000) : Calls Tryz.prog 44 #[.pointer (some ⟨w.heap.size + 1, 0, none⟩), .string s] wx fun e w' => e = .returned (.tuple #[.int .i64 s.size, .nilIface]) ∧ SayAt w (out ++ s.data.toList) w' :=
  (wstr_is _ _ _ s _ h.2.1 (by omega) (by have := h.2.2.2; omega)).mono fun e w' ⟨he, hn, hb, _⟩ => ⟨he, h.write hb hn⟩
theorem say_string {w wx : World} {out : List UInt8} (h : SayAt w out wx) : Calls Tryz.prog 17 #[.pointer (some ⟨w.heap.size + 1, 0, none⟩)] wx fun e w' => e = .returned (.string (bytes out)) ∧ SayAt w out w' :=
  (string_is _ _ _ _ h.2.1 (by have := h.2.2.2; omega)).mono fun e w' ⟨he, hn, hb, _⟩ => ⟨he, h.write hb hn⟩

theorem kind_is (c : UInt8) {x : Int} (h : kindI (c.toNat : Int) = x) (w : World) : Calls Tryz.prog 71 #[.int .u8 (c.toNat : Int)] w fun e w' => e = .returned (.int .i64 x) ∧ w = w' := by
  rw [← h]; exact kind_any _ w

end
end Go.Proofs.YtejgcnmbngdkiaaGreatDoor
/-
  token.name: a name, from its / on.
-/
namespace Go.Proofs.YtejgcnmbngdkiaaGreatDoor
section
open Go.RowKit
set_option maxRecDepth 100000

set_option maxHeartbeats 2000000 in
theorem name_any (u : ByteArray) (w : World) (hs : u.size ≤ 1000000000) (h0 : 0 < u.size) :
    Calls Tryz.prog 54 #[.string u] w fun e w' => e = .returned (nameGo [] 1 (u.data.toList.drop 1)).told ∧ Below w.heap.size w w' := by
  obtain ⟨r, hr⟩ : ∃ r, nameGo [] 1 (u.data.toList.drop 1) = r := ⟨_, rfl⟩
  rw [hr]
  have Hr := Lib.hid hr
  clear hr
  have HS0 := Lib.hid (SayAt.new w)
  unfold tokC at HS0
  go_enter Tryz.func54, Tryz.ntmps54
  go_wp2_with fail
  go_loopg [5] (u.size - 1) (fun g v5 wx => ∃ (k : Nat) (out : List UInt8), k + g = u.size ∧ v5 = .int .i64 k ∧ out.length ≤ 127 ∧ Aside (nameGo out k (u.data.toList.drop k) = r) ∧ Aside (SayAt w out wx))
  case atStart => exact ⟨1, [], by omega, rfl, by decide, Hr.out, HS0.out⟩
  case round =>
    obtain ⟨k, out, hk, rfl, ho, HR, HS⟩ := hrel
    clear Hr HS0
    have HLen := Lib.hid (say_len HS.out)
    cases gk with
    | zero =>
      obtain rfl : k = u.size := by omega
      have hz : ¬ ((u.size : Int) < (u.size : Int)) := by omega
      have h := HR.out
      rw [drop_end u _ (Nat.le_refl _), name_nil] at h
      subst h
      go_wp2_with fail
      refine (say_string HS.out).mono ?_
      rintro e w1 ⟨rfl, hn⟩
      have HN := Lib.hid hn
      clear hn
      go_wp2_with (refine TokCell.store rfl rfl _ _ rfl w.heap.size (tokC 0 0 ⟨#[]⟩ 0 0) _ _ _ _ _ rfl rfl HN.out.1 rfl w.heap.size w HN.out.2.2.1 (Nat.le_refl _) ?_; intro w2 HT HB HO; clear HO)
      obtain ⟨k0, k1, k2, k3, k4⟩ := HT.out.parts
      exact bodyPost_ret (v := .tuple #[.agg #[.int .i64 2, .int .i64 0, .string (bytes out), .int .i64 0, .int .i64 u.size], .int .i64 0]) (by simp [results, Tryz.results54, go_sem, k0, k1, k2, k3, k4]) rfl ⟨rfl, HB.out⟩
    | succ g =>
      have hlt : k < u.size := by omega
      have hz : (k : Int) < (u.size : Int) := by omega
      have hk0 : (0 : Int) ≤ (k : Int) := by omega
      obtain ⟨c, hc⟩ : ∃ c, u[k] = c := ⟨_, rfl⟩
      have h := HR.out
      rw [drop_byte u k hlt, hc] at h
      by_cases hkd : kindI (c.toNat : Int) = 2
      · have HK := Lib.hid (fun W => kind_is c hkd W)
        by_cases h35 : c.toNat = 35
        · have h35' : ((c.toNat : Int) == 35) = true := by simp; omega
          have hcut : (u.extract k u.size).data.toList = c :: u.data.toList.drop (k + 1) := by rw [Lib.extract_to_end, drop_byte u k hlt, hc]
          have HH := Lib.hid (fun W => hidden_any (u.extract k u.size) W (by rw [ByteArray.size_extract]; unfold maxLen; omega))
          rw [hcut] at HH
          cases hb : hidL (c :: u.data.toList.drop (k + 1)) with
          | none =>
            rw [name_form hkd h35 hb] at h
            subst h
            rw [hb] at HH
            unfold hidV at HH
            clear hb hcut hkd h35
            go_wp2_with fail
            refine (HK.out _).mono ?_
            rintro e w1 ⟨rfl, rfl⟩
            go_wp2_with fail
            refine (HH.out _).mono ?_
            rintro e w1 ⟨rfl, hb⟩
            have HN := Lib.hid (HS.out.later hb)
            clear hb
            go_wp2_with (refine TokCell.store rfl rfl _ _ rfl w.heap.size (tokC 0 0 ⟨#[]⟩ 0 0) _ _ _ _ _ rfl rfl HN.out.1 rfl w.heap.size w HN.out.2.2.1 (Nat.le_refl _) ?_; intro w2 HT HB HO; clear HO)
            obtain ⟨k0, k1, k2, k3, k4⟩ := HT.out.parts
            exact bodyPost_ret (v := .tuple #[.agg #[.int .i64 0, .int .i64 0, .string ⟨#[]⟩, .int .i64 0, .int .i64 0], .int .i64 4]) (by simp [results, Tryz.results54, go_sem, k0, k1, k2, k3, k4]) rfl ⟨rfl, HB.out⟩
          | some b =>
            rw [name_hid hkd h35 hb] at h
            rw [hb] at HH
            unfold hidV at HH
            have hl3 := hidL_length hb
            rw [List.length_cons, List.length_drop, ← size_data] at hl3
            have hk3 : k + 3 ≤ u.size := by omega
            by_cases hlong : 127 ≤ out.length
            · rw [if_pos hlong] at h
              subst h
              have hol : ((out.length : Int) == 127) = true := by simp; omega
              clear hb hcut hkd h35 hl3
              go_wp2_with fail
              refine (HK.out _).mono ?_
              rintro e w1 ⟨rfl, rfl⟩
              go_wp2_with fail
              refine (HH.out _).mono ?_
              rintro e w1 ⟨rfl, hb⟩
              have HN := Lib.hid (HS.out.later hb)
              clear hb
              go_wp2_with fail
              refine (say_len HN.out).mono ?_
              rintro e w1 ⟨rfl, rfl⟩
              go_wp2_with (refine TokCell.store rfl rfl _ _ rfl w.heap.size (tokC 0 0 ⟨#[]⟩ 0 0) _ _ _ _ _ rfl rfl HN.out.1 rfl w.heap.size w HN.out.2.2.1 (Nat.le_refl _) ?_; intro w2 HT HB HO; clear HO)
              obtain ⟨k0, k1, k2, k3, k4⟩ := HT.out.parts
              exact bodyPost_ret (v := .tuple #[.agg #[.int .i64 0, .int .i64 0, .string ⟨#[]⟩, .int .i64 0, .int .i64 0], .int .i64 8]) (by simp [results, Tryz.results54, go_sem, k0, k1, k2, k3, k4]) rfl ⟨rfl, HB.out⟩
            · rw [if_neg hlong, List.drop_drop] at h
              have Hnext := Lib.hid h
              have hol : ((out.length : Int) == 127) = false := by simp; omega
              clear hb hcut hkd h35 hl3 h
              go_wp2_with fail
              refine (HK.out _).mono ?_
              rintro e w1 ⟨rfl, rfl⟩
              go_wp2_with fail
              refine (HH.out _).mono ?_
              rintro e w1 ⟨rfl, hb⟩
              have HN := Lib.hid (HS.out.later hb)
              clear hb
              go_wp2_with fail
              refine (say_len HN.out).mono ?_
              rintro e w1 ⟨rfl, rfl⟩
              go_wp2_with fail
              refine (say_byte b HN.out (by omega)).mono ?_
              rintro e w1 ⟨rfl, hn⟩
              have HN2 := Lib.hid hn
              clear hn
              go_wp2_with fail
              go_roundg (u.size - (k + 3))
              case measure => omega
              case rel => exact ⟨k + 3, out ++ [b], by omega, by go_num, by simp; omega, Hnext.out, HN2.out⟩
        · have h35' : ((c.toNat : Int) == 35) = false := by simp; omega
          rw [name_plain hkd h35] at h
          by_cases hlong : 127 ≤ out.length
          · rw [if_pos hlong] at h
            subst h
            have hol : ((out.length : Int) == 127) = true := by simp; omega
            clear hkd h35
            go_wp2_with fail
            refine (HK.out _).mono ?_
            rintro e w1 ⟨rfl, rfl⟩
            go_wp2_with fail
            refine HLen.out.mono ?_
            rintro e w1 ⟨rfl, rfl⟩
            go_wp2_with (refine TokCell.store rfl rfl _ _ rfl w.heap.size (tokC 0 0 ⟨#[]⟩ 0 0) _ _ _ _ _ rfl rfl HS.out.1 rfl w.heap.size w HS.out.2.2.1 (Nat.le_refl _) ?_; intro w2 HT HB HO; clear HO)
            obtain ⟨k0, k1, k2, k3, k4⟩ := HT.out.parts
            exact bodyPost_ret (v := .tuple #[.agg #[.int .i64 0, .int .i64 0, .string ⟨#[]⟩, .int .i64 0, .int .i64 0], .int .i64 8]) (by simp [results, Tryz.results54, go_sem, k0, k1, k2, k3, k4]) rfl ⟨rfl, HB.out⟩
          · rw [if_neg hlong] at h
            have Hnext := Lib.hid h
            have hol : ((out.length : Int) == 127) = false := by simp; omega
            clear hkd h35 h
            go_wp2_with fail
            refine (HK.out _).mono ?_
            rintro e w1 ⟨rfl, rfl⟩
            go_wp2_with fail
            refine HLen.out.mono ?_
            rintro e w1 ⟨rfl, rfl⟩
            go_wp2_with fail
            refine (say_byte c HS.out (by omega)).mono ?_
            rintro e w1 ⟨rfl, hn⟩
            have HN2 := Lib.hid hn
            clear hn
            go_wp2_with fail
            go_roundg g
            case measure => omega
            case rel => exact ⟨k + 1, out ++ [c], by omega, by go_num, by simp; omega, Hnext.out, HN2.out⟩
      · rw [name_end hkd] at h
        subst h
        obtain ⟨x, hx⟩ : ∃ x, kindI (c.toNat : Int) = x := ⟨_, rfl⟩
        have HK := Lib.hid (fun W => kind_is c hx W)
        rw [hx] at hkd
        have hkd' : (x == 2) = false := by simpa using hkd
        clear hkd hx
        go_wp2_with fail
        refine (HK.out _).mono ?_
        rintro e w1 ⟨rfl, rfl⟩
        go_wp2_with fail
        refine (say_string HS.out).mono ?_
        rintro e w1 ⟨rfl, hn⟩
        have HN := Lib.hid hn
        clear hn
        go_wp2_with (refine TokCell.store rfl rfl _ _ rfl w.heap.size (tokC 0 0 ⟨#[]⟩ 0 0) _ _ _ _ _ rfl rfl HN.out.1 rfl w.heap.size w HN.out.2.2.1 (Nat.le_refl _) ?_; intro w2 HT HB HO; clear HO)
        obtain ⟨k0, k1, k2, k3, k4⟩ := HT.out.parts
        exact bodyPost_ret (v := .tuple #[.agg #[.int .i64 2, .int .i64 0, .string (bytes out), .int .i64 0, .int .i64 k], .int .i64 0]) (by simp [results, Tryz.results54, go_sem, k0, k1, k2, k3, k4]) rfl ⟨rfl, HB.out⟩
end
end Go.Proofs.YtejgcnmbngdkiaaGreatDoor
