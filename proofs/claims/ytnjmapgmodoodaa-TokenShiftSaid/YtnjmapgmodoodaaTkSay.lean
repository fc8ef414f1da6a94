/-
  What a function that tells a sign keeps: the sign, a builder, and all else as it was.
-/
import Derived.Test.YtnjmapgmodoodaaBuilderS
import Derived.Test.YtnjmapgmodoodaaTkTok
namespace Go.Proofs.Ytnjmapgmodoodaa
open Go.RowKit
set_option maxRecDepth 100000

/-- The sign that is to be told, a builder behind it, and all else as it was. -/
def SayAt (w : World) (out : List UInt8) (wx : World) : Prop :=
  TokCell wx w.heap.size (tokC 0 0 ⟨#[]⟩ 0 0) ∧ Bld (w.heap.size + 1) (w.heap.size + 1) out wx ∧ Below w.heap.size w wx ∧ w.heap.size + 2 ≤ wx.heap.size
theorem SayAt.new (w : World) : SayAt w [] ((w.alloc (.cells (tokC 0 0 ⟨#[]⟩ 0 0) 24)).alloc (.cells #[.pointer none, .slice none 0 0] 62)) := by
  refine ⟨?_, ?_, ((Below.refl _ w).alloc (Nat.le_refl _) _).alloc (by simp) _, by simp⟩
  · unfold TokCell
    rw [Lib.alloc_old _ _ _ (by simp)]
    exact heap_alloc_new _ _
  · have := Bld.fresh (w.alloc (.cells (tokC 0 0 ⟨#[]⟩ 0 0) 24))
    simpa using this
theorem SayAt.write {w wx w' : World} {out out' : List UInt8} (h : SayAt w out wx) (hb : Below (w.heap.size + 1) wx w') (hn : Bld (w.heap.size + 1) (w.heap.size + 1) out' w') : SayAt w out' w' :=
  ⟨h.1.later hb (Nat.lt_succ_self _), hn, h.2.2.1.trans (hb.mono (Nat.le_succ _)), Nat.le_trans h.2.2.2 hb.size⟩
theorem SayAt.later {w wx w' : World} {out : List UInt8} (h : SayAt w out wx) (hb : Below wx.heap.size wx w') : SayAt w out w' :=
  ⟨h.1.later hb h.1.lt, h.2.1.later hb, h.2.2.1.trans (hb.mono h.2.2.1.size), Nat.le_trans h.2.2.2 hb.size⟩
theorem say_len {w wx : World} {out : List UInt8} (h : SayAt w out wx) : Calls Try.prog 39 #[.pointer (some ⟨w.heap.size + 1, 0, none⟩)] wx fun e w' => e = .returned (.int .i64 out.length) ∧ wx = w' := len_is _ _ _ _ h.2.1
theorem say_byte {w wx : World} {out : List UInt8} (c : UInt8) (h : SayAt w out wx) (hl : out.length ≤ 1000000000) : Calls Try.prog 40 #[.pointer (some ⟨w.heap.size + 1, 0, none⟩), .int .u8 (c.toNat : Int)] wx fun e w' => e = .returned .nilIface ∧ SayAt w (out ++ [c]) w' :=
  (wbyte_is _ _ _ c _ h.2.1 (by omega) (by have := h.2.2.2; omega)).mono fun e w' ⟨he, hn, hb, _⟩ => ⟨he, h.write hb hn⟩
theorem say_text {w wx : World} {out : List UInt8} (s : ByteArray) (h : SayAt w out wx) (hl : out.length + s.size ≤ 1000000000) : Calls Try.prog 43 #[.pointer (some ⟨w.heap.size + 1, 0, none⟩), .string s] wx fun e w' => e = .returned (.tuple #[.int .i64 s.size, .nilIface]) ∧ SayAt w (out ++ s.data.toList) w' :=
  (wstr_is _ _ _ s _ h.2.1 (by omega) (by have := h.2.2.2; omega)).mono fun e w' ⟨he, hn, hb, _⟩ => ⟨he, h.write hb hn⟩
theorem say_string {w wx : World} {out : List UInt8} (h : SayAt w out wx) : Calls Try.prog 41 #[.pointer (some ⟨w.heap.size + 1, 0, none⟩)] wx fun e w' => e = .returned (.string (bytes out)) ∧ SayAt w out w' :=
  (string_is _ _ _ _ h.2.1 (by have := h.2.2.2; omega)).mono fun e w' ⟨he, hn, hb, _⟩ => ⟨he, h.write hb hn⟩

theorem kind_is (c : UInt8) {x : Int} (h : kindI (c.toNat : Int) = x) (w : World) : Calls Try.prog 37 #[.int .u8 (c.toNat : Int)] w fun e w' => e = .returned (.int .i64 x) ∧ w = w' := by
  rw [← h]; exact kind_any _ w

end Go.Proofs.Ytnjmapgmodoodaa
