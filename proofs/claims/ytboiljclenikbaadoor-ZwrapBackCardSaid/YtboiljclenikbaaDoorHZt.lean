/-
  ZwText, ZwPut: texts merged.
-/
import Derived.Test.YtboiljclenikbaaDoorHBack
import Derived.Test.YtboiljclenikbaaDoorHPlain
import Derived.WalkKit
import Derived.WalkSpells
import Derived.WalkLawsBesides
import Derived.Lib.Hide
/-
  Deflated bytes with a head and a sum: texts and their bytes.
-/
namespace Go.Proofs.YtboiljclenikbaaDoor
section
open Go.RowKit
theorem two_bytes {s : ByteArray} (h : 2 ≤ s.size) : s.data.toList = s[0] :: s[1] :: (s.extract 2 s.size).data.toList := by
  have hl : 2 ≤ s.data.toList.length := by rw [← size_data]; exact h
  have e : (s.extract 2 s.size).data.toList = s.data.toList.drop 2 := by
    rw [Lib.extract_data]; exact List.take_of_length_le (by rw [List.length_drop, ← size_data]; exact Nat.le_refl _)
  rw [e]
  match hs : s.data.toList, hl with
  | a :: b :: l, _ =>
    have h0 : s[0] = a := by
      have : s.data.toList[0]? = some s[0] := by rw [List.getElem?_eq_getElem (by omega)]; rfl
      rw [hs] at this; simpa using this.symm
    have h1 : s[1] = b := by
      have : s.data.toList[1]? = some s[1] := by rw [List.getElem?_eq_getElem (by omega)]; rfl
      rw [hs] at this; simpa using this.symm
    rw [h0, h1]; rfl
theorem unwrapZ_two {s : ByteArray} (h : 2 ≤ s.size) {most : Int} (hm : 0 ≤ most) : unwrapZ s.data.toList most = if headNo s[0].toNat s[1].toNat = true then ([], 4) else restZ (s.extract 2 s.size).data.toList (inflZ (s.extract 2 s.size).data.toList most) := by
  rw [two_bytes h]
  show (if most < 0 then _ else _) = _
  rw [if_neg (by omega)]
theorem unwrapZ_neg (l : List UInt8) {most : Int} (hm : most < 0) : unwrapZ l most = ([], 2) := by
  match l with
  | [] => simp [unwrapZ, hm]
  | [a] => simp [unwrapZ, hm]
  | a :: b :: t => simp [unwrapZ, hm]
theorem inflZ_within {l : List UInt8} {M n : Nat} {o : List UInt8} {e : Int} (h : inflZ l (M : Int) = (o, n, e)) : n ≤ l.length ∧ o.length ≤ M := by
  by_cases he : e = 0
  · rw [he] at h
    obtain ⟨_, h2, _, _⟩ := inflZ_cut h
    refine ⟨h2, ?_⟩
    rcases Nat.lt_or_ge M o.length with hM | hM
    · have := (inflZ_room h).2 M hM
      rw [this] at h; simp at h
    · exact hM
  · unfold inflZ at h
    rw [if_neg (by omega)] at h
    split at h
    · obtain ⟨ho, h⟩ := Prod.mk.inj h; obtain ⟨hn, _⟩ := Prod.mk.inj h; rw [← ho, ← hn]; exact ⟨Nat.zero_le _, Nat.zero_le _⟩
    · have h3 : (0 : Int) = e := congrArg (fun r => r.2.2) h; exact absurd h3.symm he
theorem ext_from (s : ByteArray) (k : Nat) : (s.extract k s.size).data.toList = s.data.toList.drop k := by
  rw [Lib.extract_data]; exact List.take_of_length_le (by rw [List.length_drop, ← size_data]; exact Nat.le_refl _)
theorem ext_first (s : ByteArray) (k : Nat) : (s.extract 0 k).data.toList = s.data.toList.take k := by
  rw [Lib.extract_data]; simp
/-- Behind what Inflate read. -/
theorem ext_behind (s : ByteArray) (n : Nat) : (s.extract (2 + n) s.size).data.toList = (s.extract 2 s.size).data.toList.drop n := by
  rw [ext_from, ext_from, List.drop_drop]
theorem ext_behind2 (s : ByteArray) (n : Nat) : ((s.extract 2 s.size).extract n (s.extract 2 s.size).size).data.toList = (s.extract 2 s.size).data.toList.drop n := ext_from _ _
/-- The four kinds of what is behind. -/
inductive RestIs (l : List UInt8) (o : List UInt8) : Int → Prop
  | short (h : l.length < 4) : RestIs l o 5
  | sum (h : 4 ≤ l.length) (h2 : ¬ l.take 4 = tailZ o) : RestIs l o 6
  | more (h : 4 < l.length) (h2 : l.take 4 = tailZ o) : RestIs l o 4
  | ok (h : l.length = 4) (h2 : l.take 4 = tailZ o) : RestIs l o 0
theorem restZ_is {l o : List UInt8} {n : Nat} {u : List UInt8} {c : Int} (h : restZ l (o, n, 0) = (u, c)) : RestIs (l.drop n) o c ∧ u = if c = 0 then o else [] := by
  unfold restZ at h
  simp only [ne_eq, not_true_eq_false, if_false] at h
  split at h
  · obtain ⟨rfl, rfl⟩ := Prod.mk.inj h; exact ⟨.short ‹_›, rfl⟩
  · split at h
    · obtain ⟨rfl, rfl⟩ := Prod.mk.inj h; exact ⟨.sum (by omega) ‹_›, rfl⟩
    · rename_i h1 h2
      split at h
      · obtain ⟨rfl, rfl⟩ := Prod.mk.inj h; exact ⟨.more ‹_› (Classical.not_not.1 h2), rfl⟩
      · obtain ⟨rfl, rfl⟩ := Prod.mk.inj h; exact ⟨.ok (by omega) (Classical.not_not.1 h2), rfl⟩
theorem tail_num {l o : List UInt8} (hl : l.length = 4) : l = tailZ o ↔ valB l = aSum o := by
  have ho := aSum_ok o
  have hlt : aSum o < 256 ^ 4 := by
    obtain ⟨h1, h2⟩ := ho
    have : (256 : Nat) ^ 4 = 4294967296 := by decide
    omega
  constructor
  · rintro rfl
    unfold tailZ
    rw [valB_lo, Nat.mod_eq_of_lt hlt]
  · intro h
    unfold tailZ
    rw [← h, ← hl]
    exact (lo_val l).symm
end
end Go.Proofs.YtboiljclenikbaaDoor
/-
  The sum as bytes: plain facts, and the text that a head, bytes and a sum make.
-/
namespace Go.Proofs.YtboiljclenikbaaDoor
section
open Go.RowKit
theorem aSum_bound (l : List UInt8) : aSum l < 4294967296 := by
  obtain ⟨h1, h2⟩ := aSum_ok l
  omega
theorem put_tail (l : List UInt8) : putF ((aSum l : Nat) : Int) 4 = (tailZ l, 0) := by
  have h := aSum_bound l
  have e : (256 : Nat) ^ 4 = 4294967296 := by decide
  exact putF_ok (w := 4) (by omega) (by omega)
theorem wrap_text {x t u : ByteArray} (h : [120, 1] ++ (x.data.toList ++ t.data.toList) = u.data.toList) : (ByteArray.mk #[120, 1]) ++ x ++ t = u := by
  rw [bytes_eq (l := u.data.toList) rfl, ← h]
  apply ByteArray.ext
  apply Array.toList_inj.1
  simp [bytes]
end
end Go.Proofs.YtboiljclenikbaaDoor
