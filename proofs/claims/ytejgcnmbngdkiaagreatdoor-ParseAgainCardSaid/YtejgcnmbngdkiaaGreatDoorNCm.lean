/-
  VComp, VRowSet, VCompact, VPRow: texts merged.
-/
import Derived.Test.YtejgcnmbngdkiaaGreatDoorNStb
import Derived.Deep.RegionWith
import Derived.Test.YtejgcnmbngdkiaaGreatDoorNEl
import Derived.Test.YtejgcnmbngdkiaaGreatDoorNVal
/-
  What stays of a sorted row when of neighbours of one key the first one stays, plainly.
-/
namespace Go.Proofs.YtejgcnmbngdkiaaGreatDoor
section
open Go.Shelf Go.RowKit Go.Lib Go.Sort
set_option autoImplicit false
section
variable {α : Type} [Inhabited α] (ef : α → α → Bool)
/-- A place is kept: the first, or one that is not like the one before it. -/
def kp (d : Array α) (j : Nat) : Bool := decide (j = 0) || !ef d[j]! d[j - 1]!
def cpU (d : Array α) (m : Nat) : List α := ((List.range m).filter (kp ef d)).map (d[·]!)
variable {ef}
theorem cpU_succ (d : Array α) (m : Nat) : cpU ef d (m + 1) = cpU ef d m ++ (if kp ef d m = true then [d[m]!] else []) := by
  unfold cpU
  rw [List.range_succ, List.filter_append, List.map_append]
  congr 1
  by_cases h : kp ef d m = true <;> simp [h]
theorem mem_cpU {d : Array α} {m : Nat} {x : α} : x ∈ cpU ef d m ↔ ∃ j, j < m ∧ kp ef d j = true ∧ d[j]! = x := by
  unfold cpU
  rw [List.mem_map]
  constructor
  · rintro ⟨j, hj, e⟩
    rw [List.mem_filter, List.mem_range] at hj
    exact ⟨j, hj.1, hj.2, e⟩
  · rintro ⟨j, h1, h2, e⟩
    exact ⟨j, List.mem_filter.2 ⟨List.mem_range.2 h1, h2⟩, e⟩
theorem cpU_all (d : Array α) (m : Nat) (h : ∀ j, j < m → kp ef d j = true) : cpU ef d m = (List.range m).map (d[·]!) := by
  unfold cpU
  rw [List.filter_eq_self.2 (fun j hj => h j (List.mem_range.1 hj))]
/-- Places looked at: m; kept: k, at the row's head; from k on the row is as it was. -/
structure Cp (ef : α → α → Bool) (d : Array α) (m k : Nat) (dk : Array α) : Prop where
  size : dk.size = d.size
  len : (cpU ef d m).length = k
  lt : k < m
  low : ∀ j, j < k → (cpU ef d m)[j]? = some dk[j]!
  high : ∀ j, k ≤ j → dk[j]! = d[j]!
theorem Cp.start {d : Array α} {m : Nat} (hall : ∀ j, j < m → kp ef d j = true) (hdup : kp ef d m = false) : Cp ef d (m + 1) m d := by
  have e : cpU ef d (m + 1) = (List.range m).map (d[·]!) := by rw [cpU_succ, hdup, cpU_all d m hall]; simp
  exact ⟨rfl, by rw [e]; simp, Nat.lt_succ_self _, fun j hj => by rw [e]; simp [hj], fun _ _ => rfl⟩
theorem Cp.skip {d dk : Array α} {m k : Nat} (h : Cp ef d m k dk) (hk : kp ef d m = false) : Cp ef d (m + 1) k dk := by
  have e : cpU ef d (m + 1) = cpU ef d m := by rw [cpU_succ, hk]; simp
  exact ⟨h.size, by rw [e]; exact h.len, Nat.lt_succ_of_lt h.lt, fun j hj => by rw [e]; exact h.low j hj, h.high⟩
theorem set_get (dk : Array α) (k j : Nat) (x : α) (hk : k < dk.size) : (dk.setIfInBounds k x)[j]! = if j = k then x else dk[j]! := by
  by_cases e : j = k
  · subst e; rw [if_pos rfl]; simp [hk, getElem!_pos]
  · rw [if_neg e]
    by_cases hj : j < dk.size
    · rw [getElem!_pos _ j (by simpa using hj), getElem!_pos _ j hj, Array.getElem_setIfInBounds_ne (by simpa using hj) (fun g => e g.symm)]
    · rw [getElem!_neg _ j (by simpa using hj), getElem!_neg _ j hj]
theorem Cp.keep {d dk : Array α} {m k : Nat} (h : Cp ef d m k dk) (hm : m < d.size) (hk : kp ef d m = true) : Cp ef d (m + 1) (k + 1) (dk.setIfInBounds k d[m]!) := by
  have e : cpU ef d (m + 1) = cpU ef d m ++ [d[m]!] := by rw [cpU_succ, hk]; simp
  have h1 := h.lt; have h2 := h.size
  refine ⟨by simp [h.size], by rw [e]; simp [h.len], by omega, fun j hj => ?_, fun j hj => ?_⟩
  · rw [e, set_get _ _ _ _ (by omega)]
    by_cases c : j = k
    · subst c
      rw [if_pos rfl, List.getElem?_append_right (by rw [h.len]; exact Nat.le_refl _), h.len, Nat.sub_self]; rfl
    · rw [if_neg c, List.getElem?_append_left (by rw [h.len]; omega), h.low j (by omega)]
  · rw [set_get _ _ _ _ (by omega), if_neg (by omega), h.high j (by omega)]
end

/-! Sorted stably, then compacted: of pairs of one key the first one, by rising keys. -/
def efK (x y : El) : Bool := decide (x.2.key = y.2.key)
theorem el_first {l : List El} (val : El → ByteArray × Val) (hv : ∀ x, (val x).1 = x.2.key) : ∀ {x : El}, l.Pairwise (fun a b => a.1 < b.1) → x ∈ l → (∀ y ∈ l, y.2.key = x.2.key → x.1 ≤ y.1) → firstD x.2.key (l.map val) = some (val x).2 := by
  induction l with
  | nil => intro x _ h; cases h
  | cons a t ih =>
    intro x hp hx hmin
    rw [List.pairwise_cons] at hp
    rcases hav : val a with ⟨k, v⟩
    have hk : k = a.2.key := by rw [← hv a, hav]
    rw [List.map_cons, hav, firstD]
    by_cases e : k = x.2.key
    · rw [if_pos e]
      rcases List.mem_cons.1 hx with rfl | h
      · rw [hav]
      · have := hp.1 x h
        have := hmin a (List.mem_cons_self ..) (by rw [← hk, e])
        omega
    · rw [if_neg e]
      rcases List.mem_cons.1 hx with rfl | h
      · exact absurd hk e
      · exact ih hp.2 h (fun y hy => hmin y (List.mem_cons_of_mem _ hy))
theorem least_of {l : List El} {k : ByteArray} (h : ∃ x ∈ l, x.2.key = k) : ∃ x ∈ l, x.2.key = k ∧ ∀ y ∈ l, y.2.key = k → x.1 ≤ y.1 := by
  obtain ⟨x, hx, e⟩ := h
  obtain ⟨n, hn⟩ : ∃ n, x.1 = n := ⟨_, rfl⟩
  induction n using Nat.strongRecOn generalizing x with
  | ind n ih =>
    by_cases c : ∃ y ∈ l, y.2.key = k ∧ y.1 < x.1
    · obtain ⟨y, hy, e2, h2⟩ := c
      exact ih y.1 (by omega) y hy e2 rfl
    · refine ⟨x, hx, e, fun y hy e2 => ?_⟩
      rcases Nat.lt_or_ge y.1 x.1 with h3 | h3
      · exact absurd ⟨y, hy, e2, h3⟩ c
      · exact h3
theorem tag_inj {l : List El} (hp : l.Pairwise (fun a b => a.1 < b.1)) {x y : El} (hx : x ∈ l) (hy : y ∈ l) (e : x.1 = y.1) : x = y := by
  induction l with
  | nil => cases hx
  | cons a t ih =>
    rw [List.pairwise_cons] at hp
    rcases List.mem_cons.1 hx with hx2 | hx2
    · rcases List.mem_cons.1 hy with hy2 | hy2
      · rw [hx2, hy2]
      · have := hp.1 y hy2; rw [← hx2] at this; omega
    · rcases List.mem_cons.1 hy with hy2 | hy2
      · have := hp.1 x hx2; rw [← hy2] at this; omega
      · exact ih hp.2 hx2 hy2
theorem get_mem (d : Array El) {j : Nat} (hj : j < d.size) : d[j]! ∈ d.toList := by rw [getElem!_pos d j hj]; simp
theorem mem_get (d : Array El) {x : El} (h : x ∈ d.toList) : ∃ j, j < d.size ∧ d[j]! = x := by
  obtain ⟨j, hj, e⟩ := List.mem_iff_getElem.1 h
  have hj' : j < d.size := by simpa using hj
  exact ⟨j, hj', by rw [getElem!_pos d j hj', ← e]; simp⟩
theorem least_idx (p : Nat → Prop) (h : ∃ j, p j) : ∃ j, p j ∧ ∀ i, i < j → ¬ p i := by
  obtain ⟨j, hj⟩ := h
  induction j using Nat.strongRecOn with
  | ind j ih =>
    by_cases c : ∃ i, i < j ∧ p i
    · obtain ⟨i, h1, h2⟩ := c; exact ih i h1 h2
    · exact ⟨j, hj, fun i h1 h2 => c ⟨i, h1, h2⟩⟩
theorem comp_rise (d d' : Array El) (val : El → ByteArray × Val) (hv : ∀ x, (val x).1 = x.2.key) (hp : d.toList.Pairwise (fun a b => a.1 < b.1)) (hperm : PermIn 0 d.size d d') (hs : SortedIn (lx (ltOf cfK) Prod.fst) 0 d.size d') :
    (cpU efK d' d.size).map val = riseD (d.toList.map val) := by
  have hsz : d'.size = d.size := hperm.1
  have hmem : ∀ x, x ∈ d'.toList ↔ x ∈ d.toList := fun x => by
    have h := hperm.2.2
    rw [show d'.extract 0 d.size = d' by rw [← hsz, Array.extract_size], Array.extract_size] at h
    exact h.mem_iff
  have hle : ∀ i j, i ≤ j → j < d.size → kLt d'[j]!.2.key d'[i]!.2.key = false := fun i j h1 h2 => by
    rcases Nat.lt_or_ge i j with h | h
    · have h3 := nlt_of_le (hs i j (Nat.zero_le _) h h2)
      rwa [ltOf_cfK] at h3
    · obtain rfl : i = j := by omega
      exact kLt_irrefl _
  have hrise : Rise ((cpU efK d' d.size).map val) := by
    unfold Rise cpU
    rw [List.pairwise_map, List.pairwise_map]
    refine List.Pairwise.imp_of_mem ?_ (List.Pairwise.filter _ List.pairwise_lt_range)
    intro i j hi hj hij
    rw [List.mem_filter, List.mem_range] at hi hj
    have hk := hj.2
    unfold kp at hk
    rw [decide_eq_false (by omega : ¬ j = 0), Bool.false_or] at hk
    have hne : ¬ d'[j]!.2.key = d'[j - 1]!.2.key := by
      intro e
      rw [efK, decide_eq_true e] at hk; cases hk
    rw [hv, hv]
    have a1 := hle i (j - 1) (by omega) (by omega)
    have a2 := hle (j - 1) j (by omega) (by omega)
    have a3 : kLt d'[j - 1]!.2.key d'[j]!.2.key = true := by
      cases c : kLt d'[j - 1]!.2.key d'[j]!.2.key with
      | true => rfl
      | false => exact absurd (kLt_total a2 c) hne
    cases c : kLt d'[i]!.2.key d'[j]!.2.key with
    | true => rfl
    | false =>
      cases c2 : kLt d'[i]!.2.key d'[j - 1]!.2.key with
      | true => rw [kLt_trans c2 a3] at c; cases c
      | false => rw [kLt_total c2 a1, a3] at c; cases c
  refine rise_ext hrise (riseD_rise _) (fun k => ?_)
  rw [riseD_first]
  by_cases hk : ∃ x ∈ d.toList, x.2.key = k
  · obtain ⟨x, hx, rfl, hmin⟩ := least_of hk
    rw [el_first val hv hp hx hmin]
    refine rise_first hrise (List.mem_map.2 ⟨x, ?_, ?_⟩)
    · obtain ⟨j, ⟨hj, e⟩, hfirst⟩ := least_idx (fun j => j < d'.size ∧ d'[j]! = x) (mem_get d' ((hmem x).2 hx))
      refine mem_cpU.2 ⟨j, by omega, ?_, e⟩
      unfold kp
      by_cases h0 : j = 0
      · rw [decide_eq_true h0]; rfl
      · rw [decide_eq_false h0, Bool.false_or]
        have hne : ¬ d'[j]!.2.key = d'[j - 1]!.2.key := by
          intro e2
          have hy : d'[j - 1]! ∈ d.toList := (hmem _).1 (get_mem d' (by omega))
          have h1 := hmin _ hy (by rw [← e2, e])
          have h2 := hs (j - 1) j (Nat.zero_le _) (by omega) (by omega)
          unfold lx at h2
          rw [ltOf_cfK, ltOf_cfK, e2, kLt_irrefl] at h2
          have h3 : ¬ d'[j]!.1 < d'[j - 1]!.1 := by
            intro h; simp [h] at h2
          rw [e] at h3
          exact hfirst (j - 1) (by omega) ⟨by omega, tag_inj hp hy hx (by omega)⟩
        rw [efK, decide_eq_false hne]; rfl
    · rw [← hv x]
  · have hn : firstD k (d.toList.map val) = none := firstD_none.2 (fun p hp e => by
      obtain ⟨x, hx, rfl⟩ := List.mem_map.1 hp
      exact hk ⟨x, hx, by rw [← hv x, e]⟩)
    rw [hn]
    refine firstD_none.2 (fun p hp e => ?_)
    obtain ⟨x, hx, rfl⟩ := List.mem_map.1 hp
    obtain ⟨j, hj, _, rfl⟩ := mem_cpU.1 hx
    exact hk ⟨d'[j]!, (hmem _).1 (get_mem d' (j := j) (by omega)), by rw [← hv, e]⟩
end
end Go.Proofs.YtejgcnmbngdkiaaGreatDoor
/-
  A row of elements of k cells in a world of the sort's: one element set; the tail made one and the same.
-/
namespace Go.Proofs.YtejgcnmbngdkiaaGreatDoor
section
open Go.Shelf Go.RowKit Go.Lib Go.Sort
set_option autoImplicit false
variable {α : Type} [Inhabited α] {P : Program} {enc : α → List Value} {k : Nat} {w0 W : World} {blk off : Nat} {dk d0 : Array α}

theorem setMany_one (hk : ∀ x, (enc x).length = k) (d : Array α) (i : Nat) (hi : i < d.size) (x : α) : setMany (flatK enc k d) (i * k) (enc x) = flatK enc k (d.setIfInBounds i x) := by
  refine ext_get! (by simp) fun t ht => ?_
  have ht' : t < d.size * k := by simpa using ht
  have k0 : 0 < k := by
    rcases Nat.eq_zero_or_pos k with h | h
    · subst h; simp at ht'
    · exact h
  rw [get_setMany _ _ _ t (by simpa using ht'), get_flatK _ _ _ t ht', get_flatK _ _ _ t (by simpa using ht'), hk, set_get _ _ _ _ hi]
  by_cases a : t / k = i
  · rw [if_pos ((blk_iff k i t k0).2 a), if_pos a]
    have : t - i * k = t % k := by subst a; rw [Nat.mod_eq_sub_div_mul]
    rw [this]
  · rw [if_neg (fun h => a ((blk_iff k i t k0).1 h)), if_neg a]
/-- The first m stay, what lies behind them is z. -/
def fil (d : Array α) (m : Nat) (z : α) : Array α := ((List.range d.size).map (fun j => if j < m then d[j]! else z)).toArray
theorem size_fil (d : Array α) (m : Nat) (z : α) : (fil d m z).size = d.size := by simp [fil]
theorem get_fil (d : Array α) (m : Nat) (z : α) (t : Nat) (ht : t < d.size) : (fil d m z)[t]! = if t < m then d[t]! else z := by
  rw [getElem!_pos _ t (by rw [size_fil]; exact ht)]
  simp [fil]
theorem setMany_fil (hk : ∀ x, (enc x).length = k) (d : Array α) (m : Nat) (hm : m ≤ d.size) (z : α) (vs : List Value) (hl : vs.length = (d.size - m) * k) (hv : ∀ t, t < vs.length → vs[t]! = (enc z)[t % k]!) :
    setMany (flatK enc k d) (m * k) vs = flatK enc k (fil d m z) := by
  refine ext_get! (by simp [size_fil]) fun t ht => ?_
  have ht' : t < d.size * k := by simpa using ht
  have k0 : 0 < k := by
    rcases Nat.eq_zero_or_pos k with h | h
    · subst h; simp at ht'
    · exact h
  have hdk : t / k < d.size := (Nat.div_lt_iff_lt_mul k0).2 ht'
  have hall : m * k + vs.length = d.size * k := by rw [hl, ← Nat.add_mul]; congr 1; omega
  rw [get_setMany _ _ _ t (by simpa using ht'), get_flatK _ _ _ t ht', get_flatK _ _ _ t (by rw [size_fil]; exact ht'), get_fil _ _ _ _ hdk]
  by_cases a : t / k < m
  · have h1 : t < m * k := (Nat.div_lt_iff_lt_mul k0).1 a
    rw [if_neg (by omega), if_pos a]
  · have h1 : m * k ≤ t := by
      rcases Nat.lt_or_ge t (m * k) with h | h
      · exact absurd ((Nat.div_lt_iff_lt_mul k0).2 h) a
      · exact h
    rw [if_pos ⟨h1, by omega⟩, if_neg a, hv _ (by omega)]
    congr 1
    obtain ⟨u, rfl⟩ : ∃ u, t = m * k + u := ⟨t - m * k, by omega⟩
    rw [Nat.add_sub_cancel_left, Nat.mul_comm, Nat.mul_add_mod]
theorem swk_set (h : SWK enc k w0 blk off dk W) (hk : ∀ x, (enc x).length = k) (hblk : blk < w0.heap.size) (i : Nat) (hi : i < dk.size) (x : α) : SWK enc k w0 blk off (dk.setIfInBounds i x) (W.setCells blk (off + i * k) (enc x)) := by
  obtain ⟨n, os, rfl⟩ := h
  refine ⟨n, os, ?_⟩
  unfold sortWorldK
  rw [← putRowK_grow enc k (Sort.ahead w0 n) os blk off dk hblk]
  unfold putRowK
  rw [setCells_putRow _ _ _ _ _ _ (by rw [hk, size_flatK]; exact rowK_bnd dk k i hi), setMany_one hk dk i hi x]
  exact putRowK_grow enc k (Sort.ahead w0 n) os blk off _ hblk
theorem swk_fil (h : SWK enc k w0 blk off dk W) (hk : ∀ x, (enc x).length = k) (hblk : blk < w0.heap.size) (m : Nat) (hm : m ≤ dk.size) (z : α) (vs : List Value) (hl : vs.length = (dk.size - m) * k) (hv : ∀ t, t < vs.length → vs[t]! = (enc z)[t % k]!) :
    SWK enc k w0 blk off (fil dk m z) (W.setCells blk (off + m * k) vs) := by
  obtain ⟨n, os, rfl⟩ := h
  refine ⟨n, os, ?_⟩
  have hall : m * k + vs.length = dk.size * k := by rw [hl, ← Nat.add_mul]; congr 1; omega
  unfold sortWorldK
  rw [← putRowK_grow enc k (Sort.ahead w0 n) os blk off dk hblk]
  unfold putRowK
  rw [setCells_putRow _ _ _ _ _ _ (by rw [size_flatK]; omega), setMany_fil hk dk m hm z vs hl hv]
  exact putRowK_grow enc k (Sort.ahead w0 n) os blk off _ hblk
/-- The store of one element, in a world of the sort's. -/
theorem swk_st (h : SWK enc k w0 blk off dk W) (R : RowK enc k w0 blk off d0) (hs : dk.size = d0.size) (P : Program) (i : Nat) (hi : i < dk.size) (y : α) :
    Sem.run P (storeCells ⟨blk, off + i * k, none⟩ (enc y) 0) W = .ok () (W.setCells blk (off + i * k) (enc y)) :=
  stores_of_holds P (h.holds R.hblk R.hH hs) (i * k) _ (by rw [R.hk, size_flatK]; exact rowK_bnd dk k i hi) (R.h1 _)
theorem zeroCells_get (l : List Value) (n t : Nat) (ht : t < n * l.length) : (Builtin.zeroCells l.toArray n).toList[t]! = l[t % l.length]! := by
  unfold Builtin.zeroCells
  rw [getElem!_pos _ t (by simpa using ht)]
  simp
theorem swk_clear (h : SWK enc k w0 blk off dk W) (R : RowK enc k w0 blk off d0) (hs : dk.size = d0.size) (t e : TypeId) (ht : P.underlying t = some (.slice e)) (z : α) (hv : ∀ w, (zeroValue e).run P w = .ok (.agg (enc z).toArray) w) (m c : Nat) (hm : m < dk.size) :
    ∃ vs, (∀ ty, (Builtin.clear_ #[t] ty #[.slice (some ⟨blk, off + m * k, none⟩) (dk.size - m) c]).run P W = .ok (.tuple #[]) (W.setCells blk (off + m * k) vs)) ∧ SWK enc k w0 blk off (fil dk m z) (W.setCells blk (off + m * k) vs) := by
  have hlen : (Builtin.zeroCells (enc z).toArray (dk.size - m)).toList.length = (dk.size - m) * k := by simp [Builtin.zeroCells, R.hk]
  have hget : ∀ t, t < (Builtin.zeroCells (enc z).toArray (dk.size - m)).toList.length → (Builtin.zeroCells (enc z).toArray (dk.size - m)).toList[t]! = (enc z)[t % k]! := fun t h => by
    rw [zeroCells_get _ _ _ (by rw [R.hk, ← hlen]; exact h), R.hk]
  have hall : m * k + (dk.size - m) * k = dk.size * k := by rw [← Nat.add_mul]; congr 1; omega
  have k0 : ∀ t, t < (dk.size - m) * k → 0 < k := fun t h => by
    rcases Nat.eq_zero_or_pos k with h' | h'
    · subst h'; simp at h
    · exact h'
  have hone : ∀ v ∈ (Builtin.zeroCells (enc z).toArray (dk.size - m)).toList, v.oneCell' = true := fun v hv => by
    obtain ⟨t, ht, rfl⟩ := List.mem_iff_getElem.1 hv
    have h2 := hget t ht
    rw [getElem!_pos _ t ht] at h2
    rw [h2, getElem!_pos _ (t % k) (by rw [R.hk]; exact Nat.mod_lt _ (k0 t (by rw [← hlen]; exact ht)))]
    exact R.h1 z _ (List.getElem_mem _)
  refine ⟨(Builtin.zeroCells (enc z).toArray (dk.size - m)).toList, fun ty => ?_, swk_fil h R.hk R.hblk m (Nat.le_of_lt hm) z _ hlen hget⟩
  have hst := stores_of_holds P (h.holds R.hblk R.hH hs) (m * k) _ (by rw [hlen, size_flatK]; omega) hone
  obtain ⟨q, hq⟩ : ∃ q, dk.size - m = q + 1 := ⟨dk.size - m - 1, by omega⟩
  rw [hq] at hst ⊢
  simp only [Builtin.clear_]
  simp [run_underlying ht, hv, hst, Value.cells]
end
end Go.Proofs.YtejgcnmbngdkiaaGreatDoor
/-
  The library's compaction of a row.
-/
namespace Go.Proofs.YtejgcnmbngdkiaaGreatDoor
section
open Go.Shelf Go.RowKit Go.Lib Go.Sort
variable {α : Type} [Inhabited α] {P : Program} {enc : α → List Value} {k : Nat} {w0 W : World} {blk off : Nat} {dk d0 : Array α}
set_option maxRecDepth 1000000

structure CompL (P : Program) (k : Nat) : Prop extends SortL P k where
  fcmp : P.funcs[40]? = some Tryz.f40
  t68 : P.underlying 77 = some (TypeDesc.func #[42, 42] #[4] false)
  a68 : ∀ w : World, Sem.run P (isAgg 77) w = Result.ok false w
  z68 : ∀ w : World, Sem.run P (Go.sizeOf 77) w = Result.ok 1 w
  v68 : ∀ w : World, Sem.run P (zeroValue 77) w = Result.ok (Value.nilFunc) w
theorem compL : CompL Tryz.prog 7 :=
  { sortL with
    fcmp := Tryz.func40
    t68 := Tryz.underlying77
    a68 := Tryz.isAgg77
    z68 := Tryz.sizeOf77
    v68 := Tryz.zeroValue77 }
theorem kp_lt_one (ef : α → α → Bool) (d : Array α) : ∀ j, j < 1 → kp ef d j = true := fun j h => by
  obtain rfl : j = 0 := by omega
  rfl
theorem cpU_len_all {ef : α → α → Bool} {d : Array α} (h : ∀ j, j < d.size → kp ef d j = true) : (cpU ef d d.size).length = d.size ∧ ∀ j, j < d.size → (cpU ef d d.size)[j]? = some d[j]! := by
  rw [cpU_all d _ h]
  exact ⟨by simp, fun j hj => by simp [hj]⟩

set_option maxHeartbeats 8000000 in
theorem compact_K (L : CompL P k) (ef : α → α → Bool) (z : α) (hz : ∀ w, (zeroValue 42).run P w = .ok (.agg (enc z).toArray) w) (g : Nat) (cb : Array Value) (cap : Nat) (d : Array α) (w : World)
    (eg : ∀ args w, (callFunc g args).run P w = .ok (.enter g args) w) (heq : ∀ (x y : α) (W : World), Calls P g (#[.agg (enc x).toArray, .agg (enc y).toArray] ++ cb) W fun e w' => e = .returned (.bool (ef x y)) ∧ ∃ q os', w' = grow (W.drewN q) os')
    (R : RowK enc k w blk off d) (hsz : d.size < 1000000000) (hcap : d.size ≤ cap) :
    Calls P 40 #[.slice (some ⟨blk, off, none⟩) d.size cap, .func (.func g) #[] cb] w fun e w' => e = .returned (.slice (some ⟨blk, off, none⟩) (cpU ef d d.size).length cap) ∧
      ∃ d', d'.size = d.size ∧ (∀ j, j < (cpU ef d d.size).length → (cpU ef d d.size)[j]? = some d'[j]!) ∧ SWK enc k w blk off d' w' := by
  have mixed := L.mixed; have t0 := L.t0; have a0 := L.a0; have z0 := L.z0; have v0 := L.v0; have t3 := L.t3; have a3 := L.a3; have z3 := L.z3; have v3 := L.v3; have t4 := L.t4; have a4 := L.a4; have z4 := L.z4; have v4 := L.v4; have t23 := L.t23; have a23 := L.a23; have z23 := L.z23; have v23 := L.v23; have t68 := L.t68; have a68 := L.a68; have z68 := L.z68; have v68 := L.v68; have aE := L.aE; have zE := L.zE
  have S0 : Aside (SWK enc k w blk off d w) := SWK.start R.hH
  have HR : Hid (RowK enc k w blk off d) := Lib.hid R
  have Heq := Lib.hid heq
  have Hz := Lib.hid hz
  clear heq R hz
  by_cases h2 : d.size < 2
  · obtain ⟨e1, e2⟩ := cpU_len_all (ef := ef) (d := d) (fun j hj => kp_lt_one ef d j (by omega))
    have E2 := Lib.hid e2
    rw [e1]
    clear e1 e2
    go_enter L.fcmp, Tryz.ntmps40
    go_wp2
    go_ret
    exact ⟨rfl, d, rfl, E2.out, S0.out⟩
  obtain ⟨n, hn⟩ : ∃ n, (cpU ef d d.size).length = n := ⟨_, rfl⟩
  rw [hn]
  have Hn := Lib.hid hn
  clear hn
  have A0 : Hid (∀ j, j < 1 → kp ef d j = true) := Lib.hid (kp_lt_one ef d)
  go_enter L.fcmp, Tryz.ntmps40
  go_wp2
  go_loopg [5] d.size (fun f s5 wr => ∃ kk : Nat, s5 = .int .i64 kk ∧ 1 ≤ kk ∧ kk ≤ d.size ∧ d.size ≤ f + kk ∧ Hid (∀ j, j < kk → kp ef d j = true) ∧ Aside (SWK enc k w blk off d wr))
  case atStart => exact ⟨1, rfl, Nat.le_refl _, by omega, by omega, A0, S0⟩
  case round =>
    clear A0 S0
    obtain ⟨kk, rfl, hk1, hkd, hf, HA, S1⟩ := hrel
    by_cases hlt : kk < d.size
    · obtain ⟨q, rfl⟩ : ∃ q, kk = q + 1 := ⟨kk - 1, by omega⟩
      have ea1 : ((q : Int) + 1).toNat = q + 1 := by omega
      have pa1 : (0 : Int) ≤ (q : Int) + 1 := by omega
      have ba1 : (q : Int) + 1 < (d.size : Int) := by omega
      have ra1 : IntKind.i64.wrap ((q : Int) + 1) = (q : Int) + 1 := by rw [IntKind.wrap_i64]; omega
      have bc1 : (q : Int) < (d.size : Int) := by omega
      have rc1 : IntKind.i64.wrap (q : Int) = (q : Int) := by rw [IntKind.wrap_i64]; omega
      obtain ⟨xx, hxx⟩ : ∃ x, x = d[q + 1]! := ⟨_, rfl⟩
      obtain ⟨yy, hyy⟩ : ∃ x, x = d[q]! := ⟨_, rfl⟩
      have la1 := S1.out.ld HR.out rfl P (q + 1) (by omega)
      have lb1 := S1.out.ld HR.out rfl P q (by omega)
      rw [← hxx] at la1
      rw [← hyy] at lb1
      have hkp : kp ef d (q + 1) = !ef xx yy := by unfold kp; rw [decide_eq_false (by omega : ¬ q + 1 = 0), Bool.false_or, hxx, hyy]; rfl
      clear hxx hyy
      cases hv : ef xx yy with
      | false =>
        have hc1 : ∀ n os, Calls P g (#[.agg (enc xx).toArray, .agg (enc yy).toArray] ++ cb) (grow (wr.drewN n) os) fun e w' => e = .returned (.bool false) ∧ ∃ q os', w' = grow ((grow (wr.drewN n) os).drewN q) os' := fun n os => by
          have h := Heq.out xx yy (grow (wr.drewN n) os); rw [hv] at h; exact h
        rw [hv] at hkp
        have HA2 : Hid (∀ j, j < q + 1 + 1 → kp ef d j = true) := Lib.hid (fun j hj => by
          rcases Nat.lt_or_ge j (q + 1) with h | h
          · exact HA.out j h
          · rw [show j = q + 1 by omega]; exact hkp)
        clear hkp hv
        go_wp2_with fail
        go_quiet_grown (first | (go_at_fn g; refine Calls.grown_of (hc1 _ _)))
        have S2 : Aside (SWK enc k w blk off d (grow (wr.drewN nq) osq)) := S1.out.grown nq osq
        clear la1 lb1 hc1 S1
        generalize grow (wr.drewN nq) osq = w2 at S2 ⊢
        clear nq osq
        go_wp2
        go_roundg (d.size - (q + 1 + 1))
        case measure => omega
        case rel => exact ⟨q + 1 + 1, by go_num, by omega, by omega, by omega, HA2, S2⟩
      | true =>
        have hc1 : ∀ n os, Calls P g (#[.agg (enc xx).toArray, .agg (enc yy).toArray] ++ cb) (grow (wr.drewN n) os) fun e w' => e = .returned (.bool true) ∧ ∃ q os', w' = grow ((grow (wr.drewN n) os).drewN q) os' := fun n os => by
          have h := Heq.out xx yy (grow (wr.drewN n) os); rw [hv] at h; exact h
        rw [hv] at hkp
        have HC0 : Hid (Cp ef d (q + 1 + 1) (q + 1) d) := Lib.hid (Cp.start HA.out hkp)
        clear hkp hv
        go_wp2_with fail
        go_quiet_grown (first | (go_at_fn g; refine Calls.grown_of (hc1 _ _)))
        have S2 : Aside (SWK enc k w blk off d (grow (wr.drewN nq) osq)) := S1.out.grown nq osq
        clear la1 lb1 hc1 S1
        generalize grow (wr.drewN nq) osq = w2 at S2 ⊢
        clear nq osq
        have hkc : q + 1 ≤ cap := by omega
        go_wp2
        go_loopg [5, 7] d.size (fun f s5 s7 wr => ∃ (m r : Nat) (dk : Array α), s5 = .int .i64 m ∧ s7 = .int .i64 ((r : Int) + 1) ∧ m ≤ q + 1 + r ∧ q + 1 + (r + 1) ≤ d.size ∧ d.size ≤ f + (q + 1 + (r + 1)) ∧ Hid (Cp ef d (q + 1 + (r + 1)) m dk) ∧ Aside (SWK enc k w blk off dk wr))
        case atStart => exact ⟨q + 1, 0, d, by go_num, by go_num, by omega, by omega, by omega, HC0, S2⟩
        case round =>
          clear HC0 S2
          obtain ⟨m, r, dk, rfl, rfl, hmr, hrd, hf2, HC, S1⟩ := hrel
          by_cases hlt2 : q + 1 + (r + 1) < d.size
          · have hlt2z : (r : Int) + 1 < ((d.size - (q + 1) : Nat) : Int) := by omega
            have ea2 : ((r : Int) + 1).toNat = r + 1 := by omega
            have pa2 : (0 : Int) ≤ (r : Int) + 1 := by omega
            have ra2 : IntKind.i64.wrap ((r : Int) + 1) = (r : Int) + 1 := by rw [IntKind.wrap_i64]; omega
            have rc2 : IntKind.i64.wrap (r : Int) = (r : Int) := by rw [IntKind.wrap_i64]; omega
            have bc2 : (r : Int) < ((d.size - (q + 1) : Nat) : Int) := by omega
            have hmd : (m : Int) < (d.size : Int) := by omega
            have hds : dk.size = d.size := HC.out.size
            obtain ⟨uu, huu⟩ : ∃ x, x = d[q + 1 + (r + 1)]! := ⟨_, rfl⟩
            obtain ⟨vv, hvv⟩ : ∃ x, x = d[q + 1 + r]! := ⟨_, rfl⟩
            have la2 := S1.out.ld HR.out hds P (q + 1 + (r + 1)) (by omega)
            have lb2 := S1.out.ld HR.out hds P (q + 1 + r) (by omega)
            rw [HC.out.high _ (by omega), ← huu, Nat.add_mul (q + 1) (r + 1) k, ← Nat.add_assoc] at la2
            rw [HC.out.high _ (by omega), ← hvv, Nat.add_mul (q + 1) r k, ← Nat.add_assoc] at lb2
            have hkp2 : kp ef d (q + 1 + (r + 1)) = !ef uu vv := by unfold kp; rw [decide_eq_false (by omega : ¬ q + 1 + (r + 1) = 0), Bool.false_or, huu, hvv]; rfl
            have Huu := Lib.hid huu
            clear huu hvv
            cases hv2 : ef uu vv with
            | true =>
              have hc2 : ∀ n os, Calls P g (#[.agg (enc uu).toArray, .agg (enc vv).toArray] ++ cb) (grow (wr.drewN n) os) fun e w' => e = .returned (.bool true) ∧ ∃ q os', w' = grow ((grow (wr.drewN n) os).drewN q) os' := fun n os => by
                have h := Heq.out uu vv (grow (wr.drewN n) os); rw [hv2] at h; exact h
              rw [hv2] at hkp2
              have HC2 : Hid (Cp ef d (q + 1 + (r + 1) + 1) m dk) := Lib.hid (HC.out.skip hkp2)
              clear hkp2 hv2 hds
              go_wp2_with fail
              go_quiet_grown (first | (go_at_fn g; refine Calls.grown_of (hc2 _ _)))
              have S2 : Aside (SWK enc k w blk off dk (grow (wr.drewN nq) osq)) := S1.out.grown nq osq
              clear la2 lb2 hc2 S1
              generalize grow (wr.drewN nq) osq = w2 at S2 ⊢
              clear nq osq
              go_wp2
              go_roundg (d.size - (q + 1 + (r + 1 + 1)))
              case measure => omega
              case rel => exact ⟨m, r + 1, dk, rfl, by go_num, by omega, by omega, by omega, HC2, S2⟩
            | false =>
              have hc2 : ∀ n os, Calls P g (#[.agg (enc uu).toArray, .agg (enc vv).toArray] ++ cb) (grow (wr.drewN n) os) fun e w' => e = .returned (.bool false) ∧ ∃ q os', w' = grow ((grow (wr.drewN n) os).drewN q) os' := fun n os => by
                have h := Heq.out uu vv (grow (wr.drewN n) os); rw [hv2] at h; exact h
              rw [hv2] at hkp2
              have HC2 : Hid (Cp ef d (q + 1 + (r + 1) + 1) (m + 1) (dk.setIfInBounds m uu)) := Lib.hid (by rw [Huu.out]; exact HC.out.keep hlt2 hkp2)
              have Hds := Lib.hid hds
              clear hkp2 hv2 hds
              go_wp2_with fail
              go_quiet_grown (first | (go_at_fn g; refine Calls.grown_of (hc2 _ _)))
              have S2 : Aside (SWK enc k w blk off dk (grow (wr.drewN nq) osq)) := S1.out.grown nq osq
              clear la2 lb2 hc2 S1
              generalize grow (wr.drewN nq) osq = w2 at S2 ⊢
              clear nq osq
              have la3 := S2.out.load HR.out Hds.out P (q + 1 + (r + 1)) (by have := Hds.out; omega)
              rw [HC.out.high _ (by omega), ← Huu.out, Nat.add_mul (q + 1) (r + 1) k, ← Nat.add_assoc] at la3
              have sa3 := swk_st S2.out HR.out Hds.out P m (by have := Hds.out; omega) uu
              have S3 : Aside (SWK enc k w blk off (dk.setIfInBounds m uu) (w2.setCells blk (off + m * k) (enc uu))) := swk_set S2.out HR.out.hk HR.out.hblk m (by have := Hds.out; omega) uu
              have na3 : (enc uu).length = k := HR.out.hk _
              have ea3 : ((m : Int)).toNat = m := by omega
              have pa3 : (0 : Int) ≤ (m : Int) := by omega
              have ra3 : IntKind.i64.wrap (m : Int) = (m : Int) := by rw [IntKind.wrap_i64]; omega
              generalize enc uu = cU at S3 la3 sa3 na3 ⊢
              clear S2
              go_wp2
              go_roundg (d.size - (q + 1 + (r + 1 + 1)))
              case measure => omega
              case rel => exact ⟨m + 1, r + 1, dk.setIfInBounds m uu, by go_num, by go_num, by omega, by omega, by omega, HC2, S3⟩
          · have hend : q + 1 + (r + 1) = d.size := by omega
            have hlt2z : ¬ (r : Int) + 1 < ((d.size - (q + 1) : Nat) : Int) := by omega
            have Hds : Hid (dk.size = d.size) := Lib.hid HC.out.size
            obtain ⟨vs, hcl, hS3⟩ := swk_clear S1.out HR.out Hds.out 23 42 L.t23 z Hz.out m (cap - m) (by have := Hds.out; omega)
            rw [Hds.out] at hcl
            have S3 : Aside _ := hS3
            have HCe : Hid (Cp ef d d.size m dk) := Lib.hid (by rw [← hend]; exact HC.out)
            have hmn : m = n := by rw [← Hn.out]; exact HCe.out.len.symm
            have Hmn := Lib.hid hmn
            have hmc : m ≤ cap := by omega
            have hmd : m ≤ d.size := by omega
            clear hS3 hmn hend HC S1
            go_wp2
            go_ret
            refine ⟨by rw [← Hmn.out]; rfl, fil dk m z, by rw [size_fil]; exact Hds.out, fun j hj => ?_, S3.out⟩
            rw [← Hmn.out] at hj
            rw [HCe.out.low j hj, get_fil _ _ _ _ (by have := Hds.out; omega), if_pos hj]
    · have hkd2 : kk = d.size := by omega
      have hall : ∀ j, j < d.size → kp ef d j = true := by rw [← hkd2]; exact HA.out
      obtain ⟨e1, e2⟩ := cpU_len_all hall
      have E2 : Hid (∀ j, j < n → (cpU ef d d.size)[j]? = some d[j]!) := Lib.hid (fun j hj => e2 j (by rw [← Hn.out, e1] at hj; exact hj))
      have E1 : Hid (d.size = n) := Lib.hid (by rw [← Hn.out, e1])
      clear e1 e2 hall hkd2
      go_wp2
      go_ret
      exact ⟨by rw [← E1.out]; rfl, d, rfl, E2.out, S1.out⟩
end
end Go.Proofs.YtejgcnmbngdkiaaGreatDoor
/-
  A row of pairs of a call's own, as the library's sort and its compaction take it, and what stays of it.
-/
namespace Go.Proofs.YtejgcnmbngdkiaaGreatDoor
section
open Go.Shelf Go.RowKit Go.Lib Go.Sort
set_option maxRecDepth 100000

/-- Pairs with their places. -/
def tagd (ys : List Hp) : Array El := ((List.range ys.length).map (fun i => (i, (ys[i]?).getD ⟨⟨#[]⟩, .nil⟩))).toArray
theorem tagd_size (ys : List Hp) : (tagd ys).size = ys.length := by simp [tagd]
theorem tagd_get (ys : List Hp) (i : Nat) (h : i < ys.length) : (tagd ys)[i]! = (i, ys[i]) := by
  rw [getElem!_pos _ i (by rw [tagd_size]; exact h)]
  simp [tagd, h]
theorem tagd_up (ys : List Hp) : Up Prod.fst 0 (tagd ys).size (tagd ys) := by
  intro p q _ h2 h3
  rw [tagd_size] at h3
  rw [tagd_get ys p (by omega), tagd_get ys q h3]
  exact h2
theorem tagd_pair (ys : List Hp) : (tagd ys).toList.Pairwise (fun a b => a.1 < b.1) := by
  unfold tagd
  rw [List.pairwise_map]
  exact List.pairwise_lt_range
theorem elCells_len (x : El) : (elCells x).length = 7 := rfl
theorem elCells_one (x : El) : ∀ v ∈ elCells x, v.oneCell' = true := x.2.one
/-- The row is as the sort takes it. -/
theorem OwnP.rowK {w : World} {B : Nat} {g : Nat} {cap : Nat} {ys : List Hp} (h : OwnP w B (some ⟨g, 0, none⟩) cap ys) : RowK elCells 7 w g 0 (tagd ys) := by
  refine ⟨elCells_len, elCells_one, ?_, (h.lt _ rfl).2⟩
  rcases h.2 with ⟨h2, _⟩ | ⟨g', c, cur, hv, hB, hg, hn, hm, hs, ht⟩
  · cases h2
  · injection hv with e1 e2 e3
    injection e1 with e1
    injection e1 with e1
    subst e1 e3
    intro j hj
    rw [size_flatK, tagd_size] at hj
    refine ⟨?_, frozen_of_row _ _ _ _ _ hg⟩
    have hq : j / 7 < ys.length := (Nat.div_lt_iff_lt_mul (by decide)).2 hj
    have hr : j % 7 < 7 := Nat.mod_lt _ (by decide)
    rw [get_flatK _ _ _ _ (by rw [tagd_size]; exact hj), tagd_get ys _ hq]
    have hx := flatP_at ys (j / 7) ys[j / 7] (List.getElem?_eq_getElem hq)
    rw [← ht, List.drop_take, List.take_take, Nat.min_eq_left (by omega)] at hx
    have hc : w.cell? ⟨g, j, none⟩ = (ys[j / 7]).cells[j % 7]? := by
      rw [← hx, List.getElem?_take_of_lt hr, List.getElem?_drop, show j / 7 * 7 + j % 7 = j from by omega]
      unfold World.cell?
      simp only [hg]
      simp
    rw [Nat.zero_add, hc]
    show _ = some ((ys[j / 7]).cells[j % 7]!)
    rw [getElem!_pos _ _ (by exact hr), List.getElem?_eq_getElem (by exact hr)]
/-- A world of the sort's: nothing but the row has turned. -/
theorem swk_below {α : Type} [Inhabited α] {enc : α → List Value} {k : Nat} {w0 W : World} {blk off : Nat} {d : Array α} (h : SWK enc k w0 blk off d W) (B : Nat) (hB : B ≤ blk) (hB2 : B ≤ w0.heap.size) : Go.RowKit.Below B w0 W ∧ ∀ j, j < w0.heap.size → j ≠ blk → W.heap[j]? = w0.heap[j]? := by
  obtain ⟨n, os, rfl⟩ := h
  have hsz : (putRowK enc k (Sort.ahead w0 n) blk off d).heap.size = w0.heap.size := by rw [size_putRowK]; rfl
  have hkeep : ∀ j, j < w0.heap.size → j ≠ blk → (sortWorldK enc k w0 blk off n d os).heap[j]? = w0.heap[j]? := by
    intro j hj hne
    unfold sortWorldK grow
    show ((putRowK enc k (Sort.ahead w0 n) blk off d).heap ++ os)[j]? = _
    rw [Array.getElem?_append_left (by rw [hsz]; exact hj)]
    show (w0.heap.modify blk _)[j]? = _
    rw [Array.getElem?_modify, if_neg (Ne.symm hne)]
  refine ⟨⟨rfl, rfl, rfl, ?_, fun j hj => hkeep j (by omega) (by omega)⟩, hkeep⟩
  exact size_sortWorldK_c enc k w0 blk off n d os

/-- What a tagged pair is read as. -/
def valT (vs : Prs) (x : El) : ByteArray × Val := (x.2.key, ((vs[x.1]?).map Prod.snd).getD .null)
theorem valT_key (vs : Prs) (x : El) : (valT vs x).1 = x.2.key := rfl
theorem tagd_mem {ys : List Hp} {x : El} (h : x ∈ (tagd ys).toList) : ∃ (i : Nat) (h : i < ys.length), x = (i, ys[i]) := by
  obtain ⟨i, hi, e⟩ := List.mem_map.1 (show x ∈ (List.range ys.length).map (fun i => (i, (ys[i]?).getD ⟨⟨#[]⟩, .nil⟩)) from h)
  rw [List.mem_range] at hi
  exact ⟨i, hi, by rw [← e, List.getElem?_eq_getElem hi]; rfl⟩
theorem valT_map {ys : List Hp} {vs : Prs} (hl : ys.length = vs.length) (hk : ∀ i (h : i < ys.length) (h' : i < vs.length), (ys[i]).key = (vs[i]).1) : (tagd ys).toList.map (valT vs) = vs := by
  refine List.ext_getElem (by simp [tagd, hl]) fun i h1 h2 => ?_
  have hi : i < ys.length := by rw [hl]; exact h2
  rw [List.getElem_map]
  have e : (tagd ys).toList[i]'(by simpa using h1) = (i, ys[i]) := by
    have h3 := tagd_get ys i hi
    rw [getElem!_pos _ i (by rw [tagd_size]; exact hi)] at h3
    simpa using h3
  rw [e]
  unfold valT
  rw [List.getElem?_eq_getElem h2, hk i hi h2]
  rfl
/-- Sorted and compacted: of pairs of one key the first one, by rising keys, read from where they were read. -/
theorem compacted {w w1 w2 : World} {B g cap n : Nat} {ys : List Hp} {vs : Prs} {S : Nat → Prop} {d1 d2 : Array El} (hO : OwnP w B (some ⟨g, 0, none⟩) cap ys) (hl : ys.length = vs.length)
    (hr : ∀ i (h : i < ys.length) (h' : i < vs.length), (ys[i]).key = (vs[i]).1 ∧ Rd w S (ys[i]).v (vs[i]).2) (hS : ∀ k, S k → k < w.heap.size ∧ k ≠ g)
    (hperm : PermIn 0 (tagd ys).size (tagd ys) d1) (hs : SortedIn (lx (ltOf cfK) Prod.fst) 0 (tagd ys).size d1) (h1 : SWK elCells 7 w g 0 d1 w1)
    (hn : (cpU efK d1 d1.size).length = n) (hd2 : d2.size = d1.size) (hlow : ∀ j, j < n → (cpU efK d1 d1.size)[j]? = some d2[j]!) (h2 : SWK elCells 7 w1 g 0 d2 w2) (hcap : n ≤ cap) (hcm : cap ≤ maxLen) :
    RdD w2 (fun k => S k ∨ k = g) ⟨some ⟨g, 0, none⟩, n, cap⟩ (riseD vs) := by
  have R := hO.rowK
  have R1 := h1.holds R.hblk R.hH (by rw [hperm.1])
  have hb1 : g < w1.heap.size := h1.lt R.hblk
  have R2 := h2.holds hb1 R1 hd2
  have hrise := comp_rise (tagd ys) d1 (valT vs) (valT_key vs) (tagd_pair ys) hperm hs
  rw [valT_map hl (fun i h h' => (hr i h h').1), ← hperm.1] at hrise
  have hlen : (riseD vs).length = n := by rw [← hrise, List.length_map, hn]
  have hk1 := (swk_below h1 0 (Nat.zero_le _) (Nat.zero_le _)).2
  have hk2 := (swk_below h2 0 (Nat.zero_le _) (Nat.zero_le _)).2
  have hkeep : ∀ k, S k → w2.heap[k]? = w.heap[k]? := fun k hk => by
    obtain ⟨a, b⟩ := hS k hk
    rw [hk2 k (Nat.lt_of_lt_of_le a h1.le) b, hk1 k a b]
  have hnd : n ≤ d2.size := by
    have : (cpU efK d1 d1.size).length ≤ d1.size := by
      unfold cpU
      rw [List.length_map]
      exact Nat.le_trans (List.length_filter_le _ _) (by simp)
    omega
  refine ⟨hlen.symm, ⟨hcap, hcm⟩, g, 0, fun i => (d2[i]!).2, fun _ => ⟨rfl, .inr rfl⟩, fun i hi => ?_, fun i hi => ?_⟩
  · rw [hlen] at hi
    have hc : ∀ c, c < 7 → w2.cell? ⟨g, 0 + i * 7 + c, none⟩ = some ((elCells d2[i]!)[c]!) := fun c hc => (R2.cell (by omega) hc).1
    exact ⟨hc 0 (by decide), hc 1 (by decide), hc 2 (by decide), hc 3 (by decide), hc 4 (by decide), hc 5 (by decide), hc 6 (by decide)⟩
  · have hi2 : i < n := by rw [← hlen]; exact hi
    have h3 := hlow i hi2
    have hmem : d2[i]! ∈ cpU efK d1 d1.size := List.mem_of_getElem? h3
    obtain ⟨j, hj, _, e⟩ := mem_cpU.1 hmem
    have hm1 : d2[i]! ∈ d1.toList := by rw [← e]; exact get_mem d1 hj
    have hm2 : d2[i]! ∈ (tagd ys).toList := by
      have h := hperm.2.2
      rw [show d1.extract 0 (tagd ys).size = d1 by rw [← hperm.1, Array.extract_size], Array.extract_size] at h
      exact h.mem_iff.1 hm1
    obtain ⟨q, hq, e2⟩ := tagd_mem hm2
    have hv : (riseD vs)[i] = valT vs d2[i]! := by
      have h4 : (riseD vs)[i]? = some (valT vs d2[i]!) := by rw [← hrise, List.getElem?_map, h3]; rfl
      rw [List.getElem?_eq_getElem hi] at h4
      exact Option.some.inj h4
    show (d2[i]!).2.key = ((riseD vs)[i]).1 ∧ Rd w2 (fun k => S k ∨ k = g) (d2[i]!).2.v ((riseD vs)[i]).2
    rw [hv, e2]
    have hq2 : q < vs.length := by rw [← hl]; exact hq
    unfold valT
    rw [List.getElem?_eq_getElem hq2]
    exact ⟨rfl, ((hr q hq hq2).2.later hkeep).mono (fun k hk => .inl hk)⟩
end
end Go.Proofs.YtejgcnmbngdkiaaGreatDoor
