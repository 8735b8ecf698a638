/- Lists of records that the library's SortFunc sorts: from a list in memory to its words, and back (no program). -/
import Derived.Test.YtheaghgockafmaaGreatWdO
import Derived.Shelf.SlSortCmp.WholeK
namespace Go.Proofs.YtheaghgockafmaaGreat.Wd
open Go.RowKit Go.Proofs.YtheaghgockafmaaGreat Go.Sort Go.Shelf
set_option maxRecDepth 100000

section
variable {α : Type} [Inhabited α] {f : α → List Value} {s : Nat}

theorem get_toList {β : Type} [Inhabited β] (a : Array β) (t : Nat) (h : t < a.size) : a.toList[t]? = some a[t]! := by
  rw [getElem!_pos a t h]; simp [h]
theorem flatK_flat (hs : ∀ a, (f a).length = s) (h0 : 0 < s) (L : List α) : (flatK f s L.toArray).toList = flat f L := by
  refine List.ext_getElem? fun t => ?_
  by_cases ht : t < L.length * s
  · have hi : t / s < L.length := (Nat.div_lt_iff_lt_mul h0).2 ht
    have hj : t % s < s := Nat.mod_lt _ h0
    have e := flat_get hs L (t / s) (t % s) L[t / s] (List.getElem?_eq_getElem hi) hj
    rw [Nat.div_add_mod'] at e
    rw [e, get_toList _ _ (by simpa using ht), get_flatK f s L.toArray t (by simpa using ht)]
    have e2 : L.toArray[t / s]! = L[t / s] := by rw [getElem!_pos _ _ (by simpa using hi)]; simp
    rw [e2, getElem!_pos _ _ (by rw [hs]; exact hj), List.getElem?_eq_getElem]
  · rw [List.getElem?_eq_none (by simp; omega), List.getElem?_eq_none (by rw [flat_length hs]; omega)]

omit [Inhabited α] in
theorem rec_count {w : World} {t : TypeId} {a : Option Addr} {n cap : Nat} {L : List α} (h : Rec w t f s (.slice a n cap) L) : n = L.length := by
  obtain ⟨_, _, hv, _⟩ := h.slice
  simp only [Value.slice.injEq] at hv; exact hv.2.1

theorem rec_holds {w : World} {t : TypeId} {g off n cap : Nat} {L : List α} (h : Rec w t f s (.slice (some ⟨g, off, none⟩) n cap) L) (hs : ∀ a, (f a).length = s) (h0 : 0 < s) : HoldsK f s w g off L.toArray := by
  have hn := rec_count h
  subst hn
  obtain ⟨_, _, hv, hc, _⟩ := h.slice
  simp only [Value.slice.injEq] at hv
  obtain ⟨_, _, rfl⟩ := hv
  intro j hj
  have hj' : j < L.length * s := by simpa using hj
  have hcs := Nat.mul_le_mul_right s hc
  refine ⟨?_, (h.row.there j (by omega)).2⟩
  rw [h.row.cellAt j hj', ← flatK_flat hs h0 L, get_toList _ _ hj]
  rfl

theorem sortWorld_heap {w : World} {g off n : Nat} {d : Array α} {os : Array Obj} {cur : Array Value} {t : TypeId} {fr : Nat × Nat} (hg : w.heap[g]? = some (.cells cur t fr)) :
    (sortWorldK f s w g off n d os).heap[g]? = some (.cells (putCells id off (flatK f s d) cur) t fr) := by
  have hl : g < w.heap.size := lt_of_block hg
  unfold sortWorldK
  rw [heap_grow_old _ _ (by rw [size_putRowK]; exact hl)]
  unfold putRowK putRow mapBlock
  simp [Array.getElem?_modify, hg, onCells]
theorem sortWorld_keep {w : World} {g off n : Nat} {d : Array α} {os : Array Obj} : Keep (fun b => b = g) w (sortWorldK f s w g off n d os) := by
  refine ⟨rfl, rfl, rfl, ?_, fun i hi hn => ?_⟩
  · unfold sortWorldK; rw [size_grow, size_putRowK]; exact Nat.le_add_right _ _
  · unfold sortWorldK
    rw [heap_grow_old _ _ (by rw [size_putRowK]; exact hi)]
    unfold putRowK putRow mapBlock
    rw [Array.getElem?_modify, if_neg (fun e => hn e.symm)]
    rfl

/-- The list as it lies behind. -/
theorem rec_sorted {w : World} {t : TypeId} {g off n cap m : Nat} {L : List α} {d : Array α} {os : Array Obj} (h : Rec w t f s (.slice (some ⟨g, off, none⟩) n cap) L) (hs : ∀ a, (f a).length = s) (h0 : 0 < s) (hd : d.size = L.length) :
    Rec (sortWorldK f s w g off m d os) t f s (.slice (some ⟨g, off, none⟩) n cap) d.toList := by
  have hn := rec_count h
  subst hn
  have hrow := h.row
  unfold Rec
  rw [show d.toList.length = L.length by simpa using hd]
  rcases hrow.2 with ⟨h', _⟩ | ⟨g', off', cap', cur, lo, hi, h', hg, hnc, hcm, hsz, hf, htake⟩
  · simp at h'
  · simp only [Value.slice.injEq, Option.some.injEq, Addr.mk.injEq, and_true, true_and] at h'
    obtain ⟨⟨rfl, rfl⟩, rfl⟩ := h'
    have hcs := Nat.mul_le_mul_right s hnc
    refine ⟨by rw [flat_length hs]; simp [hd], .inr ⟨g, off, cap, _, lo, hi, rfl, sortWorld_heap hg, hnc, hcm, by simpa [putCells] using hsz, hf, ?_⟩⟩
    refine List.ext_getElem? fun j => ?_
    by_cases hj : j < L.length * s
    · have hfd : (flatK f s d).toList = flat f d.toList := by
        have := flatK_flat hs h0 d.toList
        simpa using this
      have hlt : off + j < cur.size := by omega
      rw [List.getElem?_take, if_pos hj, List.getElem?_drop, ← hfd, get_toList (flatK f s d) j (by simpa [hd] using hj)]
      simp only [putCells, Array.getElem?_toList, Array.getElem?_mapIdx, Array.getElem?_eq_getElem hlt, Option.map_some]
      rw [if_pos ⟨by omega, by rw [size_flatK, hd]; omega⟩, Nat.add_sub_cancel_left]
      rfl
    · rw [List.getElem?_eq_none (by rw [List.length_take]; omega), List.getElem?_eq_none (by rw [flat_length hs]; simp [hd]; omega)]

/-- Sorted as the library says: sorted by a key. -/
theorem sortOf_lib {key : α → Int} {cf : α → α → Int} (hcf : ∀ x y, ltOf cf x y = decide (key x < key y)) {d d' : Array α} (hp : PermIn 0 d.size d d') (hs : SortedIn (ltOf cf) 0 d.size d') : SortOf key d.toList d'.toList := by
  obtain ⟨h1, _, h3⟩ := hp
  rw [Array.extract_eq_self_of_le (Nat.le_refl _), Array.extract_eq_self_of_le (by omega)] at h3
  refine ⟨h3, ?_⟩
  rw [List.pairwise_iff_getElem]
  intro i j hi hj hij
  have hi' : i < d'.size := by simpa using hi
  have hj' : j < d'.size := by simpa using hj
  have := hs i j (Nat.zero_le _) hij (by omega)
  rw [hcf, getElem!_pos d' i hi', getElem!_pos d' j hj', decide_eq_false_iff_not] at this
  simp only [Array.getElem_toList]
  omega
omit [Inhabited α] in
theorem swo_key {key : α → Int} {cf : α → α → Int} (hcf : ∀ x y, ltOf cf x y = decide (key x < key y)) : SWO (ltOf cf) where
  irrefl x := by rw [hcf]; simp
  trans x y z h1 h2 := by rw [hcf, decide_eq_true_eq] at *; omega
  ntrans x y z h1 h2 := by rw [hcf, decide_eq_false_iff_not] at *; omega
end
end Go.Proofs.YtheaghgockafmaaGreat.Wd
