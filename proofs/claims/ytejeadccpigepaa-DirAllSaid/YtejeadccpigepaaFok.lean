/- Files on blocks: what a file holds behind a Write; no program here. -/
import Derived.Test.YtejeadccpigepaaReadF
namespace Go.Proofs.Ytejeadccpigepaa.Ino
open Go.RowKit Go.Maps Go.Proofs.Ytejeadccpigepaa
set_option maxRecDepth 100000

/-- A file that is well: its numbers differ, are out, and no other is. -/
structure Fok (S : Sto) (T : List Nat) : Prop where
  len : T.length = 203
  small : ∀ k, tg T k ≤ S.nxt
  inj : ∀ i j, tg T i ≠ 0 → tg T i = tg T j → i = j
  held : Held S T
  count : S.c = cntB T 203
  cm : S.c ≤ S.most

theorem tg_zero203 (k : Nat) : tg zero203 k = 0 := by
  rw [tg, zero203, List.getD_eq_getElem?_getD, List.getElem?_replicate]
  split <;> rfl

theorem cntB_zero203 (n : Nat) : cntB zero203 n = 0 := by
  induction n with
  | zero => rfl
  | succ n ih => rw [cntB, ih, tg_zero203, if_pos rfl]

theorem Fok.fresh (S : Sto) (h : S.c = 0) : Fok S zero203 :=
  ⟨by simp [zero203], fun k => by rw [tg_zero203]; omega, fun i j h => absurd (tg_zero203 i) h, fun k h => absurd (tg_zero203 k) h, by rw [h, cntB_zero203], by omega⟩

theorem growTo_inj (a b : Nat) (T : List Nat) (nx k : Nat) (hk : k ≤ T.length) (hs : ∀ j, tg T j ≤ nx) (hi : ∀ i j, tg T i ≠ 0 → tg T i = tg T j → i = j) :
    (∀ j, tg (growTo a b T nx k).1 j ≤ (growTo a b T nx k).2) ∧ ∀ i j, tg (growTo a b T nx k).1 i ≠ 0 → tg (growTo a b T nx k).1 i = tg (growTo a b T nx k).1 j → i = j := by
  induction k with
  | zero => exact ⟨hs, hi⟩
  | succ k ih =>
    obtain ⟨h1, h2⟩ := ih (by omega)
    have hln := growTo_length a b T nx k
    rw [growTo, growStep]
    generalize growTo a b T nx k = G at *
    obtain ⟨U, n⟩ := G
    simp only at h1 h2 hln ⊢
    split
    · have hset : ∀ j, tg (U.set k (n + 1)) j = if j = k then n + 1 else tg U j := fun j => tg_set U k j (n + 1) (by omega)
      simp only [hset]
      refine ⟨fun j => ?_, fun i j hi0 he => ?_⟩
      · split
        · exact Nat.le_refl _
        · exact Nat.le_succ_of_le (h1 j)
      · by_cases e1 : i = k
        · by_cases e2 : j = k
          · omega
          · rw [if_pos e1, if_neg e2] at he
            have := h1 j; omega
        · by_cases e2 : j = k
          · rw [if_neg e1, if_pos e2] at he
            have := h1 i; omega
          · rw [if_neg e1, if_neg e2] at he
            rw [if_neg e1] at hi0
            exact h2 i j hi0 he
    · exact ⟨h1, h2⟩

theorem cntB_set_past (T : List Nat) (k v n : Nat) (hk : k < T.length) (hn : n ≤ k) : cntB (T.set k v) n = cntB T n := by
  induction n with
  | zero => rfl
  | succ n ih => rw [cntB, cntB, ih (by omega), tg_set _ _ _ _ hk, if_neg (show ¬ n = k by omega)]

theorem cntB_set (T : List Nat) (k v n : Nat) (hk : k < T.length) (hn : k < n) (h0 : tg T k = 0) (hv : v ≠ 0) : cntB (T.set k v) n = cntB T n + 1 := by
  induction n with
  | zero => omega
  | succ n ih =>
    by_cases e : n = k
    · subst e
      rw [cntB, cntB, cntB_set_past _ _ _ _ hk (Nat.le_refl _), tg_set _ _ _ _ hk, if_pos rfl, if_neg hv, h0, if_pos rfl]
    · rw [cntB, cntB, ih (by omega), tg_set _ _ _ _ hk, if_neg e]
      omega

theorem cntB_grow (a b : Nat) (T : List Nat) (nx k : Nat) (hT : T.length = 203) (hk : k ≤ 203) : nx ≤ (growTo a b T nx k).2 ∧ cntB (growTo a b T nx k).1 203 = cntB T 203 + ((growTo a b T nx k).2 - nx) := by
  induction k with
  | zero => exact ⟨Nat.le_refl _, by simp [growTo]⟩
  | succ k ih =>
    obtain ⟨h1, h2⟩ := ih (by omega)
    have hln := growTo_length a b T nx k
    rw [growTo, growStep]
    generalize growTo a b T nx k = G at *
    obtain ⟨U, n⟩ := G
    simp only at h1 h2 hln ⊢
    split
    · rename_i hc
      simp only
      rw [cntB_set U k (n + 1) 203 (by omega) (by omega) hc.1 (by omega)]
      omega
    · exact ⟨h1, h2⟩

theorem growTo_behind (a b : Nat) (T : List Nat) (nx : Nat) {j n : Nat} (hj : j < n) (hn : n ≤ T.length) : tg (growTo a b T nx n).1 j = tg (growTo a b T nx (j + 1)).1 j := by
  induction n with
  | zero => omega
  | succ n ih =>
    by_cases e : j = n
    · subst e; rfl
    · rw [← ih (by omega) (by omega)]
      rw [growTo, growStep]
      have hln := growTo_length a b T nx n
      split
      · rw [tg_set _ _ _ _ (by omega), if_neg e]
      · rfl

/-- What stands in a slot behind growth. -/
theorem growTo_at (a b : Nat) (T : List Nat) (nx : Nat) {j n : Nat} (hj : j < n) (hn : n ≤ T.length) :
    (tg T j ≠ 0 ∨ needsB (growTo a b T nx j).1 j a b = false → tg (growTo a b T nx n).1 j = tg T j) ∧ (tg T j = 0 → needsB (growTo a b T nx j).1 j a b = true → tg (growTo a b T nx n).1 j ≠ 0) := by
  have hah := growTo_ahead a b T nx j j (Nat.le_refl _) (by omega)
  have hln := growTo_length a b T nx j
  rw [growTo_behind a b T nx hj hn, growTo, growStep, hah]
  refine ⟨fun h => ?_, fun h0 h1 => ?_⟩
  · rw [if_neg (fun hc => by
      rcases h with h | h
      · exact h hc.1
      · rw [hc.2] at h; cases h)]
    exact hah
  · rw [if_pos ⟨h0, h1⟩, tg_set _ _ _ _ (by omega), if_pos rfl]
    omega

theorem growTo_lo (a b : Nat) (T : List Nat) (nx : Nat) (hT : T.length = 203) {j : Nat} (hj : j < 200) :
    (¬ (a ≤ j ∧ j < b) → tg (growTo a b T nx 203).1 j = tg T j) ∧ (a ≤ j ∧ j < b → tg (growTo a b T nx 203).1 j ≠ 0) := by
  have h := growTo_at a b T nx (j := j) (n := 203) (by omega) (by omega)
  have e : needsB (growTo a b T nx j).1 j a b = decide (a ≤ j ∧ j < b) := by rw [needsB, if_pos hj]
  rw [e] at h
  refine ⟨fun hn => h.1 (.inr (by simpa using hn)), fun hy => ?_⟩
  by_cases h0 : tg T j = 0
  · exact h.2 h0 (by simpa using hy)
  · rw [h.1 (.inl h0)]; exact h0

/-! ### changes as a view of the blocks -/
def viewPut (V : Nat → List UInt8) : List Chg → Nat → List UInt8
  | [] => V
  | c :: l => viewPut (fun k => if k = c.k then c.new else V k) l

theorem viewPut_congr {V V' : Nat → List UInt8} (l : List Chg) (k : Nat) (h : V k = V' k) : viewPut V l k = viewPut V' l k := by
  induction l generalizing V V' with
  | nil => exact h
  | cons c l ih =>
    rw [viewPut, viewPut]
    exact ih (by simp only [h])

theorem viewPut_skip {V : Nat → List UInt8} (l : List Chg) (k : Nat) (h : ∀ c ∈ l, c.k ≠ k) : viewPut V l k = V k := by
  induction l generalizing V with
  | nil => rfl
  | cons c l ih =>
    rw [viewPut, ih (fun x hx => h x (List.mem_cons_of_mem _ hx))]
    rw [if_neg (fun e => h c (List.mem_cons_self ..) e.symm)]

theorem viewPut_append {V : Nat → List UInt8} (l m : List Chg) (k : Nat) : viewPut V (l ++ m) k = viewPut (viewPut V l) m k := by
  induction l generalizing V with
  | nil => rfl
  | cons c l ih => rw [List.cons_append, viewPut, viewPut, ih]

theorem putAll_view {T2 : List Nat} (hi : ∀ i j, tg T2 i ≠ 0 → tg T2 i = tg T2 j → i = j) (l : List Chg) (S : Sto) (k : Nat) (hk : tg T2 k ≠ 0) : blkOf (putAll S T2 l) T2 k = viewPut (blkOf S T2) l k := by
  induction l generalizing S with
  | nil => rfl
  | cons c l ih =>
    rw [putAll, viewPut, ih]
    refine viewPut_congr l k ?_
    by_cases h0 : tg T2 c.k = 0
    · rw [if_pos h0, if_neg (fun e : k = c.k => hk (by rw [e]; exact h0))]
    · rw [if_neg h0]
      unfold blkOf
      rw [if_neg hk]
      simp only [Sto.set]
      by_cases e : k = c.k
      · subst e; simp
      · rw [if_neg (fun e' => e (hi _ _ hk e')), if_neg e, if_neg hk]

theorem over_getD {B X : List UInt8} {r j : Nat} (hB : B.length = 512) (hr : r + X.length ≤ 512) : (over B r X).getD j 0 = if r ≤ j ∧ j < r + X.length then X.getD (j - r) 0 else B.getD j 0 := by
  simp only [over, List.getD_eq_getElem?_getD, List.getElem?_append, List.length_append, List.length_take, List.getElem?_take, List.getElem?_drop]
  have h1 : min r B.length = r := by omega
  rw [h1]
  by_cases h2 : j < r
  · rw [if_pos (by omega), if_pos h2, if_pos h2, if_neg (by omega)]
  · by_cases h3 : j < r + X.length
    · rw [if_pos h3, if_neg h2, if_pos (by omega)]
    · rw [if_neg h3, if_neg (by omega)]
      congr 2; omega

theorem laid_view (S : Sto) (T : List Nat) (hB : ∀ k, (blkOf S T k).length = 512) : ∀ (f a : Nat) (b : List UInt8) (V : Nat → List UInt8) (k j : Nat), b.length ≤ f → j < 512 →
    (viewPut V (laidL S T f a b) k).getD j 0 = if a ≤ 512 * k + j ∧ 512 * k + j < a + b.length then b.getD (512 * k + j - a) 0 else if 0 < b.length ∧ a / 512 ≤ k ∧ 512 * k < a + b.length then (blkOf S T k).getD j 0 else (V k).getD j 0
  | 0, a, b, V, k, j, hf, hj => by
    have e : b.length = 0 := by omega
    rw [laidL, viewPut, if_neg (by omega), if_neg (by omega)]
  | f + 1, a, b, V, k, j, hf, hj => by
    rw [laidL]
    by_cases hb : b = []
    · subst hb
      rw [if_pos rfl, viewPut, if_neg (by simp), if_neg (by simp)]
    · have hp : 0 < b.length := List.length_pos_iff.2 hb
      rw [if_neg hb, viewPut]
      obtain ⟨X, hX⟩ : ∃ X, X = b.take (512 - a % 512) := ⟨_, rfl⟩
      have hXl : X.length = min (512 - a % 512) b.length := by rw [hX, List.length_take]
      have hr := Nat.mod_lt a (show 0 < 512 by omega)
      have hda : 512 * (a / 512) + a % 512 = a := Nat.div_add_mod a 512
      rw [← hX, laid_view S T hB f (a + X.length) (b.drop X.length) _ k j (by rw [List.length_drop]; omega) hj]
      rw [List.length_drop]
      simp only
      by_cases hk : k = a / 512
      · rw [if_neg (by omega), if_neg (by omega), if_pos hk, over_getD (hB _) (by omega)]
        by_cases h1 : a % 512 ≤ j ∧ j < a % 512 + X.length
        · rw [if_pos h1, if_pos (by omega), hX, List.getD_eq_getElem?_getD, List.getElem?_take, if_pos (by omega), List.getD_eq_getElem?_getD]
          congr 2; omega
        · rw [if_neg h1, if_neg (by omega), if_pos (by omega), hk]
      · rw [if_neg hk]
        by_cases h1 : a ≤ 512 * k + j ∧ 512 * k + j < a + b.length
        · rw [if_pos h1, if_pos (by omega), List.getD_eq_getElem?_getD, List.getElem?_drop, List.getD_eq_getElem?_getD]
          congr 2; omega
        · rw [if_neg h1, if_neg (by omega)]
          by_cases h2 : 0 < b.length ∧ a / 512 ≤ k ∧ 512 * k < a + b.length
          · rw [if_pos h2, if_pos (by omega)]
          · rw [if_neg h2, if_neg (by omega)]

theorem pagedL_k (T T' : List Nat) (n : Nat) : ∀ c ∈ pagedL T T' n, 200 ≤ c.k := by
  intro c hc
  unfold pagedL at hc
  obtain ⟨j, hj, rfl⟩ := List.mem_map.1 hc
  have := (List.mem_filter.1 hj).1
  rw [List.mem_range'_1] at this
  exact this.1

theorem zero512_getD (j : Nat) : zero512.getD j 0 = 0 := by
  rw [zero512, List.getD_eq_getElem?_getD, List.getElem?_replicate]
  split <;> rfl

/-- What a file holds behind a Write. -/
theorem write_holds {S S' : Sto} {T : List Nat} (h : Fok S T) (hB : ∀ k, (blkOf S T k).length = 512) (a : Nat) (b : List UInt8) (hb : 0 < b.length) (hG : Grw S S') (hn : S'.nxt = (growTo (a / 512) ((a + b.length + 511) / 512) T S.nxt 203).2) (hfit : S.c + ((growTo (a / 512) ((a + b.length + 511) / 512) T S.nxt 203).2 - S.nxt) ≤ S.most)
    {T2 : List Nat} (hT2 : T2 = (growTo (a / 512) ((a + b.length + 511) / 512) T S.nxt 203).1) {S2 : Sto} (hS2 : S2 = putAll S' T2 (laidL S T b.length a b ++ pagedL T T2 203)) :
    Fok S2 T2 ∧ S2.c = cntB T2 203 ∧ S2.most = S.most ∧ S2.nxt = (growTo (a / 512) ((a + b.length + 511) / 512) T S.nxt 203).2 ∧ ∀ i, i < 102400 → fileB S2 T2 i = if a ≤ i ∧ i < a + b.length then b.getD (i - a) 0 else fileB S T i := by
  obtain ⟨p, hp⟩ : ∃ p, p = a / 512 := ⟨_, rfl⟩
  obtain ⟨q, hq⟩ : ∃ q, q = (a + b.length + 511) / 512 := ⟨_, rfl⟩
  have hT := h.len
  have hsm : ∀ x ∈ T, x ≤ S.nxt := fun x hx => by
    obtain ⟨j, hj, rfl⟩ := List.mem_iff_getElem.1 hx
    have := h.small j
    rwa [tg, List.getD_eq_getElem?_getD, List.getElem?_eq_getElem hj] at this
  have hgi := growTo_inj (a / 512) ((a + b.length + 511) / 512) T S.nxt 203 (by omega) h.small h.inj
  have hcn := cntB_grow (a / 512) ((a + b.length + 511) / 512) T S.nxt 203 hT (by omega)
  have hhd := h.held.grown hT hsm hG hn
  have hln := growTo_length (a / 512) ((a + b.length + 511) / 512) T S.nxt 203
  have hlo : ∀ j, j < 200 → _ := fun j hj => growTo_lo (a / 512) ((a + b.length + 511) / 512) T S.nxt hT (j := j) hj
  rw [← hT2] at hgi hcn hhd hln
  simp only [← hT2] at hlo
  obtain ⟨n1, n2, n3⟩ := putAll_num S' T2 (laidL S T b.length a b ++ pagedL T T2 203)
  rw [← hS2] at n1 n2 n3
  have hc := hG.c; have hm := hG.most
  have hcc := h.count
  have hcnt : S2.c = cntB T2 203 := by omega
  refine ⟨⟨by omega, fun k => by have := hgi.1 k; omega, hgi.2, fun k hk => ?_, hcnt, by omega⟩, hcnt, by omega, by omega, fun i hi => ?_⟩
  · rw [hS2]; exact putAll_some _ _ _ _ (hhd k hk)
  · have hk : i / 512 < 200 := by omega
    have hj := Nat.mod_lt i (show 0 < 512 by omega)
    have hdm : 512 * (i / 512) + i % 512 = i := Nat.div_add_mod i 512
    obtain ⟨l1, l2⟩ := hlo (i / 512) hk
    unfold fileB
    generalize i / 512 = k at *
    generalize i % 512 = j at *
    by_cases h0 : tg T2 k = 0
    · have hnr : ¬ (a / 512 ≤ k ∧ k < (a + b.length + 511) / 512) := fun hx => l2 hx h0
      have e1 : tg T k = 0 := by rw [← l1 hnr]; exact h0
      rw [if_neg (by omega), blkOf, if_pos h0, blkOf, if_pos e1]
    · rw [hS2, putAll_view hgi.2 _ _ _ h0, viewPut_append, viewPut_skip _ _ (fun c hc => by have := pagedL_k T T2 203 c hc; omega), laid_view S T hB _ _ _ _ _ _ (Nat.le_refl _) hj]
      rw [hdm]
      by_cases h1 : a ≤ i ∧ i < a + b.length
      · rw [if_pos h1, if_pos h1]
      · rw [if_neg h1, if_neg h1]
        split
        · rfl
        · rename_i h2
          have hnr : ¬ (a / 512 ≤ k ∧ k < (a + b.length + 511) / 512) := fun hx => h2 (by omega)
          have e1 := l1 hnr
          unfold blkOf
          rw [if_neg h0, e1]
          rw [if_neg (e1 ▸ h0), hG.old _ (h.small k)]

/-! ### which blocks there are -/
theorem usedB_iff (T : List Nat) (hT : T.length = 203) {k : Nat} (hk : k = 200 ∨ k = 201 ∨ k = 202) : usedB T k = true ↔ ∃ j, namedFrom k ≤ j ∧ j < namedTo k ∧ tg T j ≠ 0 := by
  have hto : namedTo k ≤ 203 := by rcases hk with rfl | rfl | rfl <;> simp [namedTo]
  unfold usedB namedL
  rw [List.any_eq_true]
  refine ⟨fun ⟨x, hx, h0⟩ => ?_, fun ⟨j, h1, h2, h3⟩ => ⟨tg T j, ?_, by simpa using h3⟩⟩
  · obtain ⟨i, hi, rfl⟩ := List.mem_iff_getElem.1 hx
    rw [List.length_take, List.length_drop] at hi
    refine ⟨namedFrom k + i, by omega, by omega, ?_⟩
    rw [tg, List.getD_eq_getElem?_getD, List.getElem?_eq_getElem (by omega)]
    simpa [List.getElem_take, List.getElem_drop] using h0
  · refine List.mem_iff_getElem.2 ⟨j - namedFrom k, by rw [List.length_take, List.length_drop]; omega, ?_⟩
    rw [List.getElem_take, List.getElem_drop, tg, List.getD_eq_getElem?_getD, List.getElem?_eq_getElem (by omega)]
    simp only [Option.getD_some]
    congr 1; omega

theorem growTo_hi (a b : Nat) (T : List Nat) (nx : Nat) (hT : T.length = 203) {k : Nat} (hk : k = 200 ∨ k = 201 ∨ k = 202) :
    tg (growTo a b T nx 203).1 k ≠ 0 ↔ tg T k ≠ 0 ∨ usedB (growTo a b T nx 203).1 k = true := by
  have h := growTo_at a b T nx (j := k) (n := 203) (by omega) (by omega)
  have e : needsB (growTo a b T nx k).1 k a b = usedB (growTo a b T nx 203).1 k := by
    rw [needsB, if_neg (by omega), Bool.eq_iff_iff, usedB_iff _ (by rw [growTo_length, hT]) hk, usedB_iff _ (by rw [growTo_length, hT]) hk]
    have hto : namedTo k ≤ k := by rcases hk with rfl | rfl | rfl <;> simp [namedTo]
    have hs : ∀ j, j < namedTo k → tg (growTo a b T nx k).1 j = tg (growTo a b T nx 203).1 j := fun j hj => by
      rw [growTo_behind a b T nx (j := j) (n := k) (by omega) (by omega), growTo_behind a b T nx (j := j) (n := 203) (by omega) (by omega)]
    refine ⟨fun ⟨j, h1, h2, h3⟩ => ⟨j, h1, h2, by rw [← hs j h2]; exact h3⟩, fun ⟨j, h1, h2, h3⟩ => ⟨j, h1, h2, by rw [hs j h2]; exact h3⟩⟩
  rw [e] at h
  by_cases h0 : tg T k = 0
  · cases hu : usedB (growTo a b T nx 203).1 k
    · rw [h.1 (.inr hu)]; simp [h0]
    · exact ⟨fun _ => .inr rfl, fun _ => h.2 h0 hu⟩
  · rw [h.1 (.inl h0)]
    exact ⟨fun _ => .inl h0, fun _ => h0⟩

def cntP (P : Nat → Bool) : Nat → Nat
  | 0 => 0
  | k + 1 => cntP P k + if P k = true then 1 else 0

theorem cntB_pred {T : List Nat} {P : Nat → Bool} (n : Nat) (h : ∀ j, j < n → (tg T j ≠ 0 ↔ P j = true)) : cntB T n = cntP P n := by
  induction n with
  | zero => rfl
  | succ n ih =>
    rw [cntB, cntP, ih (fun j hj => h j (by omega))]
    congr 1
    have := h n (by omega)
    by_cases e : tg T n = 0
    · rw [if_pos e, if_neg (fun hp => (this.2 hp) e)]
    · rw [if_neg e, if_pos (this.1 e)]

/-- The slots of a file of which just one part was written. -/
def oneB (q j : Nat) : Bool := j == q || (j == 200 && decide (8 ≤ q ∧ q < 136)) || (j == 201 && decide (136 ≤ q)) || (j == 202 && decide (136 ≤ q))

def want1 (q : Nat) : Nat := if 136 ≤ q then 3 else if 8 ≤ q then 2 else 1

theorem cnt_one : ∀ q, q < 200 → cntP (oneB q) 203 = want1 q := by decide

theorem grow_one (nx q : Nat) (hq : q < 200) : (∀ j, j < 203 → (tg (growTo q (q + 1) zero203 nx 203).1 j ≠ 0 ↔ oneB q j = true)) ∧ cntB (growTo q (q + 1) zero203 nx 203).1 203 = want1 q ∧ (growTo q (q + 1) zero203 nx 203).2 = nx + want1 q := by
  have hZ : zero203.length = 203 := by simp [zero203]
  have hln := growTo_length q (q + 1) zero203 nx 203
  have hlo : ∀ j, j < 200 → (tg (growTo q (q + 1) zero203 nx 203).1 j ≠ 0 ↔ j = q) := fun j hj => by
    have h := growTo_lo q (q + 1) zero203 nx hZ hj
    by_cases e : j = q
    · exact ⟨fun _ => e, fun _ => h.2 (by omega)⟩
    · rw [h.1 (by omega), tg_zero203]; simp [e]
  have hhi : ∀ k, k = 200 ∨ k = 201 ∨ k = 202 → _ := fun k hk => growTo_hi q (q + 1) zero203 nx hZ (k := k) hk
  simp only [tg_zero203] at hhi
  have hcn := cntB_grow q (q + 1) zero203 nx 203 hZ (by omega)
  rw [cntB_zero203] at hcn
  generalize growTo q (q + 1) zero203 nx 203 = G at *
  have h200 : tg G.1 200 ≠ 0 ↔ 8 ≤ q ∧ q < 136 := by
    rw [hhi 200 (by omega), usedB_iff _ (by omega) (by omega)]
    simp only [namedFrom, namedTo]
    refine ⟨fun h => ?_, fun h => .inr ⟨q, by simp; omega, by simp; omega, (hlo q hq).2 rfl⟩⟩
    rcases h with h | ⟨j, h1, h2, h3⟩
    · exact absurd rfl h
    · simp at h1 h2
      rw [(hlo j (by omega)).1 h3] at h1 h2
      omega
  have h201 : tg G.1 201 ≠ 0 ↔ 136 ≤ q := by
    rw [hhi 201 (by omega), usedB_iff _ (by omega) (by omega)]
    simp only [namedFrom, namedTo]
    refine ⟨fun h => ?_, fun h => .inr ⟨q, by simp; omega, by simp; omega, (hlo q hq).2 rfl⟩⟩
    rcases h with h | ⟨j, h1, h2, h3⟩
    · exact absurd rfl h
    · simp at h1 h2
      rw [(hlo j (by omega)).1 h3] at h1 h2
      omega
  have h202 : tg G.1 202 ≠ 0 ↔ 136 ≤ q := by
    rw [hhi 202 (by omega), usedB_iff _ (by omega) (by omega)]
    simp only [namedFrom, namedTo]
    refine ⟨fun h => ?_, fun h => .inr ⟨201, by simp, by simp, h201.2 h⟩⟩
    rcases h with h | ⟨j, h1, h2, h3⟩
    · exact absurd rfl h
    · simp at h1 h2
      have e : j = 201 := by omega
      subst e
      exact h201.1 h3
  have hall : ∀ j, j < 203 → (tg G.1 j ≠ 0 ↔ oneB q j = true) := fun j hj => by
    simp only [oneB, Bool.or_eq_true, Bool.and_eq_true, beq_iff_eq, decide_eq_true_eq]
    by_cases e : j < 200
    · rw [hlo j e]; omega
    · by_cases e0 : j = 200
      · subst e0; rw [h200]; omega
      · by_cases e1 : j = 201
        · subst e1; rw [h201]; omega
        · have e2 : j = 202 := by omega
          subst e2; rw [h202]; omega
  have hc := cntB_pred 203 hall
  rw [cnt_one q hq] at hc
  exact ⟨hall, hc, by omega⟩

end Go.Proofs.Ytejeadccpigepaa.Ino
