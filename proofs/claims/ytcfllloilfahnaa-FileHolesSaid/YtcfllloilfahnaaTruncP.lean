/- Files on blocks: what is left when a file is cut; no program here. -/
import Derived.Test.YtcfllloilfahnaaClear
namespace Go.Proofs.Ytcfllloilfahnaa.Ino
open Go.RowKit Go.Maps Go.Proofs.Ytcfllloilfahnaa
set_option maxRecDepth 100000

theorem tg_clrT (T : List Nat) (hT : T.length = 203) (q : Nat) (hq : q ≤ 200) (k : Nat) : tg (clrT T q) k = if q ≤ k ∧ k < 200 then 0 else tg T k := by
  simp only [tg, clrT, List.getD_eq_getElem?_getD, List.append_assoc, List.getElem?_append, List.length_take, List.length_replicate, List.getElem?_take, List.getElem?_drop, List.getElem?_replicate, hT]
  rw [show min q 203 = q by omega]
  by_cases h1 : k < q
  · rw [if_pos h1, if_pos h1, if_neg (by omega)]
  · rw [if_neg h1]
    by_cases h2 : k < 200
    · rw [if_pos (show k - q < 200 - q by omega), if_pos (show k - q < 200 - q by omega), if_pos (show q ≤ k ∧ k < 200 by omega)]
      rfl
    · rw [if_neg (show ¬ k - q < 200 - q by omega), if_neg (show ¬ (q ≤ k ∧ k < 200) by omega), show 200 + (k - q - (200 - q)) = k by omega]

theorem cutTo_other (T : List Nat) (hT : T.length = 203) (j : Nat) (hj : j ≤ 3) (k : Nat) (hk : k < 200 ∨ 200 + j ≤ k) : tg (cutTo T j) k = tg T k := by
  induction j with
  | zero => rfl
  | succ j ih =>
    rw [cutTo, cutStep]
    split
    · exact ih (by omega) (by omega)
    · rw [tg_set _ _ _ _ (by rw [cutTo_length]; omega), if_neg (by omega)]
      exact ih (by omega) (by omega)

theorem cutTo_behind (T : List Nat) (hT : T.length = 203) {i j k : Nat} (hij : i ≤ j) (hj : j ≤ 3) (hk : k < 200 + i) : tg (cutTo T j) k = tg (cutTo T i) k := by
  induction j with
  | zero => obtain rfl : i = 0 := by omega
            rfl
  | succ j ih =>
    by_cases e : i = j + 1
    · subst e; rfl
    · rw [← ih (by omega) (by omega), cutTo, cutStep]
      split
      · rfl
      · rw [tg_set _ _ _ _ (by rw [cutTo_length]; omega), if_neg (by omega)]

theorem usedB_congr {T U : List Nat} (hT : T.length = 203) (hU : U.length = 203) {k : Nat} (hk : k = 200 ∨ k = 201 ∨ k = 202) (h : ∀ j, j < k → tg T j = tg U j) : usedB T k = usedB U k := by
  have hto : namedTo k ≤ k := by rcases hk with rfl | rfl | rfl <;> simp [namedTo]
  rw [Bool.eq_iff_iff, usedB_iff _ hT hk, usedB_iff _ hU hk]
  exact ⟨fun ⟨j, h1, h2, h3⟩ => ⟨j, h1, h2, by rw [← h j (by omega)]; exact h3⟩, fun ⟨j, h1, h2, h3⟩ => ⟨j, h1, h2, by rw [h j (by omega)]; exact h3⟩⟩

theorem cutT_length {T : List Nat} (hT : T.length = 203) {n : Nat} (hn : n ≤ 102400) : (cutT T n).length = 203 := by rw [cutT, cutTo_length, clrT_length hT (by omega)]

theorem cutT_lo {T : List Nat} (hT : T.length = 203) {n : Nat} (hn : n ≤ 102400) {k : Nat} (hk : k < 200) : tg (cutT T n) k = if k < (n + 511) / 512 then tg T k else 0 := by
  rw [cutT, cutTo_other _ (clrT_length hT (by omega)) 3 (by omega) k (.inl hk), tg_clrT T hT _ (by omega)]
  by_cases h : k < (n + 511) / 512
  · rw [if_pos h, if_neg (by omega)]
  · rw [if_neg h, if_pos (by omega)]

theorem cutT_hi {T : List Nat} (hT : T.length = 203) {n : Nat} (hn : n ≤ 102400) {k : Nat} (hk : k = 200 ∨ k = 201 ∨ k = 202) : tg (cutT T n) k = if usedB (cutT T n) k = true then tg T k else 0 := by
  have hl := clrT_length hT (q := (n + 511) / 512) (by omega)
  have hc := tg_clrT T hT ((n + 511) / 512) (by omega) k
  rw [if_neg (by omega)] at hc
  obtain ⟨j, hj, rfl⟩ : ∃ j, j < 3 ∧ k = 200 + j := ⟨k - 200, by omega, by omega⟩
  have hu : usedB (cutT T n) (200 + j) = usedB (cutTo (clrT T ((n + 511) / 512)) j) (200 + j) := usedB_congr (cutT_length hT hn) (by rw [cutTo_length, hl]) hk (fun i hi => cutTo_behind _ hl (by omega) (by omega) hi)
  rw [hu, cutT, cutTo_behind _ hl (i := j + 1) (by omega) (by omega) (by omega), cutTo, cutStep]
  have ho := cutTo_other _ hl j (by omega) (200 + j) (.inr (Nat.le_refl _))
  split
  · rw [ho, hc]
  · rw [tg_set _ _ _ _ (by rw [cutTo_length]; omega), if_pos rfl]

theorem tg_past {T : List Nat} {k : Nat} (h : T.length ≤ k) : tg T k = 0 := by
  rw [tg, List.getD_eq_getElem?_getD, List.getElem?_eq_none h]; rfl

theorem cutT_or {T : List Nat} (hT : T.length = 203) {n : Nat} (hn : n ≤ 102400) (k : Nat) : tg (cutT T n) k = tg T k ∨ tg (cutT T n) k = 0 := by
  by_cases h1 : k < 200
  · rw [cutT_lo hT hn h1]; split
    · exact .inl rfl
    · exact .inr rfl
  · by_cases h2 : k < 203
    · rw [cutT_hi hT hn (show k = 200 ∨ k = 201 ∨ k = 202 by omega)]; split
      · exact .inl rfl
      · exact .inr rfl
    · exact .inr (tg_past (by rw [cutT_length hT hn]; omega))

theorem givenL_mem {T T' : List Nat} {k x : Nat} : x ∈ givenL T T' k ↔ ∃ j, j < k ∧ tg T j = 0 ∧ tg T' j ≠ 0 ∧ tg T' j = x := by
  unfold givenL
  simp only [List.mem_map, List.mem_filter, List.mem_range, Bool.and_eq_true, beq_iff_eq, bne_iff_ne, ne_eq]
  exact ⟨fun ⟨j, ⟨h1, h2, h3⟩, h4⟩ => ⟨j, h1, h2, h3, h4⟩, fun ⟨j, h1, h2, h3, h4⟩ => ⟨j, ⟨h1, h2, h3⟩, h4⟩⟩

theorem givenL_nodup {T T' : List Nat} (hi : ∀ i j, tg T' i ≠ 0 → tg T' i = tg T' j → i = j) (k : Nat) : (givenL T T' k).Nodup := by
  induction k with
  | zero => exact List.nodup_nil
  | succ k ih =>
    by_cases h : tg T k = 0 ∧ tg T' k ≠ 0
    · rw [givenL_step h.1 h.2, List.nodup_append]
      refine ⟨ih, by simp, fun x hx y hy => ?_⟩
      simp only [List.mem_singleton] at hy
      subst hy
      intro e
      subst e
      obtain ⟨j, h1, _, h3, h4⟩ := givenL_mem.1 hx
      have := hi j k h3 h4
      omega
    · rw [givenL_skip (by omega)]
      exact ih

theorem givenL_count {T T' : List Nat} (h : ∀ k, tg T k = tg T' k ∨ tg T k = 0) (k : Nat) : (givenL T T' k).length + cntB T k = cntB T' k := by
  induction k with
  | zero => rfl
  | succ k ih =>
    rw [cntB, cntB, ← ih]
    rcases h k with e | e
    · by_cases h0 : tg T k = 0
      · rw [givenL_skip (.inr (e ▸ h0)), if_pos h0, if_pos (e ▸ h0)]
        omega
      · rw [givenL_skip (.inl h0), if_neg h0, if_neg (e ▸ h0)]
        omega
    · rw [if_pos e]
      by_cases h0 : tg T' k = 0
      · rw [givenL_skip (.inr h0), if_pos h0]
        omega
      · rw [givenL_step e h0, if_neg h0]
        simp; omega

/-- What a file is when it was cut. -/
theorem cut_ok {S : Sto} {T T' : List Nat} (h : Fok S T) (hl : T'.length = 203) (ho : ∀ k, tg T' k = tg T k ∨ tg T' k = 0) (L : List Chg) : Fok ((putAll S T' L).without (givenL T' T 203)) T' ∧ ((putAll S T' L).without (givenL T' T 203)).most = S.most ∧ ((putAll S T' L).without (givenL T' T 203)).nxt = S.nxt := by
  obtain ⟨n1, n2, n3⟩ := putAll_num S T' L
  have hcount := givenL_count ho 203
  have hcc := h.count; have hcm := h.cm
  have hT' : ∀ k, tg T' k ≠ 0 → tg T' k = tg T k := fun k hk => (ho k).resolve_right hk
  refine ⟨⟨hl, fun k => ?_, fun i j hi he => ?_, fun k hk => ?_, ?_, ?_⟩, n2, n3⟩
  · show tg T' k ≤ (putAll S T' L).nxt
    rw [n3]
    rcases ho k with e | e
    · rw [e]; exact h.small k
    · omega
  · have hj : tg T' j ≠ 0 := fun e => hi (by rw [he]; exact e)
    rw [hT' i hi, hT' j hj] at he
    exact h.inj i j (by rw [← hT' i hi]; exact hi) he
  · have h1 : tg T' k ∉ givenL T' T 203 := fun hx => by
      obtain ⟨j, hj, h0, h2, h3⟩ := givenL_mem.1 hx
      rw [hT' k hk] at h3
      have e := h.inj j k h2 h3
      subst e
      exact hk h0
    simp only [Sto.without, if_neg h1]
    exact putAll_some S T' L _ (by rw [hT' k hk]; exact h.held k (by rw [← hT' k hk]; exact hk))
  · simp only [Sto.without]
    omega
  · simp only [Sto.without]
    omega

/-- How many blocks are left of a file of one part: all behind its first byte, else none. -/
theorem cut_one {q at_ : Nat} (hq : q < 200) (ha : at_ / 512 = q) {T : List Nat} (hT : T.length = 203) (h : ∀ j, j < 203 → (tg T j ≠ 0 ↔ oneB q j = true)) : cntB (cutT T at_) 203 = if at_ % 512 = 0 then 0 else want1 q := by
  have hn : at_ ≤ 102400 := by omega
  have hlen := cutT_length hT hn
  have hlo : ∀ j, j < 200 → (tg (cutT T at_) j ≠ 0 ↔ j = q ∧ at_ % 512 ≠ 0) := fun j hj => by
    rw [cutT_lo hT hn hj]
    have h1 := h j (by omega)
    simp only [oneB, Bool.or_eq_true, Bool.and_eq_true, beq_iff_eq, decide_eq_true_eq] at h1
    by_cases h2 : j < (at_ + 511) / 512
    · rw [if_pos h2, h1]; omega
    · rw [if_neg h2]
      refine ⟨fun hx => absurd rfl hx, fun hx => by omega⟩
  have hu : ∀ k, k = 200 ∨ k = 201 ∨ k = 202 → (tg (cutT T at_) k ≠ 0 ↔ usedB (cutT T at_) k = true ∧ oneB q k = true) := fun k hk => by
    have e := cutT_hi hT hn hk
    have h1 := h k (by omega)
    cases hb : usedB (cutT T at_) k
    · rw [hb] at e
      rw [e]
      simp
    · rw [hb] at e
      rw [e, if_pos rfl, h1]
      simp
  have h200 : tg (cutT T at_) 200 ≠ 0 ↔ (8 ≤ q ∧ q < 136) ∧ at_ % 512 ≠ 0 := by
    rw [hu 200 (by omega), usedB_iff _ hlen (by omega)]
    simp only [namedFrom, namedTo, oneB, Bool.or_eq_true, Bool.and_eq_true, beq_iff_eq, decide_eq_true_eq]
    refine ⟨fun ⟨⟨j, h1, h2, h3⟩, h4⟩ => ?_, fun ⟨h1, h2⟩ => ⟨⟨q, by simp; omega, by simp; omega, (hlo q hq).2 ⟨rfl, h2⟩⟩, by simp; omega⟩⟩
    simp at h1 h2
    have := (hlo j (by omega)).1 h3
    omega
  have h201 : tg (cutT T at_) 201 ≠ 0 ↔ 136 ≤ q ∧ at_ % 512 ≠ 0 := by
    rw [hu 201 (by omega), usedB_iff _ hlen (by omega)]
    simp only [namedFrom, namedTo, oneB, Bool.or_eq_true, Bool.and_eq_true, beq_iff_eq, decide_eq_true_eq]
    refine ⟨fun ⟨⟨j, h1, h2, h3⟩, h4⟩ => ?_, fun ⟨h1, h2⟩ => ⟨⟨q, by simp; omega, by simp; omega, (hlo q hq).2 ⟨rfl, h2⟩⟩, by simp; omega⟩⟩
    simp at h1 h2
    have := (hlo j (by omega)).1 h3
    omega
  have h202 : tg (cutT T at_) 202 ≠ 0 ↔ 136 ≤ q ∧ at_ % 512 ≠ 0 := by
    rw [hu 202 (by omega), usedB_iff _ hlen (by omega)]
    simp only [namedFrom, namedTo, oneB, Bool.or_eq_true, Bool.and_eq_true, beq_iff_eq, decide_eq_true_eq]
    refine ⟨fun ⟨⟨j, h1, h2, h3⟩, h4⟩ => ?_, fun h1 => ⟨⟨201, by simp, by simp, h201.2 h1⟩, by simp; omega⟩⟩
    simp at h1 h2
    have e : j = 201 := by omega
    subst e
    exact h201.1 h3
  have hall : ∀ j, j < 203 → (tg (cutT T at_) j ≠ 0 ↔ (decide (at_ % 512 ≠ 0) && oneB q j) = true) := fun j hj => by
    simp only [oneB, Bool.or_eq_true, Bool.and_eq_true, beq_iff_eq, decide_eq_true_eq]
    by_cases e : j < 200
    · rw [hlo j e]; omega
    · by_cases e0 : j = 200
      · subst e0; rw [h200]; omega
      · by_cases e1 : j = 201
        · subst e1; rw [h201]; omega
        · have e2 : j = 202 := by omega
          subst e2; rw [h202]; omega
  rw [cntB_pred 203 hall]
  by_cases h0 : at_ % 512 = 0
  · rw [if_pos h0]
    have : ∀ n, cntP (fun j => decide (at_ % 512 ≠ 0) && oneB q j) n = 0 := fun n => by
      induction n with
      | zero => rfl
      | succ n ih => rw [cntP, ih]; simp [h0]
    exact this 203
  · rw [if_neg h0]
    have : (fun j => decide (at_ % 512 ≠ 0) && oneB q j) = oneB q := funext fun j => by simp [h0]
    rw [this, cnt_one q hq]

end Go.Proofs.Ytcfllloilfahnaa.Ino
