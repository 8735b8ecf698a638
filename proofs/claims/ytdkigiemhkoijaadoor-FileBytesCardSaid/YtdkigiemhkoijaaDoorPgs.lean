/- Files on blocks: the pages stay right. -/
import Derived.Test.YtdkigiemhkoijaaDoorLoad
import Derived.Test.YtdkigiemhkoijaaDoorFile5
namespace Go.Proofs.YtdkigiemhkoijaaDoor.Ino
open Go.RowKit Go.Maps Go.Proofs.YtdkigiemhkoijaaDoor
set_option maxRecDepth 100000

/-- What a file keeps beside Fok. -/
structure Fpg (S : Sto) (T : List Nat) (size : Nat) : Prop where
  pages : PagesOk S T
  used : ∀ k, k = 200 ∨ k = 201 ∨ k = 202 → (tg T k ≠ 0 ↔ usedB T k = true)
  tail : ∀ k, k < 200 → tg T k ≠ 0 → k < (size + 511) / 512

theorem pgL_zero (n : Nat) : pgL (List.replicate n 0) = List.replicate (4 * n) 0 := by
  induction n with
  | zero => rfl
  | succ n ih =>
    have e : pgL (List.replicate (n + 1) 0) = le32 0 ++ pgL (List.replicate n 0) := by rw [List.replicate_succ]; rfl
    rw [e, ih, show 4 * (n + 1) = 4 + 4 * n by omega, ← List.replicate_append_replicate]
    rfl

theorem page_unused {T : List Nat} (hT : T.length = 203) {k : Nat} (hk : k = 200 ∨ k = 201 ∨ k = 202) (h : usedB T k = false) : page T k = zero512 := by
  have hl := namedL_length hT hk
  have hn : namedTo k - namedFrom k ≤ 128 := by rcases hk with rfl | rfl | rfl <;> simp [namedTo, namedFrom]
  have e : namedL T k = List.replicate (namedTo k - namedFrom k) 0 := by
    refine List.eq_replicate_iff.2 ⟨hl, fun x hx => ?_⟩
    unfold usedB at h
    have := (List.any_eq_false.1 h) x hx
    simpa using this
  rw [page, e, pgL_zero, List.length_replicate, List.replicate_append_replicate, show 4 * (namedTo k - namedFrom k) + (512 - 4 * (namedTo k - namedFrom k)) = 512 by omega]
  rfl

theorem u8_zero {x : Nat} (h : UInt8.ofNat x = 0) : x % 256 = 0 := by
  have := congrArg UInt8.toNat h
  simpa using this

theorem le32_zero {x : Nat} (hx : x < 4294967296) (h : le32 x = [0, 0, 0, 0]) : x = 0 := by
  unfold le32 at h
  simp only [List.cons.injEq, and_true] at h
  have h1 := u8_zero h.1; have h2 := u8_zero h.2.1; have h3 := u8_zero h.2.2.1; have h4 := u8_zero h.2.2.2
  omega

theorem unused_page {T : List Nat} (hT : T.length = 203) (hf : ∀ x ∈ T, x < 4294967296) {k : Nat} (hk : k = 200 ∨ k = 201 ∨ k = 202) (h : page T k = zero512) : usedB T k = false := by
  have hl := namedL_length hT hk
  have hn : namedTo k - namedFrom k ≤ 128 := by rcases hk with rfl | rfl | rfl <;> simp [namedTo, namedFrom]
  refine List.any_eq_false.2 fun x hx => ?_
  have hxf : x < 4294967296 := hf x (List.mem_of_mem_drop (List.mem_of_mem_take hx))
  obtain ⟨i, hi, rfl⟩ := List.mem_iff_getElem.1 hx
  have h1 : ((page T k).drop (4 * i)).take 4 = le32 (namedL T k)[i] := by
    have h5 : 4 * i ≤ (pgL (namedL T k)).length := by rw [pgL_length]; omega
    rw [page, List.drop_append_of_le_length h5, pgL_drop _ hi, List.append_assoc, List.take_append_of_le_length (by simp [le32])]
    simp [le32]
  rw [h] at h1
  have h2 : (zero512.drop (4 * i)).take 4 = [0, 0, 0, 0] := by
    rw [show zero512 = List.replicate 512 0 from rfl, List.drop_replicate, List.take_replicate, show min 4 (512 - 4 * i) = 4 by omega]
    rfl
  have := le32_zero hxf (h1.symm.trans h2)
  simp [this]

theorem viewPut_paged (V : Nat → List UInt8) (T T' : List Nat) {k : Nat} (hk : k = 200 ∨ k = 201 ∨ k = 202) : viewPut V (pagedL T T' 203) k = if page T' k = page T k then V k else page T' k := by
  rw [pagedL_step T T' (n := 202) (by omega), pagedL_step T T' (n := 201) (by omega), pagedL_step T T' (n := 200) (by omega), pagedL_start]
  rw [List.nil_append]
  rcases hk with rfl | rfl | rfl <;> by_cases c0 : page T' 200 = page T 200 <;> by_cases c1 : page T' 201 = page T 201 <;> by_cases c2 : page T' 202 = page T 202 <;> simp [viewPut, c0, c1, c2]

theorem laidL_lo (S : Sto) (T : List Nat) : ∀ (f a : Nat) (b : List UInt8), a + b.length ≤ 102400 → ∀ c ∈ laidL S T f a b, c.k < 200 := by
  intro f
  induction f with
  | zero => intro a b _ c hc; simp [laidL] at hc
  | succ f ih =>
    intro a b hl c hc
    rw [laidL] at hc
    split at hc
    · simp at hc
    · rename_i hb
      have hb0 : 0 < b.length := List.length_pos_iff.2 hb
      rcases List.mem_cons.1 hc with e | e
      · rw [e]; simp only; omega
      · refine ih _ _ ?_ c e
        simp only [List.length_take, List.length_drop]
        omega

theorem fpg_fresh (S : Sto) : Fpg S zero203 0 := ⟨fun k hk => by
    rw [blkOf, if_pos (tg_zero203 k)]
    refine (page_unused (by simp [zero203]) hk ?_).symm
    refine Bool.eq_false_iff.2 fun h => ?_
    obtain ⟨j, _, _, h3⟩ := (usedB_iff zero203 (by simp [zero203]) hk).1 h
    exact h3 (tg_zero203 j), fun k hk => ⟨fun h => absurd (tg_zero203 k) h, fun h => by
    obtain ⟨j, _, _, h3⟩ := (usedB_iff zero203 (by simp [zero203]) hk).1 h
    exact absurd (tg_zero203 j) h3⟩, fun k _ h => absurd (tg_zero203 k) h⟩

theorem Fpg.write {S G : Sto} {T T2 : List Nat} {size : Nat} (h : Fpg S T size) (ho : Fok S T) (hx : S.nxt + 203 < 100000) (a : Nat) (b : List UInt8) (ha : a + b.length ≤ 102400) (hG : Grw S G)
    (hT2 : T2 = (growTo (a / 512) ((a + b.length + 511) / 512) T S.nxt 203).1) : Fpg (putAll G T2 (laidL S T b.length a b ++ pagedL T T2 203)) T2 (max size (a + b.length)) := by
  have hT := ho.len
  have hT3 : T2.length = 203 := by rw [hT2, growTo_length, hT]
  have hgi := growTo_inj (a / 512) ((a + b.length + 511) / 512) T S.nxt 203 (by omega) ho.small ho.inj
  have hold : ∀ j, j < 203 → tg T j ≠ 0 → tg T2 j = tg T j := fun j hj h0 => by
    rw [hT2]
    exact (growTo_at (a / 512) ((a + b.length + 511) / 512) T S.nxt (j := j) (n := 203) hj (by omega)).1 (.inl h0)
  have hmx := growTo_max (a / 512) ((a + b.length + 511) / 512) T S.nxt 203 ho.mem
  have had := growTo_add (a / 512) ((a + b.length + 511) / 512) T S.nxt 203
  have hf2 : ∀ x ∈ T2, x < 4294967296 := fun x hx2 => by
    rw [hT2] at hx2
    have := hmx x hx2
    omega
  have hup : ∀ k, k = 200 ∨ k = 201 ∨ k = 202 → usedB T k = true → usedB T2 k = true := fun k hk hu => by
    obtain ⟨j, h1, h2, h3⟩ := (usedB_iff T hT hk).1 hu
    have hto : namedTo k ≤ 202 := by rcases hk with rfl | rfl | rfl <;> simp [namedTo]
    exact (usedB_iff T2 hT3 hk).2 ⟨j, h1, h2, by rw [hold j (by omega) h3]; exact h3⟩
  have husd : ∀ k, k = 200 ∨ k = 201 ∨ k = 202 → (tg T2 k ≠ 0 ↔ usedB T2 k = true) := fun k hk => by
    have h1 := growTo_hi (a / 512) ((a + b.length + 511) / 512) T S.nxt hT hk
    rw [← hT2] at h1
    exact h1.trans ⟨fun e => e.elim (fun e => hup k hk ((h.used k hk).1 e)) id, .inr⟩
  refine ⟨fun k hk => ?_, husd, fun k hk h0 => ?_⟩
  · by_cases h0 : tg T2 k = 0
    · rw [blkOf, if_pos h0]
      exact (page_unused hT3 hk (Bool.eq_false_iff.2 fun e => (husd k hk).2 e h0)).symm
    · rw [putAll_view (by rw [hT2]; exact hgi.2) _ _ _ h0, viewPut_append, viewPut_paged _ _ _ hk]
      split
      · rename_i hpp
        rw [viewPut_skip _ k (fun c hc => by have := laidL_lo S T _ _ _ ha c hc; omega), blkOf, if_neg h0]
        by_cases h1 : tg T k = 0
        · have h2 : usedB T k = false := Bool.eq_false_iff.2 fun e => (h.used k hk).2 e h1
          have h3 := unused_page hT3 hf2 hk (hpp.trans (page_unused hT hk h2))
          have h4 := (husd k hk).1 h0
          rw [h3] at h4
          simp at h4
        · have h2 := h.pages k hk
          rw [blkOf, if_neg h1] at h2
          rw [hold k (by omega) h1, hG.old _ (ho.small k), h2, hpp]
      · rfl
  · have h1 := growTo_lo (a / 512) ((a + b.length + 511) / 512) T S.nxt hT hk
    rw [← hT2] at h1
    by_cases h2 : a / 512 ≤ k ∧ k < (a + b.length + 511) / 512
    · omega
    · rw [h1.1 h2] at h0
      have := h.tail k hk h0
      omega

/-- Behind the size no block lies. -/
theorem Fpg.first {S : Sto} {T : List Nat} {size : Nat} (h : Fpg S T size) (ho : Fok S T) (k : Nat) (hk : k < 203) (h0 : tg T k ≠ 0) : firstP k < (size + 511) / 512 := by
  have hlow : ∀ j, j < 200 → tg T j ≠ 0 → ∀ m, m ≤ j → m < (size + 511) / 512 := fun j hj h1 m hm => by have := h.tail j hj h1; omega
  by_cases h1 : k < 200
  · rw [firstP, if_pos h1]; exact h.tail k h1 h0
  · have hu : ∀ k, k = 200 ∨ k = 201 ∨ k = 202 → tg T k ≠ 0 → ∃ j, namedFrom k ≤ j ∧ j < namedTo k ∧ tg T j ≠ 0 := fun k hk h0 => (usedB_iff T ho.len hk).1 ((h.used k hk).1 h0)
    have h3 : k = 200 ∨ k = 201 ∨ k = 202 := by omega
    rcases h3 with rfl | rfl | rfl
    · obtain ⟨j, a1, a2, a3⟩ := hu 200 (by omega) h0
      simp [namedFrom, namedTo] at a1 a2
      exact hlow j (by omega) a3 _ (by simp [firstP]; omega)
    · obtain ⟨j, a1, a2, a3⟩ := hu 201 (by omega) h0
      simp [namedFrom, namedTo] at a1 a2
      exact hlow j (by omega) a3 _ (by simp [firstP]; omega)
    · obtain ⟨j, a1, a2, a3⟩ := hu 202 (by omega) h0
      simp [namedFrom, namedTo] at a1 a2
      obtain rfl : j = 201 := by omega
      obtain ⟨i, b1, b2, b3⟩ := hu 201 (by omega) a3
      simp [namedFrom, namedTo] at b1 b2
      exact hlow i (by omega) b3 _ (by simp [firstP]; omega)

end Go.Proofs.YtdkigiemhkoijaaDoor.Ino
