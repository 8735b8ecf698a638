/- What bitmap's Bytes and Load do. -/
import Derived.Test.YtflfmcnbojphgaaBitB
namespace Go.Proofs.Ytflfmcnbojphgaa
set_option maxRecDepth 100000
open Go.RowKit

def bytesOf (n : Nat) (B : List UInt8) : List UInt8 := B.take ((n + 7) / 8)

theorem MOk.bytes_length {n : Nat} {B : List UInt8} (h : MOk n B) : (bytesOf n B).length = (n + 7) / 8 := by
  have := h.most
  simp [bytesOf, h.len]; omega

theorem no_bits (c : UInt8) : (∀ r : Fin 8, c.toNat.testBit r.1 = false) → c = 0 :=
  all_u8 (p := fun c => (∀ r : Fin 8, c.toNat.testBit r.1 = false) → c = 0) (by decide +kernel) c

theorem high_bits (c : UInt8) : ∀ r : Fin 8, (∀ s : Fin 8, r ≤ s → c.toNat.testBit s.1 = false) → c.toNat / 2 ^ r.1 = 0 :=
  all_u8 (p := fun c => ∀ r : Fin 8, (∀ s : Fin 8, r ≤ s → c.toNat.testBit s.1 = false) → c.toNat / 2 ^ r.1 = 0) (by decide +kernel) c

theorem MOk.tail {n : Nat} {B : List UInt8} (h : MOk n B) {k : Nat} (hk : (n + 7) / 8 ≤ k) : B.getD k 0 = 0 := by
  refine no_bits _ fun r => ?_
  have := h.clear (8 * k + r.1) (by omega)
  unfold mbit at this
  rwa [show (8 * k + r.1) / 8 = k by omega, show (8 * k + r.1) % 8 = r.1 by omega] at this

theorem MOk.whole {n : Nat} {B : List UInt8} (h : MOk n B) : bytesOf n B ++ noBits.drop (bytesOf n B).length = B := by
  have hl := h.bytes_length
  have hm := h.most
  apply List.ext_getElem
  · simp [hl, noBits, h.len]; omega
  · intro k h1 h2
    rw [List.getElem_append]
    split
    · simp [bytesOf]
    · rename_i hk
      have := h.tail (k := k) (by omega)
      rw [List.getD_eq_getElem?_getD, List.getElem?_eq_getElem h2] at this
      simp only [Option.getD_some] at this
      rw [this, List.getElem_drop]
      unfold noBits
      rw [List.getElem_replicate]

theorem MOk.last {n : Nat} {B : List UInt8} (h : MOk n B) : (B.getD (n / 8) 0).toNat / 2 ^ (n % 8) = 0 := by
  refine high_bits _ ⟨n % 8, by omega⟩ fun s hs => ?_
  have := h.clear (8 * (n / 8) + s.1) (by have : n % 8 ≤ s.1 := hs; omega)
  unfold mbit at this
  rwa [show (8 * (n / 8) + s.1) / 8 = n / 8 by omega, show (8 * (n / 8) + s.1) % 8 = s.1 by omega] at this

theorem IsMap.seen {w : World} {p n : Nat} {B : List UInt8} (h : IsMap w p n B) : Seen w 1 (.slice (some ⟨p, 1, none⟩) ((n + 7) / 8) 512) ((n + 7) / 8) (bcells (bytesOf n B)) := by
  have hm := h.ok.most
  refine ⟨by rw [bcells_length, h.ok.bytes_length, Nat.mul_one], _, 512, rfl, by omega, by unfold maxLen; omega, .inr ⟨p, 1, rfl, h.lt, fun j u hu => ?_⟩⟩
  have hj : j < (bytesOf n B).length := by have := (List.getElem?_eq_some_iff.1 hu).1; simpa [bcells_length] using this
  rw [h.ok.bytes_length] at hj
  refine h.range j u ?_
  rw [← hu]
  simp [bcells, bytesOf, hj]

/-- 'm.taken[:k]'. -/
theorem run_slice_taken (w : World) (p k : Nat) (hk : k ≤ 512) : (Instr.sliceAt 43 (.pointer (some ⟨p, 1, none⟩)) none (some (.int .i64 (k : Int))) none).run Try.prog w = .ok (.slice (some ⟨p, 1, none⟩) k 512) w := by
  obtain ⟨i, hi, hsz⟩ := Option.map_eq_some_iff.1 Try.infoU8
  have hru : (sizeOf 5).run Try.prog w = .ok 1 w := by simp [sizeOf, run_typeInfo w hi, hsz]
  have h1 : (0 : Int) ≤ (k : Int) ∧ (k : Int) ≤ ((512 : Nat) : Int) := by omega
  simp [Instr.sliceAt, run_underlying Try.underlying43, Instr.sureAddr, Instr.sliceBounds, Instr.sliceBound, asIntOf, hru, Addr.add, hk]

set_option maxHeartbeats 1000000 in
theorem bytes_any {w : World} {p n : Nat} {B : List UInt8} (h : IsMap w p n B) :
    Calls Try.prog 11 #[.pointer (some ⟨p, 0, none⟩)] w fun e w' => ∃ v, e = .returned v ∧ Row w' 5 1 v ((n + 7) / 8) (bcells (bytesOf n B)) ∧ Keep (fun _ => False) w w' ∧ (∀ b, v.ownBlock = some b → w.heap.size ≤ b) := by
  have HM := Lib.hid h
  have h0 := h.count
  have hm := h.ok.most
  have HL := Lib.hid h.ok.bytes_length
  have HS : Hid (Seen w.drew 1 (.slice (some ⟨p, 1, none⟩) ((n + 7) / 8) 512) ((n + 7) / 8) (bcells (bytesOf n B))) := Lib.hid (h.seen.keep (Keep.refl (fun _ => False) w).drew (fun _ _ _ h => h))
  clear h
  obtain ⟨k, hk⟩ : ∃ k, k = (n + 7) / 8 := ⟨_, rfl⟩
  have hk4 : k ≤ 512 := by omega
  have HK := Lib.hid hk
  simp only [← hk] at HL HS ⊢
  clear hk
  have hsl := fun w => run_slice_taken w p k hk4
  go_enter Try.func11, Try.ntmps11
  go_wp2
  go_region_law (first | (go_simp; go_at_call 17; refine (size_any n hm).mono ?_; rw [← HK.out]; rintro e w' ⟨rfl, rfl⟩) | (go_simp; go_at_call 18; refine (cloneB_any HS.out (by omega)).mono ?_; rintro e w1 ⟨v, rfl, r1, r2, r3⟩; have R1 := Lib.hid r1; have R2 := Lib.hid r2; have R3 := Lib.hid r3; clear r1 r2 r3))
  all_goals go_simp
  all_goals go_wp2
  all_goals go_ret
  all_goals exact ⟨v, rfl, R1.out, ((Keep.refl (fun _ => False) w).drew).trans R2.out (fun _ h => .inl h), R3.out⟩

theorem keep_drew (w : World) : Keep (fun _ => False) w w.drew := (Keep.refl (fun _ => False) w).drew

/-- 'm.taken[:]'. -/
theorem run_slice_all (w : World) (p : Nat) : (Instr.sliceAt 43 (.pointer (some ⟨p, 1, none⟩)) none none none).run Try.prog w = .ok (.slice (some ⟨p, 1, none⟩) 512 512) w := by
  obtain ⟨i, hi, hsz⟩ := Option.map_eq_some_iff.1 Try.infoU8
  have hru : (sizeOf 5).run Try.prog w = .ok 1 w := by simp [sizeOf, run_typeInfo w hi, hsz]
  simp [Instr.sliceAt, run_underlying Try.underlying43, Instr.sureAddr, Instr.sliceBounds, hru, Addr.add]

/-- Bytes copied into a new map. -/
theorem IsMap.copied {w : World} {p n : Nat} {B : List UInt8} (h : IsMap w p n noBits) (hB : MOk n B) : IsMap (w.setCells p 1 (bcells (bytesOf n B))) p n B ∧ Keep (fun b => b = p) w (w.setCells p 1 (bcells (bytesOf n B))) := by
  have hm := hB.most
  refine ⟨⟨?_, hB⟩, keep_setCells p _ 1 w (Keep.refl _ w) (.inl rfl)⟩
  obtain ⟨cur, h1, h2⟩ := splice_heap p (bcells (bytesOf n B)) 1 w _ _ _ h.head (by rw [bcells_length, hB.bytes_length]; simp [mapC, bcells_length, noBits]; omega)
  rw [h1]
  congr 2
  apply Array.toList_inj.1
  rw [h2]
  have hw := hB.whole
  simp only [mapC, splice, List.take_succ_cons, List.take_zero, List.cons_append, List.nil_append, Nat.add_comm 1, List.drop_succ_cons]
  congr 1
  rw [bcells_length, bcells, bcells, bcells, ← List.map_drop, ← List.map_append, hw]

set_option maxHeartbeats 2000000 in
theorem load_own {w : World} {n : Nat} {B : List UInt8} {v : Value} (hB : MOk n B) (h : Row w 5 1 v ((n + 7) / 8) (bcells (bytesOf n B))) :
    Calls Try.prog 10 #[.int .i64 n, v] w fun e w' => e = .returned (.tuple #[.pointer (some ⟨w.heap.size, 0, none⟩), .nilIface]) ∧ IsMap w' w.heap.size n B ∧ Keep (fun _ => False) w w' := by
  have hm := hB.most
  have HB := Lib.hid hB
  have HR := Lib.hid h
  have hl := h.seen
  obtain ⟨a, cap, rfl, hc1, hc2⟩ := h.slice
  have HC : Hid ((n + 7) / 8 = 0 ∨ ∃ g off, a = some ⟨g, off, none⟩) := Lib.hid (by
    by_cases h0 : (n + 7) / 8 = 0
    · exact .inl h0
    · obtain ⟨g, off, cap', e, _⟩ := h.full (by omega)
      simp only [Value.slice.injEq] at e
      exact .inr ⟨g, off, e.1⟩)
  clear h hl hB
  have d0 : ((((n + 7) / 8 : Nat) : Int) != (((n + 7) / 8 : Nat) : Int)) = false := by simp
  obtain ⟨s1, s2⟩ := split8 n
  have hsl := fun w p => run_slice_all w p
  by_cases h8 : n % 8 = 0
  · have t1 : (((n % 8 : Nat) : Int) == 0) = true := by rw [h8]; rfl
    have t2 : (((n % 8 : Nat) : Int) != 0) = false := by rw [h8]; rfl
    by_cases hz : n = 0
    · subst hz
      have HE : Hid (B = noBits) := Lib.hid (by have := HB.out.whole; have e : (bytesOf 0 B) = [] := rfl; rw [e] at this; exact this.symm)
      clear s1 s2 h8 t1 t2 d0 hc1 HR HC
      go_enter Try.func10, Try.ntmps10
      go_wp2_with (first | (go_at_call 5; refine (newM_any 0 hm).mono ?_; rintro e w1 ⟨rfl, r1, r2, r3⟩; have R1 := Lib.hid r1; have R2 := Lib.hid r2; clear r1 r2 r3) | (go_at_call 17; refine (size_any 0 hm).mono ?_; rintro e w' ⟨rfl, rfl⟩) | (with_reducible refine wpList_copy_nothing rfl (.tmp 37) (.tmp 38) 38 38 rfl 5 Try.underlying38 Try.infoU8 (some ⟨w.heap.size, 1, none⟩) a 512 512 0 cap rfl rfl rfl ?_))
      go_ret2
      exact ⟨rfl, by rw [HE.out]; exact R1.out, R2.out⟩
    · obtain ⟨g, off, rfl⟩ := HC.out.resolve_left (by omega)
      obtain ⟨k, hk⟩ : ∃ k, k = (n + 7) / 8 := ⟨_, rfl⟩
      have hk4 : k ≤ 512 := by omega
      have HK := Lib.hid hk
      simp only [← hk] at HR hc1 d0 HC ⊢
      generalize n % 8 = r at *
      generalize n / 8 = q at *
      clear hk h8 s1
      go_enter Try.func10, Try.ntmps10
      go_wp2_with (first | (go_at_call 5; refine (newM_any n hm).mono ?_; rintro e w1 ⟨rfl, r1, r2, r3⟩; have R1 := Lib.hid r1; have R2 := Lib.hid r2; have RW := Lib.hid (HR.out.keep r2 (fun _ _ h => h)); clear r1 r2 r3) | (go_at_call 17; refine (size_any n hm).mono ?_; rw [← HK.out]; rintro e w' ⟨rfl, rfl⟩) | (with_reducible refine wpList_copy_cells rfl (.tmp 37) (.tmp 38) rfl Try.underlying38 Try.infoU8 (b := w.heap.size) (off := 1) (dLen := 512) (dCap := 512) (ad := ⟨g, off, none⟩) (sLen := k) (sCap := cap) rfl rfl (bcells (bytesOf n B)) ?c1 ?c2 ?c3 (bcells_one _) ?_))
      case c1 => rw [bcells_length, HB.out.bytes_length, ← HK.out]; show k = min k 512; omega
      case c2 =>
        intro j u hu
        have hj : j < k := by have := (List.getElem?_eq_some_iff.1 hu).1; rw [bcells_length, HB.out.bytes_length, ← HK.out] at this; exact this
        rw [add_off, RW.out.cellAt j (by omega)]
        exact hu
      case c3 =>
        intro j hj
        rw [bcells_length, HB.out.bytes_length, ← HK.out] at hj
        exact ⟨by rw [R1.out.byte j (by omega)]; rfl, R1.out.free _⟩
      go_ret2
      obtain ⟨q1, q2⟩ := R1.out.copied HB.out
      exact ⟨rfl, q1, R2.out.trans q2 (fun i h => .inr (by omega))⟩
  · have t1 : (((n % 8 : Nat) : Int) == 0) = false := by simp; omega
    have t2 : (((n % 8 : Nat) : Int) != 0) = true := by simp; omega
    obtain ⟨g, off, rfl⟩ := HC.out.resolve_left (by omega)
    obtain ⟨k, hk⟩ : ∃ k, k = (n + 7) / 8 := ⟨_, rfl⟩
    have hk4 : k ≤ 512 := by omega
    have hq : n / 8 < k := by omega
    have hr : n % 8 < 8 := by omega
    have HK := Lib.hid hk
    have HL := Lib.hid HB.out.last
    have HC8 : Hid ((bcells (bytesOf n B))[n / 8]? = some (.int .u8 ((B.getD (n / 8) 0).toNat : Int))) := Lib.hid (by
      rw [bcells_get _ _ (by rw [HB.out.bytes_length]; omega)]
      congr 4
      simp [bytesOf, ← hk, hq])
    simp only [← hk] at HR hc1 d0 HC ⊢
    have hz0 : ((((B.getD (n / 8) 0).toNat : Int) / 2 ^ (n % 8)) == 0) = true := by
      have := HL.out
      simp only [beq_iff_eq]
      exact_mod_cast this
    generalize B.getD (n / 8) 0 = c at *
    generalize n / 8 = q at *
    generalize n % 8 = r at *
    have hz1 : ((c.toNat : Int) / 2 ^ r != 0) = false := by simp [bne, hz0]
    clear hk h8 HL
    go_enter Try.func10, Try.ntmps10
    go_wp2_with (first | (go_at_call 5; refine (newM_any n hm).mono ?_; rintro e w1 ⟨rfl, r1, r2, r3⟩; have R1 := Lib.hid r1; have R2 := Lib.hid r2; have rw' := HR.out.keep r2 (fun _ _ h => h); have RW := Lib.hid rw'; have c1 := rw'.cellAt q (by omega); rw [HC8.out] at c1; clear r1 r2 r3 rw') | (go_at_call 17; refine (size_any n hm).mono ?_; rw [← HK.out]; rintro e w' ⟨rfl, rfl⟩) | (with_reducible refine wpList_copy_cells rfl (.tmp 37) (.tmp 38) rfl Try.underlying38 Try.infoU8 (b := w.heap.size) (off := 1) (dLen := 512) (dCap := 512) (ad := ⟨g, off, none⟩) (sLen := k) (sCap := cap) rfl rfl (bcells (bytesOf n B)) ?c1 ?c2 ?c3 (bcells_one _) ?_))
    case c1 => rw [bcells_length, HB.out.bytes_length, ← HK.out]; show k = min k 512; omega
    case c2 =>
      intro j u hu
      have hj : j < k := by have := (List.getElem?_eq_some_iff.1 hu).1; rw [bcells_length, HB.out.bytes_length, ← HK.out] at this; exact this
      rw [add_off, RW.out.cellAt j (by omega)]
      exact hu
    case c3 =>
      intro j hj
      rw [bcells_length, HB.out.bytes_length, ← HK.out] at hj
      exact ⟨by rw [R1.out.byte j (by omega)]; rfl, R1.out.free _⟩
    go_ret2
    obtain ⟨q1, q2⟩ := R1.out.copied HB.out
    exact ⟨rfl, q1, R2.out.trans q2 (fun i h => .inr (by omega))⟩

end Go.Proofs.Ytflfmcnbojphgaa
