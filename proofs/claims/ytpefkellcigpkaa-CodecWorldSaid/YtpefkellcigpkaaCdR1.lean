/- codec's reader: fail, ended, take, nextByte. -/
import Derived.Test.YtpefkellcigpkaaCdC
import Derived.Test.YtpefkellcigpkaaCdW
namespace Go.Proofs.Ytpefkellcigpkaa.Cd
open Go.RowKit Go.Proofs.Ytpefkellcigpkaa
set_option maxRecDepth 100000

/-- The reader at block g: what it has left. -/
structure RdAt (B : Nat) (w : World) (g : Nat) (S : R) : Prop where
  ex : ∃ a n cap, w.heap[g]? = some (.cells #[.slice a n cap, .bool S.br] 85 (0, 0)) ∧ n = S.rest.length ∧ Seen w 1 (.slice a n cap) n (bcells S.rest) ∧ (∀ b, own (.slice a n cap) b → b ≠ g ∧ b < B)

/-- What a reader's call does to the rest of the memory. -/
abbrev KeepR (g : Nat) (w w' : World) : Prop := Keep (fun b => b = g) w w'

theorem RdAt.lt {B : Nat} {w : World} {g : Nat} {S : R} (h : RdAt B w g S) : g < w.heap.size := by
  obtain ⟨_, _, _, h1, _⟩ := h.ex
  exact lt_of_block h1
theorem RdAt.keep {F : Nat → Prop} {B : Nat} {w w' : World} {g : Nat} {S : R} (h : RdAt B w g S) (k : Keep F w w') (hF : ∀ b, b < w.heap.size → ¬ F b) : RdAt B w' g S := by
  obtain ⟨a, n, cap, h1, h2, h3, h4⟩ := h.ex
  exact ⟨a, n, cap, (k.block g (lt_of_block h1) (hF g (lt_of_block h1))).trans h1, h2, h3.keep k (fun b _ hb => hF b hb), h4⟩

theorem KeepR.trans {g : Nat} {a b c : World} (h : KeepR g a b) (k : KeepR g b c) : KeepR g a c := Keep.trans h k (fun _ e => .inl e)

/-- What a slice's head and tail read. -/
theorem seen_head {w : World} {a : Option Addr} {n cap h : Nat} {l : List UInt8} (hs : Seen w 1 (.slice a n cap) n (bcells l)) (hh : h ≤ n) (hn : l.length = n) : Seen w 1 (.slice a h cap) h (bcells (l.take h)) := by
  obtain ⟨h1, a', cap', hv, h2, h3, h4⟩ := hs
  simp only [Value.slice.injEq] at hv
  obtain ⟨rfl, _, rfl⟩ := hv
  refine ⟨by simp [bcells]; omega, _, _, rfl, by omega, h3, ?_⟩
  rcases h4 with h4 | ⟨g, off, hg, hlt, hc⟩
  · left; omega
  · refine .inr ⟨g, off, hg, hlt, fun j u hu => hc j u ?_⟩
    simp only [bcells, List.map_take, List.getElem?_take] at hu
    split at hu
    · exact hu
    · cases hu
def tailA (a : Option Addr) (cap l : Nat) : Option Addr := if cap = l then a else a.map (·.add (l * 1))
theorem seen_tail {w : World} {a : Option Addr} {n cap o : Nat} {l : List UInt8} (hs : Seen w 1 (.slice a n cap) n (bcells l)) (ho : o ≤ n) (hn : l.length = n) : Seen w 1 (.slice (tailA a cap o) (n - o) (cap - o)) (n - o) (bcells (l.drop o)) := by
  obtain ⟨h1, a', cap', hv, h2, h3, h4⟩ := hs
  simp only [Value.slice.injEq] at hv
  obtain ⟨rfl, _, rfl⟩ := hv
  refine ⟨by simp [bcells]; omega, _, _, rfl, by omega, by omega, ?_⟩
  by_cases h0 : n - o = 0
  · exact .inl h0
  · rcases h4 with h4 | ⟨g, off, rfl, hlt, hc⟩
    · omega
    · refine .inr ⟨g, off + o, ?_, hlt, fun j u hu => ?_⟩
      · rw [tailA, if_neg (by omega), Nat.mul_one, Option.map_some, add_off]
      · rw [Nat.add_assoc]
        refine hc (o + j) u ?_
        simp only [bcells, List.map_drop, List.getElem?_drop] at hu ⊢
        exact hu
theorem own_tail {a : Option Addr} {n cap o n2 c2 b : Nat} (h : own (.slice (tailA a cap o) n2 c2) b) : own (.slice a n cap) b := by
  unfold own tailA at *
  split at h
  · cases a with
    | none => simp [Value.ownBlock] at h
    | some p => exact h
  · cases a with
    | none => simp [Value.ownBlock] at h
    | some p =>
      simp only [Option.map_some, Value.ownBlock, Option.some.injEq] at h ⊢
      rw [← h]; unfold Addr.add; split <;> rfl
theorem own_head {a : Option Addr} {n cap n2 b : Nat} (h : own (.slice a n2 cap) b) : own (.slice a n cap) b := by
  unfold own at *
  cases a with
  | none => simp [Value.ownBlock] at h
  | some p => exact h

theorem Try.infoU8s : (Try.prog.info? 5).map (·.size) = some 1 := by kernel_rfl
theorem run_head (ab : Option Addr) (n cap h : Nat) (hh : h ≤ cap) (w : World) : (Instr.slice 33 (.slice ab n cap) none (some (.int .i64 (h : Int))) none).run Try.prog w = .ok (.slice ab h cap) w := by
  obtain ⟨i, hi', hsz⟩ := Option.map_eq_some_iff.1 Try.infoU8s
  have hru : (sizeOf 5).run Try.prog w = .ok 1 w := by simp [sizeOf, run_typeInfo w hi', hsz]
  have b1 : (0 : Int) ≤ (h : Int) ∧ (h : Int) ≤ (cap : Int) := by omega
  simp only [Instr.slice, Sem.run_bind, run_underlying Try.underlying33, Instr.sliceBounds, Sem.run_pure, Result.andThen_ok, Instr.sliceBound, asIntOf, if_pos b1, hru, Int.toNat_natCast, Nat.zero_mul, Nat.sub_zero]
  cases ab <;> simp [Addr.add]
theorem run_tail (ab : Option Addr) (n cap l : Nat) (hl : l ≤ n) (w : World) : (Instr.slice 33 (.slice ab n cap) (some (.int .i64 (l : Int))) none none).run Try.prog w = .ok (.slice (tailA ab cap l) (n - l) (cap - l)) w := by
  obtain ⟨i, hi', hsz⟩ := Option.map_eq_some_iff.1 Try.infoU8s
  have hru : (sizeOf 5).run Try.prog w = .ok 1 w := by simp [sizeOf, run_typeInfo w hi', hsz]
  have b1 : (0 : Int) ≤ (l : Int) ∧ (l : Int) ≤ (n : Int) := by omega
  simp only [Instr.slice, Sem.run_bind, run_underlying Try.underlying33, Instr.sliceBounds, Sem.run_pure, Result.andThen_ok, Instr.sliceBound, asIntOf, if_pos b1, hru, Int.toNat_natCast, tailA]

theorem fail_any {B : Nat} {w : World} {g : Nat} {S : R} (h : RdAt B w g S) : Calls Try.prog 74 #[.pointer (some ⟨g, 0, none⟩)] w fun e w' => e = .returned (.tuple #[]) ∧ RdAt B w' g S.fail ∧ KeepR g w w' := by
  obtain ⟨a, n, cap, h1, h2, h3, h4⟩ := h.ex
  have f0 := frozen_of_row w g 0 _ _ h1
  have c0 : w.cell? ⟨g, 0, none⟩ = some (.slice a n cap) := (cell_of_row w g 0 _ _ _ h1).trans rfl
  have c1 : w.cell? ⟨g, 1, none⟩ = some (.bool S.br) := (cell_of_row w g 1 _ _ _ h1).trans rfl
  have f1 := frozen_of_row w g 1 _ _ h1
  have H1 := Lib.hid h1
  clear h h1 h2 h3 h4
  go_enter Try.func74, Try.ntmps74
  go_wp2
  go_end0
  refine ⟨rfl, ⟨none, 0, 0, ?_, rfl, Seen.nil _ 1, fun b e => by simp [own, Value.ownBlock] at e⟩, ((Keep.refl (fun b => b = g) w).setCell _ _ (.inl rfl)).setCell _ _ (.inl rfl)⟩
  exact (heap_setCell_at _ (heap_setCell_at _ H1.out)).trans rfl

theorem ended_any {B : Nat} {w : World} {g : Nat} {S : R} (h : RdAt B w g S) : Calls Try.prog 48 #[.pointer (some ⟨g, 0, none⟩)] w fun e w' => e = .returned (.bool (!S.br && decide (S.rest.length = 0))) ∧ w' = w := by
  obtain ⟨a, n, cap, h1, h2, h3, h4⟩ := h.ex
  have c0 : w.cell? ⟨g, 0, none⟩ = some (.slice a n cap) := (cell_of_row w g 0 _ _ _ h1).trans rfl
  have c1 : w.cell? ⟨g, 1, none⟩ = some (.bool S.br) := (cell_of_row w g 1 _ _ _ h1).trans rfl
  rw [← h2]
  clear h h1 h2 h3 h4
  obtain ⟨b, hb⟩ : ∃ b, b = S.br := ⟨_, rfl⟩
  rw [← hb] at c1 ⊢
  clear hb
  cases b
  · go_enter Try.func48, Try.ntmps48
    go_wp2
    go_ret
    refine ⟨?_, rfl⟩
    have e : ((n : Int) == 0) = decide (n = 0) := by by_cases h0 : n = 0 <;> simp [h0]
    simp [e]
  · go_enter Try.func48, Try.ntmps48
    go_wp2
    go_ret
    exact ⟨rfl, rfl⟩

/-- Bytes that were taken: a slice into what the reader had. -/
structure TakeR (B g : Nat) (w : World) (q : List UInt8 × R) (e : Ending) (w' : World) : Prop where
  ex : ∃ a n cap, e = .returned (.slice a n cap) ∧ n = q.1.length ∧ Seen w' 1 (.slice a n cap) n (bcells q.1) ∧ (∀ b, own (.slice a n cap) b → b ≠ g ∧ b < B) ∧ RdAt B w' g q.2 ∧ KeepR g w w'

attribute [-go_sem] Go.run_slice_h Go.run_slice_l Go.run_slice_any

theorem take_any {B : Nat} {w : World} {g : Nat} {S : R} (h : RdAt B w g S) (k : Nat) : Calls Try.prog 81 #[.pointer (some ⟨g, 0, none⟩), .int .i64 (k : Int)] w (TakeR B g w (S.take k)) := by
  have HF := Lib.hid (fail_any h)
  obtain ⟨a, n, cap, h1, h2, h3, h4⟩ := h.ex
  have f0 := frozen_of_row w g 0 _ _ h1
  have c0 : w.cell? ⟨g, 0, none⟩ = some (.slice a n cap) := (cell_of_row w g 0 _ _ _ h1).trans rfl
  have c1 : w.cell? ⟨g, 1, none⟩ = some (.bool S.br) := (cell_of_row w g 1 _ _ _ h1).trans rfl
  have H1 := Lib.hid h1
  have H2 := Lib.hid h2
  have H3 := Lib.hid h3
  have H4 := Lib.hid h4
  have hcap : n ≤ cap ∧ cap ≤ maxLen := by
    obtain ⟨_, _, _, hv, h5, h6, _⟩ := h3
    simp only [Value.slice.injEq] at hv
    obtain ⟨_, _, rfl⟩ := hv
    exact ⟨h5, h6⟩
  unfold maxLen at hcap
  obtain ⟨hc1, hc2⟩ := hcap
  clear h h1 h3 h4
  by_cases hlt : n < k
  · have e : S.take k = ([], S.fail) := by unfold R.take; rw [if_pos (by omega)]
    rw [e]
    have hi : (n : Int) < (k : Int) := by omega
    clear h2 e hlt
    go_enter Try.func81, Try.ntmps81
    go_wp2_with fail
    refine HF.out.mono ?_
    rintro e w2 ⟨rfl, h5, k5⟩
    have H5 := Lib.hid h5
    have K5 := Lib.hid k5
    clear h5 k5
    go_wp2
    go_ret
    exact ⟨none, 0, 0, rfl, rfl, Seen.nil _ 1, fun b e => by simp [own, Value.ownBlock] at e, H5.out, K5.out⟩
  · have e : S.take k = (S.rest.take k, ⟨S.rest.drop k, S.br⟩) := by unfold R.take; rw [if_neg (by omega)]
    rw [e]
    have hi : (k : Int) ≤ (n : Int) := by omega
    have hk1 : k ≤ n := by omega
    have hst1 := run_head a n cap k (by omega)
    have hst2 := run_tail a n cap k hk1
    obtain ⟨a2, ha2⟩ : ∃ a2, a2 = tailA a cap k := ⟨_, rfl⟩
    obtain ⟨r2, hr2⟩ : ∃ r2, r2 = n - k := ⟨_, rfl⟩
    obtain ⟨cp2, hcp2⟩ : ∃ cp2, cp2 = cap - k := ⟨_, rfl⟩
    rw [← ha2, ← hr2, ← hcp2] at hst2
    have HE := Lib.hid (And.intro ha2 (And.intro hr2 hcp2))
    clear h2 e hlt ha2 hr2 hcp2
    go_enter Try.func81, Try.ntmps81
    go_wp2
    go_ret
    have hl : S.rest.length = n := H2.out.symm
    have k6 : Keep (fun b => b = g) w (w.setCell ⟨g, 0, none⟩ (.slice a2 r2 cp2)) := (Keep.refl (fun b => b = g) w).setCell _ _ (.inl rfl)
    have s1 := (seen_head H3.out hk1 hl).keep k6 (fun b hb _ => (H4.out b (own_head hb)).1)
    have s2 := (seen_tail H3.out hk1 hl).keep k6 (fun b hb _ => (H4.out b (own_tail hb)).1)
    rw [← HE.out.1, ← HE.out.2.1, ← HE.out.2.2] at s2
    have hlen : (S.rest.take k).length = k := by rw [List.length_take]; omega
    refine ⟨a, k, cap, rfl, hlen.symm, s1, fun b hb => H4.out b (own_head hb), ⟨a2, r2, cp2, ?_, ?_, s2, ?_⟩, k6⟩
    · exact (heap_setCell_at _ H1.out).trans rfl
    · rw [HE.out.2.1]; simp only [List.length_drop]; omega
    · intro b hb; rw [HE.out.1] at hb; exact H4.out b (own_tail hb)

theorem nextByte_any {B : Nat} {w : World} {g : Nat} {S : R} (h : RdAt B w g S) : Calls Try.prog 73 #[.pointer (some ⟨g, 0, none⟩)] w fun e w' => e = .returned (.int .u8 (S.byte.1.toNat : Int)) ∧ RdAt B w' g S.byte.2 ∧ KeepR g w w' := by
  have HT := Lib.hid (take_any h 1)
  clear h
  obtain ⟨rest, br⟩ := S
  cases rest with
  | nil =>
    go_enter Try.func73, Try.ntmps73
    go_wp2_with fail
    refine HT.out.mono ?_
    rintro e w2 ⟨a, n, cap, rfl, hn, hs, ho, hr, hk⟩
    have hn0 : n = 0 := hn
    clear hn
    subst hn0
    have HR := Lib.hid hr
    have HK := Lib.hid hk
    clear hs ho hr hk
    go_wp2
    go_ret
    exact ⟨rfl, HR.out, HK.out⟩
  | cons c t =>
    go_enter Try.func73, Try.ntmps73
    go_wp2_with fail
    refine HT.out.mono ?_
    rintro e w2 ⟨a, n, cap, rfl, hn, hs, ho, hr, hk⟩
    have e1 : (R.take 1 ⟨c :: t, br⟩) = ([c], ⟨t, br⟩) := by unfold R.take; rw [if_neg (by simp)]; rfl
    rw [e1] at hn hs hr
    have hn1 : n = 1 := hn
    clear hn
    subst hn1
    have HR := Lib.hid hr
    have HK := Lib.hid hk
    obtain ⟨_, a', cap', hv, _, _, h5⟩ := hs
    simp only [Value.slice.injEq] at hv
    obtain ⟨rfl, _, rfl⟩ := hv
    rcases h5 with h5 | ⟨g2, off, rfl, _, hc⟩
    · omega
    · have c0 : w2.cell? ⟨g2, off, none⟩ = some (.int .u8 (c.toNat : Int)) := hc 0 _ rfl
      clear ho hr hk hc e1
      go_wp2
      go_ret
      exact ⟨rfl, HR.out, HK.out⟩

end Go.Proofs.Ytpefkellcigpkaa.Cd
