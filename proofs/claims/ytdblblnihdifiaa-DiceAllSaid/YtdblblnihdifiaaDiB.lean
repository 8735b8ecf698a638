/- Dice: the program's throw; a new cup; what layer 14's own beginning does. -/
import Derived.Test.YtdblblnihdifiaaDiA
import Derived.Deep.MidRow
import Derived.Great.BuildSlice
import Derived.Lib.BufferMore
namespace Go.Proofs.Ytdblblnihdifiaa.Di
open Go.RowKit Go.Proofs.Ytdblblnihdifiaa
set_option maxRecDepth 100000

theorem rest_any {w : World} (n s : Int) (hs : fitI s) (h1 : 1 ≤ s) : Calls Try.prog 10 #[.int .i64 n, .int .i64 s] w fun e w' => e = .returned (.int .i64 (n % s)) ∧ w = w' := by
  unfold fitI at hs
  have d3 : (s == 0) = false := by rw [beq_eq_false_iff_ne]; omega
  have hlt := rest_fit n h1
  rcases tmod_low n h1 with ⟨hl, he⟩ | ⟨hl, he⟩
  · have d4 : decide (n.tmod s < 0) = true := by simpa using hl
    rw [he]
    go_enter Try.func10, Try.ntmps10
    go_wp2
    go_ret
    exact ⟨rfl, rfl⟩
  · have d4 : decide (n.tmod s < 0) = false := by rw [decide_eq_false_iff_not]; omega
    rw [he]
    go_enter Try.func10, Try.ntmps10
    go_wp2
    go_ret
    exact ⟨rfl, rfl⟩

theorem roll_low {w : World} (v : Value) (s : Int) (h : s < 1) : Calls Try.prog 6 #[v, .int .i64 s] w fun e w' => e = .returned (.int .i64 0) ∧ w = w' := by
  have d1 : decide (s < 1) = true := by simpa using h
  clear h
  go_enter Try.func6, Try.ntmps6
  go_wp2
  go_ret
  exact ⟨rfl, rfl⟩

theorem roll_nil {w : World} (s : Int) (hs : fitI s) (h1 : 1 ≤ s) : Calls Try.prog 6 #[.pointer none, .int .i64 s] w fun e w' => e = .returned (.int .i64 1) ∧ w = w' := by
  have d1 : decide (s < 1) = false := by rw [decide_eq_false_iff_not]; omega
  go_enter Try.func6, Try.ntmps6
  go_wp2_with (first | (go_at_call 11; refine next_nil.mono ?_; rintro e w1 ⟨rfl, rfl⟩) | (go_at_call 10; refine (rest_any 0 s hs h1).mono ?_; rw [Int.zero_emod]; rintro e w1 ⟨rfl, rfl⟩))
  go_ret
  exact ⟨rfl, rfl⟩

theorem roll_any {N : Nat → Prop} {w : World} {p : Nat} {xs : List Int} (h : CupAt N w p xs) (s : Int) (hs : fitI s) : Calls Try.prog 6 #[.pointer (some ⟨p, 0, none⟩), .int .i64 s] w fun e w' => e = .returned (.int .i64 (rollF xs s)) ∧ CupAt N w' p (if s < 1 then xs else xs.tail) ∧ Keep (fun b => b = p) w w' := by
  by_cases h1 : s < 1
  · refine (roll_low _ s h1).mono ?_
    rintro e w' ⟨rfl, rfl⟩
    exact ⟨by unfold rollF; rw [if_pos h1], by rw [if_pos h1]; exact h, Keep.refl _ _⟩
  · have d1 : decide (s < 1) = false := by simpa using h1
    cases xs with
    | nil =>
      have HR : Hid (rollF [] s = 1) := Lib.hid (by unfold rollF; rw [if_neg h1])
      have HE : Hid ((if s < 1 then [] else ([] : List Int).tail) = []) := Lib.hid (by rw [if_neg h1]; rfl)
      have H0 := Lib.hid h
      have h2 : 1 ≤ s := by omega
      clear h h1
      go_enter Try.func6, Try.ntmps6
      go_wp2_with (first | (go_at_call 11; refine (next_none H0.out).mono ?_; rintro e w1 ⟨rfl, rfl⟩) | (go_at_call 10; refine (rest_any 0 s hs h2).mono ?_; rw [Int.zero_emod]; rintro e w1 ⟨rfl, rfl⟩))
      go_ret
      exact ⟨by rw [HR.out]; rfl, by first | exact H0.out | (rw [HE.out]; exact H0.out), Keep.refl _ _⟩
    | cons n xs =>
      have HR : Hid (rollF (n :: xs) s = n % s + 1) := Lib.hid (by unfold rollF; rw [if_neg h1])
      have HE : Hid ((if s < 1 then n :: xs else (n :: xs).tail) = xs) := Lib.hid (by rw [if_neg h1]; rfl)
      have H0 := Lib.hid h
      have h2 : 1 ≤ s := by omega
      have hlt := rest_fit n h2
      have hs' := hs
      unfold fitI at hs'
      clear h h1
      go_enter Try.func6, Try.ntmps6
      go_wp2_with (first | (go_at_call 11; refine (next_any H0.out).mono ?_; rintro e w1 ⟨rfl, a1, a2⟩; have A1 := Lib.hid a1; have A2 := Lib.hid a2; clear a1 a2) | (go_at_call 10; refine (rest_any n s hs h2).mono ?_; rintro e w1 ⟨rfl, rfl⟩))
      go_ret
      exact ⟨by rw [HR.out]; rfl, by first | exact A1.out | (rw [HE.out]; exact A1.out), A2.out⟩

theorem srcM {P : Program} {w : World} {size n : Nat} {v : Value} {xs : List Value} {tx e : TypeId} (h : Seen w size v n xs) (ht : P.underlying tx = some (.slice e)) (h1 : ∀ u ∈ xs, u.oneCell' = true) : Src P size tx v n xs w := by
  obtain ⟨h0, a, cap, rfl, hl, _, h3⟩ := h
  rcases h3 with h3 | ⟨g, off, rfl, _, hcl⟩
  · have hx : xs = [] := List.eq_nil_of_length_eq_zero (by rw [h0, h3]; simp)
    subst hx
    subst h3
    cases a with
    | none => exact Src.ofNil w ht cap
    | some a => exact Src.ofSlice w ht a 0 cap [] (by simp) (fun j u hu => by simp at hu) (by simp)
  · exact Src.ofSlice w ht _ n cap xs h0 (fun j u hu => by rw [add_off]; exact hcl j u hu) h1

theorem icells_one (l : List Int) : ∀ u ∈ icells l, u.oneCell' = true := by
  intro u hu
  obtain ⟨x, _, rfl⟩ := List.mem_map.1 hu
  rfl

/-- slices.Clone of numbers. -/
theorem clone_any {w : World} {v : Value} {l : List Int} (h : Seen w 1 v l.length (icells l)) (hl : l.length ≤ 1000000) : Calls Try.prog 9 #[v] w fun e w' => ∃ v', e = .returned v' ∧ Seen w' 1 v' l.length (icells l) ∧ (∀ b, v'.ownBlock = some b → w.heap.size ≤ b ∧ b < w'.heap.size) ∧ Keep (fun _ => False) w w' := by
  obtain ⟨h1, a, cap, rfl, hc, hm, h4⟩ := h
  have h : Seen w 1 (.slice a l.length cap) l.length (icells l) := ⟨h1, a, cap, rfl, hc, hm, h4⟩
  cases a with
  | none =>
    have hl0 : l = [] := by
      rcases h4 with h0 | ⟨g, off, h0, _⟩
      · exact List.eq_nil_of_length_eq_zero h0
      · cases h0
    subst hl0
    have he : ∀ w, (binOp .eql 22 (.slice none ([] : List Int).length cap) (.slice none 0 0)).run Try.prog w = .ok (.bool true) w := fun w => Lib.run_eql_slice_nil_nil w _ _ Try.underlying22
    simp only [List.length_nil] at he
    clear h h1 h4
    go_enter Try.func9, Try.ntmps9
    go_wp2
    go_ret
    exact ⟨_, rfl, Seen.nil _ _, fun b hb => by simp [Value.ownBlock] at hb, Keep.refl _ _⟩
  | some a =>
    have he : ∀ w, (binOp .eql 22 (.slice (some a) l.length cap) (.slice none 0 0)).run Try.prog w = .ok (.bool false) w := fun w => Lib.run_eql_slice_some_nil w _ _ _ Try.underlying22
    obtain ⟨i0, hi0, hz0, hz1, hz2⟩ := info_parts infoI
    have HI := Lib.hid hi0; have HZ0 := Lib.hid hz0; have HZ1 := Lib.hid hz1; have HZ2 := Lib.hid hz2
    have hnew := Lib.hid (Row.made (w := w) (e := 3) (size := 1) #[] w.heap.size 0 rfl (by omega) rfl)
    have HE : Hid (Seen (w.alloc (.cells #[] 3)) 1 (.slice (some a) l.length cap) l.length (icells l)) := Lib.hid (h.keep ((Keep.refl (fun _ => False) w).alloc _) (fun _ _ _ h => h))
    clear h h1 h4 hi0 hz0 hz1 hz2
    go_enter Try.func9, Try.ntmps9
    go_wp2_with (at_builtin; go_loud (refine wpList_append_row _ rfl (.tmp 5) (.tmp 6) rfl Try.underlying22 HI.out HZ0.out HZ1.out HZ2.out rfl rfl hnew.out rfl (srcM HE.out Try.underlying22 (icells_one l)) (by unfold maxLen; omega) (by omega) ?k))
    case k =>
      intro v' w' r1 r2 r3 r4
      have R1 := Lib.hid r1; have R2 := Lib.hid r2; have R3 := Lib.hid r3
      clear r1 r2 r3 r4
      go_wp2
      go_ret
      have h1 := R1.out
      refine ⟨v', rfl, ?_, fun b hb => ?_, ?_⟩
      · exact h1.seen
      · refine ⟨?_, h1.lt hb⟩
        rcases R3.out b hb with h2 | h2
        · simp [Value.ownBlock] at h2; omega
        · have := h2.1; omega
      · exact ((Keep.refl (fun _ => False) w).alloc _).trans R2.out (fun k hk => by simp [Value.ownBlock] at hk; exact .inr (by omega))

/-- A new cup. -/
theorem new_any {w : World} {v : Value} {l : List Int} (h : Seen w 1 v l.length (icells l)) (hl : l.length ≤ 1000000) : Calls Try.prog 5 #[v] w fun e w' => ∃ p, e = .returned (.pointer (some ⟨p, 0, none⟩)) ∧ w.heap.size ≤ p ∧ CupAt (fun b => w.heap.size ≤ b ∧ b < p) w' p l ∧ Keep (fun _ => False) w w' := by
  have H := Lib.hid (clone_any h hl)
  clear h
  go_enter Try.func5, Try.ntmps5
  go_wp2_with (first | (go_at_call 9; refine H.out.mono ?_; rintro e w1 ⟨v', rfl, a1, a2, a3⟩; obtain ⟨_, b, cap, rfl, b1, b2, b3⟩ := a1; have B1 := Lib.hid b1; have B2 := Lib.hid b2; have B3 := Lib.hid b3; have A2 := Lib.hid a2; have A3 := Lib.hid a3; clear a2 a3 b1 b2 b3))
  go_ret
  have hk := A3.out
  have k1 : Keep (fun _ => False) w1 (w1.alloc (.cells #[.slice b l.length cap] 34)) := (Keep.refl (fun _ => False) w1).alloc _
  refine ⟨w1.heap.size, rfl, hk.size, ⟨⟨_, heap_alloc_new w1 _, ⟨Seen.keep ⟨by simp [icells], b, cap, rfl, B1.out, B2.out, B3.out⟩ k1 (fun _ _ _ h => h), fun c hc _ => A2.out c hc⟩⟩, fun h => by omega⟩, hk.alloc _⟩

end Go.Proofs.Ytdblblnihdifiaa.Di
