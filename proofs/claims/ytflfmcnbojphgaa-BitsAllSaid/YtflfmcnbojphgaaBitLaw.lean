/- What layer 4's own beginning does; its operations among the arguments. -/
import Derived.Test.YtflfmcnbojphgaaBitC
import Derived.Deep.SlicePairs
namespace Go.Proofs.Ytflfmcnbojphgaa
set_option maxRecDepth 100000
open Go.ChangeShapes Go.WideShapes Go.ChangeAt Go.RowKit Go.Deep

theorem isM_same (a : Int) (h : (a == 0) = false) {w : World} :
    Calls Try.prog 7 #[apiErr a, .int .i64 a] w fun e w' => e = .returned (.bool true) ∧ w = w' := by
  simp only [apiErr]
  go_enter Try.func7, Try.ntmps7
  go_wp2_with (go_at_call 15; refine (errIs_same a _).mono ?_; rintro e w' ⟨rfl, rfl⟩)
  go_ret
  exact ⟨rfl, rfl⟩

theorem nb_least : IsLeast noBits 0 := ⟨mbit_none 0, fun j hj => by omega⟩

def twoBits : List UInt8 := bset (bset noBits 0) 8

theorem two_bytes : bytesOf 9 twoBits = [1, 1] := by decide +kernel
theorem two_cnt : cnt twoBits 9 = 2 := by decide +kernel
theorem two_has : mbit twoBits 8 = true := by decide +kernel
theorem one_has : mbit (bset noBits 0) 8 = false := by decide +kernel

set_option maxHeartbeats 1000000 in
theorem begun4_any {w : World} : Calls Try.prog 4 #[] w fun e w' => e = .returned (.bool true) ∧ Keep (fun _ => False) w w' := by
  go_enter Try.func4, Try.ntmps4
  go_wp2_with fail
  refine (newM_any 9 (by omega)).mono ?_
  rintro e w1 ⟨rfl, r1, r2, r3⟩
  have R1 := Lib.hid r1; have R2 := Lib.hid r2
  clear r1 r2 r3
  go_wp2_with fail
  refine (take_one R1.out 0 (by omega) nb_least).mono ?_
  rintro e w2 ⟨rfl, s1, s2⟩
  have S1 := Lib.hid s1; have S2 := Lib.hid s2
  clear s1 s2
  go_wp2_with fail
  refine (set_new S1.out 8 (by omega) one_has).mono ?_
  rintro e w3 ⟨rfl, u1, u2⟩
  have U1 : Hid (IsMap w3 w.heap.size 9 twoBits) := Lib.hid u1; have U2 := Lib.hid u2
  clear u1 u2
  go_wp2_with fail
  refine (bytes_any U1.out).mono ?_
  rintro e w4 ⟨v, rfl, x1, x2, x3⟩
  rw [two_bytes] at x1
  obtain ⟨g, off, cap, rfl, hc1, hc2⟩ := x1.full (by omega)
  have c0 : w4.cell? ⟨g, off, none⟩ = some (.int .u8 1) := by have := x1.cellAt 0 (by omega); simpa [bcells] using this
  have c1 : w4.cell? ⟨g, off + 1, none⟩ = some (.int .u8 1) := by have := x1.cellAt 1 (by omega); simpa [bcells] using this
  have X2 := Lib.hid x2
  have U4 := Lib.hid (U1.out.keep x2 (fun h => h))
  clear x1 x2 x3
  go_wp2_with (first | (go_at_call 13; refine (left_any U4.out).mono ?_; rw [two_cnt]; rintro e w' ⟨rfl, rfl⟩) | (go_at_call 12; refine (has_map U4.out 8 (by omega)).mono ?_; rw [two_has]; rintro e w' ⟨rfl, rfl⟩))
  go_ret
  exact ⟨rfl, ((R2.out.trans S2.out (fun i h => .inr (by omega))).trans U2.out (fun i h => .inr (by omega))).trans X2.out (fun _ h => h.elim)⟩

/-- The operations' cells. -/
def ocells (ops : List (Int × Int)) : List Value := ops.flatMap fun x => [Value.int .i64 x.1, Value.int .i64 x.2]

theorem ocells_length (l : List (Int × Int)) : (ocells l).length = l.length * 2 := by
  induction l with
  | nil => rfl
  | cons x l ih => simp only [ocells, List.flatMap_cons, List.length_append, List.length_cons, List.length_nil] at *; omega

theorem ocells_get (l : List (Int × Int)) (k : Nat) (h : k < l.length) : (ocells l)[k * 2]? = some (.int .i64 (l[k]).1) ∧ (ocells l)[k * 2 + 1]? = some (.int .i64 (l[k]).2) := by
  induction l generalizing k with
  | nil => simp at h
  | cons x l ih =>
    cases k with
    | zero => exact ⟨rfl, rfl⟩
    | succ k =>
      have := ih k (by simpa using h)
      simp only [ocells, List.flatMap_cons, List.getElem_cons_succ] at *
      rw [show (k + 1) * 2 = k * 2 + 1 + 1 by omega]
      exact this

def inInt (n : Int) : Prop := -9223372036854775808 ≤ n ∧ n ≤ 9223372036854775807

/-- An []Op among the arguments. -/
theorem arg_ops4 {H : Type} {enc : TypeId × Value → H} {W : World} {v : Value} {d : DataW H} {ps : List MemPlace} {base : Nat} (hv : Value.okWide Try.prog W .any base 22 v) (h : DataW.Trod enc Try.prog W 0 (fun _ => true) true 22 v d ps) :
    ∃ l : List (Int × Int), Seen W 2 v l.length (ocells l) ∧ ∀ x ∈ l, inInt x.1 ∧ inInt x.2 := by
  obtain ⟨a0, len, cap, rfl⟩ := okWide_slice Try.underlying22 hv
  obtain ⟨fuel, hf⟩ := h
  rcases open_slice_pairs Try.underlying22 Try.underlying28 (by kernel_rfl) rfl rfl (by kernel_rfl) (by kernel_rfl) hf with ⟨hcs, hx⟩ | ⟨a, len', cap', m, n, V0, V1, D0, D1, P0, P1, hcs, _, hl, hm, hmm, hx, hc⟩
  · simp [Value.cells] at hcs
    obtain ⟨rfl, rfl, rfl⟩ := hcs
    exact ⟨[], Seen.nil _ _, fun x hx => by simp at hx⟩
  · simp [Value.cells] at hcs
    obtain ⟨rfl, rfl, rfl⟩ := hcs
    have hlm : len ≤ m := by rw [hmm]; split <;> omega
    have each : ∀ i, i < len → ∃ x : Int × Int, V0 i = .int .i64 x.1 ∧ V1 i = .int .i64 x.2 ∧ inInt x.1 ∧ inInt x.2 := by
      intro i hi
      obtain ⟨_, _, t0, t1⟩ := hc i (by omega)
      obtain ⟨n0, e0, _, w0⟩ := DataW.trod_int Try.underlying3 t0
      obtain ⟨n1, e1, _, w1⟩ := DataW.trod_int Try.underlying3 t1
      simp only [List.cons.injEq, and_true] at e0 e1
      exact ⟨(n0, n1), e0, e1, by simpa [inInt, Lit.wf, show IntKind.i64.min = -9223372036854775808 from rfl, show IntKind.i64.max = 9223372036854775807 from rfl] using w0,
        by simpa [inInt, Lit.wf, show IntKind.i64.min = -9223372036854775808 from rfl, show IntKind.i64.max = 9223372036854775807 from rfl] using w1⟩
    obtain ⟨f, hf'⟩ := choose_lt each
    refine ⟨(List.range len).map f, ⟨by rw [ocells_length], some a, cap, by simp, by simpa using hl, hm, ?_⟩, fun x hx => ?_⟩
    · rcases Nat.eq_zero_or_pos len with h0 | h0
      · exact .inl (by simpa using h0)
      right
      obtain ⟨b, off, spot⟩ := a
      have c0 := (hc 0 (by omega)).1
      have hspot : spot = none := by simpa [Addr.add] using World.cell?_spot c0
      subst hspot
      refine ⟨b, off, rfl, by simpa [Addr.add] using World.block_lt_of_cell? _ _ c0, fun j u hu => ?_⟩
      have hj : j < len * 2 := by
        have := (List.getElem?_eq_some_iff.1 hu).1
        rw [ocells_length] at this
        simpa using this
      have hg := ocells_get ((List.range len).map f) (j / 2) (by simp; omega)
      obtain ⟨q0, q1, _, _⟩ := hc (j / 2) (by omega)
      obtain ⟨f0, f1, _, _⟩ := hf' (j / 2) (by omega)
      simp only [List.getElem_map, List.getElem_range] at hg
      rw [add_off] at q0
      have q1' : W.cell? ⟨b, off + (j / 2 * 2 + 1), none⟩ = some (V1 (j / 2)) := by
        have : (⟨b, off, none⟩ : Addr).add (j / 2 * 2 + 1) = ⟨b, off + (j / 2 * 2 + 1), none⟩ := add_off _ _ _
        rw [← this]; exact q1
      rcases Nat.mod_two_eq_zero_or_one j with hm2 | hm2
      · have e : j / 2 * 2 = j := by omega
        rw [e] at hg q0
        rw [hg.1] at hu
        rw [q0, f0]; exact hu
      · have e : j / 2 * 2 + 1 = j := by omega
        rw [e] at hg q1'
        rw [hg.2] at hu
        rw [q1', f1]; exact hu
    · obtain ⟨i, hi, rfl⟩ := List.mem_map.1 hx
      exact (hf' i (List.mem_range.1 hi)).2.2

end Go.Proofs.Ytflfmcnbojphgaa
