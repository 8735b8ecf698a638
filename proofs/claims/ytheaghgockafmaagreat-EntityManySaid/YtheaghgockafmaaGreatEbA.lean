/- The program's gold: the sum of a new world's money. -/
import Derived.Test.YtheaghgockafmaaGreatWdY
import Derived.Laws.Externs
namespace Go.Proofs.YtheaghgockafmaaGreat.Wd
open Go.RowKit Go.Maps Go.Proofs.YtheaghgockafmaaGreat Go.Proofs.YtheaghgockafmaaGreat.Lin
set_option maxRecDepth 100000

/-- The sum's variable. -/
def SumAt (w : World) (p : Nat) (n : Int) : Prop := w.heap[p]? = some (.cells #[.int .u64 0, .int .u64 n] 162 (0, 0))

theorem add64_eq (x y : Int) (hx : 0 ≤ x) (hy : 0 ≤ y) (h : x + y < 18446744073709551616) (w : World) : (callFunc 217 #[.int .u64 x, .int .u64 y, .int .u64 0]).run Tryz.prog w = .ok (.value (.tuple #[.int .u64 (x + y), .int .u64 0])) w := by
  rw [run_callFunc_extern Tryz.func217 (by kernel_rfl) (by kernel_rfl) (by kernel_rfl) (e := add64Entry) (by kernel_rfl), run_add64 x y 0 hx hy (by omega) (by omega)]
  simp only [Result.andThen]
  rw [show (x + y + 0) % 18446744073709551616 = x + y by omega, show (x + y + 0) / 18446744073709551616 = 0 by omega]
theorem totAdd_any {w : World} {p : Nat} {m n : Int} (h : SumAt w p m) (hm : 0 ≤ m) (hn : 0 ≤ n) (hmn : m + n < 4611686018427387904) :
    Calls Tryz.prog 106 #[.pointer (some ⟨p, 0, none⟩), .int .i64 n] w fun e w' => e = .returned (.tuple #[]) ∧ SumAt w' p (m + n) ∧ Keep (fun b => b = p) w w' := by
  unfold SumAt at h
  have p0 : w.cell? ⟨p, 0, none⟩ = some (.int .u64 0) := (cell_of_row w p 0 _ _ _ h).trans rfl
  have p1 : w.cell? ⟨p, 1, none⟩ = some (.int .u64 m) := (cell_of_row w p 1 _ _ _ h).trans rfl
  have f0 : w.frozen? ⟨p, 0, none⟩ = false := by simp [World.frozen?, h]
  have f1 : w.frozen? ⟨p, 1, none⟩ = false := by simp [World.frozen?, h]
  have h1 := add64_eq m n hm hn (by omega)
  have h2 : ∀ w : World, (callFunc 217 #[.int .u64 0, .int .u64 0, .int .u64 0]).run Tryz.prog w = .ok (.value (.tuple #[.int .u64 0, .int .u64 0])) w := fun w => add64_eq 0 0 (by omega) (by omega) (by omega) w
  have hsh : n / 9223372036854775808 = 0 := by omega
  have hw : IntKind.u64.wrap n = n := by simp [IntKind.wrap, IntKind.signed, IntKind.bits]; omega
  have H := Lib.hid h
  clear h
  go_enter Tryz.func106, Tryz.ntmps106
  go_wp2
  go_end0
  have hh := heap_setCell_at (i := 1) (.int .u64 (m + n)) (heap_setCell_at (i := 0) (.int .u64 0) H.out)
  exact ⟨rfl, hh, Keep.setCell (F := fun b => b = p) (Keep.setCell (F := fun b => b = p) (Keep.refl _ _) ⟨p, 0, none⟩ _ (.inl rfl)) ⟨p, 1, none⟩ _ (.inl rfl)⟩
theorem totVal_any {w : World} {p : Nat} {m : Int} (h : SumAt w p m) (hm : 0 ≤ m) (hb : m < 4611686018427387904) :
    Calls Tryz.prog 107 #[.pointer (some ⟨p, 0, none⟩)] w fun e w' => e = .returned (.int .i64 m) ∧ Keep (fun _ => False) w w' := by
  unfold SumAt at h
  have p0 : w.cell? ⟨p, 0, none⟩ = some (.int .u64 0) := (cell_of_row w p 0 _ _ _ h).trans rfl
  have p1 : w.cell? ⟨p, 1, none⟩ = some (.int .u64 m) := (cell_of_row w p 1 _ _ _ h).trans rfl
  have hsh : m / 9223372036854775808 = 0 := by omega
  have hw : IntKind.i64.wrap m = m := by simp [IntKind.wrap, IntKind.signed, IntKind.bits]; omega
  have hw0 : IntKind.u64.wrap 0 = 0 := rfl
  clear h
  go_enter Tryz.func107, Tryz.ntmps107
  go_wp2
  go_region
  all_goals go_wp2
  all_goals go_ret
  all_goals exact ⟨rfl, (Keep.refl _ _).drew⟩

/-- A row that nobody has. -/
def tillSum (L : List TiM) : Int := (L.map (fun t => t.gold)).sum
structure TotR (L : List TiM) (p : Nat) (w0 : World) (iv : Value) (wr : World) : Prop where
  ex : ∃ i : Nat, i ≤ L.length ∧ iv = .int .i64 (i : Int) ∧ SumAt wr p (tillSum (L.take i)) ∧ Keep (fun b => b = p) w0 wr
theorem tillSum_take {L : List TiM} {i : Nat} {t : TiM} (h : L[i]? = some t) : tillSum (L.take (i + 1)) = tillSum (L.take i) + t.gold := by
  unfold tillSum
  rw [List.take_add_one, h]
  simp
theorem tillSum_bound {L : List TiM} (h : ∀ t ∈ L, 0 ≤ t.gold ∧ t.gold ≤ 1099511627776) : ∀ i : Nat, 0 ≤ tillSum (L.take i) ∧ tillSum (L.take i) ≤ 1099511627776 * i
  | 0 => by simp [tillSum]
  | i + 1 => by
    have ih := tillSum_bound h i
    cases hx : L[i]? with
    | none =>
      rw [List.take_add_one, hx]
      simp only [Option.toList, List.append_nil]
      omega
    | some t =>
      rw [tillSum_take hx]
      have := h t (List.mem_of_getElem? hx)
      omega

set_option maxHeartbeats 8000000 in
theorem total_any {N : Nat → Prop} {w : World} {q : Nat} {W : WM} (h : WAt N w q W) (hc : W.chars = []) (hh : W.houses = []) (hl : W.lots = []) (hn : W.tills.length ≤ 1000) (hg : ∀ t ∈ W.tills, 0 ≤ t.gold ∧ t.gold ≤ 1099511627776) :
    Calls Tryz.prog 56 #[.pointer (some ⟨q, 0, none⟩)] w fun e w' => e = .returned (.int .i64 (tillSum W.tills)) ∧ Keep (fun _ => False) w w' := by
  obtain ⟨a3, c3, cr, q3, -, -, -, -⟩ := h.chars
  obtain ⟨a6, c6, hr, q6, -, -, -, -, -⟩ := h.houses
  obtain ⟨a7, c7, q7, -, -, -⟩ := h.lots
  obtain ⟨a8, c8, q8, r8, e8, f8⟩ := h.tills
  rw [hc] at q3; rw [hh] at q6; rw [hl] at q7
  have HB := Lib.hid (tillSum_bound hg)
  have HG := Lib.hid hg
  obtain ⟨L, hL⟩ : ∃ L, L = W.tills := ⟨_, rfl⟩
  rw [← hL] at q8 r8 e8 hn HB HG ⊢
  obtain ⟨w1, hw1⟩ : ∃ w1, w1 = w.alloc (.cells #[.int .u64 0, .int .u64 0] 162) := ⟨_, rfl⟩
  have K1 : Hid (Keep (fun _ => False) w w1) := Lib.hid (by rw [hw1]; exact (Keep.refl _ w).alloc _)
  have HS : Hid (SumAt w1 w.heap.size 0) := Lib.hid (by rw [hw1]; exact heap_alloc_new w _)
  have HQ : Hid (∀ w9, Keep (fun b => b = w.heap.size) w1 w9 → w9.cell? ⟨q, 3, none⟩ = some (.slice a3 0 c3) ∧ w9.cell? ⟨q, 8, none⟩ = some (.slice a8 L.length c8) ∧ w9.cell? ⟨q, 6, none⟩ = some (.slice a6 0 c6) ∧ w9.cell? ⟨q, 7, none⟩ = some (.slice a7 0 c7)) := Lib.hid (fun w9 k9 => by
    have hq : q < w.heap.size := World.block_lt_of_cell? _ _ q3
    have k : Keep (fun b => b = w.heap.size) w w9 := (K1.out.mono (fun _ _ e => e.elim)).trans k9 (fun b e => .inl e)
    have hne : ¬ q = w.heap.size := by omega
    exact ⟨(k.cell hq hne _).trans q3, (k.cell hq hne _).trans q8, (k.cell hq hne _).trans q6, (k.cell hq hne _).trans q7⟩)
  have HR : Hid (∀ w9, Keep (fun b => b = w.heap.size) w1 w9 → Rec w9 82 tiC 2 (.slice a8 L.length c8) L) := Lib.hid (fun w9 k9 => by
    have k : Keep (fun b => b = w.heap.size) w w9 := (K1.out.mono (fun _ _ e => e.elim)).trans k9 (fun b e => .inl e)
    exact r8.keep k (fun b hb e => by have := Row.lt r8 hb; omega))
  have q3' := (HQ.out _ (Keep.refl _ _)).1
  rw [hw1] at q3'
  have HW1 := Lib.hid hw1.symm
  clear h hc hh hl hg q3 q6 q7 q8 r8 hL hw1
  go_enter Tryz.func56, Tryz.ntmps56
  go_wp2
  rw [HW1.out]
  clear q3'
  have HP := Lib.hid (Nat.le_refl w.heap.size)
  generalize hpp : w.heap.size = p at *
  have HPP := Lib.hid hpp
  clear hpp
  go_loopw [19] (fun iv wr => iv = .int .i64 0 ∧ w1 = wr) (fun iv _ => 0)
  case atStart => exact ⟨rfl, rfl⟩
  case round =>
    obtain ⟨rfl, hw9⟩ := hrel
    subst hw9
    have q8 := (HQ.out _ (Keep.refl _ _)).2.1
    go_wp2
    go_loopw [35] (fun iv wr => TotR L p w1 iv wr) (fun iv _ => L.length - (intOf iv).toNat)
    case atStart => exact ⟨0, by omega, rfl, by simpa [tillSum] using HS.out, Keep.refl _ _⟩
    case round =>
      obtain ⟨i, hi, rfl, hsum, hk⟩ := hrel.ex
      have HS2 := Lib.hid hsum
      have K2 := Lib.hid hk
      clear hsum hk hrel
      by_cases hlt : i < L.length
      · have hd1 : decide (i < L.length) = true := by simpa using hlt
        obtain ⟨t, ht⟩ : ∃ t, L[i]? = some t := ⟨_, List.getElem?_eq_getElem hlt⟩
        have HT := Lib.hid ht
        obtain ⟨g, off, rfl, hg8⟩ := (HR.out wr K2.out).some ht
        have r0 : wr.cell? ⟨g, off + i * 2, none⟩ = some (.int .i64 t.room) := by simpa [tiC] using (HR.out wr K2.out).cell tiC_len i 0 t ht (by omega)
        have r1 : wr.cell? ⟨g, off + i * 2 + 1, none⟩ = some (.int .i64 t.gold) := by simpa [tiC, Nat.add_assoc] using (HR.out wr K2.out).cell tiC_len i 1 t ht (by omega)
        have HTK := Lib.hid (tillSum_take ht)
        clear ht
        have hk9 : Keep (fun _ => False) wr (wr.alloc (.cells #[.int .i64 t.room, .int .i64 t.gold] 82)) := (Keep.refl _ wr).alloc _
        have HK9 := Lib.hid hk9
        have hs3 : SumAt (wr.alloc (.cells #[.int .i64 t.room, .int .i64 t.gold] 82)) p (tillSum (L.take i)) := (hk9.block p (lt_of_block HS2.out) (fun e => e)).trans HS2.out
        have b9 := HB.out i
        have g9 := HG.out t (List.mem_of_getElem? HT.out)
        have HC := Lib.hid (totAdd_any hs3 b9.1 g9.1 (by omega))
        clear hk9 hs3 b9 g9
        go_wp2_with (go_at_call 106; (with_reducible refine HC.out.mono ?_); rintro e w9 ⟨rfl, hs9, k9⟩; have S9 := Lib.hid hs9; have K9 := Lib.hid k9; clear hs9 k9)
        go_roundw
        case rel => exact ⟨i + 1, by omega, by go_num, by rw [HTK.out]; exact S9.out, (K2.out.trans HK9.out (fun _ e => e.elim)).trans K9.out (fun _ e => .inl e)⟩
        case measure => simp [intOf] <;> omega
      · have hd1 : decide (i < L.length) = false := by simpa using hlt
        have hi9 : i = L.length := by omega
        have HI := Lib.hid hi9
        have HSL : Hid (SumAt wr p (tillSum L)) := Lib.hid (by have := HS2.out; rwa [hi9, List.take_of_length_le (Nat.le_refl _)] at this)
        obtain ⟨-, -, q6, q7⟩ := HQ.out wr K2.out
        have b9 : 0 ≤ tillSum L ∧ tillSum L < 4611686018427387904 := by
          have := HB.out L.length
          rw [List.take_of_length_le (Nat.le_refl _)] at this
          omega
        have HV := Lib.hid (totVal_any HSL.out b9.1 b9.2)
        clear hi9 b9
        go_wp2
        go_loopw [48] (fun iv wq => iv = .int .i64 0 ∧ wr = wq) (fun iv _ => 0)
        case atStart => exact ⟨rfl, rfl⟩
        case round =>
          obtain ⟨rfl, hw9⟩ := hrel
          subst hw9
          go_wp2
          go_loopw [61] (fun iv wq => iv = .int .i64 0 ∧ wr = wq) (fun iv _ => 0)
          case atStart => exact ⟨rfl, rfl⟩
          case round =>
            obtain ⟨rfl, hw9⟩ := hrel
            subst hw9
            go_wp2_with (go_at_call 107; (with_reducible refine HV.out.mono ?_); rintro e w9 ⟨rfl, k9⟩; have K9 := Lib.hid k9; clear k9)
            go_ret
            exact ⟨rfl, (K1.out.trans K2.out (fun b e => .inr (Nat.le_of_eq (HPP.out.trans e.symm)))).trans K9.out (fun _ e => e.elim)⟩
end Go.Proofs.YtheaghgockafmaaGreat.Wd
