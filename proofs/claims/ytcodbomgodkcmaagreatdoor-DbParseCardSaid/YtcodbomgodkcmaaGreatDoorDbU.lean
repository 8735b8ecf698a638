/- World files: the program's reader of words. -/
import Derived.Test.YtcodbomgodkcmaaGreatDoorDbN
import Derived.Test.YtcodbomgodkcmaaGreatDoorLinN
import Derived.Lib.BufferWrite
import Derived.Lib.UnsafeStr
import Derived.Laws.MakeOwn
namespace Go.Proofs.YtcodbomgodkcmaaGreatDoor.Wd
open Go.RowKit Go.Maps Go.Proofs.YtcodbomgodkcmaaGreatDoor Go.Proofs.YtcodbomgodkcmaaGreatDoor.Lin
set_option maxRecDepth 100000

/-- A reader at p, with the words that are left. -/
structure RdAt (w : World) (p : Nat) (r : List ByteArray) : Prop where
  ex : ∃ v, w.heap[p]? = some (.cells #[v] 101 (0, 0)) ∧ Seen w 1 v r.length (tcells r) ∧ ∀ b, v.ownBlock = some b → ∃ cs f, w.heap[b]? = some (.cells cs 9 f)

/-- What turns no text and no reader leaves it. -/
theorem RdAt.keepT {F : Nat → Prop} {w w' : World} {p : Nat} {r : List ByteArray} (h : RdAt w p r) (k : Keep F w w') (hF : ∀ b cs t f, F b → w.heap[b]? = some (.cells cs t f) → t ≠ 9 ∧ t ≠ 101) : RdAt w' p r := by
  obtain ⟨v, h1, h2, h3⟩ := h.ex
  have hn : ∀ b, v.ownBlock = some b → ¬ F b := fun b hb hf => by
    obtain ⟨cs, f, e⟩ := h3 b hb
    exact (hF b _ _ _ hf e).1 rfl
  refine ⟨v, (k.block p (lt_of_block h1) (fun hf => (hF p _ _ _ hf h1).2 rfl)).trans h1, h2.keep k (fun b hb _ => hn b hb), fun b hb => ?_⟩
  obtain ⟨cs, f, e⟩ := h3 b hb
  exact ⟨cs, f, (k.block b (lt_of_block e) (hn b hb)).trans e⟩
theorem RdAt.keep0 {w w' : World} {p : Nat} {r : List ByteArray} (h : RdAt w p r) (k : Keep (fun _ => False) w w') : RdAt w' p r := h.keepT k (fun _ _ _ _ h => h.elim)
theorem RdAt.lt {w : World} {p : Nat} {r : List ByteArray} (h : RdAt w p r) : p < w.heap.size := by
  obtain ⟨v, h1, _⟩ := h.ex
  exact lt_of_block h1
theorem ty_ne' {w : World} {b c t1 t2 : Nat} {cs1 cs2 : Array Value} {f1 f2 : Nat × Nat} (h1 : w.heap[b]? = some (.cells cs1 t1 f1)) (h2 : w.heap[c]? = some (.cells cs2 t2 f2)) (ht : t1 ≠ t2) : b ≠ c := by
  rintro rfl
  rw [h1] at h2
  simp only [Option.some.injEq, Obj.cells.injEq] at h2
  exact ht h2.2.1

theorem rdWord_any {w : World} {p : Nat} {r : List ByteArray} (h : RdAt w p r) : Calls Tryz.prog 154 #[.pointer (some ⟨p, 0, none⟩)] w fun e w' => e = .returned (.string (atW r 0)) ∧ RdAt w' p (r.drop 1) ∧ Keep (fun b => b = p) w w' := by
  have HR := Lib.hid h
  obtain ⟨v, hb, hs, hn⟩ := h.ex
  obtain ⟨_, a, cap, rfl, hc1, hc2, hcell⟩ := hs
  have c0 : w.cell? ⟨p, 0, none⟩ = some (.slice a r.length cap) := by rw [cell_of_row _ _ _ _ _ _ hb]; rfl
  have f0 : w.frozen? ⟨p, 0, none⟩ = false := frozen_of_row _ _ _ _ _ hb
  cases r with
  | nil =>
    simp only [List.length_nil] at c0
    clear h hb hn hcell
    go_enter Tryz.func154, Tryz.ntmps154
    go_wp2
    go_ret
    exact ⟨rfl, HR.out, Keep.refl _ _⟩
  | cons x r' =>
    obtain ⟨g, off, rfl, hg, q⟩ := hcell.resolve_left (by simp)
    have cx : w.cell? ⟨g, off, none⟩ = some (.string x) := by simpa using q 0 _ rfl
    obtain ⟨m, hm⟩ : ∃ m, m = r'.length := ⟨_, rfl⟩
    have HM := Lib.hid hm
    have HB := Lib.hid hb
    have HQ : Hid (∀ j u, (tcells r')[j]? = some u → w.cell? ⟨g, off + 1 + j, none⟩ = some u) := Lib.hid (fun j u hu => by
      have := q (j + 1) u (by simpa [tcells] using hu)
      rwa [show off + 1 + j = off + (j + 1) by omega])
    obtain ⟨ct, ft, hty⟩ := hn g rfl
    have hgp : g ≠ p := ty_ne' hty hb (by decide)
    have HTY : Hid (∀ w', Keep (fun b => b = p) w w' → ∃ cs f, w'.heap[g]? = some (.cells cs 9 f)) := Lib.hid (fun w' k => ⟨ct, ft, (k.block g hg hgp).trans hty⟩)
    have HGP := Lib.hid hgp
    have HG := Lib.hid hg
    rw [List.length_cons, ← hm] at c0 hc1
    have hm1 : ((m + 1 : Nat) : Int) = (m : Int) + 1 := by omega
    unfold maxLen at hc2
    have e1 : (((m : Int) + 1) == 0) = false := by rw [beq_eq_false_iff_ne]; omega
    clear h hb hn hcell hm hgp q hg hty
    rcases Nat.eq_or_lt_of_le (show 1 ≤ cap by omega) with hcap | hcap
    · obtain rfl : m = 0 := by omega
      subst hcap
      go_enter Tryz.func154, Tryz.ntmps154
      go_wp2
      go_ret
      have hr : r' = [] := List.length_eq_zero_iff.1 HM.out.symm
      refine ⟨rfl, ⟨_, (heap_setCell_at _ HB.out).trans rfl, ?_, ?_⟩, Keep.setCell (Keep.refl _ w) _ _ (.inl rfl)⟩
      · subst hr
        exact ⟨rfl, _, _, rfl, by simp, by simp [maxLen], .inl rfl⟩
      · intro b hb9
        cases hb9
        exact HTY.out _ (Keep.setCell (Keep.refl _ w) _ _ (.inl rfl))
    · go_enter Tryz.func154, Tryz.ntmps154
      go_wp2
      go_ret
      refine ⟨rfl, ⟨_, (heap_setCell_at _ HB.out).trans rfl, ?_, ?_⟩, Keep.setCell (Keep.refl _ w) _ _ (.inl rfl)⟩
      · refine ⟨by simp [tcells], _, _, by rw [List.drop_succ_cons, List.drop_zero, ← HM.out], by simp [← HM.out]; omega, by unfold maxLen; omega, .inr ⟨g, off + 1, rfl, by simpa using HG.out, fun j u hu => ?_⟩⟩
        rw [(Keep.setCell (Keep.refl (fun b => b = p) w) ⟨p, 0, none⟩ _ (.inl rfl)).cell HG.out HGP.out]
        exact HQ.out j u hu
      · intro b hb9
        cases hb9
        exact HTY.out _ (Keep.setCell (Keep.refl _ w) _ _ (.inl rfl))

set_option maxHeartbeats 2000000 in
theorem liteClone_any {w : World} (s : ByteArray) (hlim : s.size ≤ 1000000) : Calls Tryz.prog 189 #[.string s] w fun e w' => e = .returned (.string s) ∧ Keep (fun _ => False) w w' := by
  by_cases h0 : s.size = 0
  · have hs : s = ⟨#[]⟩ := ByteArray.ext (Array.eq_empty_of_size_eq_zero h0)
    subst hs
    go_enter Tryz.func189, Tryz.ntmps189
    go_wp2
    go_ret
    exact ⟨rfl, Keep.refl _ _⟩
  · obtain ⟨i0, hi, hz0, hz1, hz2⟩ := info_parts Tryz.infoB
    have hinfo : (Tryz.prog.info? 5).map (·.size) = some 1 := by rw [hi]; simp [hz1]
    have hco : Tryz.prog.cellsOf 5 = 1 := by simp [Program.cellsOf, hi, hz1]
    obtain ⟨M, hM⟩ : ∃ M, M = madeCells (Value.int .u8 0).cells (((s.size : Nat) : Int).toNat * i0.size) := ⟨_, rfl⟩
    have hMs : M.size = s.size := by rw [hM, size_madeCells, hz1]; simp
    have hmk : ∀ W : World, (Instr.makeSlice 89 (.int .i64 (s.size : Int)) (.int .i64 (s.size : Int))).run Tryz.prog W = .ok (.slice (some ⟨W.heap.size, 0, none⟩) s.size s.size) (W.alloc (.cells M 5)) := fun W => by
      have h := run_make (P := Tryz.prog) W 89 5 i0 (.int .u8 0) Tryz.underlying89 hi hz0 .i64 .i64 (s.size : Int) (s.size : Int) (by omega) (by omega) (by rw [hz2]; omega) (by omega)
      rw [← hM] at h
      simpa using h
    clear hM
    have hcp := Lib.run_copy_row_string (P := Tryz.prog) (w.alloc (.cells M 5)) 89 9 3 5 w.heap.size 0 s.size s.size s M 5 Tryz.underlying89 hinfo (heap_alloc_new w _) (Nat.le_refl _) (by omega)
    obtain ⟨Y, hY⟩ : ∃ Y, Y = (M.toList.take 0 ++ Lib.byteCells s.data.toList ++ M.toList.drop (0 + s.size)).toArray := ⟨_, rfl⟩
    rw [← hY] at hcp
    have hYl : Y.toList = Lib.byteCells s.data.toList := by
      rw [hY, List.toList_toArray, List.take_zero, List.nil_append, List.drop_of_length_le (by rw [Array.length_toList]; omega), List.append_nil]
    have hYs : Y.size = s.size := by rw [← Array.length_toList, hYl, Lib.byteCells_length, ← Lib.size_eq]
    have hgY : ((w.alloc (.cells M 5)).setRow w.heap.size Y).heap[w.heap.size]? = some (.cells Y 5 (0, 0)) := setRow_heap _ _ M _ 5 (0, 0) (heap_alloc_new w _)
    have hne : s.data.toList ≠ [] := fun e => h0 (by rw [Lib.size_eq, e]; rfl)
    have hUS := Lib.run_unsafeString_row (P := Tryz.prog) ((w.alloc (.cells M 5)).setRow w.heap.size Y) 285 3 9 5 Tryz.underlying285 hco w.heap.size Y.size (by unfold World.shape?; rw [hgY]) s.data.toList hne (by rw [← Lib.size_eq]; omega) (by rw [← Lib.size_eq]; omega)
      (fun j x hx => Lib.cells_of_row hgY Y.size j _ (by rw [List.take_of_length_le (by rw [Array.length_toList]; exact Nat.le_refl _), hYl]; simp [Lib.byteCells, hx]))
    rw [← Lib.size_eq] at hUS
    clear hY
    go_enter Tryz.func189, Tryz.ntmps189
    go_wp2
    go_ret
    have hb1 : Below w.heap.size w (w.alloc (.cells M 5)) := (Below.refl _ w).alloc (Nat.le_refl _) _
    have hb2 : Below w.heap.size (w.alloc (.cells M 5)) ((w.alloc (.cells M 5)).setRow w.heap.size Y) := ⟨rfl, rfl, rfl, by simp, fun k hk => setRow_other _ _ _ _ (by omega)⟩
    exact ⟨rfl, Keep.of_below (Lib.below_freeze (hb1.trans hb2) (p := ⟨w.heap.size, 0, none⟩) (Nat.le_refl _) _)⟩

theorem clone_any {w : World} (s : ByteArray) (hs : s.size ≤ 1000000) : Calls Tryz.prog 153 #[.string s] w fun e w' => e = .returned (.string s) ∧ Keep (fun _ => False) w w' := by
  go_enter Tryz.func153, Tryz.ntmps153
  go_wp2_with (refine (liteClone_any s hs).mono ?_; rintro e w9 ⟨rfl, k9⟩; have K9 := Lib.hid k9; clear k9)
  go_ret
  exact ⟨rfl, K9.out⟩

/-- What Number and Print want, with blocks from B on turned. -/
structure T12B (B : Nat → Prop) (w : World) : Prop where
  t : T12 w
  b1 : ¬ B 4
  b2 : ¬ B 2
  b3 : ¬ B 3
theorem T12.base {w : World} {B : Nat → Prop} (h : T12 w) (hB : ∀ b, B b → w.heap.size ≤ b) : T12B B w := by
  obtain ⟨h1, ⟨t2, p2, h2⟩, t3, p3, h3⟩ := h
  refine ⟨⟨h1, ⟨t2, p2, h2⟩, t3, p3, h3⟩, fun hb => absurd (hB _ hb) ?_, fun hb => by have := hB _ hb; have := cell_lt h2; omega, fun hb => by have := hB _ hb; have := cell_lt h3; omega⟩
  apply Nat.not_le_of_lt
  unfold Lib.TabIs World.var? at h1
  rw [Tryz.gPow] at h1
  simp only [Option.bind_some] at h1
  rcases Nat.lt_or_ge 4 w.heap.size with h' | h'
  · exact h'
  · rw [Array.getElem?_eq_none h'] at h1; cases h1
theorem T12B.keep {F : Nat → Prop} {B : Nat → Prop} {w w' : World} (h : T12B B w) (k : Keep F w w') (hF : ∀ b, F b → B b) : T12B B w' := by
  obtain ⟨⟨h1, ⟨t2, p2, h2⟩, t3, p3, h3⟩, b1, b2, b3⟩ := h
  have nf : ∀ b, ¬ B b → ¬ F b := fun b hb hf => hb (hF b hf)
  refine ⟨⟨?_, ⟨t2, p2, (k.cell (cell_lt h2) (nf _ b2) _).trans h2⟩, t3, p3, (k.cell (cell_lt h3) (nf _ b3) _).trans h3⟩, b1, b2, b3⟩
  unfold Lib.TabIs World.var? at h1 ⊢
  rw [Tryz.gPow] at h1 ⊢
  simp only [Option.bind_some] at h1 ⊢
  have hlt : 4 < w.heap.size := by
    rcases Nat.lt_or_ge 4 w.heap.size with h' | h'
    · exact h'
    · rw [Array.getElem?_eq_none h'] at h1; cases h1
  rw [k.block _ hlt (nf _ b1)]
  exact h1

/-- No word of them is too long. -/
def ShortW (r : List ByteArray) : Prop := ∀ s ∈ r, s.size ≤ 1000000
theorem ShortW.drop {r : List ByteArray} (h : ShortW r) (k : Nat) : ShortW (r.drop k) := fun s hs => h s (List.mem_of_mem_drop hs)
theorem ShortW.at {r : List ByteArray} (h : ShortW r) (k : Nat) : (atW r k).size ≤ 1000000 := by
  by_cases hk : k < r.length
  · exact h _ (List.mem_of_getElem? (atW_get hk))
  · rw [atW_none (by omega)]; exact Nat.zero_le _

theorem rdName_any {w : World} {p : Nat} {r : List ByteArray} (h : RdAt w p r) (hs : ShortW r) : Calls Tryz.prog 97 #[.pointer (some ⟨p, 0, none⟩)] w fun e w' => e = .returned (.string (atW r 0)) ∧ RdAt w' p (r.drop 1) ∧ Keep (fun b => b = p) w w' := by
  have HW := Lib.hid (rdWord_any h)
  have HS := Lib.hid (hs.at 0)
  clear h hs
  go_enter Tryz.func97, Tryz.ntmps97
  go_wp2_with (first
    | (go_at_call 154; (with_reducible refine HW.out.mono ?_); rintro e w1 ⟨rfl, r1, k1⟩; have R1 := Lib.hid r1; have K1 := Lib.hid k1; clear r1 k1)
    | (go_at_call 153; (with_reducible refine (clone_any _ HS.out).mono ?_); rintro e w2 ⟨rfl, k2⟩; have K2 := Lib.hid k2; clear k2))
  go_ret
  exact ⟨rfl, R1.out.keep0 K2.out, K1.out.trans K2.out (fun _ h => h.elim)⟩

theorem rdNumber_any {w : World} {B : Nat → Prop} {p : Nat} {r : List ByteArray} (h : RdAt w p r) (hs : ShortW r) (hT : T12B B w) (hp : B p) : Calls Tryz.prog 99 #[.pointer (some ⟨p, 0, none⟩)] w fun e w' => e = .returned (.int .i64 (rdn (atW r 0))) ∧ RdAt w' p (r.drop 1) ∧ Keep (fun b => b = p) w w' := by
  have HW := Lib.hid (rdWord_any h)
  have HS := Lib.hid (hs.at 0)
  have HT := Lib.hid hT
  have HP := Lib.hid hp
  unfold rdn
  rcases hn : numL (atW r 0).data.toList with _ | n
  · have HN := Lib.hid (numE_none hn)
    clear h hs hT hp hn
    go_enter Tryz.func99, Tryz.ntmps99
    go_wp2_with (first
      | (go_at_call 154; (with_reducible refine HW.out.mono ?_); rintro e w1 ⟨rfl, r1, k1⟩; have R1 := Lib.hid r1; have K1 := Lib.hid k1; clear r1 k1)
      | (go_at_call 156; (with_reducible refine (number_any _ (HT.out.keep K1.out (fun b hb => hb ▸ HP.out)).t HS.out).mono ?_); rintro e w2 ⟨he, k2⟩; rw [HN.out] at he; subst he; have K2 := Lib.hid k2; clear k2))
    go_ret
    exact ⟨rfl, R1.out.keep0 K2.out, K1.out.trans K2.out (fun _ h => h.elim)⟩
  · have HN := Lib.hid (numE_some hn)
    clear h hs hT hp hn
    go_enter Tryz.func99, Tryz.ntmps99
    go_wp2_with (first
      | (go_at_call 154; (with_reducible refine HW.out.mono ?_); rintro e w1 ⟨rfl, r1, k1⟩; have R1 := Lib.hid r1; have K1 := Lib.hid k1; clear r1 k1)
      | (go_at_call 156; (with_reducible refine (number_any _ (HT.out.keep K1.out (fun b hb => hb ▸ HP.out)).t HS.out).mono ?_); rintro e w2 ⟨he, k2⟩; rw [HN.out] at he; subst he; have K2 := Lib.hid k2; clear k2))
    go_ret
    exact ⟨rfl, R1.out.keep0 K2.out, K1.out.trans K2.out (fun _ h => h.elim)⟩

theorem rdId_any {w : World} {B : Nat → Prop} {p : Nat} {r : List ByteArray} (h : RdAt w p r) (hs : ShortW r) (hT : T12B B w) (hp : B p) : Calls Tryz.prog 96 #[.pointer (some ⟨p, 0, none⟩)] w fun e w' => e = .returned (.int .i64 (rdn (atW r 0))) ∧ RdAt w' p (r.drop 1) ∧ Keep (fun b => b = p) w w' := by
  have HW := Lib.hid (rdNumber_any h hs hT hp)
  have h1 := rdn_lo (atW r 0)
  have h2 := rdn_hi (atW r 0)
  generalize rdn (atW r 0) = z at *
  clear h hs hT hp
  go_enter Tryz.func96, Tryz.ntmps96
  go_wp2_with (go_at_call 99; (with_reducible refine HW.out.mono ?_); rintro e w1 ⟨rfl, r1, k1⟩; have R1 := Lib.hid r1; have K1 := Lib.hid k1; clear r1 k1)
  go_ret
  exact ⟨rfl, R1.out, K1.out⟩

theorem indexS_any {w : World} (s : ByteArray) {v : Value} {L : List ByteArray} (h : Seen w 1 v L.length (tcells L)) (hl : L.length ≤ 1000000) : Calls Tryz.prog 155 #[v, .string s] w fun e w' => e = .returned (.int .i64 (findI (fun x => decide (x = s)) L)) ∧ w = w' := by
  obtain ⟨_, a1, c1, rfl, hc1, hc2, h1⟩ := h
  unfold maxLen at hc2
  have H1 := Lib.hid h1
  clear h1
  go_enter Tryz.func155, Tryz.ntmps155
  go_wp2
  go_loop [5, 8] (fun _ iv => ScR (fun x : ByteArray => decide (x = s)) L iv) (fun _ iv => L.length - (intOf iv).toNat)
  case atStart => exact ⟨0, by omega, rfl, fun j a hj => by omega⟩
  case round =>
    obtain ⟨k, hk, rfl, hall⟩ := hrel.ex
    have HA := Lib.hid hall
    clear hall hrel
    by_cases hlt : k < L.length
    · have hd1 : decide (k < L.length) = true := by simpa using hlt
      obtain ⟨x, hx⟩ : ∃ x, L[k]? = some x := ⟨_, List.getElem?_eq_getElem hlt⟩
      obtain ⟨g, off, rfl, _, q⟩ := H1.out.resolve_left (by omega)
      have q1 := q k _ (tcells_get hx)
      have HX := Lib.hid hx
      clear hx q
      by_cases he : x = s
      · have hb : (s.toList == x.toList) = true := by rw [he]; simp
        have HF := Lib.hid (findI_at (p := fun x : ByteArray => decide (x = s)) HA.out HX.out (by simpa using he))
        clear he
        go_wp2
        go_ret
        exact ⟨by rw [HF.out]; rfl, rfl⟩
      · have hb : (s.toList == x.toList) = false := by rw [str_beq]; simpa using fun h => he h.symm
        have HN := Lib.hid (scan_next (p := fun x : ByteArray => decide (x = s)) HA.out HX.out (by simpa using he))
        clear he
        go_wp2
        go_round
        case rel => exact ⟨k + 1, by omega, by go_num, HN.out⟩
        case measure => simp [intOf]; omega
    · have hd1 : decide (k < L.length) = false := by rw [decide_eq_false_iff_not]; omega
      have HF := Lib.hid (findI_none (scan_end HA.out (by omega)))
      go_wp2
      go_ret
      exact ⟨by rw [HF.out]; rfl, rfl⟩

theorem rdKind_any {w : World} {p : Nat} {r : List ByteArray} (h : RdAt w p r) : Calls Tryz.prog 98 #[.pointer (some ⟨p, 0, none⟩)] w fun e w' => e = .returned (.int .i64 (kindF (atW r 0))) ∧ RdAt w' p (r.drop 1) ∧ Keep (fun b => b = p) w w' := by
  have k0 : Keep (fun _ => False) w (w.alloc (.cells (tcells kindsW).toArray 9)) := (Keep.refl _ w).alloc _
  have HW := Lib.hid (rdWord_any (h.keep0 k0))
  have hs0 : Seen (w.alloc (.cells (tcells kindsW).toArray 9)) 1 (.slice (some ⟨w.heap.size, 0, none⟩) 6 6) 6 (tcells kindsW) := (Row.made (w := w) (tcells kindsW).toArray w.heap.size 6 (by simp) (by simp [maxLen]) rfl).seen
  have HI : Hid (∀ w1, Keep (fun b => b = p) (w.alloc (.cells (tcells kindsW).toArray 9)) w1 → Calls Tryz.prog 155 #[.slice (some ⟨w.heap.size, 0, none⟩) 6 6, .string (atW r 0)] w1 fun e w' => e = .returned (.int .i64 (kindF (atW r 0))) ∧ w1 = w') := Lib.hid (fun w1 k1 =>
    indexS_any (atW r 0) (L := kindsW) (hs0.keep k1 (fun b hb hl e => by have := h.lt; simp [Value.ownBlock] at hb; omega)) (by simp))
  have HK0 := Lib.hid k0
  clear h hs0 k0
  go_enter Tryz.func98, Tryz.ntmps98
  go_wp2_with (first
    | (go_at_call 154; (refine HW.out.mono ?_); rintro e w1 ⟨rfl, r1, k1⟩; have R1 := Lib.hid r1; have K1 := Lib.hid k1; clear r1 k1)
    | (go_at_call 155; (with_reducible refine (HI.out _ K1.out).mono ?_); rintro e w2 ⟨rfl, rfl⟩))
  go_ret
  exact ⟨rfl, R1.out, (HK0.out.mono (fun _ _ h => h.elim)).trans K1.out (fun b hb => .inl hb)⟩
theorem rdSlot_any {w : World} {p : Nat} {r : List ByteArray} (h : RdAt w p r) : Calls Tryz.prog 106 #[.pointer (some ⟨p, 0, none⟩)] w fun e w' => e = .returned (.int .i64 (slotNF (atW r 0))) ∧ RdAt w' p (r.drop 1) ∧ Keep (fun b => b = p) w w' := by
  have k0 : Keep (fun _ => False) w (w.alloc (.cells (tcells slotsW).toArray 9)) := (Keep.refl _ w).alloc _
  have HW := Lib.hid (rdWord_any (h.keep0 k0))
  have hs0 : Seen (w.alloc (.cells (tcells slotsW).toArray 9)) 1 (.slice (some ⟨w.heap.size, 0, none⟩) 3 3) 3 (tcells slotsW) := (Row.made (w := w) (tcells slotsW).toArray w.heap.size 3 (by simp) (by simp [maxLen]) rfl).seen
  have HI : Hid (∀ w1, Keep (fun b => b = p) (w.alloc (.cells (tcells slotsW).toArray 9)) w1 → Calls Tryz.prog 155 #[.slice (some ⟨w.heap.size, 0, none⟩) 3 3, .string (atW r 0)] w1 fun e w' => e = .returned (.int .i64 (slotNF (atW r 0))) ∧ w1 = w') := Lib.hid (fun w1 k1 =>
    indexS_any (atW r 0) (L := slotsW) (hs0.keep k1 (fun b hb hl e => by have := h.lt; simp [Value.ownBlock] at hb; omega)) (by simp))
  have HK0 := Lib.hid k0
  clear h hs0 k0
  go_enter Tryz.func106, Tryz.ntmps106
  go_wp2_with (first
    | (go_at_call 154; (refine HW.out.mono ?_); rintro e w1 ⟨rfl, r1, k1⟩; have R1 := Lib.hid r1; have K1 := Lib.hid k1; clear r1 k1)
    | (go_at_call 155; (with_reducible refine (HI.out _ K1.out).mono ?_); rintro e w2 ⟨rfl, rfl⟩))
  go_ret
  exact ⟨rfl, R1.out, (HK0.out.mono (fun _ _ h => h.elim)).trans K1.out (fun b hb => .inl hb)⟩

def sliceLen : Value → Nat
  | .slice _ n _ => n
  | _ => 0
/-- While numbers are read. -/
structure IdR (p : Nat) (r : List ByteArray) (w0 : World) (lv : Value) (wr : World) : Prop where
  ex : ∃ k : Nat, k ≤ r.length ∧ RdAt wr p (r.drop k) ∧ Row wr 3 1 lv k (icells ((r.map rdn).take k)) ∧ (∀ b, lv.ownBlock = some b → w0.heap.size ≤ b) ∧ Keep (fun b => b = p) w0 wr

set_option maxHeartbeats 1000000 in
theorem rdIds_any {w : World} {B : Nat → Prop} {p : Nat} {r : List ByteArray} (h : RdAt w p r) (hs : ShortW r) (hT : T12B B w) (hp : B p) (hl : r.length ≤ 1000000) :
    Calls Tryz.prog 109 #[.pointer (some ⟨p, 0, none⟩)] w fun e w' => ∃ v, e = .returned v ∧ Row w' 3 1 v r.length (icells (r.map rdn)) ∧ (∀ b, v.ownBlock = some b → w.heap.size ≤ b) ∧ RdAt w' p [] ∧ Keep (fun b => b = p) w w' := by
  obtain ⟨i0, hi0, hz0, hz1, hz2⟩ := info_parts Tryz.infoI
  have H := Lib.hid h; have SH := Lib.hid hs; have T := Lib.hid hT; have HP := Lib.hid hp
  clear h hs hT hp
  go_enter Tryz.func109, Tryz.ntmps109
  go_wp2
  go_loopw [3] (fun lv wr => IdR p r w lv wr) (fun lv _ => r.length - sliceLen lv)
  case atStart => exact ⟨0, by omega, H.out, Row.nil _ _ _, fun b hb => by simp [Value.ownBlock] at hb, Keep.refl _ _⟩
  case round =>
    obtain ⟨k, hk, hrd, hrow, hown, hK⟩ := hrel.ex
    have R := Lib.hid hrd; have HROW := Lib.hid hrow; have HOWN := Lib.hid hown; have HK := Lib.hid hK
    obtain ⟨v, hb, hsn, _⟩ := hrd.ex
    obtain ⟨_, a, cap, rfl, hc1, hc2, _⟩ := hsn
    have c0 : wr.cell? ⟨p, 0, none⟩ = some (.slice a (r.drop k).length cap) := by rw [cell_of_row _ _ _ _ _ _ hb]; rfl
    have hdl : (r.drop k).length = r.length - k := List.length_drop
    obtain ⟨va, vc, rfl, hvc1, hvc2⟩ := hrow.slice
    clear hrd hrow hown hK hrel hb
    by_cases hlt : k < r.length
    · have hg1 : decide (0 < ((r.drop k).length : Int)) = true := by rw [decide_eq_true_eq]; omega
      have hg2 : decide (0 < (r.drop k).length) = true := by rw [decide_eq_true_eq]; omega
      have HE : Hid (icells ((r.map rdn).take (k + 1)) = icells ((r.map rdn).take k) ++ [.int .i64 (rdn (atW (r.drop k) 0))]) := Lib.hid (by
        rw [List.take_add_one, icells_append, atW_drop, Nat.add_zero, List.getElem?_map, atW_get hlt]; rfl)
      have CT := Lib.hid (rdId_any R.out (SH.out.drop k) (T.out.keep HK.out (fun b hb => hb ▸ HP.out)) HP.out)
      generalize rdn (atW (r.drop k) 0) = z at *
      generalize (r.drop k).length = m at *
      go_wp2_with (first
        | (go_at_call 96; (with_reducible refine CT.out.mono ?_); rintro e w1 ⟨rfl, r1, k1⟩; have R1 := Lib.hid r1; have HK1 := Lib.hid (HK.out.trans k1 (fun b hb => .inl hb)); have HRW1 := Lib.hid (HROW.out.keep k1 (fun b hb e => by have := HOWN.out b hb; have := H.out.lt; omega)); clear r1 k1)
        | (at_builtin; go_loud (refine wpList_append_row _ rfl (.tmp 10) (.tmp 13) rfl Tryz.underlying81 hi0 hz0 hz1 hz2 rfl rfl (HRW1.out.alloc _) rfl (Src.lit Tryz.underlying81 #[.int .i64 z] _ 1 1 rfl rfl (by simp [Value.oneCell'])) (by unfold maxLen; omega) (by omega) ?_)))
      intro v7 w2 hr2 hk2 hb2 _
      have HR2 : Hid (Row w2 3 1 v7 (k + 1) (icells ((r.map rdn).take (k + 1)))) := Lib.hid (by rw [HE.out]; exact hr2)
      have HOW2 : Hid (∀ b, v7.ownBlock = some b → w.heap.size ≤ b) := Lib.hid (fun b hb => by
        have hks := HK1.out.size
        rcases hb2 b hb with h | h
        · exact HOWN.out b h
        · have h1 := h.1; first | omega | (simp at h1; omega))
      have HK2 : Hid (Keep (fun b => b = p) w w2) := Lib.hid ((HK1.out.alloc _).trans hk2 (fun b hb => .inr (HOWN.out b hb)))
      have HRD : Hid (RdAt w2 p (r.drop (k + 1))) := Lib.hid (by
        have h1 := R1.out
        rw [List.drop_drop] at h1
        refine (h1.keep0 ((Keep.refl _ w1).alloc _)).keepT hk2 (fun b cs t f hf e => ?_)
        obtain ⟨cs2, f2, e2⟩ := (HRW1.out.alloc _).type hf
        rw [e2] at e
        simp only [Option.some.injEq, Obj.cells.injEq] at e
        obtain ⟨_, rfl, _⟩ := e
        exact ⟨by decide, by decide⟩)
      clear hr2 hk2 hb2
      obtain ⟨a7, c7, rfl, _, _⟩ := HR2.out.slice
      go_wp2
      go_roundw
      case rel => exact ⟨k + 1, by omega, HRD.out, HR2.out, HOW2.out, HK2.out⟩
      case measure => simp only [sliceLen]; omega
    · have hg1 : decide (0 < ((r.drop k).length : Int)) = false := by rw [decide_eq_false_iff_not]; omega
      have hg2 : decide (0 < (r.drop k).length) = false := by rw [decide_eq_false_iff_not]; omega
      have hke : k = r.length := by omega
      have HKE := Lib.hid hke
      clear hke
      generalize (r.drop k).length = m at *
      go_wp2
      go_ret
      have e1 := HROW.out
      have e2 := R.out
      rw [HKE.out] at e1 e2
      rw [List.take_of_length_le (by rw [List.length_map]; exact Nat.le_refl _)] at e1
      rw [List.drop_length] at e2
      exact ⟨_, rfl, HKE.out ▸ e1, HOWN.out, e2, HK.out⟩
end Go.Proofs.YtcodbomgodkcmaaGreatDoor.Wd
