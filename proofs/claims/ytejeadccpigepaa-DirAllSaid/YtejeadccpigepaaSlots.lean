/- dirfs: all slots of a directory. -/
import Derived.Test.YtejeadccpigepaaUnp
namespace Go.Proofs.Ytejeadccpigepaa.Dir
open Go.RowKit Go.Maps Go.Proofs.Ytejeadccpigepaa Go.Proofs.Ytejeadccpigepaa.Ino
set_option maxRecDepth 100000

abbrev Ent := List UInt8 × Nat

/-- Entries as cells. -/
def ecells (E : List Ent) : List Value := E.flatMap fun e => [Value.string ⟨e.1.toArray⟩, Value.int .i64 (e.2 : Int)]

theorem ecells_length (E : List Ent) : (ecells E).length = E.length * 2 := by
  induction E with
  | nil => rfl
  | cons e r ih => simp only [ecells, List.flatMap_cons, List.length_append, List.length_cons, List.length_nil] at ih ⊢; omega

theorem ecells_get0 (E : List Ent) (i : Nat) (hi : i < E.length) : (ecells E)[i * 2]? = some (.string ⟨E[i].1.toArray⟩) := by
  induction E generalizing i with
  | nil => simp at hi
  | cons e r ih =>
    cases i with
    | zero => rfl
    | succ i =>
      have := ih i (by simpa using hi)
      rw [show (i + 1) * 2 = i * 2 + 1 + 1 by omega]
      simpa [ecells] using this

theorem ecells_get1 (E : List Ent) (i : Nat) (hi : i < E.length) : (ecells E)[i * 2 + 1]? = some (.int .i64 (E[i].2 : Int)) := by
  induction E generalizing i with
  | nil => simp at hi
  | cons e r ih =>
    cases i with
    | zero => rfl
    | succ i =>
      have := ih i (by simpa using hi)
      rw [show (i + 1) * 2 + 1 = i * 2 + 1 + 1 + 1 by omega]
      simpa [ecells] using this

theorem ecells_set (E : List Ent) (i : Nat) (e : Ent) : ((ecells E).set (i * 2) (.string ⟨e.1.toArray⟩)).set (i * 2 + 1) (.int .i64 (e.2 : Int)) = ecells (E.set i e) := by
  induction E generalizing i with
  | nil => simp [ecells]
  | cons a r ih =>
    cases i with
    | zero => rfl
    | succ i =>
      have := ih i
      rw [show (i + 1) * 2 + 1 = i * 2 + 1 + 1 + 1 by omega, show (i + 1) * 2 = i * 2 + 1 + 1 by omega]
      simpa [ecells] using this

theorem ecells_append (A B : List Ent) : ecells (A ++ B) = ecells A ++ ecells B := by simp [ecells]

theorem ecells_made (n : Nat) : (madeCells #[Value.string ⟨#[]⟩, Value.int .i64 0] (n * 2)).toList = ecells (List.replicate n ([], 0)) := by
  apply List.ext_getElem?
  intro j
  by_cases hj : j < n * 2
  · have hl : j < (madeCells #[Value.string ⟨#[]⟩, Value.int .i64 0] (n * 2)).toList.length := by simp [madeCells]; omega
    obtain ⟨q, r, hr, rfl⟩ : ∃ q r, r < 2 ∧ j = q * 2 + r := ⟨j / 2, j % 2, by omega, by omega⟩
    rcases (by omega : r = 0 ∨ r = 1) with rfl | rfl
    · rw [Nat.add_zero, ecells_get0 _ q (by simp; omega)]
      simp [madeCells, show q * 2 < n * 2 by omega, Nat.mul_mod_left]
    · rw [ecells_get1 _ q (by simp; omega)]
      simp [madeCells, show q * 2 + 1 < n * 2 by omega, show (q * 2 + 1) % 2 = 1 by omega]
  · rw [List.getElem?_eq_none (by simp [madeCells]; omega), List.getElem?_eq_none (by rw [ecells_length]; simp; omega)]

/-- A directory's bytes. -/
def flatE (E : List Ent) : List UInt8 := E.flatMap packL

theorem flatE_length {E : List Ent} (h : ∀ e ∈ E, okE e) : (flatE E).length = 32 * E.length := by
  induction E with
  | nil => rfl
  | cons e r ih =>
    have h1 := ih (fun x hx => h x (List.mem_cons_of_mem _ hx))
    have h2 := packL_length (h e (List.mem_cons_self ..)).len.1
    simp only [flatE, List.flatMap_cons, List.length_append, List.length_cons] at h1 ⊢
    omega

theorem flatE_slot {E : List Ent} (h : ∀ e ∈ E, okE e) (i : Nat) (hi : i < E.length) : ((flatE E).drop (i * 32)).take 32 = packL E[i] := by
  induction E generalizing i with
  | nil => simp at hi
  | cons e r ih =>
    have h2 := packL_length (h e (List.mem_cons_self ..)).len.1
    cases i with
    | zero => simp only [flatE, List.flatMap_cons, Nat.zero_mul, List.drop_zero, List.getElem_cons_zero]; rw [List.take_append_of_le_length (by omega), List.take_of_length_le (by omega)]
    | succ i =>
      have := ih (fun x hx => h x (List.mem_cons_of_mem _ hx)) i (by simpa using hi)
      simp only [flatE, List.flatMap_cons, List.getElem_cons_succ] at this ⊢
      rw [List.drop_append, List.drop_eq_nil_of_le (by omega), List.nil_append, show (i + 1) * 32 - (packL e).length = i * 32 by omega]
      exact this

/-- A directory that is well lies in memory. -/
structure Dr (w : World) (F : Nat → Prop) (p s : Nat) (S : Sto) (T : List Nat) (E : List Ent) : Prop where
  fl : Fl w F p s S (32 * E.length) T
  ok : ∀ e ∈ E, okE e
  bytes : fileL S T 0 (32 * E.length) = flatE E

theorem Dr.keep {G : Nat → Prop} {w w' : World} {F : Nat → Prop} {p s : Nat} {S : Sto} {T : List Nat} {E : List Ent} (h : Dr w F p s S T E) (k : Keep G w w') (hp : ¬ G p) (hG : ∀ x, F x → ¬ G x) : Dr w' F p s S T E := ⟨h.fl.keep k hp hG, h.ok, h.bytes⟩
theorem Dr.keep0 {w w' : World} {F : Nat → Prop} {p s : Nat} {S : Sto} {T : List Nat} {E : List Ent} (h : Dr w F p s S T E) (k : Keep (fun _ => False) w w') : Dr w' F p s S T E := h.keep k (fun h => h) (fun _ _ h => h)

theorem Try.infoE : (Try.prog.info? 51).map (fun i => (i.zero, i.size, i.bytes)) = some (some (.agg #[.string ⟨#[]⟩, .int .i64 0]), 2, 24) := by kernel_rfl

/-- While slots are read. -/
structure SlR (w0 : World) (E : List Ent) (g : Nat) (iv : Value) (wr : World) : Prop where
  ex : ∃ k : Nat, k ≤ E.length ∧ iv = .int .i64 (k : Int) ∧ Row wr 51 2 (.slice (some ⟨g, 0, none⟩) E.length E.length) E.length (ecells (E.take k ++ List.replicate (E.length - k) ([], 0))) ∧ Keep (fun x => x = g) w0 wr

/-- What slots answers. -/
structure SlA (E : List Ent) (w : World) (x : Ending) (w' : World) : Prop where
  ex : ∃ v, x = .returned (.tuple #[v, .nilIface]) ∧ Row w' 51 2 v E.length (ecells E) ∧ Keep (fun _ => False) w w' ∧ ∀ b, v.ownBlock = some b → w.heap.size ≤ b

theorem set_take_rep {E : List Ent} {k : Nat} (hk : k < E.length) {e : Ent} (he : e = E[k]) : (E.take k ++ List.replicate (E.length - k) (([], 0) : Ent)).set k e = E.take (k + 1) ++ List.replicate (E.length - (k + 1)) ([], 0) := by
  obtain ⟨m, hm⟩ : ∃ m, E.length - k = m + 1 := ⟨E.length - k - 1, by omega⟩
  rw [hm, show E.length - (k + 1) = m by omega, List.set_append_right _ _ (by simp; omega), List.length_take, Nat.min_eq_left (by omega), Nat.sub_self, List.replicate_succ, List.set_cons_zero, List.take_succ_eq_append_getElem hk, List.append_assoc, he]
  rfl

set_option maxHeartbeats 2000000 in
theorem slots_any {w : World} {F : Nat → Prop} {p s : Nat} {S : Sto} {T : List Nat} {E : List Ent} (h : Dr w F p s S T E) : Calls Try.prog 17 #[.pointer (some ⟨p, 0, none⟩)] w fun x w' => SlA E w x w' := by
  obtain ⟨i0, hi0, hz0, hz1, hz2⟩ := info_parts Try.infoE
  obtain ⟨n, hn⟩ : ∃ n, n = E.length := ⟨_, rfl⟩
  have htop := h.fl.top
  have HSZ : Hid (∀ w2, Keep (fun _ => False) w w2 → Calls Try.prog 12 #[.pointer (some ⟨p, 0, none⟩)] w2 fun e w' => e = .returned (.int .i64 ((32 * n : Nat) : Int)) ∧ w2 = w') := Lib.hid (fun w2 k => by rw [hn]; exact size_any (h.fl.file.keep0 k))
  have HRD : Hid (Calls Try.prog 28 #[.pointer (some ⟨p, 0, none⟩), .int .i64 0, .int .i64 ((32 * n : Nat) : Int)] w fun e w' => ∃ v, e = .returned (.tuple #[v, .nilIface]) ∧ Row w' 5 1 v (32 * n) (bcells (flatE E)) ∧ Keep (fun _ => False) w w') := Lib.hid (by
    have := fl_read h.fl 0 (32 * n) (32 * n) (by omega)
    rw [hn, h.bytes] at this
    rw [hn]; exact this)
  have HOK := Lib.hid h.ok
  have HN := Lib.hid hn
  have hrem : ((32 * n : Nat) : Int) % 32 = 0 := by omega
  have hn1 : n ≤ 3200 := by omega
  have hdiv : ((32 * n : Nat) : Int) / 32 = (n : Int) := by omega
  have hge : (0 : Int) ≤ ((32 * n : Nat) : Int) := by omega
  clear h hn htop
  generalize hm : 32 * n = m at *
  have HM := Lib.hid hm
  clear hm
  go_enter Try.func17, Try.ntmps17
  go_wp2_with (first | (go_at_call 12; (with_reducible refine (HSZ.out _ (Keep.refl _ _)).mono ?_); rintro e w' ⟨rfl, rfl⟩) | (go_at_call 28; (with_reducible refine HRD.out.mono ?_); rintro e w1 ⟨v, rfl, hr, k1⟩; obtain ⟨ad, cap, rfl, hc1, hc2⟩ := hr.slice; have HR := Lib.hid hr; have K1 := Lib.hid k1; unfold maxLen at hc2; clear hr k1) | (at_make; go_loud (refine wpList_make_row_g rfl (.tmp 27) (.tmp 27) rfl Try.underlying47 hi0 hz0 hz1 hz2 n rfl rfl (by simp) (by simp) (by omega) (by unfold maxLen; omega) ?_)))
  intro w2 h2 k2 hs2
  have e2 := ecells_made n
  have h2' : Row w2 51 2 (.slice (some ⟨w1.heap.size, 0, none⟩) n n) n (ecells (List.replicate n ([], 0))) := by rw [← e2]; exact h2
  have H2 := Lib.hid h2'; have K2 := Lib.hid k2; have HS2 := Lib.hid hs2
  have HFR : Hid (w.heap.size ≤ w1.heap.size) := Lib.hid K1.out.size
  clear h2 h2' k2 hs2 e2
  generalize hgq : w1.heap.size = g at *
  have HG : Hid (g = w1.heap.size) := Lib.hid hgq.symm
  clear hgq
  have H0 : Hid (SlR w2 E g (.int .i64 0) w2) := Lib.hid ⟨0, by omega, rfl, by rw [← HN.out, List.take_zero, List.nil_append, Nat.sub_zero]; exact H2.out, Keep.refl _ _⟩
  go_wp2_with fail
  go_loopw [7, 8, 9, 31] (fun _ _ _ iv wr => SlR w2 E g iv wr) (fun _ _ _ iv _ => n - (intOf iv).toNat)
  case atStart => exact H0.out
  case round =>
    obtain ⟨k, hk, rfl, hrow, hK⟩ := hrel.ex
    have HROW := Lib.hid hrow; have HK := Lib.hid hK
    have hkn : k ≤ n := by rw [HN.out]; exact hk
    clear hrow hK hrel H0 hk
    by_cases hlt : k < n
    · have hd : decide (k < n) = true := by rw [decide_eq_true_eq]; omega
      obtain ⟨g0, o0, _, hv0, _, _⟩ := HR.out.full (by have := HM.out; omega)
      simp only [Value.slice.injEq] at hv0
      obtain ⟨had, -, -⟩ := hv0
      subst had
      have hkE : k < E.length := by rw [← HN.out]; exact hlt
      have hg0 : g0 < w1.heap.size := HR.out.lt (k := g0) rfl
      have hgw : w2.heap.size ≤ wr.heap.size := HK.out.size
      have hgg : g < w2.heap.size := HS2.out
      have hne : ¬ g0 = g := by have := HG.out; omega
      have hseen : Seen wr 1 (.slice (some ⟨g0, o0 + k * 32, none⟩) 32 (cap - k * 32)) 32 (bcells (packL E[k])) := by
        have hp := packL_length (HOK.out _ (List.getElem_mem hkE)).len.1
        refine ⟨by rw [bcells_length]; omega, _, _, rfl, by have := HM.out; omega, by unfold maxLen; omega, .inr ⟨g0, _, rfl, by have := K2.out.size; omega, fun j u hu => ?_⟩⟩
        have hj : j < 32 := by have := (List.getElem?_eq_some_iff.1 hu).1; rw [bcells_length] at this; omega
        have hc := HR.out.cellAt (k * 32 + j) (by have := HM.out; omega)
        rw [Nat.add_assoc, (HK.out.cell (by have := K2.out.size; omega) hne _), (K2.out.cell hg0 (fun h => h) _), hc, ← hu]
        have hs := flatE_slot HOK.out k hkE
        simp only [bcells, List.getElem?_map]
        rw [← hs, List.getElem?_take, if_pos hj, List.getElem?_drop]
      have HU := Lib.hid (unpack_any E[k] (HOK.out _ (List.getElem_mem hkE)) hseen)
      clear hseen hne
      go_wp2_with fail
      rw [show (k + 1) * 32 - k * 32 = 32 by omega]
      (with_reducible refine HU.out.mono ?_)
      rintro e w3 ⟨rfl, k3⟩
      obtain ⟨ek, hek⟩ : ∃ ek, ek = E[k] := ⟨_, rfl⟩
      rw [← hek]
      have HEK := Lib.hid hek
      obtain ⟨t1, t2⟩ := (HROW.out.keep k3 (fun _ _ h => h)).there (k * 2) (by omega)
      obtain ⟨t3, t4⟩ := (HROW.out.keep k3 (fun _ _ h => h)).there (k * 2 + 1) (by omega)
      obtain ⟨u1, t1⟩ := Option.isSome_iff_exists.1 t1
      obtain ⟨u2, t3⟩ := Option.isSome_iff_exists.1 t3
      simp only [Nat.zero_add] at t1 t2 t3 t4
      have hg3 : g < w3.heap.size := by have := k3.size; omega
      have HR3 := Lib.hid (HROW.out.keep k3 (fun _ _ h => h))
      have HK3 := Lib.hid (HK.out.trans k3 (fun _ h => h.elim))
      clear k3 hek hgw hgg
      go_wp2_with fail
      go_roundw
      case rel =>
        refine ⟨k + 1, by have := HN.out; omega, by go_num, ?_, ((HK3.out.setCell _ _ (.inl rfl)).setCell _ _ (.inl rfl)).alloc _⟩
        have h1 := (HR3.out.stored (k * 2) (.string ⟨ek.1.toArray⟩)).stored (k * 2 + 1) (.int .i64 (ek.2 : Int))
        simp only [Nat.zero_add] at h1
        rw [ecells_set, set_take_rep hkE HEK.out] at h1
        exact h1.alloc _
      case measure => simp [intOf]; omega
    · have hd : decide (k < n) = false := by rw [decide_eq_false_iff_not]; omega
      obtain rfl : k = n := by omega
      have hr := HROW.out
      rw [HN.out, Nat.sub_self, List.replicate_zero, List.append_nil, List.take_length] at hr
      have HRF := Lib.hid hr
      clear hr hlt
      go_wp2_with fail
      go_ret2
      refine ⟨_, by rw [HN.out]; rfl, HRF.out, (K1.out.trans K2.out (fun _ h => h.elim)).trans HK.out (fun x hx => .inr (by rw [hx]; exact HFR.out)), fun b hb => by simp [Value.ownBlock] at hb; subst hb; exact HFR.out⟩

end Go.Proofs.Ytejeadccpigepaa.Dir
