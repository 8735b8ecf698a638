/- dirfs: which slot a name has. -/
import Derived.Test.YtejeadccpigepaaSlots
import Derived.Test.YtejeadccpigepaaErr
namespace Go.Proofs.Ytejeadccpigepaa.Dir
open Go.RowKit Go.Maps Go.Proofs.Ytejeadccpigepaa Go.Proofs.Ytejeadccpigepaa.Ino
set_option maxRecDepth 100000

/-- The first slot of a name. -/
def plc (E : List Ent) (nm : List UInt8) : Option Nat := E.findIdx? fun e => e.1 == nm
def plcI : Option Nat → Int
  | some k => (k : Int)
  | none => -1

theorem plc_some {E : List Ent} {nm : List UInt8} {k : Nat} (hk : k < E.length) (h : E[k].1 = nm) (hn : ∀ j (_ : j < k) (hj : j < E.length), E[j].1 ≠ nm) : plc E nm = some k := by
  unfold plc
  rw [List.findIdx?_eq_some_iff_getElem]
  exact ⟨hk, by simpa using h, fun j hj => by simpa using hn j hj (by omega)⟩

theorem plc_none {E : List Ent} {nm : List UInt8} (hn : ∀ j (hj : j < E.length), E[j].1 ≠ nm) : plc E nm = none := by
  unfold plc
  rw [List.findIdx?_eq_none_iff]
  intro x hx
  obtain ⟨j, hj, rfl⟩ := List.mem_iff_getElem.1 hx
  simpa using hn j hj

structure PlR (w0 : World) (E : List Ent) (nm : List UInt8) (iv : Value) (wr : World) : Prop where
  ex : ∃ k : Nat, k ≤ E.length ∧ iv = .int .i64 (k : Int) ∧ Keep (fun _ => False) w0 wr ∧ ∀ j (_ : j < k) (hj : j < E.length), E[j].1 ≠ nm

theorem name_eq {a : List UInt8} {s : ByteArray} : (⟨a.toArray⟩ : ByteArray) = s ↔ a = s.data.toList := by
  constructor
  · intro h; rw [← h]
  · intro h; rw [h]

set_option maxHeartbeats 1000000 in
theorem place_any {w : World} {v : Value} {E : List Ent} (hr : Row w 51 2 v E.length (ecells E)) (hE : E.length ≤ 3200) (s : ByteArray) : Calls Try.prog 18 #[v, .string s] w fun e w' => e = .returned (.int .i64 (plcI (plc E s.data.toList))) ∧ Keep (fun _ => False) w w' := by
  obtain ⟨ad, cap, rfl, hc1, hc2⟩ := hr.slice
  unfold maxLen at hc2
  obtain ⟨n, hn⟩ : ∃ n, n = E.length := ⟨_, rfl⟩
  obtain ⟨r, hrr⟩ : ∃ r, r = plcI (plc E s.data.toList) := ⟨_, rfl⟩
  rw [← hrr]
  rw [← hn] at hr hE hc1 ⊢
  have HR := Lib.hid hr; have HN := Lib.hid hn; have HRR := Lib.hid hrr
  clear hr hn hrr
  go_enter Try.func18, Try.ntmps18
  go_wp2
  go_loopw [5, 6, 9] (fun _ _ iv wr => PlR w E s.data.toList iv wr) (fun _ _ iv _ => n - (intOf iv).toNat)
  case atStart => exact ⟨0, by omega, rfl, Keep.refl _ _, fun j hj => by omega⟩
  case round =>
    obtain ⟨k, hk, rfl, hK, hall⟩ := hrel.ex
    have hkn : k ≤ n := by rw [HN.out]; exact hk
    have HK := Lib.hid hK; have HA := Lib.hid hall
    clear hK hall hrel hk
    by_cases hlt : k < n
    · have hd : decide (k < n) = true := by rw [decide_eq_true_eq]; omega
      obtain ⟨g0, o0, _, hv0, -, -⟩ := HR.out.full (by omega)
      simp only [Value.slice.injEq] at hv0
      obtain ⟨had, -, -⟩ := hv0
      subst had
      have hkE : k < E.length := by rw [← HN.out]; exact hlt
      have hg0 : g0 < w.heap.size := HR.out.lt (k := g0) rfl
      have c0 := (HK.out.cell hg0 (fun h => h) _).trans ((HR.out.cellAt (k * 2) (by omega)).trans (ecells_get0 E k hkE))
      have c1 := (HK.out.cell hg0 (fun h => h) _).trans ((HR.out.cellAt (k * 2 + 1) (by omega)).trans (ecells_get1 E k hkE))
      rw [← Nat.add_assoc] at c1
      obtain ⟨s2, hs2⟩ : ∃ s2 : ByteArray, s2 = ⟨E[k].1.toArray⟩ := ⟨_, rfl⟩
      obtain ⟨z, hz⟩ : ∃ z : Int, z = (E[k].2 : Int) := ⟨_, rfl⟩
      rw [← hs2] at c0
      rw [← hz] at c1
      have HS2 := Lib.hid hs2
      clear hs2 hz hg0
      by_cases he : s2 = s
      · have HP : Hid (plc E s.data.toList = some k) := Lib.hid (plc_some hkE (name_eq.1 (HS2.out.symm.trans he)) HA.out)
        subst he
        go_wp2
        go_ret
        exact ⟨by rw [HRR.out, HP.out]; rfl, HK.out.alloc _⟩
      · have hne : (s2.toList == s.toList) = false := by
          rw [beq_eq_false_iff_ne]
          intro e
          rw [ByteArray.toList_eq, ByteArray.toList_eq] at e
          exact he (HS2.out.trans (name_eq.2 (by rw [← e, HS2.out])))
        have HNE : Hid (E[k].1 ≠ s.data.toList) := Lib.hid (fun e => he (HS2.out.trans (name_eq.2 e)))
        clear he
        go_wp2
        go_roundw
        case rel => exact ⟨k + 1, by omega, by go_num, HK.out.alloc _, fun j hj hjE => by
          by_cases e : j = k
          · subst e; exact HNE.out
          · exact HA.out j (by omega) hjE⟩
        case measure => simp [intOf]; omega
    · have hd : decide (k < n) = false := by rw [decide_eq_false_iff_not]; omega
      have HP : Hid (plc E s.data.toList = none) := Lib.hid (plc_none fun j hj => HA.out j (by have := HN.out; omega) hj)
      go_wp2
      go_ret
      exact ⟨by rw [HRR.out, HP.out]; rfl, HK.out⟩

/-- A name that may not be. -/
theorem seek_may {w : World} (p : Nat) (s : ByteArray) (hm : mayB s.data.toList = false) : Calls Try.prog 21 #[.pointer (some ⟨p, 0, none⟩), .string s] w fun e w' => e = .returned (.tuple #[.slice none 0 0, .int .i64 0, apiErr 5]) ∧ w = w' := by
  have HM := Lib.hid (fun w : World => may_any s (w := w))
  rw [hm] at HM
  clear hm
  go_enter Try.func21, Try.ntmps21
  go_wp2_with (go_at_call 15; (with_reducible refine (HM.out _).mono ?_); rintro e w' ⟨rfl, rfl⟩)
  go_ret3
  exact ⟨rfl, rfl⟩

/-- A name that is not there. -/
theorem seek_none {w : World} {F : Nat → Prop} {p s : Nat} {S : Sto} {T : List Nat} {E : List Ent} (h : Dr w F p s S T E) (nm : ByteArray) (hm : mayB nm.data.toList = true) (hp : plc E nm.data.toList = none) : Calls Try.prog 21 #[.pointer (some ⟨p, 0, none⟩), .string nm] w fun e w' => e = .returned (.tuple #[.slice none 0 0, .int .i64 0, apiErr 6]) ∧ Keep (fun _ => False) w w' := by
  have HM := Lib.hid (fun w : World => may_any nm (w := w))
  rw [hm] at HM
  have HS := Lib.hid (slots_any h)
  have HE : Hid (E.length ≤ 3200) := Lib.hid (by have := h.fl.top; omega)
  have HP := Lib.hid hp
  clear hm h hp
  go_enter Try.func21, Try.ntmps21
  go_wp2_with (first | (go_at_call 15; (with_reducible refine (HM.out _).mono ?_); rintro e w' ⟨rfl, rfl⟩) | (go_at_call 17; (with_reducible refine HS.out.mono ?_); rintro e w1 ⟨v, rfl, hr, k1, hf⟩; have K1 := Lib.hid k1; have HPL := Lib.hid (place_any hr HE.out nm); rw [HP.out] at HPL; clear k1 hf hr) | (go_at_call 18; (with_reducible refine HPL.out.mono ?_); rintro e w2 ⟨rfl, k2⟩; have K2 := Lib.hid (K1.out.trans k2 (fun _ h => h.elim)); clear k2; simp only [plcI]))
  go_ret3
  exact ⟨rfl, K2.out⟩

/-- What seek answers. -/
structure SkA (E : List Ent) (k : Nat) (w : World) (x : Ending) (w' : World) : Prop where
  ex : ∃ v, x = .returned (.tuple #[v, .int .i64 (k : Int), .nilIface]) ∧ Row w' 51 2 v E.length (ecells E) ∧ Keep (fun _ => False) w w'

theorem seek_some {w : World} {F : Nat → Prop} {p s : Nat} {S : Sto} {T : List Nat} {E : List Ent} (h : Dr w F p s S T E) (nm : ByteArray) (hm : mayB nm.data.toList = true) {k : Nat} (hp : plc E nm.data.toList = some k) : Calls Try.prog 21 #[.pointer (some ⟨p, 0, none⟩), .string nm] w fun e w' => SkA E k w e w' := by
  have HM := Lib.hid (fun w : World => may_any nm (w := w))
  rw [hm] at HM
  have HS := Lib.hid (slots_any h)
  have HE : Hid (E.length ≤ 3200) := Lib.hid (by have := h.fl.top; omega)
  have HP := Lib.hid hp
  clear hm h hp
  go_enter Try.func21, Try.ntmps21
  go_wp2_with (first | (go_at_call 15; (with_reducible refine (HM.out _).mono ?_); rintro e w' ⟨rfl, rfl⟩) | (go_at_call 17; (with_reducible refine HS.out.mono ?_); rintro e w1 ⟨v, rfl, hr, k1, hf⟩; have K1 := Lib.hid k1; have HR := Lib.hid hr; have HPL := Lib.hid (place_any hr HE.out nm); rw [HP.out] at HPL; clear k1 hf hr) | (go_at_call 18; (with_reducible refine HPL.out.mono ?_); rintro e w2 ⟨rfl, k2⟩; have HR2 := Lib.hid (HR.out.keep k2 (fun _ _ h => h)); have K2 := Lib.hid (K1.out.trans k2 (fun _ h => h.elim)); clear k2; simp only [plcI]))
  go_ret3
  exact ⟨_, rfl, HR2.out, K2.out⟩

end Go.Proofs.Ytejeadccpigepaa.Dir
/- dirfs: an entry is put; the first entry of all. -/
namespace Go.Proofs.Ytejeadccpigepaa.Dir
open Go.RowKit Go.Maps Go.Proofs.Ytejeadccpigepaa Go.Proofs.Ytejeadccpigepaa.Ino
set_option maxRecDepth 100000

structure PutX (PW : World → Ending → World → Prop) (w : World) (x : Ending) (w' : World) : Prop where
  ex : ∃ w2, Keep (fun _ => False) w w2 ∧ PW w2 x w'

theorem put_of {w : World} {p : Nat} {PW : World → Ending → World → Prop} (e : Ent) (he : okE e) (i m : Nat) (hi : i ≤ 3200) (him : i * 32 = m)
    (hW : ∀ w2 v, Keep (fun _ => False) w w2 → Seen w2 1 v 32 (bcells (packL e)) → Calls Try.prog 30 #[.pointer (some ⟨p, 0, none⟩), .int .i64 (m : Int), v] w2 (fun x w' => ∃ nm, x = .returned nm ∧ PW w2 x w')) :
    Calls Try.prog 19 #[.pointer (some ⟨p, 0, none⟩), .int .i64 (i : Int), .agg #[.string ⟨e.1.toArray⟩, .int .i64 (e.2 : Int)]] w (PutX PW w) := by
  have HP := Lib.hid (fun w : World => pack_any e he.len.1 (by have := he.len.2; omega) (w := w))
  have HW := Lib.hid hW
  obtain ⟨s, hs⟩ : ∃ s : ByteArray, s = ⟨e.1.toArray⟩ := ⟨_, rfl⟩
  obtain ⟨z, hz⟩ : ∃ z : Int, z = (e.2 : Int) := ⟨_, rfl⟩
  rw [← hs, ← hz] at HP ⊢
  have hm : (i : Int) * 32 = (m : Int) := by omega
  have HK : Hid (Keep (fun _ => False) w (w.alloc (.cells #[.string s, .int .i64 z] 51))) := Lib.hid ((Keep.refl _ w).alloc _)
  clear hW hs hz him
  go_enter Try.func19, Try.ntmps19
  go_wp2_with (go_at_call 31; (with_reducible refine (HP.out _).mono ?_); rintro e w1 ⟨v, rfl, hr, k1⟩; have HR := Lib.hid hr.seen; have K1 := Lib.hid (HK.out.trans k1 (fun _ h => h.elim)); clear hr k1)
  with_reducible refine (HW.out w1 v K1.out HR.out).mono ?_
  rintro e w2 ⟨nm, rfl, hp⟩
  have HPW := Lib.hid hp
  clear hp
  go_wp2_with fail
  go_ret
  exact ⟨w1, K1.out, HPW.out⟩

/-- What the first Add answers. -/
structure AdF (p s most : Nat) (F : Nat → Prop) (e : Ent) (w : World) (x : Ending) (w' : World) : Prop where
  ret : x = .returned .nilIface
  ex : ∃ F' S' T', Dr w' F' p s S' T' [e] ∧ S'.most = most ∧ ∀ y, F' y → F y ∨ w.heap.size ≤ y
  keep : Keep (fun y => F y ∨ y = p) w w'

theorem flatE_one (e : Ent) : flatE [e] = packL e := by simp [flatE]

theorem put_first {w : World} {F : Nat → Prop} {p s most : Nat} (h : Fl w F p s (Sto.made most) 0 zero203) (hm : 1 ≤ most) (e : Ent) (he : okE e) :
    Calls Try.prog 19 #[.pointer (some ⟨p, 0, none⟩), .int .i64 0, .agg #[.string ⟨e.1.toArray⟩, .int .i64 (e.2 : Int)]] w (AdF p s most F e w) := by
  have hl := packL_length he.len.1
  refine (put_of (PW := fun w2 x w' => AdF p s most F e w2 x w') e he 0 0 (by omega) rfl (fun w2 v k2 hv => ?_)).mono ?_
  · refine (fl_first (b := packL e) (h.keep0 k2) 0 0 (by rw [hl]; exact hv) (by omega) (by omega) rfl (by rw [hl]) (by simpa [want1] using hm)).mono ?_
    rintro x w' ⟨rfl, F', S', T', h1, h2, _, _, _, _, h3, h4, h5⟩
    refine ⟨_, rfl, rfl, ⟨F', S', T', ⟨by simpa [hl] using h1, fun x hx => by simp at hx; rw [hx]; exact he, ?_⟩, h2, h5⟩, h4⟩
    rw [flatE_one]
    apply List.ext_getElem?
    intro j
    by_cases hj : j < 32
    · have hr : (fileL S' T' 0 (32 * [e].length))[j]? = some (fileB S' T' j) := by simp [fileL, hj]
      rw [hr, h3 j (by omega), if_pos (by omega), Nat.sub_zero, List.getD_eq_getElem?_getD, List.getElem?_eq_getElem (by omega)]
      rfl
    · rw [List.getElem?_eq_none (by simp [fileL]; omega), List.getElem?_eq_none (by omega)]
  · rintro x w' ⟨w2, k2, hx⟩
    obtain ⟨F', S', T', h1, h2, h3⟩ := hx.ex
    exact ⟨hx.ret, ⟨F', S', T', h1, h2, fun y hy => (h3 y hy).imp id (fun hh => Nat.le_trans k2.size hh)⟩, (k2.mono (fun _ _ h => h.elim)).trans hx.keep (fun y hy => .inl hy)⟩

/-- Add, of a name that may be, to an empty directory. -/
theorem add_first {w : World} {F : Nat → Prop} {p s most : Nat} (h : Fl w F p s (Sto.made most) 0 zero203) (hm : 1 ≤ most) (nm : ByteArray) (hn : mayB nm.data.toList = true) (k : Nat) (h0 : 0 < k) (hk : k < 32) :
    Calls Try.prog 8 #[.pointer (some ⟨p, 0, none⟩), .string nm, .int .i64 (k : Int)] w (AdF p s most F (nm.data.toList, k) w) := by
  have hd : Dr w F p s (Sto.made most) zero203 [] := ⟨h, fun _ h => (List.not_mem_nil h).elim, rfl⟩
  have HM := Lib.hid (fun w : World => may_any nm (w := w))
  rw [hn] at HM
  have HMB := Lib.hid (fun w : World => mayBe_any (k : Int) (w := w))
  rw [show decide (0 < (k : Int) ∧ (k : Int) < 32) = true by rw [decide_eq_true_eq]; omega] at HMB
  have HS := Lib.hid (slots_any hd)
  have HPT := Lib.hid (fun (w2 : World) (k2 : Keep (fun _ => False) w w2) => put_first (h.keep0 k2) hm (nm.data.toList, k) (.inr ⟨hn, h0, hk⟩))
  clear hn hd h hm
  go_enter Try.func8, Try.ntmps8
  go_wp2_with (first | (go_at_call 15; (with_reducible refine (HM.out _).mono ?_); rintro e w' ⟨rfl, rfl⟩) | (go_at_call 16; (with_reducible refine (HMB.out _).mono ?_); rintro e w' ⟨rfl, rfl⟩) | (go_at_call 17; (with_reducible refine HS.out.mono ?_); rintro e w1 ⟨v, rfl, hr, k1, hf⟩; have K1 := Lib.hid k1; have hr' : Row w1 51 2 v 0 (ecells []) := hr; have HR := Lib.hid hr'; clear hr; obtain ⟨va, vc, rfl, _, _⟩ := hr'.slice; clear k1 hf hr'))
  have HPL : Hid (∀ w2, Keep (fun _ => False) w1 w2 → ∀ nm : ByteArray, Calls Try.prog 18 #[.slice va 0 vc, .string nm] w2 fun e w' => e = .returned (.int .i64 (-1)) ∧ Keep (fun _ => False) w2 w') := Lib.hid (fun w2 k2 nm => place_any (E := []) (HR.out.keep k2 (fun _ _ h => h)) (by simp) nm)
  go_wp2_with (go_at_call 18; (with_reducible refine (HPL.out w1 (Keep.refl _ _) nm).mono ?_); rintro e w2 ⟨rfl, k2⟩; have KK := Lib.hid k2; have K2 := Lib.hid (K1.out.trans k2 (fun _ h => h.elim)); clear k2)
  go_wp2_with (first | (go_at_call 18; (with_reducible refine (HPL.out w2 KK.out _).mono ?_); rintro e w3 ⟨rfl, k3⟩; have K3 := Lib.hid (K2.out.trans k3 (fun _ h => h.elim)); clear k3) | (go_at_call 19; (with_reducible refine (HPT.out w3 K3.out).mono ?_); rintro e w4 h4; have H4 := Lib.hid h4; obtain rfl := h4.ret; clear h4))
  go_ret
  obtain ⟨F', S', T', h1, h2, h3⟩ := H4.out.ex
  exact ⟨rfl, ⟨F', S', T', h1, h2, fun y hy => (h3 y hy).imp id (fun hh => Nat.le_trans K3.out.size hh)⟩, (K3.out.mono (fun _ _ h => h.elim)).trans H4.out.keep (fun y hy => .inl hy)⟩

/-- Find, of a name that is there. -/
theorem find_some {w : World} {F : Nat → Prop} {p s : Nat} {S : Sto} {T : List Nat} {E : List Ent} (h : Dr w F p s S T E) (nm : ByteArray) (hm : mayB nm.data.toList = true) {k : Nat} (hp : plc E nm.data.toList = some k) (hk : k < E.length) : Calls Try.prog 11 #[.pointer (some ⟨p, 0, none⟩), .string nm] w fun e w' => e = .returned (.tuple #[.int .i64 (E[k].2 : Int), .nilIface]) ∧ Keep (fun _ => False) w w' := by
  have HS := Lib.hid (seek_some h nm hm hp)
  have HE : Hid (E.length ≤ 3200) := Lib.hid (by have := h.fl.top; omega)
  obtain ⟨z, hz⟩ : ∃ z : Int, z = (E[k].2 : Int) := ⟨_, rfl⟩
  rw [← hz]
  have HZ := Lib.hid hz
  have HC : Hid ((ecells E)[k * 2 + 1]? = some (.int .i64 z)) := Lib.hid (by rw [ecells_get1 E k hk, hz])
  clear h hm hp hz
  go_enter Try.func11, Try.ntmps11
  go_wp2_with (go_at_call 21; (with_reducible refine HS.out.mono ?_); rintro e w1 ⟨v, rfl, hr, k1⟩; obtain ⟨g, o, cap, rfl, hc1, hc2⟩ := hr.full (by omega); unfold maxLen at hc2; have c1 := (hr.cellAt (k * 2 + 1) (by omega)).trans HC.out; have K1 := Lib.hid k1; clear k1 hr; have hel := HE.out; rw [← Nat.add_assoc] at c1)
  go_ret2
  exact ⟨rfl, K1.out⟩

end Go.Proofs.Ytejeadccpigepaa.Dir
