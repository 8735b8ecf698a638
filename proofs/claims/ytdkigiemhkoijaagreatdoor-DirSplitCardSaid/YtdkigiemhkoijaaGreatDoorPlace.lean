/- dirfs: which slot a name has. -/
import Derived.Test.YtdkigiemhkoijaaGreatDoorSlots
import Derived.Test.YtdkigiemhkoijaaGreatDoorErr
namespace Go.Proofs.YtdkigiemhkoijaaGreatDoor.Dir
open Go.RowKit Go.Maps Go.Proofs.YtdkigiemhkoijaaGreatDoor Go.Proofs.YtdkigiemhkoijaaGreatDoor.Ino
set_option maxRecDepth 100000

/-- The first slot of a name. -/
def plc (E : List Ent) (nm : List UInt8) : Option Nat := E.findIdx? fun e => e.1 == nm
def plcI : Option Nat → Int
  | some k => (k : Int)
  | none => -1

theorem plc_some {E : List Ent} {nm : List UInt8} {k : Nat} (hk : k < E.length) (h : E[k].1 = nm) (hn : ∀ j (_ : j < k) (hj : j < E.length), E[j].1 ≠ nm) : plc E nm = some k := by
  unfold plc
  rw [List.findIdx?_eq_some_iff_getElem]
  exact ⟨hk, by simpa using h, fun j hj => by simpa using hn j hj (by omega)⟩

theorem plc_none {E : List Ent} {nm : List UInt8} (hn : ∀ j (hj : j < E.length), E[j].1 ≠ nm) : plc E nm = none := by
  unfold plc
  rw [List.findIdx?_eq_none_iff]
  intro x hx
  obtain ⟨j, hj, rfl⟩ := List.mem_iff_getElem.1 hx
  simpa using hn j hj

structure PlR (w0 : World) (E : List Ent) (nm : List UInt8) (iv : Value) (wr : World) : Prop where
  ex : ∃ k : Nat, k ≤ E.length ∧ iv = .int .i64 (k : Int) ∧ Keep (fun _ => False) w0 wr ∧ ∀ j (_ : j < k) (hj : j < E.length), E[j].1 ≠ nm

theorem name_eq {a : List UInt8} {s : ByteArray} : (⟨a.toArray⟩ : ByteArray) = s ↔ a = s.data.toList := by
  constructor
  · intro h; rw [← h]
  · intro h; rw [h]

set_option maxHeartbeats 1000000 in
theorem place_any {w : World} {v : Value} {E : List Ent} (hr : Row w 47 2 v E.length (ecells E)) (hE : E.length ≤ 3200) (s : ByteArray) : Calls Tryz.prog 21 #[v, .string s] w fun e w' => e = .returned (.int .i64 (plcI (plc E s.data.toList))) ∧ Keep (fun _ => False) w w' := by
  obtain ⟨ad, cap, rfl, hc1, hc2⟩ := hr.slice
  unfold maxLen at hc2
  obtain ⟨n, hn⟩ : ∃ n, n = E.length := ⟨_, rfl⟩
  obtain ⟨r, hrr⟩ : ∃ r, r = plcI (plc E s.data.toList) := ⟨_, rfl⟩
  rw [← hrr]
  rw [← hn] at hr hE hc1 ⊢
  have HR := Lib.hid hr; have HN := Lib.hid hn; have HRR := Lib.hid hrr
  clear hr hn hrr
  go_enter Tryz.func21, Tryz.ntmps21
  go_wp2
  go_loopw [5, 6, 9] (fun _ _ iv wr => PlR w E s.data.toList iv wr) (fun _ _ iv _ => n - (intOf iv).toNat)
  case atStart => exact ⟨0, by omega, rfl, Keep.refl _ _, fun j hj => by omega⟩
  case round =>
    obtain ⟨k, hk, rfl, hK, hall⟩ := hrel.ex
    have hkn : k ≤ n := by rw [HN.out]; exact hk
    have HK := Lib.hid hK; have HA := Lib.hid hall
    clear hK hall hrel hk
    by_cases hlt : k < n
    · have hd : decide (k < n) = true := by rw [decide_eq_true_eq]; omega
      obtain ⟨g0, o0, _, hv0, -, -⟩ := HR.out.full (by omega)
      simp only [Value.slice.injEq] at hv0
      obtain ⟨had, -, -⟩ := hv0
      subst had
      have hkE : k < E.length := by rw [← HN.out]; exact hlt
      have hg0 : g0 < w.heap.size := HR.out.lt (k := g0) rfl
      have c0 := (HK.out.cell hg0 (fun h => h) _).trans ((HR.out.cellAt (k * 2) (by omega)).trans (ecells_get0 E k hkE))
      have c1 := (HK.out.cell hg0 (fun h => h) _).trans ((HR.out.cellAt (k * 2 + 1) (by omega)).trans (ecells_get1 E k hkE))
      rw [← Nat.add_assoc] at c1
      obtain ⟨s2, hs2⟩ : ∃ s2 : ByteArray, s2 = ⟨E[k].1.toArray⟩ := ⟨_, rfl⟩
      obtain ⟨z, hz⟩ : ∃ z : Int, z = (E[k].2 : Int) := ⟨_, rfl⟩
      rw [← hs2] at c0
      rw [← hz] at c1
      have HS2 := Lib.hid hs2
      clear hs2 hz hg0
      by_cases he : s2 = s
      · have HP : Hid (plc E s.data.toList = some k) := Lib.hid (plc_some hkE (name_eq.1 (HS2.out.symm.trans he)) HA.out)
        subst he
        go_wp2
        go_ret
        exact ⟨by rw [HRR.out, HP.out]; rfl, HK.out.alloc _⟩
      · have hne : (s2.toList == s.toList) = false := by
          rw [beq_eq_false_iff_ne]
          intro e
          rw [ByteArray.toList_eq, ByteArray.toList_eq] at e
          exact he (HS2.out.trans (name_eq.2 (by rw [← e, HS2.out])))
        have HNE : Hid (E[k].1 ≠ s.data.toList) := Lib.hid (fun e => he (HS2.out.trans (name_eq.2 e)))
        clear he
        go_wp2
        go_roundw
        case rel => exact ⟨k + 1, by omega, by go_num, HK.out.alloc _, fun j hj hjE => by
          by_cases e : j = k
          · subst e; exact HNE.out
          · exact HA.out j (by omega) hjE⟩
        case measure => simp [intOf]; omega
    · have hd : decide (k < n) = false := by rw [decide_eq_false_iff_not]; omega
      have HP : Hid (plc E s.data.toList = none) := Lib.hid (plc_none fun j hj => HA.out j (by have := HN.out; omega) hj)
      go_wp2
      go_ret
      exact ⟨by rw [HRR.out, HP.out]; rfl, HK.out⟩

/-- A name that may not be. -/
theorem seek_may {w : World} (p : Nat) (s : ByteArray) (hm : mayB s.data.toList = false) : Calls Tryz.prog 23 #[.pointer (some ⟨p, 0, none⟩), .string s] w fun e w' => e = .returned (.tuple #[.slice none 0 0, .int .i64 0, apiErr 5]) ∧ w = w' := by
  have HM := Lib.hid (fun w : World => may_any s (w := w))
  rw [hm] at HM
  clear hm
  go_enter Tryz.func23, Tryz.ntmps23
  go_wp2_with (go_at_call 9; (with_reducible refine (HM.out _).mono ?_); rintro e w' ⟨rfl, rfl⟩)
  go_ret3
  exact ⟨rfl, rfl⟩

/-- A name that is not there. -/
theorem seek_none {w : World} {F : Nat → Prop} {p s : Nat} {S : Sto} {T : List Nat} {E : List Ent} (h : Dr w F p s S T E) (nm : ByteArray) (hm : mayB nm.data.toList = true) (hp : plc E nm.data.toList = none) : Calls Tryz.prog 23 #[.pointer (some ⟨p, 0, none⟩), .string nm] w fun e w' => e = .returned (.tuple #[.slice none 0 0, .int .i64 0, apiErr 6]) ∧ Keep (fun _ => False) w w' := by
  have HM := Lib.hid (fun w : World => may_any nm (w := w))
  rw [hm] at HM
  have HS := Lib.hid (slots_any h)
  have HE : Hid (E.length ≤ 3200) := Lib.hid (by have := h.fl.top; omega)
  have HP := Lib.hid hp
  clear hm h hp
  go_enter Tryz.func23, Tryz.ntmps23
  go_wp2_with (first | (go_at_call 9; (with_reducible refine (HM.out _).mono ?_); rintro e w' ⟨rfl, rfl⟩) | (go_at_call 20; (with_reducible refine HS.out.mono ?_); rintro e w1 ⟨v, rfl, hr, k1, hf⟩; have K1 := Lib.hid k1; have HPL := Lib.hid (place_any hr HE.out nm); rw [HP.out] at HPL; clear k1 hf hr) | (go_at_call 21; (with_reducible refine HPL.out.mono ?_); rintro e w2 ⟨rfl, k2⟩; have K2 := Lib.hid (K1.out.trans k2 (fun _ h => h.elim)); clear k2; simp only [plcI]))
  go_ret3
  exact ⟨rfl, K2.out⟩

/-- What seek answers. -/
structure SkA (E : List Ent) (k : Nat) (w : World) (x : Ending) (w' : World) : Prop where
  ex : ∃ v, x = .returned (.tuple #[v, .int .i64 (k : Int), .nilIface]) ∧ Row w' 47 2 v E.length (ecells E) ∧ Keep (fun _ => False) w w'

theorem seek_some {w : World} {F : Nat → Prop} {p s : Nat} {S : Sto} {T : List Nat} {E : List Ent} (h : Dr w F p s S T E) (nm : ByteArray) (hm : mayB nm.data.toList = true) {k : Nat} (hp : plc E nm.data.toList = some k) : Calls Tryz.prog 23 #[.pointer (some ⟨p, 0, none⟩), .string nm] w fun e w' => SkA E k w e w' := by
  have HM := Lib.hid (fun w : World => may_any nm (w := w))
  rw [hm] at HM
  have HS := Lib.hid (slots_any h)
  have HE : Hid (E.length ≤ 3200) := Lib.hid (by have := h.fl.top; omega)
  have HP := Lib.hid hp
  clear hm h hp
  go_enter Tryz.func23, Tryz.ntmps23
  go_wp2_with (first | (go_at_call 9; (with_reducible refine (HM.out _).mono ?_); rintro e w' ⟨rfl, rfl⟩) | (go_at_call 20; (with_reducible refine HS.out.mono ?_); rintro e w1 ⟨v, rfl, hr, k1, hf⟩; have K1 := Lib.hid k1; have HR := Lib.hid hr; have HPL := Lib.hid (place_any hr HE.out nm); rw [HP.out] at HPL; clear k1 hf hr) | (go_at_call 21; (with_reducible refine HPL.out.mono ?_); rintro e w2 ⟨rfl, k2⟩; have HR2 := Lib.hid (HR.out.keep k2 (fun _ _ h => h)); have K2 := Lib.hid (K1.out.trans k2 (fun _ h => h.elim)); clear k2; simp only [plcI]))
  go_ret3
  exact ⟨_, rfl, HR2.out, K2.out⟩

end Go.Proofs.YtdkigiemhkoijaaGreatDoor.Dir
