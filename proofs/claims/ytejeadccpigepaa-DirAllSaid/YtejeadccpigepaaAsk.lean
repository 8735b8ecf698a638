/- Files on blocks: ask. -/
import Derived.Test.YtejeadccpigepaaInoA
namespace Go.Proofs.Ytejeadccpigepaa.Ino
open Go.RowKit Go.Maps Go.Proofs.Ytejeadccpigepaa
set_option maxRecDepth 100000

/-- The deferred closure of a frame that returns: recover finds nothing. -/
theorem ask_idle (p q : Addr) (w : World) :
    CallsD Try.prog 60 #[.pointer (some p), .pointer (some q)] .returning w fun e u' w' => e = .returned (.tuple #[]) ∧ u' = .returning ∧ w' = w := by
  refine callsD_of_wpS Try.func60 rfl fun c₀ cs hu => ?_
  apply wpS_seq
  apply wpS_region
  simp [wpOpsS, go_sem, recoverD, hu, Try.ntmps60, Exit.thenS]
  refine wpS_cond (t := false) (by simp [Act.eval, Array.replicate]) ?_
  simp only [Bool.false_eq_true, if_false]
  refine wpS_of_wp (wp_skip ?_)
  cases c₀
  simp_all [bodyPostS, results, Try.results60]

/-- The world in which ask makes its call. -/
def askW (w : World) (nm : ByteArray) : World := (w.alloc (.cells #[.string nm] 9)).alloc (.cells #[.nilIface] 37)

/-- ask, of a closure that says nil. -/
theorem ask_ok {w : World} (nm : ByteArray) (g : FuncId) (cap : Array Value) (R : World → Prop) (hR : ∀ w', R w' → w'.heap[w.heap.size + 1]? = some (.cells #[.nilIface] 37 (0, 0)))
    (hg : ∀ args w, (callFunc g args).run Try.prog w = .ok (.enter g args) w) (hc : Calls Try.prog g cap (askW w nm) fun e w' => e = .returned .nilIface ∧ R w') :
    Calls Try.prog 48 #[.string nm, .func (.func g) #[] cap] w fun e w' => e = .returned .nilIface ∧ ∃ w1, R w1 ∧ w' = (w1.setCell ⟨w.heap.size + 1, 0, none⟩ .nilIface).setCell ⟨w.heap.size + 1, 0, none⟩ .nilIface := by
  have hmf : ∀ (fn : Fn) (first cap : Array Value) (w : World), (Instr.makeFunc fn first cap).run Try.prog w = .ok (.func fn first cap) w := fun _ _ _ _ => rfl
  unfold askW at hc
  go_enter_defers Try.func48, Try.ntmps48
  go_wp2_with fail
  refine hc.mono ?_
  rintro e w1 ⟨rfl, hr⟩
  have hh := hR w1 hr
  have c0 : w1.cell? ⟨w.heap.size + 1, 0, none⟩ = some .nilIface := (cell_of_row _ _ _ _ _ _ hh).trans rfl
  have f0 : w1.frozen? ⟨w.heap.size + 1, 0, none⟩ = false := frozen_of_row _ _ _ _ _ hh
  have HR := Lib.hid hr
  clear hr hc hh hg
  go_wp2
  refine leaves_cons (f := 60) (args := #[.pointer (some ⟨w.heap.size, 0, none⟩), .pointer (some ⟨w.heap.size + 1, 0, none⟩)]) (by simp) (by simp [go_sem]) ?_
  refine (ask_idle ⟨w.heap.size, 0, none⟩ ⟨w.heap.size + 1, 0, none⟩ _).mono ?_
  rintro e u' w'' ⟨rfl, rfl, rfl⟩
  have c1 : ((w1.setCell ⟨w.heap.size + 1, 0, none⟩ .nilIface).setCell ⟨w.heap.size + 1, 0, none⟩ .nilIface).cell? ⟨w.heap.size + 1, 0, none⟩ = some .nilIface := (cell_of_row _ _ _ _ _ _ (heap_setCell_at _ (heap_setCell_at _ (hR w1 HR.out)))).trans rfl
  have HW : Hid (∃ w2, R w2 ∧ (w1.setCell ⟨w.heap.size + 1, 0, none⟩ .nilIface).setCell ⟨w.heap.size + 1, 0, none⟩ .nilIface = (w2.setCell ⟨w.heap.size + 1, 0, none⟩ .nilIface).setCell ⟨w.heap.size + 1, 0, none⟩ .nilIface) := Lib.hid ⟨w1, HR.out, rfl⟩
  generalize (w1.setCell ⟨w.heap.size + 1, 0, none⟩ .nilIface).setCell ⟨w.heap.size + 1, 0, none⟩ .nilIface = w9 at *
  simp [Leaves, settle, results, Try.results48, go_sem, c1]
  exact HW.out

/-- ask, of a closure that errs. -/
theorem ask_err {w : World} (nm : ByteArray) (g : FuncId) (cap : Array Value) (k : Int) (R : World → Prop) (hR : ∀ w', R w' → w'.heap[w.heap.size + 1]? = some (.cells #[.nilIface] 37 (0, 0)) ∧ w'.heap[w.heap.size]? = some (.cells #[.string nm] 9 (0, 0)))
    (hg : ∀ args w, (callFunc g args).run Try.prog w = .ok (.enter g args) w) (hc : Calls Try.prog g cap (askW w nm) fun e w' => e = .returned (apiE k) ∧ R w') :
    Calls Try.prog 48 #[.string nm, .func (.func g) #[] cap] w fun e w' => ∃ r w1, e = .returned (.iface 127 (.pointer (some ⟨r, 0, none⟩))) ∧ R w1 ∧ Keep (fun x => x = w.heap.size + 1) w1 w' ∧ w1.heap.size ≤ r ∧ w'.heap[r]? = some (.cells #[.string nm, apiE k] 129 (0, 0)) := by
  have hmf : ∀ (fn : Fn) (first cap : Array Value) (w : World), (Instr.makeFunc fn first cap).run Try.prog w = .ok (.func fn first cap) w := fun _ _ _ _ => rfl
  unfold askW at hc
  go_enter_defers Try.func48, Try.ntmps48
  go_wp2_with fail
  refine hc.mono ?_
  rintro e w1 ⟨rfl, hr⟩
  obtain ⟨hh, hh2⟩ := hR w1 hr
  have c0 : w1.cell? ⟨w.heap.size + 1, 0, none⟩ = some .nilIface := (cell_of_row _ _ _ _ _ _ hh).trans rfl
  have f0 : w1.frozen? ⟨w.heap.size + 1, 0, none⟩ = false := frozen_of_row _ _ _ _ _ hh
  have d0 : w1.cell? ⟨w.heap.size, 0, none⟩ = some (.string nm) := (cell_of_row _ _ _ _ _ _ hh2).trans rfl
  have hh3 : ((w1.setCell ⟨w.heap.size + 1, 0, none⟩ (apiE k)).alloc (.cells #[.string nm, apiE k] 129)).heap[w.heap.size + 1]? = some (.cells #[apiE k] 37 (0, 0)) := by
    rw [(((Keep.refl (fun _ => False) (w1.setCell ⟨w.heap.size + 1, 0, none⟩ (apiE k))).alloc (.cells #[.string nm, apiE k] 129)).block (w.heap.size + 1) (by have := lt_of_block hh; simpa using this) (fun h => h)), heap_setCell_at _ hh]; rfl
  have c1 := (cell_of_row _ _ 0 _ _ _ hh3).trans rfl
  have f1 := frozen_of_row _ _ 0 _ _ hh3
  have hh4 := heap_setCell_at (i := 0) (.iface 127 (.pointer (some ⟨w1.heap.size, 0, none⟩))) hh3
  have hh5 := heap_setCell_at (i := 0) (.iface 127 (.pointer (some ⟨w1.heap.size, 0, none⟩))) hh4
  have c2 : ((((w1.setCell ⟨w.heap.size + 1, 0, none⟩ (apiE k)).alloc (.cells #[.string nm, apiE k] 129)).setCell ⟨w.heap.size + 1, 0, none⟩ (.iface 127 (.pointer (some ⟨w1.heap.size, 0, none⟩)))).setCell ⟨w.heap.size + 1, 0, none⟩ (.iface 127 (.pointer (some ⟨w1.heap.size, 0, none⟩)))).cell? ⟨w.heap.size + 1, 0, none⟩ = some (.iface 127 (.pointer (some ⟨w1.heap.size, 0, none⟩))) := (cell_of_row _ _ 0 _ _ _ hh5).trans rfl
  have hk : Keep (fun x => x = w.heap.size + 1) w1 ((((w1.setCell ⟨w.heap.size + 1, 0, none⟩ (apiE k)).alloc (.cells #[.string nm, apiE k] 129)).setCell ⟨w.heap.size + 1, 0, none⟩ (.iface 127 (.pointer (some ⟨w1.heap.size, 0, none⟩)))).setCell ⟨w.heap.size + 1, 0, none⟩ (.iface 127 (.pointer (some ⟨w1.heap.size, 0, none⟩)))) :=
    ((((Keep.refl (fun x => x = w.heap.size + 1) w1).setCell _ _ (.inl rfl)).alloc _).setCell _ _ (.inl rfl)).setCell _ _ (.inl rfl)
  have hE0 : ((w1.setCell ⟨w.heap.size + 1, 0, none⟩ (apiE k)).alloc (.cells #[.string nm, apiE k] 129)).heap[w1.heap.size]? = some (.cells #[.string nm, apiE k] 129 (0, 0)) := by
    have := heap_alloc_new (w1.setCell ⟨w.heap.size + 1, 0, none⟩ (apiE k)) (.cells #[.string nm, apiE k] 129)
    simpa using this
  have hE := Lib.hid (((((Keep.refl (fun x => x = w.heap.size + 1) ((w1.setCell ⟨w.heap.size + 1, 0, none⟩ (apiE k)).alloc (.cells #[.string nm, apiE k] 129))).setCell ⟨w.heap.size + 1, 0, none⟩ (.iface 127 (.pointer (some ⟨w1.heap.size, 0, none⟩))) (.inl rfl)).setCell ⟨w.heap.size + 1, 0, none⟩ (.iface 127 (.pointer (some ⟨w1.heap.size, 0, none⟩))) (.inl rfl)).block w1.heap.size (by simp) (by have := lt_of_block hh; omega)).trans hE0)
  have HR := Lib.hid hr; have HK := Lib.hid hk; have C2 := Lib.hid c2
  clear hr hc hg hR hh hh2 hh3 hh4 hh5 hk c2 hE0
  go_wp2
  refine leaves_cons (f := 60) (args := #[.pointer (some ⟨w.heap.size, 0, none⟩), .pointer (some ⟨w.heap.size + 1, 0, none⟩)]) (by simp) (by simp [go_sem]) ?_
  refine (ask_idle ⟨w.heap.size, 0, none⟩ ⟨w.heap.size + 1, 0, none⟩ _).mono ?_
  rintro e u' w'' ⟨rfl, rfl, rfl⟩
  have c2 := C2.out
  generalize (((w1.setCell ⟨w.heap.size + 1, 0, none⟩ (apiE k)).alloc (.cells #[.string nm, apiE k] 129)).setCell ⟨w.heap.size + 1, 0, none⟩ (.iface 127 (.pointer (some ⟨w1.heap.size, 0, none⟩)))).setCell ⟨w.heap.size + 1, 0, none⟩ (.iface 127 (.pointer (some ⟨w1.heap.size, 0, none⟩))) = w9 at *
  simp [Leaves, settle, results, Try.results48, go_sem, c2]
  exact ⟨w1, HR.out, HK.out, Nat.le_refl _, hE.out⟩

end Go.Proofs.Ytejeadccpigepaa.Ino
