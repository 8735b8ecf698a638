/- Laws of no program: a region that draws its order, whose operations only read and whose callees leave all that was there alone, walked in the order of the text. -/
import Derived.Test.YtmibepjfbapbdaaGen
import Derived.BigQuiet
namespace Go.Proofs.Ytmibepjfbapbdaa.Cd
open Go.RowKit Go.Proofs.Ytmibepjfbapbdaa

theorem quiet_lit {P : Program} {id : Nat} {Q : Exit → Act → World → Prop} {a : Act} {w : World} {l : List Oper} {C : World → Prop} (hm : P.follows .mixedOrders = true) (hB : Region.lexB .any l.toArray = true) (hC : C w.drew)
    (h : wpQuiet P l.toArray C (fun a' => ∀ w', C w' → Q .normal a' w') l a) : (Code.region id l.toArray true).wp P Q a w :=
  wp_region_quiet (C := C) hm hB hC (by simpa using h)

theorem quiet_load {P : Program} {o : Oper} {a : Act} {C : World → Prop} {K : Act → Prop} {t : TypeId} {d : TypeDesc} (x : Operand) (ho : o.op = .load t x) (g off : Nat) (hx : a.eval x = .pointer (some ⟨g, off, none⟩)) {v : Value}
    (hu : P.underlying t = some d) (hd : (match d with | .struct _ | .array _ _ => true | _ => false) = false) (hC : ∀ w, C w → w.cell? ⟨g, off, none⟩ = some v) (hk : K (a.put o.dst v)) : o.quiet P a C K := by
  refine ⟨v, fun w hw => ?_, hk⟩
  have hc := hC w hw
  unfold Oper.quietAt execOp
  have hr : (Instr.loadAt t (.pointer (some ⟨g, off, none⟩))).run P w = .ok v w := by
    have hagg : (isAgg t).run P w = .ok false w := by
      unfold isAgg
      rw [Sem.run_bind, run_underlying hu w]
      cases d <;> simp_all
    simp [Instr.loadAt, Instr.sureAddr, loadVar, Sem.run_bind, hagg, hc]
  simp only [ho, hx, Sem.run_bind, hr, Result.andThen_ok, Sem.run_pure]
  exact ⟨rfl, rfl⟩

/-- A world in which nothing of w has turned. -/
structure KW (w : World) where
  to : World
  keep : Keep (fun _ => False) w to
instance (w : World) : Nonempty (KW w) := ⟨⟨w, Keep.refl _ w⟩⟩

/-- A region whose callees leave all of w alone: walked in the order of the text; a fact of w's cells is to be laid of every such world ('forall n : KW w, n.to.cell? .. = ..'). -/
theorem quiet_kw {P : Program} {id : Nat} {Q : Exit → Act → World → Prop} {a : Act} {w : World} {l : List Oper} (hm : P.follows .mixedOrders = true) (hB : Region.lexB .any l.toArray = true)
    (h : wpQuiet P l.toArray (fun w' => ∃ n : KW w, w' = n.to) (fun a' => ∀ w', (∃ n : KW w, w' = n.to) → Q .normal a' w') l a) : (Code.region id l.toArray true).wp P Q a w :=
  quiet_lit (C := fun w' => ∃ n : KW w, w' = n.to) hm hB ⟨⟨w.drew, (Keep.refl _ w).drew⟩, rfl⟩ h

/-- A call whose answer is known, whichever of those worlds it comes to. -/
theorem KW.call {P : Program} {f : FuncId} {args : Array Value} {w : World} {v : Value} {R : World → Ending → World → Prop} (n : KW w) (h : ∀ n : KW w, Calls P f args n.to (R n.to)) (hR : ∀ (n : KW w) e w', R n.to e w' → e = .returned v ∧ Keep (fun _ => False) n.to w') :
    Calls P f args n.to fun e w' => e = .returned v ∧ ∃ m : KW w, w' = m.to :=
  (h n).mono fun e w' r => ⟨(hR n e w' r).1, ⟨w', n.keep.trans (hR n e w' r).2 (fun _ h => h.elim)⟩, rfl⟩

end Go.Proofs.Ytmibepjfbapbdaa.Cd
