/- Laws of no program: a region that draws its order, whose operations only read and whose callees leave all that was there alone, walked in the order of the text. -/
import Derived.Test.YtpefkellcigpkaaGen
import Derived.BigQuiet
namespace Go.Proofs.Ytpefkellcigpkaa.Cd
open Go.RowKit Go.Proofs.Ytpefkellcigpkaa

theorem quiet_lit {P : Program} {id : Nat} {Q : Exit → Act → World → Prop} {a : Act} {w : World} {l : List Oper} {C : World → Prop} (hm : P.follows .mixedOrders = true) (hB : Region.lexB .any l.toArray = true) (hC : C w.drew)
    (h : wpQuiet P l.toArray C (fun a' => ∀ w', C w' → Q .normal a' w') l a) : (Code.region id l.toArray true).wp P Q a w :=
  wp_region_quiet (C := C) hm hB hC (by simpa using h)

theorem quiet_load {P : Program} {o : Oper} {a : Act} {C : World → Prop} {K : Act → Prop} {t : TypeId} {d : TypeDesc} (x : Operand) (ho : o.op = .load t x) (g off : Nat) (hx : a.eval x = .pointer (some ⟨g, off, none⟩)) {v : Value}
    (hu : P.underlying t = some d) (hd : (match d with | .struct _ | .array _ _ => true | _ => false) = false) (hC : ∀ w, C w → w.cell? ⟨g, off, none⟩ = some v) (hk : K (a.put o.dst v)) : o.quiet P a C K := by
  refine ⟨v, fun w hw => ?_, hk⟩
  have hc := hC w hw
  unfold Oper.quietAt execOp
  have hr : (Instr.loadAt t (.pointer (some ⟨g, off, none⟩))).run P w = .ok v w := by
    have hagg : (isAgg t).run P w = .ok false w := by
      unfold isAgg
      rw [Sem.run_bind, run_underlying hu w]
      cases d <;> simp_all
    simp [Instr.loadAt, Instr.sureAddr, loadVar, Sem.run_bind, hagg, hc]
  simp only [ho, hx, Sem.run_bind, hr, Result.andThen_ok, Sem.run_pure]
  exact ⟨rfl, rfl⟩

/-- A world in which nothing of w has turned. -/
structure KW (w : World) where
  to : World
  keep : Keep (fun _ => False) w to
instance (w : World) : Nonempty (KW w) := ⟨⟨w, Keep.refl _ w⟩⟩

/-- A region whose callees leave all of w alone: walked in the order of the text; a fact of w's cells is to be laid of every such world ('forall n : KW w, n.to.cell? .. = ..'). -/
theorem quiet_kw {P : Program} {id : Nat} {Q : Exit → Act → World → Prop} {a : Act} {w : World} {l : List Oper} (hm : P.follows .mixedOrders = true) (hB : Region.lexB .any l.toArray = true)
    (h : wpQuiet P l.toArray (fun w' => ∃ n : KW w, w' = n.to) (fun a' => ∀ w', (∃ n : KW w, w' = n.to) → Q .normal a' w') l a) : (Code.region id l.toArray true).wp P Q a w :=
  quiet_lit (C := fun w' => ∃ n : KW w, w' = n.to) hm hB ⟨⟨w.drew, (Keep.refl _ w).drew⟩, rfl⟩ h

/-- A call whose answer is known, whichever of those worlds it comes to. -/
theorem KW.call {P : Program} {f : FuncId} {args : Array Value} {w : World} {v : Value} {R : World → Ending → World → Prop} (n : KW w) (h : ∀ n : KW w, Calls P f args n.to (R n.to)) (hR : ∀ (n : KW w) e w', R n.to e w' → e = .returned v ∧ Keep (fun _ => False) n.to w') :
    Calls P f args n.to fun e w' => e = .returned v ∧ ∃ m : KW w, w' = m.to :=
  (h n).mono fun e w' r => ⟨(hR n e w' r).1, ⟨w', n.keep.trans (hR n e w' r).2 (fun _ h => h.elim)⟩, rfl⟩

end Go.Proofs.Ytpefkellcigpkaa.Cd
/- Laws of no program: that a long region may be walked in the order of its text, looked at without arrays. -/
namespace Go.Proofs.Ytpefkellcigpkaa.Cd
open Go.RowKit Go.Proofs.Ytpefkellcigpkaa

def freeD (ops : Array Oper) (k : Nat) (x : Oper) : List Oper → Bool
  | [] => true
  | y :: r => (y.after.any (fun e => Region.binds .any e && e.on == k) || x.apart ops y) && freeD ops k x r
def readyD (k : Nat) (x : Oper) : Bool := x.after.all fun e => !Region.binds .any e || decide (e.on < k)
def lexD (ops : Array Oper) : Nat → List Oper → Bool
  | _, [] => true
  | k, x :: r => readyD k x && freeD ops k x r && lexD ops (k + 1) r

theorem freeD_cons (ops : Array Oper) (k : Nat) (x y : Oper) (r : List Oper) : freeD ops k x (y :: r) = ((y.after.any (fun e => Region.binds .any e && e.on == k) || x.apart ops y) && freeD ops k x r) := rfl
theorem freeD_mem {ops : Array Oper} {k : Nat} {x : Oper} (r : List Oper) (h : freeD ops k x r = true) (z : Oper) (hz : z ∈ r) : (z.after.any (fun e => Region.binds .any e && e.on == k) || x.apart ops z) = true := by
  induction r with
  | nil => cases hz
  | cons y r ih =>
    rw [freeD_cons, Bool.and_eq_true] at h
    rcases List.mem_cons.1 hz with e | hz
    · rw [e]; exact h.1
    · exact ih h.2 hz

structure Listed (n k : Nat) (L : Array Bool) : Prop where
  size : L.size = n
  at_ : ∀ j, j < n → L[j]? = some (decide (j < k))

theorem Listed.getT {n k : Nat} {L : Array Bool} (h : Listed n k L) (j : Nat) (hj : j < n) (d : Bool) : L.getD j d = decide (j < k) := by
  have := h.at_ j hj
  rw [Array.getD_eq_getD_getElem?, this]; rfl
theorem Listed.step {n k : Nat} {L : Array Bool} (h : Listed n k L) (hk : k < n) : Listed n (k + 1) (L.setIfInBounds k true) := by
  refine ⟨by simpa using h.size, fun j hj => ?_⟩
  by_cases e : j = k
  · subst e
    rw [Array.getElem?_setIfInBounds_self_of_lt (by rw [h.size]; exact hj)]
    simp
  · rw [Array.getElem?_setIfInBounds_ne (by omega), h.at_ j hj]
    congr 1
    simp only [decide_eq_decide]; omega

theorem lexFrom_of_D {ops : Array Oper} {n : Nat} (hn : ops.size = n) : ∀ (r : List Oper) (k : Nat) (L : Array Bool), (∀ i, r[i]? = ops[k + i]?) → k + r.length = n → Listed n k L → lexD ops k r = true → Region.lexFrom .any ops r.length k L = true
  | [], k, L, _, hk, hL, _ => by
    show (Region.ready .any ops L).isEmpty = true
    rw [List.isEmpty_iff]
    apply List.eq_nil_iff_forall_not_mem.2
    intro j hj
    obtain ⟨h0, o, ho, _⟩ := mem_ready.1 hj
    have hjn : j < n := by rw [← hn]; exact (Array.getElem?_eq_some_iff.1 ho).1
    rw [hL.getT j hjn] at h0
    simp only [List.length_nil, Nat.add_zero] at hk
    simp only [decide_eq_false_iff_not] at h0
    omega
  | x :: r, k, L, hr, hk, hL, h => by
    simp only [lexD, Bool.and_eq_true] at h
    simp only [List.length_cons] at hk
    have hx : ops[k]? = some x := by have := hr 0; simpa using this.symm
    have hkn : k < n := by omega
    have h1 : k ∈ Region.ready .any ops L := by
      refine mem_ready.2 ⟨by rw [hL.getT k hkn]; simp, x, hx, fun e he hb => ?_⟩
      have := Array.all_eq_true_iff_forall_mem.1 h.1.1 e he
      simp only [hb, Bool.not_true, Bool.false_or, decide_eq_true_eq] at this
      rw [hL.getT e.on (by omega)]
      simpa using this
    have h2 : Region.free .any ops L k = true := by
      unfold Region.free
      simp only [hx]
      rw [List.all_eq_true]
      intro j hj
      rw [List.mem_range, hn] at hj
      by_cases h3 : j < k
      · rw [hL.getT j hj]; simp [h3]
      · by_cases h4 : j = k
        · simp [h4]
        · have h5 := hr (j - k)
          rw [show k + (j - k) = j by omega, show j - k = (j - k - 1) + 1 by omega, List.getElem?_cons_succ] at h5
          cases hy : ops[j]? with
          | none => simp
          | some y =>
            rw [hy] at h5
            have := freeD_mem r h.1.2 y (List.mem_of_getElem? h5)
            simp only [this, Bool.or_true]
    unfold Region.lexFrom
    simp only [List.length_cons]
    rw [Bool.and_eq_true, Bool.and_eq_true]
    exact ⟨⟨by simpa using h1, h2⟩, lexFrom_of_D hn r (k + 1) _ (fun i => by have := hr (i + 1); rw [List.getElem?_cons_succ] at this; rw [this]; congr 1; omega) (by omega) (hL.step hkn) h.2⟩

theorem lexB_of_D {l : List Oper} (hs : Region.noSelect l.toArray = true) (h : lexD l.toArray 0 l = true) : Region.lexB .any l.toArray = true := by
  unfold Region.lexB
  rw [Bool.and_eq_true]
  refine ⟨hs, ?_⟩
  have := lexFrom_of_D (ops := l.toArray) (n := l.length) (by simp) l 0 (Array.replicate l.toArray.size false) (fun i => by simp) (by simp) ⟨by simp, fun j hj => by simp [hj]⟩ h
  simpa using this

theorem quiet_kw_long {P : Program} {id : Nat} {Q : Exit → Act → World → Prop} {a : Act} {w : World} {l : List Oper} (hm : P.follows .mixedOrders = true) (hs : Region.noSelect l.toArray = true) (hB : lexD l.toArray 0 l = true)
    (h : wpQuiet P l.toArray (fun w' => ∃ n : KW w, w' = n.to) (fun a' => ∀ w', (∃ n : KW w, w' = n.to) → Q .normal a' w') l a) : (Code.region id l.toArray true).wp P Q a w :=
  quiet_kw hm (lexB_of_D hs hB) h

end Go.Proofs.Ytpefkellcigpkaa.Cd
