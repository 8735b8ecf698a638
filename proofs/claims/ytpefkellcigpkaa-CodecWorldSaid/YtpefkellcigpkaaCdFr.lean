/- Walks over a frame that is a letter: what its slots hold is known one by one. For functions of very many slots. -/
import Derived.Test.YtpefkellcigpkaaCdZ2
import Derived.BigFrame
import Derived.Deep.QuietTactic
namespace Go.Proofs.Ytpefkellcigpkaa.Cd
open Go.RowKit Go.Proofs.Ytpefkellcigpkaa
set_option maxRecDepth 100000

/-- The frame behind one operation. -/
structure Nxt (a a' : Act) (d : Nat) (v : Value) : Prop where
  size : a'.tmps.size = a.tmps.size
  defers : a'.defers = a.defers
  new : a'.eval (.tmp d) = v
  old : ∀ n, n ≠ d → a'.eval (.tmp n) = a.eval (.tmp n)
theorem Nxt.put {a : Act} {d : Nat} {v : Value} (h : d < a.tmps.size) : Nxt a (a.put (some d) v) d v :=
  ⟨size_put, rfl, eval_put_same h, fun _ hn => eval_put_ne (Ne.symm hn)⟩

theorem Nxt.o {a a' : Act} {d n : Nat} {v u : Value} (N : Nxt a a' d v) (e : a.eval (.tmp n) = u) (h : n ≠ d := by decide) : a'.eval (.tmp n) = u := (N.old n h).trans e
theorem Nxt.s {a a' : Act} {d n : Nat} {v : Value} (N : Nxt a a' d v) (e : a.tmps.size = n) : a'.tmps.size = n := N.size.trans e
theorem Nxt.d {a a' : Act} {d : Nat} {v : Value} {l : List Deferred} (N : Nxt a a' d v) (e : a.defers = l) : a'.defers = l := N.defers.trans e

theorem slot_of {a : Act} {d : Nat} {b : Bool} (e : a.eval (.tmp d) = .bool b) : a.tmps[d]? = some (.bool b) := by
  simp only [Act.eval, Array.getD_eq_getD_getElem?] at e
  cases h : a.tmps[d]? with
  | none => rw [h] at e; simp [undef] at e
  | some v => rw [h] at e; simp at e; rw [e]

section
variable {P : Program} {ops : Array Oper} {Q : Exit → Act → World → Prop} {md : Region.Mode} {S : World → Prop} {late : List Nat} {o : Oper} {rest : List Oper} {a : Act} {w : World}

theorem wanted_none (hg : o.guard = none) (y : Nat → Option Bool) : Region.wanted o y = true := by simp [Region.wanted, hg]
theorem wanted_eq {j d : Nat} {b c : Bool} (hg : o.guard = some (j, b)) (hj : (ops[j]?).bind (·.dst) = some d) (e : a.eval (.tmp d) = .bool c) : Region.wanted o (yielded ops a.tmps) = (c == b) := by
  simp only [Region.wanted, hg, yielded, hj, Option.bind_some, slot_of e]
  cases b <;> cases c <;> rfl
theorem wanted_is {j d : Nat} {b c r : Bool} (hg : o.guard = some (j, b)) (hj : (ops[j]?).bind (·.dst) = some d) (e : a.eval (.tmp d) = .bool c) (hr : (c == b) = r) : Region.wanted o (yielded ops a.tmps) = r :=
  (wanted_eq hg hj e).trans hr
/-- Its guard is one that was passed over. -/
theorem wanted_undef {j d : Nat} {b : Bool} (hg : o.guard = some (j, b)) (hj : (ops[j]?).bind (·.dst) = some d) (e : a.eval (.tmp d) = undef) (hd : d < a.tmps.size) : Region.wanted o (yielded ops a.tmps) = false := by
  have h : a.tmps[d]? = some undef := by
    simp only [Act.eval, Array.getD_eq_getD_getElem?] at e
    rw [Array.getElem?_eq_getElem hd] at e ⊢
    simp at e; rw [e]
  simp only [Region.wanted, hg, yielded, hj, Option.bind_some, h]
  rfl

theorem wpl_take {d : Nat} {v : Value} (hd : o.dst = some d) (hsz : d < a.tmps.size) (hwd : Region.wanted o (yielded ops a.tmps) = true) (hy : ∀ ρ : Operand → Value, (∀ x, ρ x = a.eval x) → (execOp ρ o).run P w = .ok (.value v) w)
    (h : ∀ a', Nxt a a' d v → wpList P ops Q rest a' w) : wpList P ops Q (o :: rest) a w := by
  refine wpList_step (fun K hK => ?_)
  rw [if_pos hwd]
  unfold Oper.wp
  rw [hy _ (fun _ => rfl), Oper.upon_value, hd]
  exact hK _ _ (h _ (Nxt.put hsz))
theorem wpl_skip {d : Nat} (hd : o.dst = some d) (hsz : d < a.tmps.size) (hwd : Region.wanted o (yielded ops a.tmps) = false) (h : ∀ a', Nxt a a' d undef → wpList P ops Q rest a' w) : wpList P ops Q (o :: rest) a w := by
  refine wpList_step (fun K hK => ?_)
  rw [if_neg (by rw [hwd]; exact Bool.false_ne_true), hd]
  exact hK _ _ (h _ (Nxt.put hsz))
/-- A call of a function. -/
theorem wpl_call {d : Nat} {f : FuncId} {args : Array Value} {R : Ending → World → Prop} (hd : o.dst = some d) (hsz : d < a.tmps.size) (hwd : Region.wanted o (yielded ops a.tmps) = true) (hy : ∀ ρ : Operand → Value, (∀ x, ρ x = a.eval x) → (execOp ρ o).run P w = .ok (.enter f args) w)
    (hc : Calls P f args w R) (hR : ∀ e w', R e w' → ∃ v, e = .returned v ∧ ∀ a', Nxt a a' d v → wpList P ops Q rest a' w') : wpList P ops Q (o :: rest) a w := by
  refine wpList_step (fun K hK => ?_)
  rw [if_pos hwd]
  unfold Oper.wp
  rw [hy _ (fun _ => rfl), Oper.upon_enter]
  refine hc.mono fun e w' hr => ?_
  obtain ⟨v, rfl, h⟩ := hR e w' hr
  rw [hd]
  exact hK _ _ (h _ (Nxt.put hsz))

theorem tk {d n : Nat} {v : Value} (sz : a.tmps.size = n) (hwd : Region.wanted o (yielded ops a.tmps) = true) (hy : ∀ ρ : Operand → Value, (∀ x, ρ x = a.eval x) → (execOp ρ o).run P w = .ok (.value v) w)
    (h : ∀ a', Nxt a a' d v → wpList P ops Q rest a' w) (hd : o.dst = some d := by rfl) (hn : d < n := by decide) : wpList P ops Q (o :: rest) a w := wpl_take hd (by omega) hwd hy h
theorem tn {d n : Nat} {v : Value} (sz : a.tmps.size = n) (hy : ∀ ρ : Operand → Value, (∀ x, ρ x = a.eval x) → (execOp ρ o).run P w = .ok (.value v) w)
    (h : ∀ a', Nxt a a' d v → wpList P ops Q rest a' w) (hg : o.guard = none := by rfl) (hd : o.dst = some d := by rfl) (hn : d < n := by decide) : wpList P ops Q (o :: rest) a w := wpl_take hd (by omega) (wanted_none hg _) hy h
theorem sk {d n : Nat} (sz : a.tmps.size = n) (hwd : Region.wanted o (yielded ops a.tmps) = false) (h : ∀ a', Nxt a a' d undef → wpList P ops Q rest a' w) (hd : o.dst = some d := by rfl) (hn : d < n := by decide) : wpList P ops Q (o :: rest) a w := wpl_skip hd (by omega) hwd h

theorem wz_take {i d : Nat} {oi : Oper} {v : Value} {fuel : Nat} {listed : Array Bool} (hi : ops[i]? = some oi) (hd : oi.dst = some d) (hsz : d < a.tmps.size) (hwd : Region.wanted oi (yielded ops a.tmps) = true)
    (hs : Region.noSelect ops = true) (hf : Region.free md ops listed i = true) (hr : (Region.ready md ops listed).contains i = true) (hQ : ∀ c a w, Q (.panic c) (a.put oi.dst v) w → Q (.panic c) a w)
    (hl : lateB md ops late i = true) (hS : S w) (hy : ∀ w, S w → ∀ ρ : Operand → Value, (∀ x, ρ x = a.eval x) → (execOp ρ oi).run P w = .ok (.value v) w)
    (h : ∀ a', Nxt a a' d v → wpAnyZ P md ops Q S late fuel (listed.setIfInBounds i true) a' w) : wpAnyZ P md ops Q S late (fuel + 1) listed a w :=
  wpAnyZ_loadD hi hd hs hf hr hl hQ hS hwd (fun w hw => hy w hw _ (fun _ => rfl)) (h _ (Nxt.put hsz))
theorem wz_skip {i d : Nat} {oi : Oper} {fuel : Nat} {listed : Array Bool} (hi : ops[i]? = some oi) (hd : oi.dst = some d) (hsz : d < a.tmps.size) (hwd : Region.wanted oi (yielded ops a.tmps) = false)
    (hs : Region.noSelect ops = true) (hf : Region.free md ops listed i = true) (hr : (Region.ready md ops listed).contains i = true) (hQ : ∀ c a w, Q (.panic c) (a.put oi.dst undef) w → Q (.panic c) a w)
    (h : ∀ a', Nxt a a' d undef → wpAnyZ P md ops Q S late fuel (listed.setIfInBounds i true) a' w) : wpAnyZ P md ops Q S late (fuel + 1) listed a w :=
  wpAnyZ_skipD hi hd hs hf hr hQ hwd (h _ (Nxt.put hsz))
end

section
variable {P : Program} {ops : Array Oper} {C : World → Prop} {Q : Act → Prop} {o : Oper} {rest : List Oper} {a : Act}
/-- The same in a region that draws and only reads. -/
theorem wq_take {d : Nat} {v : Value} (hd : o.dst = some d) (hsz : d < a.tmps.size) (hwd : Region.wanted o (yielded ops a.tmps) = true) (hy : ∀ w, C w → ∀ ρ : Operand → Value, (∀ x, ρ x = a.eval x) → (execOp ρ o).run P w = .ok (.value v) w)
    (h : ∀ a', Nxt a a' d v → wpQuiet P ops C Q rest a') : wpQuiet P ops C Q (o :: rest) a := by
  refine wpQuiet_step (fun K hK => ?_)
  rw [if_pos hwd]
  refine ⟨v, fun w hw => ?_, ?_⟩
  · unfold Oper.quietAt
    rw [hy w hw _ (fun _ => rfl)]
    exact ⟨rfl, rfl⟩
  · rw [hd]; exact hK _ (h _ (Nxt.put hsz))
theorem wq_skip {d : Nat} (hd : o.dst = some d) (hsz : d < a.tmps.size) (hwd : Region.wanted o (yielded ops a.tmps) = false) (h : ∀ a', Nxt a a' d undef → wpQuiet P ops C Q rest a') : wpQuiet P ops C Q (o :: rest) a := by
  refine wpQuiet_step (fun K hK => ?_)
  rw [if_neg (by rw [hwd]; exact Bool.false_ne_true), hd]
  exact hK _ (h _ (Nxt.put hsz))
end
section
variable {P : Program} {ops : Array Oper} {C : World → Prop} {Q : Act → Prop} {o : Oper} {rest : List Oper} {a : Act}
theorem qk {d n : Nat} {v : Value} (sz : a.tmps.size = n) (hwd : Region.wanted o (yielded ops a.tmps) = true) (hy : ∀ w, C w → ∀ ρ : Operand → Value, (∀ x, ρ x = a.eval x) → (execOp ρ o).run P w = .ok (.value v) w)
    (h : ∀ a', Nxt a a' d v → wpQuiet P ops C Q rest a') (hd : o.dst = some d := by rfl) (hn : d < n := by decide) : wpQuiet P ops C Q (o :: rest) a := wq_take hd (by omega) hwd hy h
theorem qn {d n : Nat} {v : Value} (sz : a.tmps.size = n) (hy : ∀ w, C w → ∀ ρ : Operand → Value, (∀ x, ρ x = a.eval x) → (execOp ρ o).run P w = .ok (.value v) w)
    (h : ∀ a', Nxt a a' d v → wpQuiet P ops C Q rest a') (hg : o.guard = none := by rfl) (hd : o.dst = some d := by rfl) (hn : d < n := by decide) : wpQuiet P ops C Q (o :: rest) a := wq_take hd (by omega) (wanted_none hg _) hy h
theorem qs {d n : Nat} (sz : a.tmps.size = n) (hwd : Region.wanted o (yielded ops a.tmps) = false) (h : ∀ a', Nxt a a' d undef → wpQuiet P ops C Q rest a') (hd : o.dst = some d := by rfl) (hn : d < n := by decide) : wpQuiet P ops C Q (o :: rest) a := wq_skip hd (by omega) hwd h
end
/-- The order of the text, one operation at a time (each test of its own: all at once they want too much of the kernel's memory). -/
theorem lex_cons {md : Region.Mode} {ops : Array Oper} {n k : Nat} {listed listed' : Array Bool} (e : listed.setIfInBounds k true = listed') (h1 : ((Region.ready md ops listed).contains k && Region.free md ops listed k) = true) (h3 : Region.lexFrom md ops n (k + 1) listed' = true) : Region.lexFrom md ops (n + 1) k listed = true := by
  unfold Region.lexFrom
  rw [h1, e, h3]; rfl
theorem lex_of {md : Region.Mode} {ops : Array Oper} {n : Nat} {listed : Array Bool} (hn : ops.size = n) (hl : Array.replicate n false = listed) (h1 : Region.noSelect ops = true) (h2 : Region.lexFrom md ops n 0 listed = true) : Region.lexB md ops = true := by
  unfold Region.lexB
  rw [hn, hl, h1, h2]; rfl
/-- The operations, for the guards, as a letter. -/
theorem wq_open {P : Program} {C : World → Prop} {Q : Act → Prop} {a : Act} {l : List Oper} (h : ∀ O : Array Oper, O = l.toArray → wpQuiet P O C Q l a) : wpQuiet P l.toArray C Q l a := h _ rfl
theorem kdrewF (w : World) (n : Nat) : Keep (fun _ => False) w (w.drewN n) := ⟨rfl, rfl, rfl, Nat.le_refl _, fun _ _ _ => rfl⟩

/-- The regions of a body, by number. -/
def regionIn (n : Nat) : Code → Option Code
  | .region id ops b => if id = n then some (.region id ops b) else none
  | .seq x y => match regionIn n x with
    | some c => some c
    | none => regionIn n y
  | .cond _ x y => match regionIn n x with
    | some c => some c
    | none => regionIn n y
  | .block _ c => regionIn n c
  | .loop c => regionIn n c
  | .scope c => regionIn n c
  | _ => none
noncomputable def rgEq (n : Nat) : Code := (Try.f10.body.bind (regionIn n)).getD .skip

/-- What every frame of the comparison holds. -/
structure FrE (p q : Value) (a : Act) : Prop where
  size : a.tmps.size = 504
  defers : a.defers = []
  p : a.eval (.tmp 0) = p
  q : a.eval (.tmp 1) = q

/-- A way out by panic says nothing of the frame. -/
def PanicOnly (Q : Exit → Act → World → Prop) : Prop := ∀ c a d v w, Q (.panic c) (Act.put a d v) w → Q (.panic c) a w

structure RoundE (p q : Value) (i : Nat) (w0 : World) {M : Type} (xs ys : List M) (a : Act) (w : World) : Prop where
  fr : FrE p q a
  keep : Keep (fun _ => False) w0 w
  ex : ∃ k : Nat, k ≤ xs.length ∧ a.eval (.tmp i) = .int .i64 (k : Int) ∧ xs.take k = ys.take k

/-- A loop that compares two lists, thing by thing. -/
theorem eqLoop {P : Program} {M : Type} {p q : Value} {w0 : World} {xs ys : List M} (hl : xs.length = ys.length) {i c1 c2 id1 id2 : Nat} {R1 RB RR RP : Code} {Q : Exit → Act → World → Prop}
    (hQ : PanicOnly Q)
    (h1 : ∀ a w (k : Nat) Q, FrE p q a → a.eval (.tmp i) = .int .i64 (k : Int) → Keep (fun _ => False) w0 w → (∀ a', FrE p q a' → a'.eval (.tmp i) = .int .i64 (k : Int) → a'.eval (.tmp c1) = .bool (decide (k < xs.length)) → Q .normal a' w) → R1.wp P Q a w)
    (hB : ∀ a w (k : Nat) x y Q, PanicOnly Q → FrE p q a → a.eval (.tmp i) = .int .i64 (k : Int) → Keep (fun _ => False) w0 w → xs[k]? = some x → ys[k]? = some y →
      (∀ a' w' b, FrE p q a' → a'.eval (.tmp i) = .int .i64 (k : Int) → a'.eval (.tmp c2) = .bool b → (b = false ↔ x = y) → Keep (fun _ => False) w0 w' → (Code.cond (.tmp c2) (RR.seq .ret) .skip).wp P Q a' w') → RB.wp P Q a w)
    (hR : ∀ a w Q, FrE p q a → (∀ a', FrE p q a' → a'.eval (.tmp 4) = .bool false → Q .normal a' w) → RR.wp P Q a w)
    (hP : ∀ a w (k : Nat) Q, FrE p q a → a.eval (.tmp i) = .int .i64 (k : Int) → k < xs.length → (∀ a', FrE p q a' → a'.eval (.tmp i) = .int .i64 ((k + 1 : Nat) : Int) → Q .normal a' w) → RP.wp P Q a w)
    (hret : ∀ a w, FrE p q a → a.eval (.tmp 4) = .bool false → Keep (fun _ => False) w0 w → xs ≠ ys → Q .ret a w)
    (hdone : ∀ a w, FrE p q a → Keep (fun _ => False) w0 w → xs = ys → Q .normal a w)
    {a : Act} {w : World} (ha : FrE p q a) (hi : a.eval (.tmp i) = .int .i64 0) (hk : Keep (fun _ => False) w0 w) :
    (Code.block id1 (Code.loop ((R1.seq (Code.cond (.tmp c1) .skip (.exit id1))).seq ((Code.block id2 RB).seq RP)))).wp P Q a w := by
  refine wp_block ?_
  refine wp_loop (RoundE p q i w0 xs ys) (fun a _ => xs.length - (intOf (a.eval (.tmp i))).toNat) ⟨ha, hk, 0, by omega, hi, by simp⟩ ?_
  rintro a w ⟨ha, hk, k, hkl, hi, ht⟩
  refine wp_seq (wp_seq (h1 a w k _ ha hi hk (fun a1 ha1 hi1 hc1 => ?_)))
  by_cases hlt : k < xs.length
  rotate_left 1
  · refine wp_cond_false (by rw [hc1, decide_eq_false hlt]) (wp_exit ?_)
    show (if id1 = id1 then Q .normal a1 w else _)
    rw [if_pos rfl]
    obtain rfl : k = xs.length := by omega
    refine hdone a1 w ha1 hk ?_
    rwa [List.take_length, hl, List.take_length] at ht
  · refine wp_cond_true (by rw [hc1, decide_eq_true hlt]) (wp_skip ?_)
    show Code.wp _ _ _ _ _
    refine wp_seq (wp_block ?_)
    have hx : xs[k]? = some xs[k] := List.getElem?_eq_getElem hlt
    have hy : ys[k]? = some ys[k] := List.getElem?_eq_getElem (by omega)
    refine hB a1 w k _ _ _ (fun c a d v w h => hQ c a d v w h) ha1 hi1 hk hx hy (fun a2 w2 b ha2 hi2 hb2 hiff hk2 => ?_)
    cases b with
    | true =>
      refine wp_cond_true hb2 (wp_seq (hR a2 w2 _ ha2 (fun a3 ha3 h4 => ?_)))
      refine wp_ret ?_
      refine hret a3 w2 ha3 h4 hk2 (fun e => ?_)
      subst e
      have := hiff.2 rfl
      cases this
    | false =>
      refine wp_cond_false hb2 (wp_skip ?_)
      show Code.wp _ _ _ _ _
      refine hP a2 w2 k _ ha2 hi2 hlt (fun a3 ha3 hi3 => ?_)
      refine ⟨⟨ha3, hk2, k + 1, by omega, hi3, ?_⟩, ?_⟩
      · have e := hiff.1 rfl
        rw [List.take_succ_eq_append_getElem hlt, List.take_succ_eq_append_getElem (by omega), ht, e]
      · simp only [hi, hi3, intOf]; omega

end Go.Proofs.Ytpefkellcigpkaa.Cd
