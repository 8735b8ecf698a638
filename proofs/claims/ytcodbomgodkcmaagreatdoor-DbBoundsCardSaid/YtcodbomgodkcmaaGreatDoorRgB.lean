/- A range over a function whose iterator turns one box of its own between two rounds, with a body that never leaves (no program). -/
import Derived.RangeFuncOwn
import Derived.RangeFuncLeaves
import Derived.Test.YtcodbomgodkcmaaGreatDoorGen
namespace Go.Proofs.YtcodbomgodkcmaaGreatDoor
open Go.RowKit
variable {F : Fence} {n : Nat} {P : Program}

theorem keep_putObj {G : Nat → Prop} (W : World) (l : Nat) (o : Obj) (h : G l) : Keep G W (W.putObj l o) :=
  ⟨rfl, rfl, rfl, by simp, fun k _ hk => World.putObj_heap_other (fun e => hk (e ▸ h))⟩

/-- How a round may end: at its body's end, nothing turned of the iterator's box and of the two blocks of the loop. -/
def roundEnd {α : Type} (Bs m : Nat) (I : List α → World → Prop) (xs : List α) (W : World) : Exit → Act → World → Prop
  | .normal, _, W' => Keep (fun b => b ≠ Bs ∧ b ≠ m ∧ b ≠ m + 1) W W' ∧ I xs W'
  | _, _, _ => False

/-- What the iterator owes: it hands over S, in its order, and turns its own box alone. -/
def HandsAll {α : Type} (F : Fence) (n : Nat) (P : Program) (gf : Nat) (lb : Array Value) (encs : α → Array Value) (Bs : Nat) (S : List α) (w : World) : Prop :=
  ∀ (l : Nat) (J : List α → World → Prop) (W : World), W.heap[Bs]? = w.heap[Bs]? → (∀ s X Y, J s X → Keep (fun b => b = Bs) X Y → J s Y) →
    (∀ pre x X, J pre X → pre ++ [x] <+: S → YieldAt F (n - 1) P l (encs x) X fun e Y => e = .returned (.bool true) ∧ J (pre ++ [x]) Y ∧ Y.heap[Bs]? = X.heap[Bs]?) →
    J [] W → CallsIn F n P gf (#[.func (.yield l) #[] #[]] ++ lb) W fun e Y => (∃ v, e = .returned v) ∧ J S Y

theorem range_box {α : Type} {g : Operand} {ps : Array Tmp} {assign body : Code} {Q : Exit → Act → World → Prop} {a : Act} {w : World} {Bs : Nat} {S : List α} {gf : Nat} {lb : Array Value} {encs : α → Array Value}
    (hro : F.round = none) (h1 : 1 ≤ n) (hg : a.eval g = .func (.func gf) #[] lb) (hFg : F.fn gf) (eg : ∀ args w, (callFunc gf args).run P w = .ok (.enter gf args) w)
    (hseq : HandsAll F (n - 1) P gf lb encs Bs S w) (hBs : Bs < w.heap.size) (hps : ∀ x, (encs x).size = ps.size)
    (I : List α → World → Prop) (hI : ∀ s X Y, I s X → Keep (fun b => b = Bs ∨ b = w.heap.size ∨ b = w.heap.size + 1) X Y → I s Y)
    (h0 : I [] w) (a₁ : α → Act)
    (hassign : ∀ (l : Nat) (x : α) (W : World) (K : Act → World → Prop), K (a₁ x) W →
      assign.wpIn (F.inRound l) (n - 1 - 1) P (Exit.then K (fun _ _ _ => False)) { tmps := (ps.zip (encs x)).foldl (fun t (p, v) => t.setIfInBounds p v) a.tmps, defers := [] } W)
    (hbody : ∀ (l : Nat) (pre : List α) (x : α) (W : World), I pre W → pre ++ [x] <+: S → w.heap.size + 2 ≤ W.heap.size → body.wpIn (F.inRound l) (n - 1 - 1) P (roundEnd Bs w.heap.size I (pre ++ [x]) W) (a₁ x) W)
    (hdone : ∀ (W : World), I S W → w.heap.size + 2 ≤ W.heap.size → W.heap[w.heap.size]? = some (.deferred (some [])) → Q .normal { a with defers := { target := .collected w.heap.size, args := #[] } :: a.defers } W) :
    (Code.rangeFunc g ps assign body).wpIn F n P Q a w := by
  obtain ⟨m, hm⟩ : ∃ m, w.heap.size = m := ⟨_, rfl⟩
  rw [hm] at hI hbody hdone hBs
  refine wpIn_rangeFunc fun fn hfn => ?_
  rw [hro]
  -- the loop's record, by its state
  let L : LoopState → Option Code → Loop := fun st pe => { state := st, pending := pe, fn, tmps := a.tmps, params := ps, assign, body, defers := m }
  let W1 : World := (w.alloc (.deferred (some []))).alloc (.loop (L .ready none))
  let J : List α → World → Prop := fun s X => I s X ∧ X.heap[m + 1]? = some (.loop (L .ready none)) ∧ X.heap[m]? = some (.deferred (some [])) ∧ m + 2 ≤ X.heap.size
  have keepAll : ∀ {G : Nat → Prop} {X Y : World}, Keep G X Y → ∀ {k o}, X.heap[k]? = some o → ¬ G k → Y.heap[k]? = some o := fun hk k o ho hG =>
    (hk.block k (Array.getElem?_eq_some_iff.1 ho).1 hG).trans ho
  have hb1 : W1.heap[m + 1]? = some (.loop (L .ready none)) := by
    have := World.alloc_heap_new (w.alloc (.deferred (some []))) (.loop (L .ready none))
    rwa [World.size_alloc, hm] at this
  have hb0 : W1.heap[m]? = some (.deferred (some [])) := by
    have := World.alloc_heap_new w (.deferred (some []))
    rw [hm] at this
    exact keepAll (G := fun _ => False) ((Keep.refl _ (w.alloc (.deferred (some [])))).alloc _) this (fun h => h)
  have hKw : Keep (fun _ => False) w W1 := ((Keep.refl (fun _ => False) w).alloc _).alloc _
  have hJ0 : J [] W1 := ⟨hI _ _ _ h0 (hKw.mono fun _ _ h => h.elim), hb1, hb0, by show m + 2 ≤ W1.heap.size; simp only [W1, World.size_alloc, hm]; omega⟩
  have henter := run_enterLoop_outer (P := P) (w := w) fn a.tmps ps assign body
  rw [hm] at henter
  refine ⟨m + 1, [{ target := .collected m, args := #[] }], W1, { target := .fn (.func gf) lb, args := #[.func (.yield (m + 1)) #[] #[]] }, W1, gf, #[.func (.yield (m + 1)) #[] #[]] ++ lb, W1, henter, ?_, ?_, ?_, fun _ => h1, ?_⟩
  · simp only [resolve, hg]; simp [go_sem]
  · intro f hf; simp only [Target.leads, Option.some.injEq] at hf; subst hf; exact hFg
  · simp [invoke, go_sem, eg]
  refine (hseq (m + 1) J W1 (hKw.block Bs (by omega) (fun h => h)) ?_ ?_ hJ0).mono ?_
  · rintro s X Y ⟨x1, x2, x3, x4⟩ hk
    exact ⟨hI _ _ _ x1 (hk.mono fun _ _ h => .inl h), keepAll hk x2 (by omega), keepAll hk x3 (by omega), Nat.le_trans x4 hk.size⟩
  · -- a round
    rintro pre x X ⟨x1, x2, x3, x4⟩ hpre
    have hy := run_yield (P := P) (args := encs x) x2 (hps x)
    refine ⟨fn, _, assign, body, hy, roundIn_of_wpIn hfn (hassign _ x X _ ⟨_, run_beginRound x2 rfl, ?_⟩)⟩
    obtain ⟨Y, hY⟩ : ∃ Y, X.putObj (m + 1) (.loop (L .busy none)) = Y := ⟨_, rfl⟩
    have kY : Keep (fun b => b = m + 1) X Y := by rw [← hY]; exact keep_putObj _ _ _ rfl
    have y2 : Y.heap[m + 1]? = some (.loop (L .busy none)) := by rw [← hY]; exact World.putObj_heap_same (by omega)
    have y1 : I pre Y := hI _ _ _ x1 (kY.mono fun _ _ h => .inr (.inr h))
    refine wpIn_mono (Q := roundEnd Bs m I (pre ++ [x]) Y) (by have := hbody (m + 1) pre x Y y1 hpre (by have := kY.size; omega); rw [← hY] at this ⊢; exact this) ?_
    intro e a3 Z hz
    cases e with
    | normal =>
      obtain ⟨kZ, z1⟩ := hz
      have z2 := keepAll kZ y2 (by simp)
      have z3 := keepAll kZ (keepAll kY x3 (by omega)) (by simp)
      have hr : (Instr.endRound (m + 1) none).run P Z = .ok (.bool true) (Z.putObj (m + 1) (.loop (L .ready none))) := run_endRound (P := P) none z2
      have kE : Keep (fun b => b = m + 1) Z (Z.putObj (m + 1) (.loop (L .ready none))) := keep_putObj _ _ _ rfl
      refine ⟨_, _, hr, rfl, ⟨hI _ _ _ z1 (kE.mono fun _ _ h => .inr (.inr h)), World.putObj_heap_same (by have := kZ.size; have := kY.size; omega), keepAll kE z3 (by omega), ?_⟩, ?_⟩
      · have := kZ.size; have := kY.size; have := kE.size; omega
      · exact (kE.block Bs (by have := kZ.size; have := kY.size; omega) (by omega)).trans ((kZ.block Bs (by have := kY.size; omega) (by simp)).trans (kY.block Bs (by omega) (by omega)))
    | ret => exact hz.elim
    | exit id => exact hz.elim
    | goto t => exact hz.elim
    | panic ch => exact hz.elim
    | outgrown => exact hz.elim
  · rintro e Y ⟨⟨v, rfl⟩, y1, y2, y3, y4⟩
    have hr : (Instr.endLoop (m + 1)).run P Y = .ok none (Y.putObj (m + 1) (.loop (L .exhausted none))) := run_endLoop (P := P) y2 (by simp [L])
    have kE : Keep (fun b => b = m + 1) Y (Y.putObj (m + 1) (.loop (L .exhausted none))) := keep_putObj _ _ _ rfl
    exact ⟨none, _, hr, hdone _ (hI _ _ _ y1 (kE.mono fun _ _ h => .inr (.inr h))) (by have := kE.size; omega) (keepAll kE y3 (by omega))⟩
end Go.Proofs.YtcodbomgodkcmaaGreatDoor
