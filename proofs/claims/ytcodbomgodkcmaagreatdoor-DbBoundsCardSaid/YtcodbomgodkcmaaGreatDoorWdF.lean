/- Lists of records in memory (no program): records whose cells are a function of what they are. -/
import Derived.Test.YtcodbomgodkcmaaGreatDoorArgs
import Derived.Deep.MidRow
namespace Go.Proofs.YtcodbomgodkcmaaGreatDoor.Wd
open Go.RowKit Go.Proofs.YtcodbomgodkcmaaGreatDoor
set_option maxRecDepth 100000

/-- The cells of records, one behind the other. -/
def flat {α : Type} (f : α → List Value) (L : List α) : List Value := L.flatMap f

section
variable {α : Type} {f : α → List Value} {s : Nat}

theorem flat_nil : flat f [] = [] := rfl
theorem flat_cons (a : α) (L : List α) : flat f (a :: L) = f a ++ flat f L := rfl
theorem flat_append (L M : List α) : flat f (L ++ M) = flat f L ++ flat f M := by simp [flat]
theorem flat_one (a : α) : flat f [a] = f a := by simp [flat]

theorem flat_length (hs : ∀ a, (f a).length = s) : ∀ L : List α, (flat f L).length = L.length * s
  | [] => by simp [flat]
  | a :: L => by rw [flat_cons, List.length_append, hs, flat_length hs L, List.length_cons, Nat.add_mul, Nat.one_mul, Nat.add_comm]

theorem flat_get (hs : ∀ a, (f a).length = s) : ∀ (L : List α) (i j : Nat) (a : α), L[i]? = some a → j < s → (flat f L)[i * s + j]? = (f a)[j]?
  | [], _, _, _, h, _ => by simp at h
  | b :: L, 0, j, a, h, hj => by
    simp only [List.getElem?_cons_zero, Option.some.injEq] at h
    subst h
    rw [flat_cons, Nat.zero_mul, Nat.zero_add, List.getElem?_append_left (by rw [hs]; exact hj)]
  | b :: L, i + 1, j, a, h, hj => by
    rw [List.getElem?_cons_succ] at h
    rw [flat_cons, List.getElem?_append_right (by rw [hs, Nat.add_mul]; omega), hs, ← flat_get hs L i j a h hj]
    congr 1
    rw [Nat.add_mul]; omega

theorem flat_set (hs : ∀ a, (f a).length = s) : ∀ (L : List α) (i j : Nat) (a b : α) (u : Value), L[i]? = some a → j < s → f b = (f a).set j u → (flat f L).set (i * s + j) u = flat f (L.set i b)
  | [], _, _, _, _, _, h, _, _ => by simp at h
  | c :: L, 0, j, a, b, u, h, hj, hb => by
    simp only [List.getElem?_cons_zero, Option.some.injEq] at h
    subst h
    rw [flat_cons, List.set_cons_zero, flat_cons, Nat.zero_mul, Nat.zero_add, List.set_append_left _ _ (by rw [hs]; exact hj), hb]
  | c :: L, i + 1, j, a, b, u, h, hj, hb => by
    rw [List.getElem?_cons_succ] at h
    rw [flat_cons, List.set_cons_succ, flat_cons, List.set_append_right _ _ (by rw [hs, Nat.add_mul]; omega), hs, ← flat_set hs L i j a b u h hj hb]
    congr 2
    rw [Nat.add_mul]; omega

theorem flat_take (hs : ∀ a, (f a).length = s) : ∀ (L : List α) (k : Nat), flat f (L.take k) = (flat f L).take (k * s)
  | [], k => by simp [flat]
  | a :: L, 0 => by simp [flat]
  | a :: L, k + 1 => by
    rw [List.take_succ_cons, flat_cons, flat_cons, flat_take hs L k, List.take_append, hs, Nat.add_mul, Nat.one_mul, show k * s + s - s = k * s by omega, List.take_of_length_le (l := f a) (by rw [hs]; omega)]

theorem flat_drop (hs : ∀ a, (f a).length = s) : ∀ (L : List α) (k : Nat), flat f (L.drop k) = (flat f L).drop (k * s)
  | [], k => by simp [flat]
  | a :: L, 0 => by simp
  | a :: L, k + 1 => by
    rw [List.drop_succ_cons, flat_cons, flat_drop hs L k, List.drop_append, hs, Nat.add_mul, Nat.one_mul, show k * s + s - s = k * s by omega, show (f a).drop (k * s + s) = [] from List.drop_of_length_le (by rw [hs]; omega)]; simp

/-- A slice of records that may be written. -/
def Rec (w : World) (t : TypeId) (f : α → List Value) (s : Nat) (v : Value) (L : List α) : Prop := Row w t s v L.length (flat f L)

theorem Rec.row {w : World} {t : TypeId} {v : Value} {L : List α} (h : Rec w t f s v L) : Row w t s v L.length (flat f L) := h
theorem Rec.slice {w : World} {t : TypeId} {v : Value} {L : List α} (h : Rec w t f s v L) : ∃ a cap, v = .slice a L.length cap ∧ L.length ≤ cap ∧ cap ≤ maxLen := h.row.slice
theorem Rec.keep {F : Nat → Prop} {w w' : World} {t : TypeId} {v : Value} {L : List α} (h : Rec w t f s v L) (k : Keep F w w') (hF : ∀ b, v.ownBlock = some b → ¬ F b) : Rec w' t f s v L := Row.keep h k hF
theorem Rec.some {w : World} {t : TypeId} {a : Option Addr} {n cap : Nat} {L : List α} (h : Rec w t f s (.slice a n cap) L) {i : Nat} {x : α} (hi : L[i]? = .some x) : ∃ g off, a = .some ⟨g, off, none⟩ ∧ g < w.heap.size := by
  have hl := (List.getElem?_eq_some_iff.1 hi).1
  obtain ⟨g, off, c, hv, _⟩ := h.row.full (by omega)
  simp only [Value.slice.injEq] at hv
  obtain ⟨rfl, _, rfl⟩ := hv
  exact ⟨g, off, rfl, h.row.lt rfl⟩

theorem Rec.cell {w : World} {t : TypeId} {g off n cap : Nat} {L : List α} (h : Rec w t f s (.slice (.some ⟨g, off, none⟩) n cap) L) (hs : ∀ a, (f a).length = s) (i j : Nat) (a : α) (hi : L[i]? = .some a) (hj : j < s) :
    w.cell? ⟨g, off + (i * s + j), none⟩ = (f a)[j]? := by
  have hn : n = L.length := by
    obtain ⟨_, _, hv, _⟩ := h.slice
    simp only [Value.slice.injEq] at hv; exact hv.2.1
  subst hn
  have hl := (List.getElem?_eq_some_iff.1 hi).1
  have := Nat.mul_le_mul_right s (show i + 1 ≤ L.length by omega)
  rw [Nat.add_mul] at this
  rw [h.row.cellAt (i * s + j) (by omega), flat_get hs L i j a hi hj]

/-- All cells of one record. -/
theorem Rec.range {w : World} {t : TypeId} {g off n cap : Nat} {L : List α} (h : Rec w t f s (.slice (.some ⟨g, off, none⟩) n cap) L) (hs : ∀ a, (f a).length = s) (i : Nat) (a : α) (hi : L[i]? = .some a) :
    w.rangeAt g (off + i * s) (f a) := fun j u hu => by
  have hj : j < s := by rw [← hs a]; exact (List.getElem?_eq_some_iff.1 hu).1
  rw [Nat.add_assoc, h.cell hs i j a hi hj, hu]

theorem Rec.free {w : World} {t : TypeId} {g off n cap : Nat} {L : List α} (h : Rec w t f s (.slice (.some ⟨g, off, none⟩) n cap) L) (i j : Nat) (hi : i < L.length) (hj : j < s) :
    w.frozen? ⟨g, off + (i * s + j), none⟩ = false := by
  obtain ⟨_, _, hv, hc, _⟩ := h.slice
  simp only [Value.slice.injEq] at hv
  obtain ⟨_, rfl, rfl⟩ := hv
  have h1 := Nat.mul_le_mul_right s (show i + 1 ≤ cap by omega)
  rw [Nat.add_mul] at h1
  exact (h.row.there (i * s + j) (by omega)).2

theorem Rec.stored {w : World} {t : TypeId} {g off n cap : Nat} {L : List α} (h : Rec w t f s (.slice (.some ⟨g, off, none⟩) n cap) L) (hs : ∀ a, (f a).length = s) (i j : Nat) (a b : α) (u : Value) (hi : L[i]? = .some a) (hj : j < s) (hb : f b = (f a).set j u) :
    Rec (w.setCell ⟨g, off + (i * s + j), none⟩ u) t f s (.slice (.some ⟨g, off, none⟩) n cap) (L.set i b) := by
  have hn : n = L.length := by
    obtain ⟨_, _, hv, _⟩ := h.slice
    simp only [Value.slice.injEq] at hv; exact hv.2.1
  subst hn
  have h2 := h.row.stored (i * s + j) u
  rw [flat_set hs L i j a b u hi hj hb] at h2
  unfold Rec
  rw [List.length_set]
  exact h2
end

/-- A list of numbers (read alone). -/
def icells (l : List Int) : List Value := l.map fun n => Value.int .i64 n
theorem icells_length (l : List Int) : (icells l).length = l.length := by simp [icells]
theorem icells_get {l : List Int} {k : Nat} {n : Int} (h : l[k]? = some n) : (icells l)[k]? = some (.int .i64 n) := by simp [icells, h]
theorem icells_append (l m : List Int) : icells (l ++ m) = icells l ++ icells m := by simp [icells]
theorem icells_flat (l : List Int) : icells l = flat (fun n => [Value.int .i64 n]) l := by simp [icells, flat]; induction l <;> simp_all

end Go.Proofs.YtcodbomgodkcmaaGreatDoor.Wd
