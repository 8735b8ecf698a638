/- codec: rows of things in memory, what they are as bytes. -/
import Derived.Test.YtmibepjfbapbdaaCdC
import Derived.Deep.MidRow
namespace Go.Proofs.Ytmibepjfbapbdaa.Cd
open Go.RowKit Go.Proofs.Ytmibepjfbapbdaa
set_option maxRecDepth 100000

/-- A kind of things: their bytes, their cells in memory (and what these name lies in blocks of Pb). -/
structure El (M : Type) where
  c : Cod M
  H : (Nat → Prop) → World → M → List Value → Prop
  size : Nat
  keep : ∀ {Pb F : Nat → Prop} {w w' : World} {x : M} {cs : List Value}, Keep F w w' → (∀ g, Pb g → g < w.heap.size → ¬ F g) → H Pb w x cs → H Pb w' x cs
  mono : ∀ {Pb Qb : Nat → Prop} {w : World} {x : M} {cs : List Value}, (∀ g, g < w.heap.size → Pb g → Qb g) → H Pb w x cs → H Qb w x cs
  len : ∀ {Pb : Nat → Prop} {w : World} {x : M} {cs : List Value}, H Pb w x cs → cs.length = size
  one : ∀ {Pb : Nat → Prop} {w : World} {x : M} {cs : List Value}, H Pb w x cs → ∀ u ∈ cs, u.oneCell' = true

/-- The slice v reads as the things l. -/
def LAt {M : Type} (E : El M) (Pb : Nat → Prop) (w : World) (v : Value) (l : List M) : Prop :=
  ∃ a cap, v = .slice a l.length cap ∧ l.length ≤ cap ∧ cap ≤ maxLen ∧ (l = [] ∨ ∃ g off, a = some ⟨g, off, none⟩ ∧ g < w.heap.size ∧ Pb g ∧ ∀ (i : Nat) (x : M), l[i]? = some x → ∃ cs, E.H Pb w x cs ∧ w.rangeAt g (off + i * E.size) cs)

theorem rangeAt_keep {F : Nat → Prop} {w w' : World} {g o : Nat} {cs : List Value} (h : w.rangeAt g o cs) (k : Keep F w w') (hg : g < w.heap.size) (hF : ¬ F g) : w'.rangeAt g o cs :=
  fun j v hv => by rw [k.cell hg hF]; exact h j v hv

section
variable {M : Type} {E : El M} {Pb Qb F : Nat → Prop} {w w' : World} {v : Value} {l : List M}
theorem LAt.keep (h : LAt E Pb w v l) (k : Keep F w w') (hF : ∀ g, Pb g → g < w.heap.size → ¬ F g) : LAt E Pb w' v l := by
  obtain ⟨a, cap, hv, h1, h2, h3⟩ := h
  refine ⟨a, cap, hv, h1, h2, ?_⟩
  rcases h3 with h3 | ⟨g, off, ha, hg, hp, hc⟩
  · exact .inl h3
  · refine .inr ⟨g, off, ha, Nat.lt_of_lt_of_le hg k.size, hp, fun i x hi => ?_⟩
    obtain ⟨cs, hH, hr⟩ := hc i x hi
    exact ⟨cs, E.keep k hF hH, rangeAt_keep hr k hg (hF g hp hg)⟩
theorem LAt.mono (h : LAt E Pb w v l) (hq : ∀ g, g < w.heap.size → Pb g → Qb g) : LAt E Qb w v l := by
  obtain ⟨a, cap, hv, h1, h2, h3⟩ := h
  refine ⟨a, cap, hv, h1, h2, ?_⟩
  rcases h3 with h3 | ⟨g, off, ha, hg, hp, hc⟩
  · exact .inl h3
  · refine .inr ⟨g, off, ha, hg, hq g hg hp, fun i x hi => ?_⟩
    obtain ⟨cs, hH, hr⟩ := hc i x hi
    exact ⟨cs, E.mono hq hH, hr⟩
theorem LAt.slice (h : LAt E Pb w v l) : ∃ a cap, v = .slice a l.length cap ∧ (l.length : Int) ≤ 9223372036854775807 := by
  obtain ⟨a, cap, hv, h1, h2, _⟩ := h
  exact ⟨a, cap, hv, by unfold maxLen at h2; omega⟩
theorem LAt.get {n cap : Nat} {a : Option Addr} (h : LAt E Pb w (.slice a n cap) l) (i : Nat) (x : M) (hi : l[i]? = some x) : ∃ g off cs, a = some ⟨g, off, none⟩ ∧ g < w.heap.size ∧ Pb g ∧ E.H Pb w x cs ∧ w.rangeAt g (off + i * E.size) cs := by
  obtain ⟨a', cap', hv, h1, h2, h3⟩ := h
  simp only [Value.slice.injEq] at hv
  obtain ⟨rfl, _, rfl⟩ := hv
  rcases h3 with h3 | ⟨g, off, ha, hg, hp, hc⟩
  · subst h3; simp at hi
  · obtain ⟨cs, hH, hr⟩ := hc i x hi
    exact ⟨g, off, cs, ha, hg, hp, hH, hr⟩
end
theorem LAt.nil {M : Type} {E : El M} {Pb : Nat → Prop} {w : World} : LAt E Pb w (.slice none 0 0) ([] : List M) := ⟨none, 0, rfl, Nat.le_refl _, by simp [maxLen], .inl rfl⟩

def cThing : Cod (Int × Int × Int × Int × ByteArray) := pair cN (pair cN (pair cN (pair cN cT)))
def cMob : Cod (Int × Int × Int × Int) := pair cN (pair cN (pair cN cN))
def cTill : Cod (Int × Int) := pair cN cN
def cLot : Cod (Int × Int × ByteArray × Int × Int × ByteArray × Int) := pair cN (pair cN (pair cT (pair cN (pair cN (pair cT cN)))))
def cHouse : Cod (Int × ByteArray × List ByteArray × Int) := pair cN (pair cT (pair (cList cT) cN))
def cChar : Cod (ByteArray × ByteArray × Bool × Int × Int × Int × Int × Int × Int × List Int) := pair cT (pair cT (pair cB (pair cN (pair cN (pair cN (pair cN (pair cN (pair cN (cList cN)))))))))

def eI : El Int := ⟨cN, fun _ _ n cs => cs = [.int .i64 n], 1, fun _ _ h => h, fun _ h => h, fun h => by rw [h]; rfl, fun h => by rw [h]; simp [Value.oneCell']⟩
def eS : El ByteArray := ⟨cT, fun _ _ s cs => cs = [.string s], 1, fun _ _ h => h, fun _ h => h, fun h => by rw [h]; rfl, fun h => by rw [h]; simp [Value.oneCell']⟩
def eThing : El (Int × Int × Int × Int × ByteArray) where
  c := cThing
  H _ _ x cs := cs = [.int .i64 x.1, .int .i64 x.2.1, .int .i64 x.2.2.1, .int .i64 x.2.2.2.1, .string x.2.2.2.2]
  size := 5
  keep _ _ h := h
  mono _ h := h
  len h := by rw [h]; rfl
  one h := by rw [h]; simp [Value.oneCell']
def eMob : El (Int × Int × Int × Int) where
  c := cMob
  H _ _ x cs := cs = [.int .i64 x.1, .int .i64 x.2.1, .int .i64 x.2.2.1, .int .i64 x.2.2.2]
  size := 4
  keep _ _ h := h
  mono _ h := h
  len h := by rw [h]; rfl
  one h := by rw [h]; simp [Value.oneCell']
def eTill : El (Int × Int) where
  c := cTill
  H _ _ x cs := cs = [.int .i64 x.1, .int .i64 x.2]
  size := 2
  keep _ _ h := h
  mono _ h := h
  len h := by rw [h]; rfl
  one h := by rw [h]; simp [Value.oneCell']
def eLot : El (Int × Int × ByteArray × Int × Int × ByteArray × Int) where
  c := cLot
  H _ _ x cs := cs = [.int .i64 x.1, .int .i64 x.2.1, .string x.2.2.1, .int .i64 x.2.2.2.1, .int .i64 x.2.2.2.2.1, .string x.2.2.2.2.2.1, .int .i64 x.2.2.2.2.2.2]
  size := 7
  keep _ _ h := h
  mono _ h := h
  len h := by rw [h]; rfl
  one h := by rw [h]; simp [Value.oneCell']
theorem LAt.one {M : Type} {E : El M} {Pb : Nat → Prop} {w : World} {v : Value} {l : List M} (h : LAt E Pb w v l) : v.oneCell' = true := by
  obtain ⟨_, _, rfl, _⟩ := h; rfl
def eHouse : El (Int × ByteArray × List ByteArray × Int) where
  c := cHouse
  H Pb w x cs := ∃ gv, LAt eS Pb w gv x.2.2.1 ∧ cs = [.int .i64 x.1, .string x.2.1, gv, .int .i64 x.2.2.2]
  size := 4
  keep k hF := fun ⟨gv, h1, h2⟩ => ⟨gv, h1.keep k hF, h2⟩
  mono hq := fun ⟨gv, h1, h2⟩ => ⟨gv, h1.mono hq, h2⟩
  len := fun ⟨gv, _, h2⟩ => by rw [h2]; rfl
  one := fun ⟨gv, h1, h2⟩ => by rw [h2]; simp [Value.oneCell']; exact h1.one
def eChar : El (ByteArray × ByteArray × Bool × Int × Int × Int × Int × Int × Int × List Int) where
  c := cChar
  H Pb w x cs := ∃ dv, LAt eI Pb w dv x.2.2.2.2.2.2.2.2.2 ∧ cs = [.string x.1, .string x.2.1, .bool x.2.2.1, .int .i64 x.2.2.2.1, .int .i64 x.2.2.2.2.1, .int .i64 x.2.2.2.2.2.1, .int .i64 x.2.2.2.2.2.2.1, .int .i64 x.2.2.2.2.2.2.2.1, .int .i64 x.2.2.2.2.2.2.2.2.1, dv]
  size := 10
  keep k hF := fun ⟨gv, h1, h2⟩ => ⟨gv, h1.keep k hF, h2⟩
  mono hq := fun ⟨gv, h1, h2⟩ => ⟨gv, h1.mono hq, h2⟩
  len := fun ⟨gv, _, h2⟩ => by rw [h2]; rfl
  one := fun ⟨gv, h1, h2⟩ => by rw [h2]; simp [Value.oneCell']; exact h1.one

/-- What a put of a kind does. -/
def PutE {M : Type} (fn : FuncId) (E : El M) (val : List Value → Value) : Prop :=
  ∀ {N : Nat → Prop} {w0 w : World} {v : Value} {bs : List UInt8}, Out N w0 w v bs → ∀ {Pb : Nat → Prop}, (∀ g, Pb g → g < w.heap.size ∧ v.ownBlock ≠ some g) → ∀ {x : M} {cs : List Value}, E.H Pb w x cs → E.c.ok x → bs.length + (E.c.enc x).length ≤ lim →
    Calls Try.prog fn #[v, val cs] w (Puts N w0 (bs ++ E.c.enc x))

def scalar (cs : List Value) : Value := cs.getD 0 undef
def struct_ (cs : List Value) : Value := .agg cs.toArray

theorem putInt_e : PutE 59 eI scalar := by
  intro N w0 w v bs h Pb _ x cs hx hok hl
  have e : cs = [.int .i64 x] := hx
  subst e
  exact putInt_any h hok hl
theorem putText_e : PutE 60 eS scalar := by
  intro N w0 w v bs h Pb _ x cs hx hok hl
  have e : cs = [.string x] := hx
  subst e
  exact putText_any h x hok hl

end Go.Proofs.Ytmibepjfbapbdaa.Cd
